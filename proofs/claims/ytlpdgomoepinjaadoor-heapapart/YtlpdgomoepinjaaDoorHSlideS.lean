/-
  Walks of package heap's slideSmall and Slide.
-/
import Derived.Test.YtlpdgomoepinjaaDoorHSlideL
namespace Go.Proofs.YtlpdgomoepinjaaDoor
open Go.RowKit
attribute [local go_sem ↓] Go.wp_at_zero Go.wp_at_succ
namespace Hp
variable {w w' : World} {bh bs bm : Nat} {q : Int} {pg pg' : List (Int × Nat)} {W W' : Int → Int} {L : List Pg}

theorem withT_T (p : Pg) (t u : Int) : withT (withT p t) u = withT p u := rfl

theorem Lay.setH (l : Lay pg W L) {p : Pg} (hp : p ∈ L) (h1 : p.kind = 1) {t : Int} (ht : t ≠ 0) (hU : Bt.U t) (hc : Bt.cutI (Cl.sloI p.cls) t = t) :
    Lay pg (hdW W p.n (1 + 256 * p.cls) t) (updL L p.n (withT p t)) := by
  have he := l.ent p hp
  refine l.upd hp rfl rfl ?_ ?_ ?_ (fun r hr hn => ?_)
  · rcases he with ⟨a, b, c, _, _, _, d, e⟩ | ⟨h, _⟩
    · exact .inl ⟨a, b, c, ht, hU, hc, d, e⟩
    · omega
  · show hdW W p.n _ t (64 * p.n) = if p.kind = 1 then _ else _
    rw [if_pos h1]
    unfold hdW Sl.upd
    rw [if_neg (by omega), if_pos rfl]
    rfl
  · show hdW W p.n _ t (64 * p.n + 1) = if p.kind = 1 then _ else _
    rw [if_pos h1]
    unfold hdW Sl.upd
    rw [if_pos rfl]
    rfl
  · unfold hdW Sl.upd
    rw [if_neg (by omega), if_neg (by omega), if_neg (by omega), if_neg (by omega)]
    exact ⟨rfl, rfl⟩

/-- The entry of p behind the taking of a slot of p2. -/
def turnP (p p2 : Pg) (s2 : Int) : Pg := if p.n = p2.n then withT p2 (Bt.setI p2.taken s2) else p
/-- What a slide of a small block makes of the entries. -/
def slideS (L : List Pg) (p : Pg) (s : Int) (p2 : Pg) (s2 : Int) : List Pg := dropL (updL L p2.n (withT p2 (Bt.setI p2.taken s2))) (turnP p p2 s2) s

theorem mem_turn {p2 : Pg} {s2 : Int} {r : Pg} (hr : r ∈ L) : turnP r p2 s2 ∈ updL L p2.n (withT p2 (Bt.setI p2.taken s2)) := List.mem_map.2 ⟨r, hr, by unfold turnP; rfl⟩

/-- Taken slots stay taken; their places too. -/
theorem turn_slot (l : Lay pg W L) {p2 : Pg} (hp2 : p2 ∈ L) (h2 : p2.kind = 1) {s2 : Int} (hs2 : 0 ≤ s2 ∧ s2 < Cl.sloI p2.cls) {r : Pg} (hr : r ∈ L) {k : Int} (hk : k ∈ slotsOf r) :
    k ∈ slotsOf (turnP r p2 s2) ∧ addrI (turnP r p2 s2) k = addrI r k ∧ roomI (turnP r p2 s2) = roomI r := by
  unfold turnP
  by_cases e : r.n = p2.n
  · have := l.inj hr hp2 e
    subst this
    rw [if_pos rfl]
    refine ⟨?_, rfl, rfl⟩
    rcases mem_slots.1 hk with ⟨h3, _⟩ | ⟨h3, h4, h5, h6⟩
    · omega
    · refine mem_slots.2 (.inr ⟨h3, h4, h5, ?_⟩)
      have hr := slo_range r.cls
      show Bt.hasI (Bt.setI r.taken s2) k = true
      rw [has_set (N_of hs2.1 hs2.2 hr.2) (N_of h4 h5 hr.2), h6]
      rfl
  · rw [if_neg e]
    exact ⟨hk, rfl, rfl⟩

theorem span_one {x n : Int} (h0 : 0 ≤ x) (hn0 : 0 < n) (hn1 : n ≤ 64) (hx : x / 64 = (x + n - 1) / 64) (hx1 : x < 67108864) (hb : (Sl.blk pg (x / 64)).isSome = true) : Sl.isSpanB x n = true ∧ Sl.spanIn pg x n = true := by
  refine ⟨by simp [Sl.isSpanB]; omega, ?_⟩
  unfold Sl.spanIn
  rw [if_neg (by omega), ← hx]
  refine Sl.allIn_iff.2 fun i hi => ?_
  obtain rfl : i = 0 := by omega
  simpa using hb

theorem and14 {w' : World} {B D : Nat} {p p2 : Pg} {s s2 : Int} (hD : w'.heap[D]? = some (.cells (cellsB p2 s2) 58)) (hB : w'.heap[B]? = some (.cells (cellsB p s) 58)) :
    w'.cell? ⟨D, 0, none⟩ = some (.int .i64 p2.n) ∧ w'.cell? ⟨D, 1, none⟩ = some (.int .i64 p2.kind) ∧ w'.cell? ⟨D, 2, none⟩ = some (.int .i64 p2.cls) ∧ w'.cell? ⟨D, 3, none⟩ = some (.int .u64 p2.taken) ∧ w'.cell? ⟨D, 4, none⟩ = some (.int .i64 p2.words) ∧ w'.cell? ⟨D, 5, none⟩ = some (.int .i64 p2.span) ∧ w'.cell? ⟨D, 6, none⟩ = some (.int .i64 s2) ∧ w'.cell? ⟨B, 0, none⟩ = some (.int .i64 p.n) ∧ w'.cell? ⟨B, 1, none⟩ = some (.int .i64 p.kind) ∧ w'.cell? ⟨B, 2, none⟩ = some (.int .i64 p.cls) ∧ w'.cell? ⟨B, 3, none⟩ = some (.int .u64 p.taken) ∧ w'.cell? ⟨B, 4, none⟩ = some (.int .i64 p.words) ∧ w'.cell? ⟨B, 5, none⟩ = some (.int .i64 p.span) ∧ w'.cell? ⟨B, 6, none⟩ = some (.int .i64 s) := by
  obtain ⟨⟨y0, y1, y2, y3, y4, y5, y6⟩, _⟩ := seven hD
  obtain ⟨⟨x0, x1, x2, x3, x4, x5, x6⟩, _⟩ := seven hB
  exact ⟨y0, y1, y2, y3, y4, y5, y6, x0, x1, x2, x3, x4, x5, x6⟩

set_option maxRecDepth 100000 in
set_option maxHeartbeats 1000000 in
theorem slideSmall_go (h : St w bh bs bm q pg W L) {p : Pg} (hm : p ∈ L) (h1 : p.kind = 1) {s : Int} (hs : s ∈ slotsOf p) {p2 : Pg} {s2 : Int} (hf : freeB L p.cls = some (p2, s2)) (hlt : addrI p2 s2 ≤ addrI p s) :
    Calls Tryd.prog 24 #[hp bh, bkV p s] w fun e w' => e = .returned (.int .i64 (addrI p2 s2)) ∧ SlidePost w bh bs bm q pg W L p s (addrI p2 s2) (slideS L p s p2 s2) w' := by
  obtain ⟨hm2, hk2, hc2, s20, s21, hfr⟩ := freeB_some hf
  have he := h.ly.ent p hm
  have he2 := h.ly.ent p2 hm2
  have hsm := he.small h1
  have hsm2 := he2.small hk2
  have hrg := h.range hm
  have hrg2 := h.range hm2
  have hs0 := slot_ok hs h1
  have hs2r : 0 ≤ s2 ∧ s2 < Cl.sloI p2.cls := ⟨s20, by rw [hc2]; exact s21⟩
  have hr2 := slo_range p2.cls
  have hN2 := N_of hs2r.1 hs2r.2 hr2.2
  have hroom : roomI p = Cl.sizI p.cls := by unfold roomI; rw [if_neg (by omega)]
  have hroom2 : roomI p2 = Cl.sizI p.cls := by unfold roomI; rw [if_neg (by omega), hc2]
  have hpl := place_in he (s := s) (fun _ => hs0)
  have hpl2 := place_in he2 (s := s2) (fun _ => hs2r)
  have hsp1 := hsm.2.2.2.2.2.2
  have hsp2 := hsm2.2.2.2.2.2.2
  have hA : addrI p s = p.n * 64 + atI p s := rfl
  have hA2 : addrI p2 s2 = p2.n * 64 + atI p2 s2 := rfl
  -- the other blocks are apart from the free slot
  have hap : ∀ r ∈ L, ∀ k ∈ slotsOf r, ∀ i, 0 ≤ i → i < roomI r → addrI r k + i < addrI p2 s2 ∨ addrI p2 s2 + roomI p2 ≤ addrI r k + i := fun r hr k hk i i0 i1 => by
    have hw := word_page (h.ly.ent r hr) (slot_ok hk) i0 i1
    by_cases e : r = p2
    · subst e
      have hne : k ≠ s2 := by
        rintro rfl
        rcases mem_slots.1 hk with ⟨h3, _⟩ | ⟨_, _, _, h4⟩
        · omega
        · rw [hfr] at h4; cases h4
      have := slots_apart he2 hk2 (slot_ok hk hk2) hs2r hne
      have hA3 : addrI r k = r.n * 64 + atI r k := rfl
      omega
    · have := srt_apart h.ly.srt hr hm2 e
      omega
  have hst : Bt.cutI (Cl.sloI p2.cls) (Bt.setI p2.taken s2) = Bt.setI p2.taken s2 := cut_set hsm2.2.2.2.1 hr2.1 hr2.2 hsm2.2.2.2.2.1 hs2r.1 hs2r.2
  have l1 := h.ly.setH hm2 hk2 (set_ne p2.taken s2) (Bt.setI_U hsm2.2.2.2.1 hN2) hst
  have l2 : Lay pg (Sl.mv (hdW W p2.n (1 + 256 * p2.cls) (Bt.setI p2.taken s2)) (addrI p2 s2) (addrI p s) (roomI p)) (updL L p2.n (withT p2 (Bt.setI p2.taken s2))) := l1.words fun r hr => by
    unfold Sl.mv
    rw [if_neg (by omega), if_neg (by omega)]
    exact ⟨rfl, rfl⟩
  have hmv : Sl.moveE pg (addrI p2 s2) (addrI p s) (roomI p) = 0 := by
    have a := span_one (pg := pg) (x := addrI p2 s2) (n := roomI p) (by omega) (by omega) (by omega) (by omega) (by omega) (by rw [show addrI p2 s2 / 64 = p2.n from by omega]; exact h.ly.has0 hm2)
    have b := span_one (pg := pg) (x := addrI p s) (n := roomI p) (by omega) (by omega) (by omega) (by omega) (by omega) (by rw [show addrI p s / 64 = p.n from by omega]; exact h.ly.has0 hm)
    unfold Sl.moveE
    rw [if_pos ⟨a.1, b.1⟩, if_pos ⟨a.2, b.2⟩]
  have hsT := turn_slot h.ly hm2 hk2 hs2r hm hs
  have hkT : (turnP p p2 s2).kind = 1 := by unfold turnP; split <;> assumption
  -- the entry that is left is the same page, with another set at most
  have hTp : ∃ t, turnP p p2 s2 = withT p t := by
    unfold turnP
    split
    · rename_i e
      have := h.ly.inj hm hm2 e
      subst this
      exact ⟨_, rfl⟩
    · exact ⟨p.taken, rfl⟩
  obtain ⟨tT, hTp⟩ := hTp
  have hTT : withT (turnP p p2 s2) p.taken = p := by rw [hTp]; rfl
  have lv : ∀ w4 W4, St w4 bh bs bm q pg W4 (updL L p2.n (withT p2 (Bt.setI p2.taken s2))) → Calls Tryd.prog 22 #[hp bh, bkV p s] w4 fun e w' => e = .returned (.tuple #[]) ∧ FreePost w4 bh bs bm q pg W4 (updL L p2.n (withT p2 (Bt.setI p2.taken s2))) (turnP p p2 s2) s w' := fun w4 W4 st => by
    have := leave_any st (mem_turn hm) hkT hsT.1 p.taken
    rw [hTT] at this
    exact this
  have hin2 : s2 ∈ slotsOf (withT p2 (Bt.setI p2.taken s2)) := mem_slots.2 (.inr ⟨hk2, hs2r.1, hs2r.2, by
    show Bt.hasI (Bt.setI p2.taken s2) s2 = true
    rw [has_set hN2 hN2]
    simp⟩)
  have hne2 : ¬ (p2.n = p.n ∧ s2 = s) := fun ⟨e1, e2⟩ => by
    have := h.ly.inj hm2 hm e1
    subst this
    subst e2
    rcases mem_slots.1 hs with ⟨h3, _⟩ | ⟨_, _, _, h4⟩
    · omega
    · rw [hfr] at h4; cases h4
  have HP : Aside (∀ W5, SameBut (updL L p2.n (withT p2 (Bt.setI p2.taken s2))) (turnP p p2 s2) s (Sl.mv (hdW W p2.n (1 + 256 * p2.cls) (Bt.setI p2.taken s2)) (addrI p2 s2) (addrI p s) (roomI p)) W5 → SameBut L p s W W5 ∧ ∀ i, 0 ≤ i → i < roomI p → W5 (addrI p2 s2 + i) = W (addrI p s + i)) := fun W5 hsb => by
    refine ⟨fun r hr k hk hne i i0 i1 => ?_, fun i i0 i1 => ?_⟩
    · obtain ⟨t1, t2, t3⟩ := turn_slot h.ly hm2 hk2 hs2r hr hk
      have := hsb _ (mem_turn hr) k t1 (by
        by_cases e : k = s
        · left
          intro e2
          rcases hne with hne | hne
          · apply hne
            refine h.ly.inj hr hm ?_
            have a1 : (turnP r p2 s2).n = r.n := by unfold turnP; split <;> rename_i e3 <;> first | exact e3.symm | rfl
            have a2 : (turnP p p2 s2).n = p.n := by unfold turnP; split <;> rename_i e3 <;> first | exact e3.symm | rfl
            rw [← a1, e2, a2]
          · exact hne e
        · exact .inr e) i i0 (by rw [t3]; exact i1)
      rw [t2] at this
      rw [this]
      have hx := hap r hr k hk i i0 i1
      have hw := word_page (h.ly.ent r hr) (slot_ok hk) i0 i1
      unfold Sl.mv
      rw [if_neg (by omega)]
      unfold hdW Sl.upd
      have hn1 : addrI r k + i ≠ 64 * p2.n + 1 ∧ addrI r k + i ≠ 64 * p2.n := by
        by_cases e : r = p2
        · subst e; omega
        · have := srt_apart h.ly.srt hr hm2 e
          omega
      rw [if_neg hn1.1, if_neg hn1.2]
    · have := hsb (withT p2 (Bt.setI p2.taken s2)) (List.mem_map.2 ⟨p2, hm2, by rw [if_pos rfl]⟩) s2 hin2 (by
        by_cases e : s2 = s
        · left
          intro e2
          apply hne2
          refine ⟨?_, e⟩
          have a2 : (turnP p p2 s2).n = p.n := by unfold turnP; split <;> rename_i e3 <;> first | exact e3.symm | rfl
          rw [← a2, ← e2]
          rfl
        · exact .inr e) i i0 (show i < roomI p2 by omega)
      have e0 : addrI (withT p2 (Bt.setI p2.taken s2)) s2 = addrI p2 s2 := rfl
      rw [e0] at this
      rw [this]
      unfold Sl.mv
      rw [if_pos (by omega), show addrI p2 s2 + i - addrI p2 s2 + addrI p s = addrI p s + i from by omega]
      have hw := word_page he (fun _ => hs0) i0 i1
      have hn1 : addrI p s + i ≠ 64 * p2.n + 1 ∧ addrI p s + i ≠ 64 * p2.n := by
        by_cases e : p = p2
        · subst e; omega
        · have := srt_apart h.ly.srt hm hm2 e
          omega
      unfold hdW Sl.upd
      rw [if_neg hn1.1, if_neg hn1.2]
  have lf := fun w1 (k : K w w1) => leastFree_any (h.hw.keep k) p.cls
  rw [h.heads, hf] at lf
  have tk := fun w2 (kk : K w w2) => take_any (h.hw.keep kk) p2 s2 hrg2.1 (by omega) (h.ly.has0 hm2) hsm2.1 hsm2.2.1 hsm2.2.2.2.1 hN2
  have ca := fun w => addr_any p s hrg.1 (by omega) w
  have ca2 := fun w => addr_any p2 s2 hrg2.1 (by omega) w
  have cr := fun w => room_any p s w
  have mvk := fun w4 (hw4 : Hw w4 bh bs bm q pg (hdW W p2.n (1 + 256 * p2.cls) (Bt.setI p2.taken s2))) => Sl.move_ok hw4.ar (addrI p2 s2) (addrI p s) (roomI p) hmv
  have HL2 : Aside _ := l2
  have hng : (decide (addrI p s < addrI p2 s2)) = false := by simp; omega
  clear l1 l2 hmv hsT hkT hTp hTT hin2 hne2 hap hst hA hA2 hroom hroom2 hsp1 hsp2 hc2 hk2 h1 hsm hsm2 hf hfr
  generalize hAe : addrI p s = A at *
  generalize addrI p2 s2 = A2 at *
  generalize hRe : roomI p = R at *
  have HAE : Hid _ := hAe
  have HRE : Hid _ := hRe
  clear hAe hRe
  obtain ⟨w1, hw1⟩ : ∃ w1, w1 = w.alloc (.cells (cellsB p s) 58) := ⟨_, rfl⟩
  have k1 : K w w1 := by rw [hw1]; exact (K.refl w).alloc _
  have hB1 : w1.heap[w.heap.size]? = some (.cells (cellsB p s) 58) := by rw [hw1]; exact World.alloc_heap_new _ _
  have hn0 := nf_new h.hw (Nat.le_refl w.heap.size)
  obtain ⟨⟨x0, x1, x2, x3, x4, x5, x6⟩, _⟩ := seven hB1
  go_enter Tryd.func24, Tryd.ntmps24
  go_wp2_with fail
  rw [← hw1]
  refine (lf _ k1).mono ?_
  rintro e w2 ⟨rfl, k2⟩
  dsimp only [lfV]
  obtain ⟨w3, hw3⟩ : ∃ w3, w3 = w2.alloc (.cells (cellsB p2 s2) 58) := ⟨_, rfl⟩
  have k3 : K w2 w3 := by rw [hw3]; exact (K.refl w2).alloc _
  have hD3 : w3.heap[w2.heap.size]? = some (.cells (cellsB p2 s2) 58) := by rw [hw3]; exact World.alloc_heap_new _ _
  have hB3 := k3.block (k2.block hB1)
  have k13 := (k1.trans k2).trans k3
  have hnD := nf_new h.hw (show w.heap.size ≤ w2.heap.size from (k1.trans k2).size)
  have hsz : w.heap.size < w2.heap.size := (Array.getElem?_eq_some_iff.1 (k2.block hB1)).1
  clear x0 x1 x2 x3 x4 x5 x6
  obtain ⟨⟨x0, x1, x2, x3, x4, x5, x6⟩, _⟩ := seven hB3
  obtain ⟨⟨y0, y1, y2, y3, y4, y5, y6⟩, _⟩ := seven hD3
  go_wp2
  rw [show w2.alloc (.cells #[.int .i64 p2.n, .int .i64 p2.kind, .int .i64 p2.cls, .int .u64 p2.taken, .int .i64 p2.words, .int .i64 p2.span, .int .i64 s2] 58) = w3 from hw3.symm]
  clear hw3 hw1
  generalize hB : w.heap.size = B at *
  generalize hD : w2.heap.size = D at *
  go_region_held3 (fun w' => w'.cell? ⟨D, 0, none⟩ = some (.int .i64 p2.n) ∧ w'.cell? ⟨D, 1, none⟩ = some (.int .i64 p2.kind) ∧ w'.cell? ⟨D, 2, none⟩ = some (.int .i64 p2.cls) ∧ w'.cell? ⟨D, 3, none⟩ = some (.int .u64 p2.taken) ∧ w'.cell? ⟨D, 4, none⟩ = some (.int .i64 p2.words) ∧ w'.cell? ⟨D, 5, none⟩ = some (.int .i64 p2.span) ∧ w'.cell? ⟨D, 6, none⟩ = some (.int .i64 s2) ∧ w'.cell? ⟨B, 0, none⟩ = some (.int .i64 p.n) ∧ w'.cell? ⟨B, 1, none⟩ = some (.int .i64 p.kind) ∧ w'.cell? ⟨B, 2, none⟩ = some (.int .i64 p.cls) ∧ w'.cell? ⟨B, 3, none⟩ = some (.int .u64 p.taken) ∧ w'.cell? ⟨B, 4, none⟩ = some (.int .i64 p.words) ∧ w'.cell? ⟨B, 5, none⟩ = some (.int .i64 p.span) ∧ w'.cell? ⟨B, 6, none⟩ = some (.int .i64 s))
    (first | exact and14 (k6.block (k5.block hD3)) (k6.block (k5.block hB3)) | exact and14 (k5.block hD3) (k5.block hB3) | exact and14 hD3 hB3)
    (first | (have _t := k5; go_at_call 27; refine (ca _).mono ?_; rintro e w6 ⟨rfl, k6⟩) | (go_at_call 27; refine (ca2 _).mono ?_; rintro e w5 ⟨rfl, k5⟩))
  have k16 := (k13.drew.trans k5).trans k6
  have hD6 := k6.block (k5.block hD3)
  have hB6 := k6.block (k5.block hB3)
  clear x0 x1 x2 x3 x4 x5 x6 y0 y1 y2 y3 y4 y5 y6
  obtain ⟨⟨y0, y1, y2, y3, y4, y5, y6⟩, _⟩ := seven hD6
  go_wp2_with fail
  refine (tk _ k16).mono ?_
  rintro e w7 ⟨rfl, h7, s7⟩
  have hD7 := (s7.kept _ (Array.getElem?_eq_some_iff.1 hD6).1 hnD).trans hD6
  have hB7 := (s7.kept _ (Array.getElem?_eq_some_iff.1 hB6).1 hn0).trans hB6
  have c7 := h7.c0
  have hnh := h7.nfh
  clear y0 y1 y2 y3 y4 y5 y6
  go_wp2
  go_region_held3 (fun w' => w'.cell? ⟨bh, 0, none⟩ = some (.pointer (some ⟨bs, 0, none⟩)) ∧ w'.cell? ⟨D, 0, none⟩ = some (.int .i64 p2.n) ∧ w'.cell? ⟨D, 1, none⟩ = some (.int .i64 p2.kind) ∧ w'.cell? ⟨D, 2, none⟩ = some (.int .i64 p2.cls) ∧ w'.cell? ⟨D, 3, none⟩ = some (.int .u64 p2.taken) ∧ w'.cell? ⟨D, 4, none⟩ = some (.int .i64 p2.words) ∧ w'.cell? ⟨D, 5, none⟩ = some (.int .i64 p2.span) ∧ w'.cell? ⟨D, 6, none⟩ = some (.int .i64 s2) ∧ w'.cell? ⟨B, 0, none⟩ = some (.int .i64 p.n) ∧ w'.cell? ⟨B, 1, none⟩ = some (.int .i64 p.kind) ∧ w'.cell? ⟨B, 2, none⟩ = some (.int .i64 p.cls) ∧ w'.cell? ⟨B, 3, none⟩ = some (.int .u64 p.taken) ∧ w'.cell? ⟨B, 4, none⟩ = some (.int .i64 p.words) ∧ w'.cell? ⟨B, 5, none⟩ = some (.int .i64 p.span) ∧ w'.cell? ⟨B, 6, none⟩ = some (.int .i64 s))
    (first
      | exact ⟨Step.cell s11 (ka.cell (k9.cell (k8.cell c7))) hnh, and14 ((s11.kept _ (Array.getElem?_eq_some_iff.1 (ka.block (k9.block (k8.block hD7)))).1 hnD).trans (ka.block (k9.block (k8.block hD7)))) ((s11.kept _ (Array.getElem?_eq_some_iff.1 (ka.block (k9.block (k8.block hB7)))).1 hn0).trans (ka.block (k9.block (k8.block hB7))))⟩
      | exact ⟨ka.cell (k9.cell (k8.cell c7)), and14 (ka.block (k9.block (k8.block hD7))) (ka.block (k9.block (k8.block hB7)))⟩
      | exact ⟨k9.cell (k8.cell c7), and14 (k9.block (k8.block hD7)) (k9.block (k8.block hB7))⟩
      | exact ⟨k8.cell c7, and14 (k8.block hD7) (k8.block hB7)⟩
      | exact ⟨c7, and14 hD7 hB7⟩)
    (first
      | (have _t := k8; go_at_call 27; refine (ca _).mono ?_; rintro e w9 ⟨rfl, k9⟩)
      | (go_at_call 27; refine (ca2 _).mono ?_; rintro e w8 ⟨rfl, k8⟩)
      | (go_at_call 46; refine (cr _).mono ?_; rintro e wa ⟨rfl, ka⟩)
      | (go_at_call 45; refine (mvk _ ((((h7.keep (K.drew (K.refl w7))).keep k8).keep k9).keep ka)).mono ?_; rintro e w11 ⟨rfl, a11, s11⟩))
  have hD11 : w11.heap[D]? = some (.cells (cellsB p2 s2) 58) := (s11.kept _ (Array.getElem?_eq_some_iff.1 (ka.block (k9.block (k8.block hD7)))).1 hnD).trans (ka.block (k9.block (k8.block hD7)))
  have hB11 : w11.heap[B]? = some (.cells (cellsB p s) 58) := (s11.kept _ (Array.getElem?_eq_some_iff.1 (ka.block (k9.block (k8.block hB7)))).1 hn0).trans (ka.block (k9.block (k8.block hB7)))
  have h11 := ((((h7.keep (K.drew (K.refl w7))).keep k8).keep k9).keep ka).step a11 s11
  have lv2 := lv w11 _ ⟨h11, HL2.out⟩
  obtain ⟨⟨x0, x1, x2, x3, x4, x5, x6⟩, _⟩ := seven hB11
  go_wp2_with fail
  refine lv2.mono ?_
  rintro e w12 ⟨rfl, pg12, W12, h12, s12, sb12⟩
  have hlt11 : D < w11.heap.size := (Array.getElem?_eq_some_iff.1 hD11).1
  have hD12 := (s12.kept _ hlt11 hnD).trans hD11
  clear x0 x1 x2 x3 x4 x5 x6
  obtain ⟨⟨y0, y1, y2, y3, y4, y5, y6⟩, _⟩ := seven hD12
  go_wp2_with fail
  refine (ca2 _).mono ?_
  rintro e w13 ⟨rfl, k13b⟩
  go_wp2
  go_ret
  obtain ⟨q1, q2⟩ := HP.out W12 sb12
  exact ⟨rfl, pg12, W12, h12.keep k13b, Step.thenK ((((k16.thenStep s7).trans ((((K.drew (K.refl w7)).trans k8).trans k9).trans ka |>.thenStep s11))).trans s12) k13b, q1, fun i i0 i1 => by rw [HAE.out]; exact q2 i i0 (by rw [← HRE.out]; exact i1)⟩

set_option maxRecDepth 100000 in
theorem slideSmall_stay (h : St w bh bs bm q pg W L) {p : Pg} (hm : p ∈ L) {s : Int} (hst : freeB L p.cls = none ∨ ∃ p2 s2, freeB L p.cls = some (p2, s2) ∧ addrI p s < addrI p2 s2) :
    Calls Tryd.prog 24 #[hp bh, bkV p s] w fun e w' => e = .returned (.int .i64 (addrI p s)) ∧ K w w' := by
  have hrg := h.range hm
  have hsp := (h.ly.ent p hm).span
  have ca := fun w => addr_any p s hrg.1 (by omega) w
  have lf := fun w1 (k : K w w1) => leastFree_any (h.hw.keep k) p.cls
  rw [h.heads] at lf
  obtain ⟨w1, hw1⟩ : ∃ w1, w1 = w.alloc (.cells (cellsB p s) 58) := ⟨_, rfl⟩
  have k1 : K w w1 := by rw [hw1]; exact (K.refl w).alloc _
  have hB1 : w1.heap[w.heap.size]? = some (.cells (cellsB p s) 58) := by rw [hw1]; exact World.alloc_heap_new _ _
  obtain ⟨⟨x0, x1, x2, x3, x4, x5, x6⟩, _⟩ := seven hB1
  rcases hst with hf | ⟨p2, s2, hf, hlt⟩
  · rw [hf] at lf
    generalize addrI p s = A at *
    clear hf
    go_enter Tryd.func24, Tryd.ntmps24
    go_wp2_with fail
    rw [← hw1]
    refine (lf _ k1).mono ?_
    rintro e w2 ⟨rfl, k2⟩
    dsimp only [lfV]
    obtain ⟨w3, hw3⟩ : ∃ w3, w3 = w2.alloc (.cells zeroB 58) := ⟨_, rfl⟩
    have k3 : K w2 w3 := by rw [hw3]; exact (K.refl w2).alloc _
    have hD3 : w3.heap[w2.heap.size]? = some (.cells zeroB 58) := by rw [hw3]; exact World.alloc_heap_new _ _
    have hB3 := k3.block (k2.block hB1)
    clear x0 x1 x2 x3 x4 x5 x6
    obtain ⟨⟨x0, x1, x2, x3, x4, x5, x6⟩, _⟩ := seven hB3
    go_wp2
    rw [show w2.alloc (.cells zeroB 58) = w3 from hw3.symm]
    clear hw3 hw1
    have hq := fun nq => (seven (show (w3.drewN nq).heap[w.heap.size]? = some (.cells (cellsB p s) 58) from hB3)).1
    have z0 := fun nq => (hq nq).1
    have z1 := fun nq => (hq nq).2.1
    have z2 := fun nq => (hq nq).2.2.1
    have z3 := fun nq => (hq nq).2.2.2.1
    have z4 := fun nq => (hq nq).2.2.2.2.1
    have z5 := fun nq => (hq nq).2.2.2.2.2.1
    have z6 := fun nq => (hq nq).2.2.2.2.2.2
    have k13 := (k1.trans k2).trans k3
    clear hq
    go_quiet (fail)
    go_wp2_with fail
    refine (ca _).mono ?_
    rintro e w4 ⟨rfl, k4⟩
    go_wp2
    go_ret
    exact ⟨rfl, (k13.drewN _).trans k4⟩
  · rw [hf] at lf
    have hm2 := (freeB_some hf).1
    have hrg2 := h.range hm2
    have hsp2 := (h.ly.ent p2 hm2).span
    have ca2 := fun w => addr_any p2 s2 hrg2.1 (by omega) w
    have hng : (decide (addrI p s < addrI p2 s2)) = true := by simp; omega
    generalize addrI p s = A at *
    generalize addrI p2 s2 = A2 at *
    clear hf
    go_enter Tryd.func24, Tryd.ntmps24
    go_wp2_with fail
    rw [← hw1]
    refine (lf _ k1).mono ?_
    rintro e w2 ⟨rfl, k2⟩
    dsimp only [lfV]
    obtain ⟨w3, hw3⟩ : ∃ w3, w3 = w2.alloc (.cells (cellsB p2 s2) 58) := ⟨_, rfl⟩
    have k3 : K w2 w3 := by rw [hw3]; exact (K.refl w2).alloc _
    have hD3 : w3.heap[w2.heap.size]? = some (.cells (cellsB p2 s2) 58) := by rw [hw3]; exact World.alloc_heap_new _ _
    have hB3 := k3.block (k2.block hB1)
    clear x0 x1 x2 x3 x4 x5 x6
    go_wp2
    rw [show w2.alloc (.cells #[.int .i64 p2.n, .int .i64 p2.kind, .int .i64 p2.cls, .int .u64 p2.taken, .int .i64 p2.words, .int .i64 p2.span, .int .i64 s2] 58) = w3 from hw3.symm]
    have k13 := (k1.trans k2).trans k3
    clear hw3 hw1
    generalize hB : w.heap.size = B at *
    generalize hD : w2.heap.size = D at *
    go_region_held3 (fun w' => w'.cell? ⟨D, 0, none⟩ = some (.int .i64 p2.n) ∧ w'.cell? ⟨D, 1, none⟩ = some (.int .i64 p2.kind) ∧ w'.cell? ⟨D, 2, none⟩ = some (.int .i64 p2.cls) ∧ w'.cell? ⟨D, 3, none⟩ = some (.int .u64 p2.taken) ∧ w'.cell? ⟨D, 4, none⟩ = some (.int .i64 p2.words) ∧ w'.cell? ⟨D, 5, none⟩ = some (.int .i64 p2.span) ∧ w'.cell? ⟨D, 6, none⟩ = some (.int .i64 s2) ∧ w'.cell? ⟨B, 0, none⟩ = some (.int .i64 p.n) ∧ w'.cell? ⟨B, 1, none⟩ = some (.int .i64 p.kind) ∧ w'.cell? ⟨B, 2, none⟩ = some (.int .i64 p.cls) ∧ w'.cell? ⟨B, 3, none⟩ = some (.int .u64 p.taken) ∧ w'.cell? ⟨B, 4, none⟩ = some (.int .i64 p.words) ∧ w'.cell? ⟨B, 5, none⟩ = some (.int .i64 p.span) ∧ w'.cell? ⟨B, 6, none⟩ = some (.int .i64 s))
      (first | exact and14 (k6.block (k5.block hD3)) (k6.block (k5.block hB3)) | exact and14 (k5.block hD3) (k5.block hB3) | exact and14 hD3 hB3)
      (first | (have _t := k5; go_at_call 27; refine (ca _).mono ?_; rintro e w6 ⟨rfl, k6⟩) | (go_at_call 27; refine (ca2 _).mono ?_; rintro e w5 ⟨rfl, k5⟩))
    have k16 := (k13.drew.trans k5).trans k6
    have hB6 := k6.block (k5.block hB3)
    obtain ⟨⟨z0, z1, z2, z3, z4, z5, z6⟩, _⟩ := seven hB6
    go_wp2_with fail
    refine (ca _).mono ?_
    rintro e w7 ⟨rfl, k7⟩
    go_wp2
    go_ret
    exact ⟨rfl, k16.trans k7⟩

/-- What Slide answers, and makes of the entries. -/
def slideL (L : List Pg) (a : Int) : Int × Int × List Pg :=
  match findB L a with
  | none => (0, 5, L)
  | some (p, s) =>
    if p.kind = 2 then (addrI (atN p (fit p.span 0 (delL L p.n))) 0, 0, insL (atN p (fit p.span 0 (delL L p.n))) (delL L p.n))
    else match freeB L p.cls with
      | none => (a, 0, L)
      | some (p2, s2) => if a < addrI p2 s2 then (a, 0, L) else (addrI p2 s2, 0, slideS L p s p2 s2)

/-- What is so behind Slide. -/
def SlideAll (w : World) (bh bs bm : Nat) (q : Int) (pg : List (Int × Nat)) (W : Int → Int) (L : List Pg) (a : Int) (w' : World) : Prop :=
  (findB L a = none ∧ K w w') ∨ ∃ p s, findB L a = some (p, s) ∧ ((slideL L a = (a, 0, L) ∧ K w w') ∨ SlidePost w bh bs bm q pg W L p s (slideL L a).1 (slideL L a).2.2 w')

set_option maxRecDepth 100000 in
theorem slide_any (h : St w bh bs bm q pg W L) (a : Int) (ha : In64 a) : Calls Tryd.prog 10 #[hp bh, .int .i64 a] w fun e w' => e = .returned (.tuple #[.int .i64 (slideL L a).1, .int .i64 (slideL L a).2.1]) ∧ SlideAll w bh bs bm q pg W L a w' := by
  have fd := find_any h.hw a ha
  rw [h.heads] at fd
  cases hf : findB L a with
  | none =>
    rw [hf] at fd
    have hsl : slideL L a = (0, 5, L) := by unfold slideL; rw [hf]
    unfold SlideAll
    rw [hsl, hf]
    go_enter Tryd.func10, Tryd.ntmps10
    go_wp2_with fail
    refine fd.mono ?_
    rintro e w1 ⟨rfl, k1⟩
    dsimp only [fdV]
    go_wp2
    go_ret2
    exact ⟨rfl, .inl ⟨trivial, k1.alloc _⟩⟩
  | some ps =>
    obtain ⟨p, s⟩ := ps
    rw [hf] at fd
    obtain ⟨hm, hs, haa⟩ := findB_some hf
    rcases (h.ly.ent p hm).kind with hk | hk
    · have key : ∀ w1, K w w1 → Calls Tryd.prog 24 #[hp bh, bkV p s] w1 fun e w' => e = .returned (.int .i64 (slideL L a).1) ∧ SlideAll w bh bs bm q pg W L a w' := fun w1 k1 => by
        have hk2 : ¬ p.kind = 2 := by omega
        cases hfb : freeB L p.cls with
        | none =>
          have hsl : slideL L a = (a, 0, L) := by unfold slideL; rw [hf]; simp only [hk2, if_false, hfb]
          refine (slideSmall_stay (h.keep k1) hm (s := s) (.inl hfb)).mono ?_
          rintro e w2 ⟨rfl, k2⟩
          rw [hsl]
          exact ⟨by rw [haa], .inr ⟨p, s, hf, .inl ⟨hsl, k1.trans k2⟩⟩⟩
        | some p2s =>
          obtain ⟨p2, s2⟩ := p2s
          by_cases hlt : a < addrI p2 s2
          · have hsl : slideL L a = (a, 0, L) := by unfold slideL; rw [hf]; simp only [hk2, if_false, hfb]; rw [if_pos hlt]
            refine (slideSmall_stay (h.keep k1) hm (s := s) (.inr ⟨p2, s2, hfb, by rw [haa]; exact hlt⟩)).mono ?_
            rintro e w2 ⟨rfl, k2⟩
            rw [hsl]
            exact ⟨by rw [haa], .inr ⟨p, s, hf, .inl ⟨hsl, k1.trans k2⟩⟩⟩
          · have hsl : slideL L a = (addrI p2 s2, 0, slideS L p s p2 s2) := by unfold slideL; rw [hf]; simp only [hk2, if_false, hfb]; rw [if_neg hlt]
            refine (slideSmall_go (h.keep k1) hm hk hs hfb (by rw [haa]; omega)).mono ?_
            rintro e w2 ⟨rfl, pg2, W2, h2, s2', sb, mv⟩
            rw [hsl]
            refine ⟨rfl, .inr ⟨p, s, hf, .inr ?_⟩⟩
            rw [hsl]
            exact ⟨pg2, W2, h2, k1.thenStep s2', sb, mv⟩
      have hsl2 : (slideL L a).2.1 = 0 := by
        unfold slideL
        rw [hf]
        dsimp only
        rw [if_neg (by omega)]
        cases freeB L p.cls with
        | none => rfl
        | some p2s => dsimp only; split <;> rfl
      have hk2 : (p.kind == 2) = false := by rw [hk]; decide
      rw [hsl2]
      generalize (slideL L a).1 = ra at *
      clear hsl2 hk hf haa
      go_enter Tryd.func10, Tryd.ntmps10
      go_wp2_with fail
      refine fd.mono ?_
      rintro e w1 ⟨rfl, k1⟩
      dsimp only [fdV]
      go_wp2_with fail
      refine (key _ (k1.alloc _)).mono ?_
      rintro e w2 ⟨rfl, sa⟩
      go_wp2
      go_ret2
      exact ⟨rfl, sa⟩
    · have hs0 : s = 0 := by
        rcases mem_slots.1 hs with ⟨_, e⟩ | ⟨e, _⟩
        · exact e
        · omega
      subst hs0
      have hsl : slideL L a = (addrI (atN p (fit p.span 0 (delL L p.n))) 0, 0, insL (atN p (fit p.span 0 (delL L p.n))) (delL L p.n)) := by unfold slideL; rw [hf]; simp only [hk, if_true]
      have key : ∀ w1, K w w1 → Calls Tryd.prog 23 #[hp bh, bkV p 0] w1 fun e w' => e = .returned (.int .i64 (slideL L a).1) ∧ SlideAll w bh bs bm q pg W L a w' := fun w1 k1 => by
        refine (slideLarge_any (h.keep k1) hm hk).mono ?_
        rintro e w2 ⟨rfl, pg2, W2, h2, s2', sb, mv⟩
        rw [hsl]
        refine ⟨rfl, .inr ⟨p, 0, hf, .inr ?_⟩⟩
        rw [hsl]
        exact ⟨pg2, W2, h2, k1.thenStep s2', sb, mv⟩
      have hsl2 : (slideL L a).2.1 = 0 := by rw [hsl]
      have hk2 : (p.kind == 2) = true := by rw [hk]; decide
      rw [hsl2]
      clear hsl
      generalize (slideL L a).1 = ra at *
      clear hsl2 hk hf haa
      go_enter Tryd.func10, Tryd.ntmps10
      go_wp2_with fail
      refine fd.mono ?_
      rintro e w1 ⟨rfl, k1⟩
      dsimp only [fdV]
      go_wp2_with fail
      refine (key _ (k1.alloc _)).mono ?_
      rintro e w2 ⟨rfl, sa⟩
      go_wp2
      go_ret2
      exact ⟨rfl, sa⟩

end Hp
end Go.Proofs.YtlpdgomoepinjaaDoor
