/-
  Walks of package heap's allocSmall, allocLarge and Alloc.
-/
import Derived.Test.YtlpdgomoepinjaaDoorHSlot
namespace Go.Proofs.YtlpdgomoepinjaaDoor
open Go.RowKit
attribute [local go_sem ↓] Go.wp_at_zero Go.wp_at_succ
namespace Hp
variable {w w' : World} {bh bs bm : Nat} {q : Int} {pg pg' : List (Int × Nat)} {W W' : Int → Int} {L : List Pg}

/-- A heap whose pages are the entries L. -/
structure St (w : World) (bh bs bm : Nat) (q : Int) (pg : List (Int × Nat)) (W : Int → Int) (L : List Pg) : Prop where
  hw : Hw w bh bs bm q pg W
  ly : Lay pg W L

theorem St.keep (h : St w bh bs bm q pg W L) (k : K w w') : St w' bh bs bm q pg W L := ⟨h.hw.keep k, h.ly⟩
theorem St.heads (h : St w bh bs bm q pg W L) : heads pg W = L := h.ly.heads h.hw.ar.rise h.hw.ar.rng
theorem St.len (h : St w bh bs bm q pg W L) : (pg.length : Int) = granted L := h.ly.len h.hw.ar.rise
theorem St.range (h : St w bh bs bm q pg W L) {p : Pg} (hp : p ∈ L) : 0 ≤ p.n ∧ p.n + p.span ≤ 1048576 := by
  have hs := (h.ly.ent p hp).span
  have h1 := h.ly.range h.hw.ar.rng hp 0 (by omega) (by omega)
  have h2 := h.ly.range h.hw.ar.rng hp (p.span - 1) (by omega) (by omega)
  omega

theorem readE_page (hr : ∀ p ∈ pg, 0 ≤ p.1 ∧ p.1 ≤ 1048575) {x : Int} (hb : (Sl.blk pg (x / 64)).isSome = true) : Sl.readE pg x = 0 := by
  obtain ⟨y, hy, e⟩ := List.mem_map.1 (mem_keys.2 hb)
  have h1 := hr y hy
  have h2 := readE_in (by omega) (by omega) hb (x % 64) (by omega) (by omega)
  rw [show 64 * (x / 64) + x % 64 = x from by omega] at h2
  exact h2

/-- The words of a block may be read. -/
theorem St.reads (h : St w bh bs bm q pg W L) {p : Pg} (hp : p ∈ L) {s i : Int} (hs : p.kind = 1 → 0 ≤ s ∧ s < Cl.sloI p.cls) (i0 : 0 ≤ i) (i1 : i < roomI p) : Sl.readE pg (addrI p s + i) = 0 := by
  have h1 := word_page (h.ly.ent p hp) hs i0 i1
  refine readE_page h.hw.ar.rng ?_
  have h2 := h.ly.has hp ((addrI p s + i) / 64 - p.n) (by omega) (by omega)
  rw [show p.n + ((addrI p s + i) / 64 - p.n) = (addrI p s + i) / 64 from by omega] at h2
  exact h2

theorem Ent.small {p : Pg} (he : Ent p) (h1 : p.kind = 1) : 0 ≤ p.cls ∧ p.cls ≤ 7 ∧ p.taken ≠ 0 ∧ Bt.U p.taken ∧ Bt.cutI (Cl.sloI p.cls) p.taken = p.taken ∧ p.words = 0 ∧ p.span = 1 := by
  rcases he with ⟨_, h⟩ | ⟨h, _⟩
  · exact h
  · omega
theorem Ent.large {p : Pg} (he : Ent p) (h1 : p.kind = 2) : p.cls = 0 ∧ p.taken = 0 ∧ 1 ≤ p.words ∧ p.words ≤ 4000 ∧ Cl.smaI p.words = false ∧ p.span = Cl.pagI p.words := by
  rcases he with ⟨h, _⟩ | ⟨_, h⟩
  · omega
  · exact h

/-- What freeB tells. -/
theorem freeB_some {c : Int} {p : Pg} {s : Int} (h : freeB L c = some (p, s)) : p ∈ L ∧ p.kind = 1 ∧ p.cls = c ∧ 0 ≤ s ∧ s < Cl.sloI c ∧ Bt.hasI p.taken s = false := by
  obtain ⟨x, hx, hf⟩ := List.exists_of_findSome?_eq_some h
  unfold freeOf at hf
  split at hf
  · rename_i hk
    simp only [Bool.and_eq_true, beq_iff_eq] at hk
    split at hf
    · rename_i h0
      obtain ⟨rfl, rfl⟩ := Prod.mk.inj (Option.some.inj hf)
      have hr := slo_range x.cls
      rcases free_cases (t := x.taken) hr.1 hr.2 with ⟨a, _⟩ | ⟨a, b, d, _⟩
      · omega
      · exact ⟨hx, hk.1, hk.2, a, by rw [← hk.2]; exact b, d⟩
    · cases hf
  · cases hf

theorem wh_other {n m t A R k : Int} (ha : 64 * n + 2 ≤ A) (hb : A + R ≤ 64 * n + 64) (hk : k ≠ n) : wipeW (hdW W n m t) A R (64 * k) = W (64 * k) ∧ wipeW (hdW W n m t) A R (64 * k + 1) = W (64 * k + 1) := by
  unfold wipeW hdW Sl.upd
  refine ⟨?_, ?_⟩
  · rw [if_neg (by omega), if_neg (by omega), if_neg (by omega)]
  · rw [if_neg (by omega), if_neg (by omega), if_neg (by omega)]
theorem wh_self {n m t A R : Int} (ha : 64 * n + 2 ≤ A) : wipeW (hdW W n m t) A R (64 * n) = m ∧ wipeW (hdW W n m t) A R (64 * n + 1) = t := by
  unfold wipeW hdW Sl.upd
  refine ⟨?_, ?_⟩
  · rw [if_neg (by omega), if_neg (by omega), if_pos rfl]
  · rw [if_neg (by omega), if_pos rfl]
theorem wh_word {n m t A R x : Int} (h1 : x ≠ 64 * n) (h2 : x ≠ 64 * n + 1) (h3 : x < A ∨ A + R ≤ x) : wipeW (hdW W n m t) A R x = W x := by
  unfold wipeW hdW Sl.upd
  rw [if_neg (by omega), if_neg h2, if_neg h1]

/-- A page of small places gets another set. -/
def withT (p : Pg) (t : Int) : Pg := { p with taken := t }

theorem Lay.setT (l : Lay pg W L) {p : Pg} (hp : p ∈ L) (h1 : p.kind = 1) {s t : Int} (hs : 0 ≤ s ∧ s < Cl.sloI p.cls) (ht : t ≠ 0) (hU : Bt.U t) (hc : Bt.cutI (Cl.sloI p.cls) t = t) :
    Lay pg (wipeW (hdW W p.n (1 + 256 * p.cls) t) (addrI p s) (roomI p)) (updL L p.n (withT p t)) := by
  have he := l.ent p hp
  have hpl := place_in he (s := s) (fun _ => hs)
  have hsp : p.span = 1 := by
    rcases he with ⟨_, _, _, _, _, _, _, h⟩ | ⟨h, _⟩
    · exact h
    · omega
  have hA : 64 * p.n + 2 ≤ addrI p s ∧ addrI p s + roomI p ≤ 64 * p.n + 64 := by unfold addrI; omega
  refine l.upd hp rfl rfl ?_ ?_ ?_ (fun r hr hn => wh_other hA.1 hA.2 hn)
  · rcases he with ⟨a, b, c, _, _, _, d, e⟩ | ⟨h, _⟩
    · exact .inl ⟨a, b, c, ht, hU, hc, d, e⟩
    · omega
  · rw [(wh_self hA.1).1]
    show _ = if p.kind = 1 then _ else _
    rw [if_pos h1]
    rfl
  · rw [(wh_self hA.1).2]
    show _ = if p.kind = 1 then _ else _
    rw [if_pos h1]
    rfl

/-- The words of all other blocks stay. -/
theorem Lay.setT_same (l : Lay pg W L) {p : Pg} (hp : p ∈ L) (h1 : p.kind = 1) {s t : Int} (hs : 0 ≤ s ∧ s < Cl.sloI p.cls) {r : Pg} (hr : r ∈ L) {k : Int} (hk : k ∈ slotsOf r) (hne : r ≠ p ∨ k ≠ s) {i : Int} (i0 : 0 ≤ i) (i1 : i < roomI r) :
    wipeW (hdW W p.n (1 + 256 * p.cls) t) (addrI p s) (roomI p) (addrI r k + i) = W (addrI r k + i) := by
  have he := l.ent p hp
  have her := l.ent r hr
  have hpl := place_in he (s := s) (fun _ => hs)
  have hwp := word_page her (slot_ok hk) i0 i1
  have hsp : p.span = 1 := by
    rcases he with ⟨_, _, _, _, _, _, _, h⟩ | ⟨h, _⟩
    · exact h
    · omega
  have hA : addrI p s = p.n * 64 + atI p s := rfl
  by_cases e : r = p
  · subst e
    have hks : k ≠ s := by
      rcases hne with h | h
      · exact absurd rfl h
      · exact h
    have hap := slots_apart he h1 (slot_ok hk h1) hs hks
    have hA2 : addrI r k = r.n * 64 + atI r k := rfl
    refine wh_word (by omega) (by omega) ?_
    omega
  · have hap := srt_apart l.srt hr hp e
    refine wh_word (by omega) (by omega) ?_
    omega

theorem fresh_wipe (A R : Int) {i : Int} (i0 : 0 ≤ i) (i1 : i < R) : wipeW W A R (A + i) = 0 := by
  unfold wipeW
  rw [if_pos (by omega)]

set_option maxRecDepth 100000 in
theorem allocSmall_some (h : St w bh bs bm q pg W L) {c s : Int} {p : Pg} (hf : freeB L c = some (p, s)) :
    Calls Tryd.prog 17 #[hp bh, .int .i64 c] w fun e w' => e = .returned (.tuple #[.int .i64 (addrI p s), .int .i64 0]) ∧ ∃ W', St w' bh bs bm q pg W' (updL L p.n (withT p (Bt.setI p.taken s))) ∧ Sl.Step bs bm pg pg w w' ∧ Same L W W' ∧ ∀ i, 0 ≤ i → i < Cl.sizI c → W' (addrI p s + i) = 0 := by
  obtain ⟨hm, hk1, hcl, s0, s1, hfr⟩ := freeB_some hf
  subst hcl
  have he := h.ly.ent p hm
  have hsm := he.small hk1
  have c0 := hsm.1
  have c1 := hsm.2.1
  have hU := hsm.2.2.2.1
  have hcut := hsm.2.2.2.2.1
  have hrg := h.range hm
  have hsp := he.span
  have hslr := slo_range p.cls
  have hN : Bt.N s := N_of s0 s1 hslr.2
  have lf := leastFree_any h.hw p.cls
  rw [h.heads, hf] at lf
  have hroom : roomI p = Cl.sizI p.cls := by unfold roomI; rw [if_neg (by omega)]
  have hpl := place_in he (s := s) (fun _ => ⟨s0, s1⟩)
  have L1 := h.ly.setT hm hk1 ⟨s0, s1⟩ (set_ne p.taken s) (Bt.setI_U hU hN) (cut_set hU hslr.1 hslr.2 hcut s0 s1)
  have HR : ∀ i, 0 ≤ i → i < roomI p → Sl.readE pg (addrI p s + i) = 0 := fun i i0 i1 => h.reads hm (fun _ => ⟨s0, s1⟩) i0 i1
  have tk := fun w2 (kk : K w w2) => take_any (h.hw.keep kk) p s hrg.1 (by omega) (h.ly.has0 hm) c0 c1 hU hN
  have ca := fun w => addr_any p s hrg.1 (by omega) w
  have HF : Aside (Same L W (wipeW (hdW W p.n (1 + 256 * p.cls) (Bt.setI p.taken s)) (addrI p s) (roomI p))) := fun r hr k hk i i0 i1 => h.ly.setT_same hm hk1 ⟨s0, s1⟩ hr hk (by
    by_cases e : r = p
    · subst e
      right
      rintro rfl
      rcases mem_slots.1 hk with ⟨h3, _⟩ | ⟨_, _, _, h4⟩
      · omega
      · rw [hfr] at h4; cases h4
    · exact .inl e) i0 i1
  have HFr : Aside (∀ i, 0 ≤ i → i < Cl.sizI p.cls → wipeW (hdW W p.n (1 + 256 * p.cls) (Bt.setI p.taken s)) (addrI p s) (roomI p) (addrI p s + i) = 0) := fun i i0 i1 => fresh_wipe _ _ i0 (by rw [hroom]; exact i1)
  clear hroom hf hfr hcut hsm hk1
  go_enter Tryd.func17, Tryd.ntmps17
  go_wp2_with fail
  refine lf.mono ?_
  rintro e w1 ⟨rfl, k1⟩
  dsimp only [lfV]
  obtain ⟨w2, hw2⟩ : ∃ w2, w2 = w1.alloc (.cells (cellsB p s) 58) := ⟨_, rfl⟩
  have k2 : K w1 w2 := by rw [hw2]; exact (K.refl w1).alloc _
  have hB2 : w2.heap[w1.heap.size]? = some (.cells (cellsB p s) 58) := by rw [hw2]; exact World.alloc_heap_new _ _
  have hn := nf_new (h.hw.keep k1) (Nat.le_refl w1.heap.size)
  go_wp2_with fail
  rw [← hw2]
  refine (tk _ (k1.trans k2)).mono ?_
  rintro e w3 ⟨rfl, h3, s3⟩
  have hB3 : w3.heap[w1.heap.size]? = some (.cells (cellsB p s) 58) := (s3.kept _ (Array.getElem?_eq_some_iff.1 hB2).1 hn).trans hB2
  obtain ⟨⟨x0, x1, x2, x3, x4, x5, x6⟩, _⟩ := seven hB3
  have wp := wipe_any h3 p s hrg.1 (by omega) (by omega) (by omega) HR
  clear hw2
  go_wp2_with fail
  refine wp.mono ?_
  rintro e w4 ⟨rfl, h4, s4⟩
  have hB4 : w4.heap[w1.heap.size]? = some (.cells (cellsB p s) 58) := (s4.kept _ (Array.getElem?_eq_some_iff.1 hB3).1 hn).trans hB3
  clear x0 x1 x2 x3 x4 x5 x6
  obtain ⟨⟨x0, x1, x2, x3, x4, x5, x6⟩, _⟩ := seven hB4
  go_wp2_with fail
  refine (ca _).mono ?_
  rintro e w5 ⟨rfl, k5⟩
  go_wp2
  go_ret2
  exact ⟨rfl, _, ⟨h4.keep k5, L1⟩, Step.thenK (((k1.trans k2).thenStep s3).trans s4) k5, HF.out, HFr.out⟩

end Hp
end Go.Proofs.YtlpdgomoepinjaaDoor
