/-
  Walks of package heap's Alloc, Room, Free and New, told of the entries.
-/
import Derived.Test.YtlpdgomoepinjaaDoorHNew
namespace Go.Proofs.YtlpdgomoepinjaaDoor
open Go.RowKit
attribute [local go_sem ↓] Go.wp_at_zero Go.wp_at_succ
namespace Hp
variable {w w' : World} {bh bs bm : Nat} {q : Int} {pg pg' : List (Int × Nat)} {W W' : Int → Int} {L : List Pg}

/-- What Alloc answers, and makes of the entries. -/
def allocL (q : Int) (L : List Pg) (x : Int) : Int × Int × List Pg :=
  if 1 ≤ x ∧ x ≤ 4000 then
    if Cl.smaI x = true then
      match freeB L (Cl.clsI x) with
      | some (p, s) => (addrI p s, 0, updL L p.n (withT p (Bt.setI p.taken s)))
      | none => if (granted L + 1) * 64 ≤ q then (addrI (smallPg (fit 1 0 L) (Cl.clsI x)) 0, 0, insL (smallPg (fit 1 0 L) (Cl.clsI x)) L) else (0, 3, L)
    else if (granted L + Cl.pagI x) * 64 ≤ q then (addrI (largePg (fit (Cl.pagI x) 0 L) x) 0, 0, insL (largePg (fit (Cl.pagI x) 0 L) x) L) else (0, 3, L)
  else (0, 2, L)

theorem cls_in {x : Int} (h : 1 ≤ x ∧ x ≤ 4000) (hs : Cl.smaI x = true) : 0 ≤ Cl.clsI x ∧ Cl.clsI x ≤ 7 ∧ x ≤ Cl.sizI (Cl.clsI x) := by
  rcases Cl.of_cases x h with ⟨a, b, _⟩ | ⟨_, a, b, _⟩ | ⟨_, a, b, _⟩ | ⟨_, a, b, _⟩ | ⟨_, a, b, _⟩ | ⟨_, a, b, _⟩ | ⟨_, a, b, _⟩ | ⟨_, a, b, _⟩ | ⟨_, _, b⟩
  case inr.inr.inr.inr.inr.inr.inr.inr => rw [hs] at b; cases b
  all_goals
    rw [b]
    refine ⟨by decide, by decide, ?_⟩
    first
      | (rw [show Cl.sizI 0 = 2 by decide]; omega)
      | (rw [show Cl.sizI 1 = 3 by decide]; omega)
      | (rw [show Cl.sizI 2 = 4 by decide]; omega)
      | (rw [show Cl.sizI 3 = 6 by decide]; omega)
      | (rw [show Cl.sizI 4 = 9 by decide]; omega)
      | (rw [show Cl.sizI 5 = 13 by decide]; omega)
      | (rw [show Cl.sizI 6 = 19 by decide]; omega)
      | (rw [show Cl.sizI 7 = 28 by decide]; omega)

theorem Same.refl (L : List Pg) (W : Int → Int) : Same L W W := fun _ _ _ _ _ _ _ => rfl

/-- What is so behind Alloc. -/
def AllocPost (w : World) (bh bs bm : Nat) (q : Int) (pg : List (Int × Nat)) (W : Int → Int) (L : List Pg) (x : Int) (r : Int × Int × List Pg) (e : Ending) (w' : World) : Prop :=
  e = .returned (.tuple #[.int .i64 r.1, .int .i64 r.2.1]) ∧ ∃ pg' W', St w' bh bs bm q pg' W' r.2.2 ∧ Sl.Step bs bm pg pg' w w' ∧ Same L W W' ∧ (r.2.1 = 0 → ∀ i, 0 ≤ i → i < x → W' (r.1 + i) = 0)

theorem alloc_core (h : St w bh bs bm q pg W L) (x : Int) (R : Int × Int × List Pg) (hR : allocL q L x = R) : Calls Tryd.prog 6 #[hp bh, .int .i64 x] w (AllocPost w bh bs bm q pg W L x R) := by
  have hm := made_yes bh bs w h.hw.c0
  have co := Cl.of_any x w
  unfold allocL at hR
  by_cases hx : 1 ≤ x ∧ x ≤ 4000
  · rw [if_pos hx] at hR
    rw [Cl.errW_in hx] at co
    cases hs : Cl.smaI x with
    | true =>
      rw [hs] at hR co
      simp only [if_true] at hR
      obtain ⟨c0, c1, c2⟩ := cls_in hx hs
      have key : ∀ w1, K w w1 → Calls Tryd.prog 17 #[hp bh, .int .i64 (Cl.clsI x)] w1 (AllocPost w bh bs bm q pg W L x R) := fun w1 k1 => by
        cases hf : freeB L (Cl.clsI x) with
        | some ps =>
          obtain ⟨p, s⟩ := ps
          rw [hf] at hR
          refine (allocSmall_some (h.keep k1) hf).mono ?_
          rintro e w2 ⟨rfl, W2, h2, s2, hs2, hz⟩
          subst hR
          exact ⟨rfl, pg, W2, h2, k1.thenStep s2, hs2, fun _ i i0 i1 => hz i i0 (by omega)⟩
        | none =>
          rw [hf] at hR
          dsimp only at hR
          by_cases hq : (granted L + 1) * 64 ≤ q
          · rw [if_pos hq] at hR
            refine (allocSmall_new (h.keep k1) c0 c1 hf hq).mono ?_
            rintro e w2 ⟨rfl, pg2, W2, h2, s2, hs2, hz⟩
            subst hR
            exact ⟨rfl, pg2, W2, h2, k1.thenStep s2, hs2, fun _ i i0 i1 => hz i i0 (by omega)⟩
          · rw [if_neg hq] at hR
            refine (allocSmall_no (h.keep k1) hf hq).mono ?_
            rintro e w2 ⟨rfl, k2⟩
            subst hR
            exact ⟨rfl, pg, W, h.keep (k1.trans k2), K.step bs bm pg (k1.trans k2), Same.refl _ _, fun h => by cases h⟩
      clear hR hs
      generalize Cl.clsI x = c at *
      go_enter Tryd.func6, Tryd.ntmps6
      go_wp2_with (first | (go_at_call 15; refine hm.mono ?_; rintro e w' ⟨rfl, rfl⟩) | (go_at_call 16; refine co.mono ?_; rintro e w1 ⟨rfl, k1⟩))
      refine (key _ (K.cl k1)).mono ?_
      rintro e w2 ⟨rfl, pg2, W2, rest⟩
      go_wp2
      go_ret2
      exact ⟨rfl, pg2, W2, rest⟩
    | false =>
      rw [hs] at hR co
      simp only [Bool.false_eq_true, if_false] at hR
      have key : ∀ w1, K w w1 → Calls Tryd.prog 18 #[hp bh, .int .i64 x] w1 (AllocPost w bh bs bm q pg W L x R) := fun w1 k1 => by
        by_cases hq : (granted L + Cl.pagI x) * 64 ≤ q
        · rw [if_pos hq] at hR
          refine (allocLarge_ok (h.keep k1) hx.1 hx.2 hs hq).mono ?_
          rintro e w2 ⟨rfl, pg2, W2, h2, s2, hs2, hz⟩
          subst hR
          exact ⟨rfl, pg2, W2, h2, k1.thenStep s2, hs2, fun _ i i0 i1 => hz i i0 i1⟩
        · rw [if_neg hq] at hR
          refine (allocLarge_no (h.keep k1) hx.1 hx.2 hq).mono ?_
          rintro e w2 ⟨rfl, k2⟩
          subst hR
          exact ⟨rfl, pg, W, h.keep (k1.trans k2), K.step bs bm pg (k1.trans k2), Same.refl _ _, fun h => by cases h⟩
      clear hR hs
      generalize Cl.clsI x = c at *
      go_enter Tryd.func6, Tryd.ntmps6
      go_wp2_with (first | (go_at_call 15; refine hm.mono ?_; rintro e w' ⟨rfl, rfl⟩) | (go_at_call 16; refine co.mono ?_; rintro e w1 ⟨rfl, k1⟩))
      refine (key _ (K.cl k1)).mono ?_
      rintro e w2 ⟨rfl, pg2, W2, rest⟩
      go_wp2
      go_ret2
      exact ⟨rfl, pg2, W2, rest⟩
  · rw [if_neg hx] at hR
    rw [Cl.errW_out hx] at co
    clear hx
    generalize Cl.clsI x = c at *
    generalize Cl.smaI x = sm at *
    go_enter Tryd.func6, Tryd.ntmps6
    go_wp2_with (first | (go_at_call 15; refine hm.mono ?_; rintro e w' ⟨rfl, rfl⟩) | (go_at_call 16; refine co.mono ?_; rintro e w1 ⟨rfl, k1⟩))
    go_ret2
    subst hR
    exact ⟨rfl, pg, W, h.keep (K.cl k1), K.step bs bm pg (K.cl k1), Same.refl _ _, fun h => by cases h⟩

theorem alloc_any (h : St w bh bs bm q pg W L) (x : Int) : Calls Tryd.prog 6 #[hp bh, .int .i64 x] w (AllocPost w bh bs bm q pg W L x (allocL q L x)) := alloc_core h x _ rfl

theorem findB_some {a : Int} {p : Pg} {s : Int} (h : findB L a = some (p, s)) : p ∈ L ∧ s ∈ slotsOf p ∧ addrI p s = a := by
  unfold findB at h
  cases hp : pgOf a L with
  | none => rw [hp] at h; cases h
  | some r =>
    rw [hp] at h
    cases hs : slOf a r (slotsOf r) with
    | none => simp [hs] at h
    | some k =>
      simp [hs] at h
      obtain ⟨rfl, rfl⟩ := h
      have h1 := List.find?_some hs
      simp at h1
      exact ⟨List.mem_of_find?_eq_some hp, List.mem_of_find?_eq_some hs, h1⟩

/-- What Room answers. -/
def roomL (L : List Pg) (a : Int) : Int × Int := match findB L a with | none => (0, 5) | some (p, _) => (roomI p, 0)

/-- What Free answers, and makes of the entries. -/
def dropL (L : List Pg) (p : Pg) (s : Int) : List Pg := if p.kind = 2 then delL L p.n else if Bt.clrI p.taken s = 0 then delL L p.n else updL L p.n (withT p (Bt.clrI p.taken s))
def freeL (L : List Pg) (a : Int) : Int × List Pg := match findB L a with | none => (5, L) | some (p, s) => (0, dropL L p s)

/-- The words of all blocks but one stay. -/
def SameBut (L : List Pg) (p : Pg) (s : Int) (W W' : Int → Int) : Prop := ∀ r ∈ L, ∀ k ∈ slotsOf r, (r ≠ p ∨ k ≠ s) → ∀ i, 0 ≤ i → i < roomI r → W' (addrI r k + i) = W (addrI r k + i)

theorem gone_cov {n m : Int} (g : Sl.Gone pg pg' n m) (k : Int) : (Sl.blk pg' k).isSome = true ↔ (Sl.blk pg k).isSome = true ∧ ¬ (n ≤ k ∧ k < n + m) := by
  by_cases h : n ≤ k ∧ k < n + m
  · rw [g.gone k h.1 h.2]
    simp [h]
  · rw [g.old k (by omega)]
    simp [h]

theorem zr_off {n m x : Int} (h : x < 64 * n ∨ 64 * (n + m) ≤ x) : Sl.zr W n m x = W x := by
  unfold Sl.zr
  rw [if_neg (by omega)]

/-- An entry's pages are released. -/
theorem Lay.gone (l : Lay pg W L) {p : Pg} (hp : p ∈ L) (g : Sl.Gone pg pg' p.n p.span) : Lay pg' (Sl.zr W p.n p.span) (delL L p.n) := by
  refine l.del hp (gone_cov g) fun r hr hn => ?_
  have hne : r ≠ p := fun e => hn (by rw [e])
  have h1 := (l.ent r hr).span
  have h2 := srt_apart l.srt hr hp hne
  exact ⟨zr_off (by omega), zr_off (by omega)⟩
theorem Lay.gone_same (l : Lay pg W L) {p : Pg} (hp : p ∈ L) {r : Pg} (hr : r ∈ L) (hne : r ≠ p) {k i : Int} (hk : k ∈ slotsOf r) (i0 : 0 ≤ i) (i1 : i < roomI r) : Sl.zr W p.n p.span (addrI r k + i) = W (addrI r k + i) := by
  have hw := word_page (l.ent r hr) (slot_ok hk) i0 i1
  have h2 := srt_apart l.srt hr hp hne
  exact zr_off (by omega)

/-- The last slot of its page: no other one is taken. -/
theorem clr_zero {p : Pg} (he : Ent p) (h1 : p.kind = 1) {s : Int} (hs : s ∈ slotsOf p) (hz : Bt.clrI p.taken s = 0) {k : Int} (hk : k ∈ slotsOf p) : k = s := by
  have hsm := he.small h1
  have hr := slo_range p.cls
  have s0 := slot_ok hs h1
  have k0 := slot_ok hk h1
  rcases mem_slots.1 hk with ⟨h2, _⟩ | ⟨_, _, _, hh⟩
  · omega
  · have := has_clr (t := p.taken) (N_of s0.1 s0.2 hr.2) (N_of k0.1 k0.2 hr.2)
    rw [hz, hh] at this
    have e0 : Bt.hasI 0 k = false := by rw [Bt.hasI_N (N_of k0.1 k0.2 hr.2)]; simp
    rw [e0] at this
    simp at this
    exact this.symm ▸ rfl

/-- What is so behind Free of a block. -/
def FreePost (w : World) (bh bs bm : Nat) (q : Int) (pg : List (Int × Nat)) (W : Int → Int) (L : List Pg) (p : Pg) (s : Int) (w' : World) : Prop :=
  ∃ pg' W', St w' bh bs bm q pg' W' (dropL L p s) ∧ Sl.Step bs bm pg pg' w w' ∧ SameBut L p s W W'

theorem leave_any (h : St w bh bs bm q pg W L) {p : Pg} (hm : p ∈ L) (h1 : p.kind = 1) {s : Int} (hs : s ∈ slotsOf p) (t0 : Int) : Calls Tryd.prog 22 #[hp bh, bkV (withT p t0) s] w fun e w' => e = .returned (.tuple #[]) ∧ FreePost w bh bs bm q pg W L p s w' := by
  have he := h.ly.ent p hm
  have hsm := he.small h1
  have hrg := h.range hm
  have hsp := he.span
  have hr := slo_range p.cls
  have s0 := slot_ok hs h1
  have hN := N_of s0.1 s0.2 hr.2
  have hh : W (64 * p.n + 1) = p.taken := by rw [h.ly.h p hm]; unfold heldI; rw [if_pos h1]
  unfold FreePost dropL
  rw [if_neg (by omega)]
  by_cases hz : Bt.clrI p.taken s = 0
  · rw [if_pos hz]
    refine (leave_none h.hw (withT p t0) s hrg.1 (show p.n ≤ 1048575 by omega) (show (Sl.blk pg p.n).isSome = true from h.ly.has0 hm) hN (show Bt.clrI (W (64 * p.n + 1)) s = 0 by rw [hh]; exact hz)).mono ?_
    rintro e w1 ⟨rfl, pg1, g1, h2, s2⟩
    have g1' : Sl.Gone pg pg1 p.n p.span := by rw [hsm.2.2.2.2.2.2]; exact g1
    have e1 : Sl.zr W (withT p t0).n 1 = Sl.zr W p.n p.span := by rw [hsm.2.2.2.2.2.2]; rfl
    refine ⟨rfl, pg1, _, ⟨h2, by rw [e1]; exact h.ly.gone hm g1'⟩, s2, fun r hr2 k hk hne i i0 i1 => ?_⟩
    rw [e1]
    refine h.ly.gone_same hm hr2 (fun e => ?_) hk i0 i1
    subst e
    rcases hne with hne | hne
    · exact hne rfl
    · exact hne (clr_zero he h1 hs hz hk)
  · rw [if_neg hz]
    have hpl := place_in he (s := s) (fun _ => s0)
    have lv := leave_some h.hw (withT p t0) s hrg.1 (show p.n ≤ 1048575 by omega) (show (Sl.blk pg p.n).isSome = true from h.ly.has0 hm) hsm.1 hsm.2.1 hN (show Bt.clrI (W (64 * p.n + 1)) s ≠ 0 by rw [hh]; exact hz) (show 0 ≤ roomI p by omega) (show roomI p ≤ 5000 by omega) (fun i i0 i1 => h.reads hm (fun _ => s0) i0 i1)
    have hh' : W (64 * (withT p t0).n + 1) = p.taken := hh
    rw [hh'] at lv
    refine lv.mono ?_
    rintro e w1 ⟨rfl, h2, s2⟩
    exact ⟨rfl, pg, _, ⟨h2, h.ly.setT hm h1 s0 hz (Bt.clrI_U hsm.2.2.2.1) (cut_clr hsm.2.2.2.1 hr.1 hr.2 hsm.2.2.2.2.1 s0.1 s0.2)⟩, s2, fun r hr2 k hk hne i i0 i1 => h.ly.setT_same hm h1 s0 hr2 hk hne i0 i1⟩

/-- An entry's pages may be released. -/
theorem St.rel (h : St w bh bs bm q pg W L) {p : Pg} (hm : p ∈ L) : Sl.relE pg p.n p.span = 0 := by
  have hrg := h.range hm
  have hsp := (h.ly.ent p hm).span
  have a1 : Sl.isPageB p.n = true := by simp [Sl.isPageB]; omega
  have a2 : Sl.isPageB (p.n + p.span - 1) = true := by simp [Sl.isPageB]; omega
  have a4 : Sl.isCountB p.span = true := by simp [Sl.isCountB]; omega
  have a3 : Sl.allIn pg p.n p.span.toNat = true := Sl.allIn_iff.2 fun i hi => h.ly.has hm i (by omega) (by omega)
  unfold Sl.relE
  rw [if_pos ⟨a1, a4, a2⟩, if_pos a3]

set_option maxRecDepth 100000 in
theorem free_any (h : St w bh bs bm q pg W L) (a : Int) (ha : In64 a) : Calls Tryd.prog 9 #[hp bh, .int .i64 a] w fun e w' => e = .returned (.int .i64 (freeL L a).1) ∧ ((findB L a = none ∧ K w w') ∨ ∃ p s, findB L a = some (p, s) ∧ FreePost w bh bs bm q pg W L p s w') := by
  have fd := find_any h.hw a ha
  rw [h.heads] at fd
  unfold freeL
  cases hf : findB L a with
  | none =>
    rw [hf] at fd
    go_enter Tryd.func9, Tryd.ntmps9
    go_wp2_with fail
    refine fd.mono ?_
    rintro e w1 ⟨rfl, k1⟩
    dsimp only [fdV]
    go_wp2
    go_ret
    exact ⟨rfl, .inl ⟨trivial, k1.alloc _⟩⟩
  | some ps =>
    obtain ⟨p, s⟩ := ps
    rw [hf] at fd
    obtain ⟨hm, hs, _⟩ := findB_some hf
    clear hf
    rcases (h.ly.ent p hm).kind with hk | hk
    · have lv := fun w1 (k1 : K w w1) => leave_any (h.keep k1) hm hk hs p.taken
      have hk2 : (p.kind == 2) = false := by rw [hk]; decide
      clear hk
      go_enter Tryd.func9, Tryd.ntmps9
      go_wp2_with fail
      refine fd.mono ?_
      rintro e w1 ⟨rfl, k1⟩
      dsimp only [fdV]
      go_wp2_with fail
      refine (lv _ (k1.alloc _)).mono ?_
      rintro e w2 ⟨rfl, pg2, W2, h2, s2, sb⟩
      go_wp2
      go_ret
      exact ⟨rfl, .inr ⟨p, s, rfl, pg2, W2, h2, (k1.alloc _).thenStep s2, sb⟩⟩
    · have hdl : Hid (dropL L p s = delL L p.n) := by show _ = _; unfold dropL; rw [if_pos hk]
      have rl := fun w1 (k1 : K w w1) => Sl.release_ok (h.hw.keep k1).ar p.n p.span (h.rel hm)
      have hgo := fun pg1 (g : Sl.Gone pg pg1 p.n p.span) => h.ly.gone hm g
      have HG : Aside _ := hgo
      have hk2 : (p.kind == 2) = true := by rw [hk]; decide
      have HS : Aside (SameBut L p s W (Sl.zr W p.n p.span)) := fun r hr2 k hkk hne i i0 i1 => by
        refine h.ly.gone_same hm hr2 (fun e => ?_) hkk i0 i1
        subst e
        rcases hne with hne | hne
        · exact hne rfl
        · refine hne ?_
          rcases mem_slots.1 hkk with ⟨_, e1⟩ | ⟨e1, _⟩
          · rcases mem_slots.1 hs with ⟨_, e2⟩ | ⟨e2, _⟩
            · rw [e1, e2]
            · omega
          · omega
      clear hk hgo
      go_enter Tryd.func9, Tryd.ntmps9
      go_wp2_with fail
      refine fd.mono ?_
      rintro e w1 ⟨rfl, k1⟩
      dsimp only [fdV]
      obtain ⟨w2, hw2⟩ : ∃ w2, w2 = w1.alloc (.cells (cellsB p s) 58) := ⟨_, rfl⟩
      have k2 : K w1 w2 := by rw [hw2]; exact (K.refl w1).alloc _
      have hB2 : w2.heap[w1.heap.size]? = some (.cells (cellsB p s) 58) := by rw [hw2]; exact World.alloc_heap_new _ _
      have hn := nf_new (h.hw.keep k1) (Nat.le_refl w1.heap.size)
      have hn2 := h.hw.nfh
      obtain ⟨⟨x0, x1, x2, x3, x4, x5, x6⟩, _⟩ := seven hB2
      have k12 := k1.trans k2
      have c0 := (h.hw.keep k12).c0
      have rl2 := rl _ k12.drew
      have hwd := h.hw.keep k12.drew
      clear rl
      go_wp2
      rw [← hw2]
      clear hw2
      generalize w1.heap.size = B at *
      go_region_held3 (fun w' => w'.cell? ⟨bh, 0, none⟩ = some (.pointer (some ⟨bs, 0, none⟩)) ∧ w'.cell? ⟨B, 0, none⟩ = some (.int .i64 p.n) ∧ w'.cell? ⟨B, 5, none⟩ = some (.int .i64 p.span))
        (first | exact ⟨c0, x0, x5⟩ | exact ⟨Step.cell s3 c0 hn2, Step.cell s3 x0 hn, Step.cell s3 x5 hn⟩)
        (first | (go_at_call 21; refine rl2.mono ?_; rintro e w3 ⟨rfl, pg3, g3, a3, s3⟩))
      go_wp2
      go_ret
      exact ⟨rfl, .inr ⟨p, s, rfl, pg3, _, ⟨hwd.step a3 s3, by rw [hdl.out]; exact HG.out pg3 g3⟩, k12.drew.thenStep s3, HS.out⟩⟩

end Hp
end Go.Proofs.YtlpdgomoepinjaaDoor
