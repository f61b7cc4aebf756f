/-
  Walks of At, Move, Close, Used.
-/
import Derived.Test.YtbbjfebdihepnaaGreatDoorD1
import Derived.WalkSpells
namespace Go.Proofs.YtbbjfebdihepnaaGreatDoor
open Go.RowKit Go.Maps
namespace Hd
open Hp (Kept K No)
variable {w w' : World} {B bt : Nat} {q z : Int} {v : Value} {L : List Sl}

theorem at_any (h : Tab w B bt q z v L) (x : Int) (hx : U64 x) : Calls Tryz.prog 90 #[tp bt, .int .u64 x] w fun e w' => e = .returned (.tuple #[.int .i64 (atL L x).1, .int .i64 (atL L x).2]) ∧ K w w' := by
  have hf := find_any h x hx
  have HT : Aside _ := h
  clear h
  go_enter Tryz.func90, Tryz.ntmps90
  go_wp2_with fail
  refine hf.mono ?_
  rintro e w1 ⟨(⟨h1, rfl⟩ | ⟨i, g, h1, hg, rfl⟩), hk⟩
  · have E : Hid (atL L x = (0, 7)) := atL_none h1
    clear h1 hf
    go_wp2
    go_ret2
    exact ⟨by rw [E.out]; rfl, hk⟩
  · obtain ⟨s, hs, ho, -⟩ := findL_some h1
    obtain ⟨g2, a, cap, rfl, hr, hf2, hcap⟩ := (HT.out.keep hk).form
    have d2 := hr.c2 i s hs
    obtain rfl : g2 = g := by
      rcases hf2 with ⟨rfl, _⟩ | ⟨rfl, _⟩
      · simpa [Value.ownBlock] using hg
      · simp [Value.ownBlock] at hg
    have E : Hid (atL L x = (s.a, 0)) := atL_some h1 hs
    clear h1 hr hf2 hg hf hs ho
    go_wp2
    go_ret2
    exact ⟨by rw [E.out]; rfl, hk⟩

theorem used_any (h : Tab w B bt q z v L) : Calls Tryz.prog 150 #[tp bt] w fun e w' => e = .returned (.int .i64 L.length) ∧ w = w' := by
  have hm := made_ok h
  obtain ⟨g, a, cap, rfl, hr, hg, hcap⟩ := h.form
  have c2 := h.c2
  clear h hr hg
  go_enter Tryz.func150, Tryz.ntmps150
  go_wp2_with (go_at_call 122; refine hm.mono ?_; rintro e w1 ⟨rfl, rfl⟩)
  go_ret
  exact ⟨rfl, rfl⟩

theorem close_any (h : Tab w B bt q z v L) (x : Int) (hx : U64 x) : Calls Tryz.prog 62 #[tp bt, .int .u64 x] w fun e w' => e = .returned (.int .i64 (closeL L x).1) ∧ Tab w' B bt q z v (closeL L x).2 ∧ Kept (foot bt v) w w' := by
  have hf := find_any h x hx
  have HT : Aside _ := h
  clear h
  go_enter Tryz.func62, Tryz.ntmps62
  go_wp2_with fail
  refine hf.mono ?_
  rintro e w1 ⟨(⟨h1, rfl⟩ | ⟨i, g, h1, hg, rfl⟩), hk⟩
  · have E : Hid (closeL L x = (7, L)) := closeL_none h1
    clear h1 hf
    go_wp2
    go_ret
    exact ⟨by rw [E.out]; rfl, by rw [E.out]; exact HT.out.keep hk, hk.kept _⟩
  · obtain ⟨s, hs, ho, -⟩ := findL_some h1
    have hT := HT.out.keep hk
    obtain ⟨g2, a, cap, rfl, hr, hf2, hcap⟩ := hT.form
    obtain rfl : g2 = g := by
      rcases hf2 with ⟨rfl, _⟩ | ⟨rfl, _⟩
      · simpa [Value.ownBlock] using hg
      · simp [Value.ownBlock] at hg
    have d0 := hr.c0 i s hs
    have d1 := hr.c1 i s hs
    have d2 := hr.c2 i s hs
    have hil := (List.getElem?_eq_some_iff.1 hs).1
    have f0 := hr.fz (by omega) (i * 3)
    have f1 := hr.fz (by omega) (i * 3 + 1)
    have f2 := hr.fz (by omega) (i * 3 + 2)
    have hok := HT.out.wf.get hs
    rcases hf2 with ⟨rfl, _⟩ | ⟨rfl, _⟩
    rotate_left
    · simp [Value.ownBlock] at hg
    have hP := hT.set3 (i := i) (s := ⟨false, s.g, 0⟩) hil ⟨hok.lo, hok.hi, Int.le_refl _, by simp, fun _ => rfl⟩
    have E : Hid (closeL L x = (0, L.set i ⟨false, s.g, 0⟩)) := closeL_some h1 hs
    have HP : Aside _ := hP
    clear h1 hr hg hf hs ho hok hP hT
    go_wp2
    go_ret
    exact ⟨by rw [E.out]; rfl, by rw [E.out]; exact HP.out.1, (hk.kept _).trans HP.out.2⟩

end Hd
end Go.Proofs.YtbbjfebdihepnaaGreatDoor

/-
  The walk of Open.
-/
namespace Go.Proofs.YtbbjfebdihepnaaGreatDoor
open Go.RowKit Go.Maps
namespace Hd
open Hp (Kept K No)
variable {w w' : World} {B bt : Nat} {q z : Int} {v : Value} {L : List Sl}

/-- What Open leaves: the table with the slots L', and of what was there its own blocks alone turned; its row may lie in a new block. -/
def OpenPost (w : World) (B bt : Nat) (q z : Int) (v : Value) (L' : List Sl) (w' : World) : Prop :=
  ∃ v', Tab w' B bt q z v' L' ∧ Kept (foot bt v) w w' ∧ ∀ k, foot bt v' k → foot bt v k ∨ w.heap.size ≤ k

theorem OpenPost.same (h : Tab w B bt q z v L) (k : K w w') : OpenPost w B bt q z v L w' := ⟨v, h.keep k, k.kept _, fun _ hk => .inl hk⟩

theorem info_slot : ∃ i0, Tryz.prog.info? 170 = some i0 ∧ i0.size = 3 ∧ i0.bytes = 16 ∧ ∃ z, i0.zero = some z ∧ z.cells.size = 3 := by
  have hi : (Tryz.prog.info? 170).map (fun i => (i.zero.map (fun z => z.cells.size), i.size, i.bytes)) = some (some 3, 3, 16) := by kernel_rfl
  obtain ⟨i0, h1, h2⟩ := Option.map_eq_some_iff.1 hi
  simp only [Prod.mk.injEq] at h2
  obtain ⟨h3, h4, h5⟩ := h2
  obtain ⟨z, h6, h7⟩ := Option.map_eq_some_iff.1 h3
  exact ⟨i0, h1, h4, h5, z, h6, h7⟩

theorem open_neg (h : Tab w B bt q z v L) (a : Int) (a0 : a < 0) : Calls Tryz.prog 88 #[tp bt, .int .i64 a] w fun e w' => e = .returned (.tuple #[.int .u64 0, .int .i64 2]) ∧ w = w' := by
  have hm := made_ok h
  clear h
  go_enter Tryz.func88, Tryz.ntmps88
  go_wp2_with (go_at_call 122; refine hm.mono ?_; rintro e w1 ⟨rfl, rfl⟩)
  go_ret2
  exact ⟨rfl, rfl⟩

theorem open_full (h : Tab w B bt q z v L) (a : Int) (a0 : 0 ≤ a) (hf : freeAt z L = none) (hl : q ≤ L.length) : Calls Tryz.prog 88 #[tp bt, .int .i64 a] w fun e w' => e = .returned (.tuple #[.int .u64 0, .int .i64 10]) ∧ K w w' := by
  have hm := made_ok h
  have hlf := leastFree_any h
  rw [show lfB q z L = false by simp [lfB, hf]; omega] at hlf
  generalize lfN z L = N at hlf
  clear h hf
  go_enter Tryz.func88, Tryz.ntmps88
  go_wp2_with (first
    | (go_at_call 122; refine hm.mono ?_; rintro e w1 ⟨rfl, rfl⟩)
    | (go_at_call 123; refine hlf.mono ?_; rintro e w1 ⟨rfl, hk1⟩))
  go_ret2
  exact ⟨rfl, by assumption⟩

set_option maxHeartbeats 1000000 in
theorem open_free (h : Tab w B bt q z v L) (a : Int) (a0 : 0 ≤ a) (a1 : a ≤ 9223372036854775807) (i : Nat) (s : Sl) (hf : freeAt z L = some i) (hs : L[i]? = some s) :
    Calls Tryz.prog 88 #[tp bt, .int .i64 a] w fun e w' => e = .returned (.tuple #[.int .u64 (nm (i + 1) (s.g + 1)), .int .i64 0]) ∧ Tab w' B bt q z v (L.set i ⟨true, s.g + 1, a⟩) ∧ Kept (foot bt v) w w' := by
  have hm := made_ok h
  have hlf := leastFree_any h
  rw [show lfB q z L = true by simp [lfB, hf], show lfN z L = i + 1 by simp [lfN, hf]] at hlf
  obtain ⟨s', hs', hfr, _⟩ := freeAt_some hf
  obtain rfl : s' = s := Option.some.inj (hs'.symm.trans hs)
  have hok := Ok.opened h.wf hs hfr a0 a1
  have g0 := (h.wf.get hs).lo
  have g1 : s'.g + 1 ≤ 4294967295 := Int.le_trans hok.hi h.wf.z1
  have hil := (List.getElem?_eq_some_iff.1 hs).1
  have hlen := h.wf.len
  have hq1 := h.wf.q1
  obtain ⟨g, ad, cap, rfl, hr, hg, hcap⟩ := h.form
  rcases hg with ⟨rfl, _, _⟩ | ⟨_, hnil, _⟩
  rotate_left
  · exfalso
    subst hnil
    simp at hil
  have hix := run_ixs g L.length cap i hil
  have hnm : ∀ w, _ := fun w => name_any (w := w) ((i : Int) + 1) (s'.g + 1) (by omega) (by omega) (by omega) g1
  have HT : Aside _ := h
  have HS : Aside _ := hs
  have HOK : Aside _ := hok
  clear h hs hok hfr hs' hf hr
  go_enter Tryz.func88, Tryz.ntmps88
  go_wp2_with (first
    | (go_at_call 122; refine hm.mono ?_; rintro e w1 ⟨rfl, rfl⟩)
    | (go_at_call 123; refine hlf.mono ?_; rintro e w1 ⟨rfl, hk1⟩; have hT1 := HT.out.keep hk1; have c2 := hT1.c2; obtain ⟨g', ad', cap', hv', hr', hg', _⟩ := hT1.form; cases hv'; rcases hg' with ⟨he', _, _⟩ | ⟨he', _, _⟩ <;> cases he'; have d0 := hr'.c0 i _ HS.out; have d1 := hr'.c1 i _ HS.out; have d2 := hr'.c2 i _ HS.out; have f0 := hr'.fz (by omega) (i * 3); have f1 := hr'.fz (by omega) (i * 3 + 1); have f2 := hr'.fz (by omega) (i * 3 + 2); have HP : Aside _ := hT1.set3 (i := i) hil HOK.out; clear hT1 hr' hlf)
    | (go_at_call 124; refine (hnm _).mono ?_; rintro e w1 ⟨rfl, rfl⟩))
  go_ret2
  exact ⟨rfl, HP.out.1, (K.kept (by assumption) _).trans HP.out.2⟩

/-- Behind the append of a slot, the store of the row, and the slot's own words. -/
theorem Tab.app {w1 w3 : World} {s0 s : Sl} {o : Obj} {g n cap : Nat} (h : Tab w1 B bt q z v L) (hl : (L.length : Int) < q) (hs : Ok z s) (hown : w3.ownsRow B 170 3 (.slice (some ⟨g, 0, none⟩) n cap) (L.length + 1) (rowVals L ++ slVals s0)) (hgrow : (w1.alloc o).grownBy w3 v.ownBlock) (hat : some g = v.ownBlock ∨ some g = some (w1.alloc o).heap.size) :
    n = L.length + 1 ∧ g ≠ bt ∧ w3.heap[bt]? = some (.cells #[.int .i64 q, .int .u32 z, v] 180) ∧ (∀ j, w3.frozen? ⟨g, j, none⟩ = false) ∧ (w3.cell? ⟨g, L.length * 3, none⟩ = some (.bool s0.o) ∧ w3.cell? ⟨g, L.length * 3 + 1, none⟩ = some (.int .u32 s0.g) ∧ w3.cell? ⟨g, L.length * 3 + 2, none⟩ = some (.int .i64 s0.a)) ∧
    Tab (Hd.set3 (w3.setCell ⟨bt, 2, none⟩ (.slice (some ⟨g, 0, none⟩) n cap)) g L.length s) B bt q z (.slice (some ⟨g, 0, none⟩) n cap) (L ++ [s]) ∧
    Kept (foot bt v) w1 (Hd.set3 (w3.setCell ⟨bt, 2, none⟩ (.slice (some ⟨g, 0, none⟩) n cap)) g L.length s) ∧ ∀ k, foot bt (.slice (some ⟨g, 0, none⟩) n cap) k → foot bt v k ∨ w1.heap.size ≤ k := by
  have hbt := h.lt
  have hne : g ≠ bt := fun e => by
    rcases hat with e2 | e2
    · exact h.ap (by rw [← e2, e])
    · rw [e] at e2
      simp at e2
      omega
  have hsz := hgrow.size
  simp at hsz
  have kk : Kept (fun k => some k = v.ownBlock) w1 w3 := ⟨hgrow.os, hgrow.tape, hgrow.output, by omega, fun k hk hn => by
    rw [hgrow.block k (by simp; omega) hn]
    exact Below.heap_alloc w1 o k hk⟩
  have hd3 : w3.heap[bt]? = some (.cells #[.int .i64 q, .int .u32 z, v] 180) := kk.block h.hd (fun e => h.ap e.symm)
  rw [show rowVals L ++ slVals s0 = rowVals (L ++ [s0]) by rw [row_app]; simp [rowVals], show L.length + 1 = (L ++ [s0]).length by simp] at hown
  have hown0 := hown
  obtain ⟨g2, ad, cap2, hv, hr, hg, hcap⟩ := row_form hown
  cases hv
  rcases hg with ⟨he, _⟩ | ⟨he, _⟩
  rotate_left
  · cases he
  cases he
  have hL : (L ++ [s0])[L.length]? = some s0 := by simp
  have k4 : Kept (fun k => k = bt) w3 (w3.setCell ⟨bt, 2, none⟩ (.slice (some ⟨g, 0, none⟩) (L ++ [s0]).length cap)) := (Kept.refl _ _).setCell _ (.inl rfl)
  have hd4 : (w3.setCell ⟨bt, 2, none⟩ (.slice (some ⟨g, 0, none⟩) (L ++ [s0]).length cap)).heap[bt]? = some (.cells #[.int .i64 q, .int .u32 z, .slice (some ⟨g, 0, none⟩) (L ++ [s0]).length cap] 180) := by
    simp only [World.setCell]
    rw [Array.getElem?_modify, if_pos rfl, hd3]
    rfl
  have hrow4 := ownsRow_kept hown0 k4 (fun k hk e => hne (by
    subst e
    simpa [Value.ownBlock] using hk.symm))
  have k5 : ∀ W : World, Kept (fun k => k = g) W (Hd.set3 W g L.length s) := fun W => by
    have k1 : Kept (fun k => k = g) W (W.setCell ⟨g, L.length * 3, none⟩ (.bool s.o)) := (Kept.refl _ _).setCell _ (.inl rfl)
    have k2 : Kept (fun k => k = g) W ((W.setCell ⟨g, L.length * 3, none⟩ (.bool s.o)).setCell ⟨g, L.length * 3 + 1, none⟩ (.int .u32 s.g)) := k1.setCell _ (.inl rfl)
    exact k2.setCell (p := ⟨g, L.length * 3 + 2, none⟩) (.int .i64 s.a) (.inl rfl)
  refine ⟨by simp, hne, hd3, hr.fz (by simp), ⟨hr.c0 _ _ hL, hr.c1 _ _ hL, hr.c2 _ _ hL⟩, ⟨(k5 _).block hd4 (fun e => hne e.symm), ?_, fun e => hne (by simpa [Value.ownBlock] using e), h.wf.app hs hl, h.lo⟩, ?_, ?_⟩
  · have e : L ++ [s] = (L ++ [s0]).set L.length s := by
      rw [List.set_append_right _ _ (Nat.le_refl _)]
      simp
    rw [e, List.length_set, ← row_set (by simp) s]
    exact own_set (own_set (own_set hrow4))
  · have c : ∀ k, k < w1.heap.size → k = g → some k = v.ownBlock := fun k hk e => by
      rcases hat with e2 | e2
      · rw [e, e2]
      · simp at e2
        omega
    refine ⟨((k5 _).os.trans k4.os).trans kk.os, ((k5 _).tape.trans k4.tape).trans kk.tape, ((k5 _).output.trans k4.output).trans kk.output, Nat.le_trans (Nat.le_trans kk.size k4.size) (k5 _).size, fun k hk hn => ?_⟩
    have n1 : k ≠ bt := fun e => hn (.inl e)
    have n2 : ¬ some k = v.ownBlock := fun e => hn (.inr e)
    have h3 : k < w3.heap.size := Nat.lt_of_lt_of_le hk kk.size
    rw [(k5 _).same k (Nat.lt_of_lt_of_le h3 k4.size) (fun e => n2 (c k hk e)), k4.same k h3 n1, kk.same k hk n2]
  · rintro k (rfl | hk)
    · exact .inl (.inl rfl)
    · have e : k = g := by simpa [Value.ownBlock] using hk
      subst e
      rcases hat with e2 | e2
      · exact .inl (.inr e2)
      · simp at e2
        exact .inr (by omega)

theorem src_one (w : World) (cells : Array Value) (ty : TypeId) : ∀ j u, cells.toList[j]? = some u → (w.alloc (.cells cells ty)).cell? ((⟨w.heap.size, 0, none⟩ : Addr).add j) = some u := fun j u hu => by
  rw [Go.WideShapes.add_plain, Nat.zero_add, World.cell?_alloc_new, ← Array.getElem?_toList]
  exact hu

theorem own_form {n m : Nat} {ty : TypeId} {xs : List Value} (h : w.ownsRow B ty m v (n + 1) xs) : ∃ g cap, v = .slice (some ⟨g, 0, none⟩) (n + 1) cap := by
  rcases h.2 with ⟨_, e⟩ | ⟨g, cap, _, e, _⟩
  · omega
  · exact ⟨g, cap, e⟩

set_option maxHeartbeats 1000000 in
theorem open_new (h : Tab w B bt q z v L) (a : Int) (a0 : 0 ≤ a) (a1 : a ≤ 9223372036854775807) (hf : freeAt z L = none) (hl : (L.length : Int) < q) :
    Calls Tryz.prog 88 #[tp bt, .int .i64 a] w fun e w' => e = .returned (.tuple #[.int .u64 (nm (L.length + 1) 1), .int .i64 0]) ∧ OpenPost w B bt q z v (L ++ [⟨true, 1, a⟩]) w' := by
  have hm := made_ok h
  have hlf := leastFree_any h
  rw [show lfB q z L = true by simp [lfB, hf]; omega, show lfN z L = L.length + 1 by simp [lfN, hf]] at hlf
  have hok : Ok z ⟨true, 1, a⟩ := ⟨Int.le_refl _, h.wf.z0, a0, a1, fun h => nomatch h⟩
  have hlen := h.wf.len
  have hq1 := h.wf.q1
  obtain ⟨i0, hi, hsz, hby, zz, hz, hzs⟩ := info_slot
  have HI : Aside (Tryz.prog.info? 170 = some i0 ∧ i0.size = 3 ∧ i0.bytes = 16 ∧ i0.zero = some zz ∧ zz.cells.size = 3) := ⟨hi, hsz, hby, hz, hzs⟩
  obtain ⟨g, ad, cap, rfl, hr, hg, hcap⟩ := h.form
  have hnm : ∀ w, _ := fun w => name_any (w := w) ((L.length : Int) + 1) 1 (by omega) (by omega) (by omega) (by omega)
  have HT : Aside _ := h
  have HOK : Aside _ := hok
  have HL : Aside _ := hl
  clear h hok hf hr hg hi hsz hby hz hzs
  go_enter Tryz.func88, Tryz.ntmps88
  go_wp2_with (first
    | (go_at_call 122; refine hm.mono ?_; rintro e w1 ⟨rfl, rfl⟩)
    | (go_at_call 123; refine hlf.mono ?_; rintro e w1 ⟨rfl, hk1⟩; have hT1 := HT.out.keep hk1; have c2 := hT1.c2; have HT1 : Aside _ := hT1; clear hT1 hlf)
    | (at_builtin
       refine wpList_append_own_at _ rfl _ _ 101 rfl B 170 i0 zz 3 16 Tryz.underlying101 HI.out.1 HI.out.2.2.2.1 HI.out.2.1 HI.out.2.2.1 HI.out.2.2.2.2 (by decide) _ L.length (rowVals L) rfl (HT1.out.row.alloc _) ⟨w1.heap.size, 0, none⟩ 1 1 (slVals ⟨false, 0, 0⟩) rfl rfl (src_one w1 #[.bool false, .int .u32 0, .int .i64 0] 170) (row_one [⟨false, 0, 0⟩]) (by unfold maxLen; omega) (by omega) (by have := HT1.out.lo; have := HT1.out.lt; simp; omega) ?_
       intro v3 w3 hown hgrow _ hat
       obtain ⟨g3, cap3, rfl⟩ := own_form hown
       obtain ⟨_, hne, hd3, hfz3, ⟨d0, d1, d2⟩, hT3, hk3, hft⟩ := HT1.out.app HL.out HOK.out hown hgrow hat
       have hix := run_ixs g3 (L.length + 1) cap3 L.length (by omega)
       have e2 : w3.cell? ⟨bt, 2, none⟩ = some (.slice ad L.length cap) := by simp [World.cell?, hd3]
       have f2 : w3.frozen? ⟨bt, 2, none⟩ = false := by simp [World.frozen?, hd3]
       have q0 := hfz3 (L.length * 3)
       have q1 := hfz3 (L.length * 3 + 1)
       have q2 := hfz3 (L.length * 3 + 2)
       have HP : Aside _ := And.intro hT3 (And.intro hk3 hft)
       clear hT3 hk3 hft hfz3 hd3 hown hgrow hat c2)
    | (go_at_call 124; refine (hnm _).mono ?_; rintro e w1 ⟨rfl, rfl⟩))
  go_ret2
  exact ⟨rfl, _, HP.out.1, (K.kept (by assumption) _).trans HP.out.2.1, fun k hk => (HP.out.2.2 k hk).imp id (fun h => Nat.le_trans (Kept.size hk1) h)⟩

theorem open_any (h : Tab w B bt q z v L) (a : Int) (a1 : a ≤ 9223372036854775807) : Calls Tryz.prog 88 #[tp bt, .int .i64 a] w fun e w' => e = .returned (.tuple #[.int .u64 (openL q z L a).1, .int .i64 (openL q z L a).2.1]) ∧ OpenPost w B bt q z v (openL q z L a).2.2 w' := by
  by_cases a0 : a < 0
  · rw [openL_neg a0]
    refine (open_neg h a a0).mono ?_
    rintro e w1 ⟨rfl, rfl⟩
    exact ⟨rfl, .same h (K.refl _)⟩
  have a0' : 0 ≤ a := by omega
  cases hf : freeAt z L with
  | some i =>
    obtain ⟨s, hs, hfr, _⟩ := freeAt_some hf
    rw [openL_free a0' hf hs]
    refine (open_free h a a0' a1 i s hf hs).mono ?_
    rintro e w1 ⟨rfl, hT, hk⟩
    exact ⟨rfl, v, hT, hk, fun _ h => .inl h⟩
  | none =>
    by_cases hl : (L.length : Int) < q
    · rw [openL_new a0' hf hl]
      exact open_new h a a0' a1 hf hl
    · rw [openL_full a0' hf (by omega)]
      refine (open_full h a a0' hf (by omega)).mono ?_
      rintro e w1 ⟨rfl, hk⟩
      exact ⟨rfl, .same h hk⟩

end Hd
end Go.Proofs.YtbbjfebdihepnaaGreatDoor

/-
  A table made since w0; the fixed example.
-/
namespace Go.Proofs.YtbbjfebdihepnaaGreatDoor
open Go.RowKit Go.Maps
namespace Hd
open Hp (Kept K No)
variable {w0 w w' : World} {bt : Nat} {q z : Int} {v v' : Value} {L L' : List Sl}

/-- A table made since w0; nothing that was there at w0 has turned. -/
structure Rn (w0 w : World) (bt : Nat) (q z : Int) (v : Value) (L : List Sl) : Prop where
  tb : Tab w w0.heap.size bt q z v L
  k : K w0 w

theorem K.thenFoot {w1 : World} (h : K w0 w) (t : Tab w w0.heap.size bt q z v L) (k : Kept (foot bt v) w w1) : K w0 w1 :=
  ⟨k.os.trans h.os, k.tape.trans h.tape, k.output.trans h.output, Nat.le_trans h.size k.size, fun j hj hn => (k.same j (Nat.lt_of_lt_of_le hj h.size) (fun hf => by have := (t.foot_lt hf).1; omega)).trans (h.same j hj hn)⟩

theorem Rn.keep (h : Rn w0 w bt q z v L) (k : K w w') : Rn w0 w' bt q z v L := ⟨h.tb.keep k, h.k.trans k⟩
theorem Rn.step (h : Rn w0 w bt q z v L) (t : Tab w' w0.heap.size bt q z v' L') (k : Kept (foot bt v) w w') : Rn w0 w' bt q z v' L' := ⟨t, K.thenFoot h.k h.tb k⟩
theorem Rn.kept (h : Rn w0 w bt q z v L) {O : Nat → Prop} (k : Kept O w w') (hO : ∀ g, O g → w0.heap.size ≤ g ∧ ¬ foot bt v g) : Rn w0 w' bt q z v L :=
  ⟨h.tb.kept k (fun g hg ho => (hO g ho).2 hg), ⟨k.os.trans h.k.os, k.tape.trans h.k.tape, k.output.trans h.k.output, Nat.le_trans h.k.size k.size, fun j hj hn => (k.same j (Nat.lt_of_lt_of_le hj h.k.size) (fun hf => by have := (hO j hf).1; omega)).trans (h.k.same j hj hn)⟩⟩

theorem new_rn (q z : Int) (w : World) (q0 : 1 ≤ q) (q1 : q ≤ 65536) (z0 : 1 ≤ z) (z1 : z ≤ 4294967295) : Calls Tryz.prog 74 #[.int .i64 q, .int .u32 z] w fun e w' => e = .returned (.tuple #[tp w.heap.size, .int .i64 0]) ∧ Rn w w' w.heap.size q z (.slice none 0 0) [] := by
  refine (new_ok q z w q0 q1 z0 z1).mono ?_
  rintro e w1 ⟨rfl, h, k⟩
  exact ⟨rfl, h, k⟩

theorem Rn.open (h : Rn w0 w bt q z v L) (a x er : Int) (L' : List Sl) (a1 : a ≤ 9223372036854775807) (e : openL q z L a = (x, er, L')) : Calls Tryz.prog 88 #[tp bt, .int .i64 a] w fun e w' => e = .returned (.tuple #[.int .u64 x, .int .i64 er]) ∧ ∃ v', Rn w0 w' bt q z v' L' := by
  have := open_any h.tb a a1
  rw [e] at this
  refine this.mono ?_
  rintro e w1 ⟨rfl, v', t, k, _⟩
  exact ⟨rfl, v', h.step t k⟩
theorem Rn.close (h : Rn w0 w bt q z v L) (x er : Int) (L' : List Sl) (hx : U64 x) (e : closeL L x = (er, L')) : Calls Tryz.prog 62 #[tp bt, .int .u64 x] w fun e w' => e = .returned (.int .i64 er) ∧ Rn w0 w' bt q z v L' := by
  have := close_any h.tb x hx
  rw [e] at this
  refine this.mono ?_
  rintro e w1 ⟨rfl, t, k⟩
  exact ⟨rfl, h.step t k⟩
theorem Rn.at (h : Rn w0 w bt q z v L) (x a er : Int) (hx : U64 x) (e : atL L x = (a, er)) : Calls Tryz.prog 90 #[tp bt, .int .u64 x] w fun e w' => e = .returned (.tuple #[.int .i64 a, .int .i64 er]) ∧ Rn w0 w' bt q z v L := by
  have := at_any h.tb x hx
  rw [e] at this
  refine this.mono ?_
  rintro e w1 ⟨rfl, k⟩
  exact ⟨rfl, h.keep k⟩

end Hd
end Go.Proofs.YtbbjfebdihepnaaGreatDoor

/-
  The walk of Live.
-/
namespace Go.Proofs.YtbbjfebdihepnaaGreatDoor
open Go.RowKit Go.Maps
namespace Hd
open Hp (Kept K No)
variable {w0 w w' : World} {B bt : Nat} {q z : Int} {v v' : Value} {L L' : List Sl}

def encU (x : Int) : Value := .int .u64 x

theorem live_app : ∀ (A C : List Sl) (n : Int), liveFrom n (A ++ C) = liveFrom n A ++ liveFrom (n + A.length) C
  | [], C, n => by simp [liveFrom]
  | s :: A, C, n => by
    have ih := live_app A C (n + 1)
    have e : n + 1 + (A.length : Int) = n + ((s :: A).length : Int) := by simp; omega
    rw [e] at ih
    generalize n + ((s :: A).length : Int) = m at ih ⊢
    rw [List.cons_append, show liveFrom n (s :: (A ++ C)) = if s.o then nm n s.g :: liveFrom (n + 1) (A ++ C) else liveFrom (n + 1) (A ++ C) from rfl, show liveFrom n (s :: A) = if s.o then nm n s.g :: liveFrom (n + 1) A else liveFrom (n + 1) A from rfl, ih]
    split <;> rfl
theorem live_succ {i : Nat} {s : Sl} (h : L[i]? = some s) : liveL (L.take (i + 1)) = liveL (L.take i) ++ (if s.o then [nm (i + 1) s.g] else []) := by
  obtain ⟨hi, he⟩ := List.getElem?_eq_some_iff.1 h
  unfold liveL
  rw [List.take_succ_eq_append_getElem hi, live_app, he, List.length_take, Nat.min_eq_left (by omega)]
  congr 1
  unfold liveFrom
  rw [show (1 : Int) + i = i + 1 by omega]
  cases s.o <;> rfl
theorem live_len : ∀ (A : List Sl) (n : Int), (liveFrom n A).length ≤ A.length
  | [], _ => Nat.le_refl _
  | s :: A, n => by
    have := live_len A (n + 1)
    unfold liveFrom
    split <;> simp <;> omega

theorem one_u (x : Int) : ∀ u ∈ [encU x], u.oneCell' = true := fun u hu => by
  obtain rfl : u = encU x := by simpa using hu
  rfl

theorem info_handle : ∃ i0, Tryz.prog.info? 28 = some i0 ∧ i0.size = 1 ∧ i0.bytes = 8 ∧ ∃ z, i0.zero = some z ∧ z.cells.size = 1 := by
  have hi : (Tryz.prog.info? 28).map (fun i => (i.zero.map (fun z => z.cells.size), i.size, i.bytes)) = some (some 1, 1, 8) := by kernel_rfl
  obtain ⟨i0, h1, h2⟩ := Option.map_eq_some_iff.1 hi
  simp only [Prod.mk.injEq] at h2
  obtain ⟨h3, h4, h5⟩ := h2
  obtain ⟨z, h6, h7⟩ := Option.map_eq_some_iff.1 h3
  exact ⟨i0, h1, h4, h5, z, h6, h7⟩

theorem K.thenGrown {w1 : World} {o : Obj} (h : K w0 w) {row : Option Nat} (hg : (w.alloc o).grownBy w1 row) (hr : ∀ g, some g = row → w0.heap.size ≤ g) : K w0 w1 := by
  have hsz := hg.size
  simp at hsz
  exact ⟨hg.os.trans h.os, hg.tape.trans h.tape, hg.output.trans h.output, Nat.le_trans h.size (by omega), fun j hj hn => by
    have hjw := Nat.lt_of_lt_of_le hj h.size
    rw [hg.block j (by simp; omega) (fun e => by have := hr j e; omega), Below.heap_alloc w o j hjw]
    exact h.same j hj hn⟩

set_option maxHeartbeats 1000000 in
theorem live_any (h : Tab w B bt q z v L) : Calls Tryz.prog 109 #[tp bt] w fun e w' => ∃ v', e = .returned v' ∧ w'.ownsRow w.heap.size 28 1 v' (liveL L).length ((liveL L).map encU) ∧ K w w' := by
  have hm := made_ok h
  obtain ⟨g, a, cap, rfl, hr, hg, hcap⟩ := h.form
  have c2 := h.c2
  have hlen := h.wf.len
  have hq1 := h.wf.q1
  obtain ⟨i0, hi, hsz, hby, zz, hz, hzs⟩ := info_handle
  have HI : Aside (Tryz.prog.info? 28 = some i0 ∧ i0.size = 1 ∧ i0.bytes = 8 ∧ i0.zero = some zz ∧ zz.cells.size = 1) := ⟨hi, hsz, hby, hz, hzs⟩
  have HT : Aside _ := h
  have HR : Aside _ := hr
  clear h hr hg hi hsz hby hz hzs
  go_enter Tryz.func109, Tryz.ntmps109
  go_wp2_with (go_at_call 122; refine hm.mono ?_; rintro e w1 ⟨rfl, rfl⟩)
  go_loopg [3, 14] L.length (fun gh t3 t wx => ∃ (i n : Nat), i + gh = L.length ∧ t = .int .i64 i ∧ n ≤ i ∧ Aside (wx.ownsRow w.heap.size 28 1 t3 n ((liveL (L.take i)).map encU)) ∧ Aside (n = (liveL (L.take i)).length) ∧ K w wx)
  case atStart => exact ⟨0, 0, by omega, rfl, Nat.le_refl _, World.ownsRow_nil _ _ _ _, rfl, K.refl _⟩
  case round =>
    obtain ⟨i, n, hig, rfl, hni, HW, HN, hk⟩ := hrel
    by_cases hlt : i < L.length
    · obtain ⟨s, hs⟩ : ∃ s, L[i]? = some s := ⟨L[i], List.getElem?_eq_getElem hlt⟩
      have hix := HR.out.ix i hlt
      have hrx := HR.out.keep hk
      have d0 := hrx.c0 i s hs
      have d1 := hrx.c1 i s hs
      have d2 := hrx.c2 i s hs
      have hk2 := hk.alloc (.cells #[.bool s.o, .int .u32 s.g, .int .i64 s.a] 170)
      have hkd := kindOf_any (HT.out.keep hk2) s
      have hok := HT.out.wf.get hs
      have g1 : s.g ≤ 4294967295 := Int.le_trans hok.hi HT.out.wf.z1
      have g0 := hok.lo
      have HS : Aside _ := hs
      clear hs hrx hok
      go_wp2_with fail
      refine hkd.mono ?_
      rintro e w2 ⟨rfl, hk3⟩
      have hk4 := hk2.trans hk3
      by_cases ho : s.o = true
      · have hd : (kd z s == 1) = true := by simp [kd, ho]
        have hnm : ∀ w, _ := fun w => name_any (w := w) ((i : Int) + 1) s.g (by omega) (by omega) (by omega) g1
        have d5 : w2.cell? ⟨wr.heap.size, 1, none⟩ = some (.int .u32 s.g) := hk3.cell (by simp [World.cell?_alloc_new])
        have hrow : w2.ownsRow w.heap.size 28 1 u3 n ((liveL (L.take i)).map encU) := ownsRow_kept (O := No) HW.out (((K.refl wr).alloc _).trans hk3) (fun _ _ x => x)
        have HO : Aside _ := ho
        have hB := Kept.size hk4
        clear hkd ho
        go_wp2_with (first
          | (go_at_call 124; refine (hnm _).mono ?_; rintro e w1 ⟨rfl, rfl⟩)
          | (at_builtin
             refine wpList_append_own_at _ rfl _ _ 45 rfl w.heap.size 28 i0 zz 1 8 Tryz.underlying45 HI.out.1 HI.out.2.2.2.1 HI.out.2.1 HI.out.2.2.1 HI.out.2.2.2.2 (by decide) _ n _ rfl (hrow.alloc _) ⟨w2.heap.size, 0, none⟩ 1 1 [encU (nm (i + 1) s.g)] rfl rfl (src_one w2 #[.int .u64 (nm (i + 1) s.g)] 28) (one_u _) (by unfold maxLen; omega) (by omega) (by simp; omega) ?_
             intro v4 w4 hown hgrow _ hat))
        go_roundg (L.length - (i + 1))
        case measure => omega
        case rel =>
          have e : liveL (L.take (i + 1)) = liveL (L.take i) ++ [nm (i + 1) s.g] := by
            rw [live_succ HS.out, if_pos HO.out]
          refine ⟨i + 1, n + 1, by omega, by go_num, by omega, ?_, ?_, K.thenGrown hk4 hgrow (fun g hg => (own_lt hrow hg).1)⟩
          · rw [e, List.map_append]
            exact hown
          · rw [e, List.length_append, ← HN.out]
            rfl
      · have hd : (kd z s == 1) = false := by
          by_cases e : s.g = z <;> simp [kd, ho, e]
        have HO : Aside _ := ho
        clear hkd ho
        go_wp2
        go_roundg (L.length - (i + 1))
        case measure => omega
        case rel =>
          have e : liveL (L.take (i + 1)) = liveL (L.take i) := by
            rw [live_succ HS.out, if_neg HO.out, List.append_nil]
          refine ⟨i + 1, n, by omega, by go_num, by omega, ?_, ?_, hk4⟩
          · rw [e]
            exact ownsRow_kept (O := No) HW.out (((K.refl wr).alloc _).trans hk3) (fun _ _ x => x)
          · rw [e]
            exact HN.out
    · go_wp2
      go_ret
      have e : L.take i = L := List.take_of_length_le (by omega)
      have := HW.out
      rw [HN.out, e] at this
      exact ⟨_, rfl, this, hk⟩

end Hd
end Go.Proofs.YtbbjfebdihepnaaGreatDoor

/-
  Walks of Clone, Raw, mayBe, Of.
-/
namespace Go.Proofs.YtbbjfebdihepnaaGreatDoor
open Go.RowKit Go.Maps
namespace Hd
open Hp (Kept K No)
variable {w w' : World} {B bt : Nat} {q z : Int} {v : Value} {L : List Sl}

/-- A slice that holds the slots L: nil, or the cells behind an address. -/
structure Src (w : World) (a : Option Addr) (b off n cap : Nat) (L : List Sl) : Prop where
  len : L.length = n
  ix : ∀ i : Nat, i < n → ∀ w', (Instr.indexAt 101 (.slice a n cap) (.int .i64 (i : Int))).run Tryz.prog w' = .ok (.pointer (some ⟨b, off + i * 3, none⟩)) w'
  cell : ∀ j u, (rowVals L)[j]? = some u → w.cell? ⟨b, off + j, none⟩ = some u
  form : 0 < n → a = some ⟨b, off, none⟩
theorem Src.keep {a : Option Addr} {b off n cap : Nat} (h : Src w a b off n cap L) (k : K w w') : Src w' a b off n cap L := ⟨h.len, h.ix, fun j u hu => k.cell (h.cell j u hu), h.form⟩

/-- A row of one's own is such a slice. -/
theorem src_own (h : w.ownsRow B 170 3 v L.length (rowVals L)) : ∃ a g cap, v = .slice a L.length cap ∧ Src w a g 0 L.length cap L := by
  obtain ⟨g, a, cap, hv, hr, hf, _⟩ := row_form h
  refine ⟨a, g, cap, hv, rfl, fun i hi w' => by rw [Nat.zero_add]; exact hr.ix i hi w', fun j u hu => ?_, fun hp => ?_⟩
  · rw [Nat.zero_add]
    rcases h.2 with ⟨_, h0⟩ | ⟨g2, c2, cur, hv2, _, hbk, _, _, _, h5⟩
    · have : L = [] := List.eq_nil_of_length_eq_zero h0
      subst this
      simp [rowVals] at hu
    · rw [hv] at hv2
      cases hv2
      rcases hf with ⟨he, _⟩ | ⟨he, _⟩
      · cases he
        have hj := (List.getElem?_eq_some_iff.1 hu).1
        rw [row_len] at hj
        rw [← h5, List.getElem?_take, if_pos hj] at hu
        simp only [World.cell?, hbk]
        rw [if_neg (by simp), ← Array.getElem?_toList]
        exact hu
      · cases he
  · rcases hf with ⟨he, _⟩ | ⟨_, he, _⟩
    · exact he
    · subst he
      simp at hp

set_option maxHeartbeats 1000000 in
theorem clone_any {a : Option Addr} {b off n cap : Nat} (h : Src w a b off n cap L) (hn : n ≤ 65536) : Calls Tryz.prog 107 #[.slice a n cap] w fun e w' => ∃ v', e = .returned v' ∧ w'.ownsRow w.heap.size 170 3 v' n (rowVals L) ∧ K w w' := by
  obtain ⟨i0, hi, hsz, hby, zz, hz, hzs⟩ := info_slot
  have HI : Aside (Tryz.prog.info? 170 = some i0 ∧ i0.size = 3 ∧ i0.bytes = 16 ∧ i0.zero = some zz ∧ zz.cells.size = 3) := ⟨hi, hsz, hby, hz, hzs⟩
  have hlen := h.len
  have HL : Aside (L.length = n) := hlen
  have HS : Aside _ := h
  clear hi hsz hby hz hzs h hlen
  cases a with
  | none =>
    have h0 : n = 0 := by
      by_cases e : n = 0
      · exact e
      · have := HS.out.form (by omega)
        cases this
    subst h0
    have hL : L = [] := List.eq_nil_of_length_eq_zero HL.out
    subst hL
    clear HS HL
    have heq : ∀ w, (binOp .eql 101 (.slice none 0 cap) (.slice none 0 0)).run Tryz.prog w = .ok (.bool true) w := fun w => Lib.run_eql_slice_nil w 101 170 none 0 cap 0 0 Tryz.underlying101
    go_enter Tryz.func107, Tryz.ntmps107
    go_wp2
    go_ret
    exact ⟨_, rfl, World.ownsRow_nil _ _ _ _, K.refl _⟩
  | some ad =>
    have hsrc : ∀ j u, (rowVals L)[j]? = some u → (w.alloc (.cells #[] 170)).cell? (ad.add j) = some u := fun j u hu => by
      have hp : 0 < n := by
        have := (List.getElem?_eq_some_iff.1 hu).1
        rw [row_len, HL.out] at this
        omega
      have e := HS.out.form hp
      cases e
      rw [Go.WideShapes.add_plain]
      exact ((K.refl w).alloc (.cells #[] 170)).cell (HS.out.cell j u hu)
    have HSRC : Aside _ := hsrc
    clear hsrc
    have heq : ∀ w, (binOp .eql 101 (.slice (some ad) n cap) (.slice none 0 0)).run Tryz.prog w = .ok (.bool false) w := fun w => Lib.run_eql_slice_nil w 101 170 (some ad) n cap 0 0 Tryz.underlying101
    go_enter Tryz.func107, Tryz.ntmps107
    go_wp2_with (at_builtin
                 refine wpList_append_own_at _ rfl _ _ 101 rfl w.heap.size 170 i0 zz 3 16 Tryz.underlying101 HI.out.1 HI.out.2.2.2.1 HI.out.2.1 HI.out.2.2.1 HI.out.2.2.2.2 (by decide) _ 0 [] rfl (World.ownsRow_made w #[] 0 (Nat.le_refl _) (by unfold maxLen; omega) rfl) ad n cap (rowVals L) rfl (by rw [row_len, HL.out]) HSRC.out (row_one L) (by unfold maxLen; omega) (by omega) (by simp) ?_
                 intro v4 w4 hown hgrow _ hat)
    go_ret
    refine ⟨_, rfl, ?_, K.thenGrown (K.refl w) hgrow (fun g hg => ?_)⟩
    · rw [Nat.zero_add, List.nil_append] at hown
      exact hown
    · have e : g = w.heap.size := Option.some.inj hg
      omega

theorem raw_any (h : Tab w B bt q z v L) : Calls Tryz.prog 151 #[tp bt] w fun e w' => ∃ v', e = .returned v' ∧ w'.ownsRow w.heap.size 170 3 v' L.length (rowVals L) ∧ K w w' := by
  have hm := made_ok h
  have c2 := h.c2
  obtain ⟨a, g, cap, rfl, hs⟩ := src_own h.row
  have hlen := h.wf.len
  have hq1 := h.wf.q1
  have hc := clone_any hs (by omega)
  clear h hs
  go_enter Tryz.func151, Tryz.ntmps151
  go_wp2_with (first
    | (go_at_call 122; refine hm.mono ?_; rintro e w1 ⟨rfl, rfl⟩)
    | (go_at_call 107; refine hc.mono ?_; rintro e w1 ⟨v1, rfl, hown, hk⟩))
  go_ret
  exact ⟨_, rfl, hown, hk⟩

/-- What may be a slot. -/
def mb (z : Int) (s : Sl) : Bool := decide (1 ≤ s.g) && decide (s.g ≤ z) && decide (0 ≤ s.a) && (s.o || decide (s.a = 0))

theorem mb_ok {s : Sl} (h : mb z s = true) (a1 : s.a ≤ 9223372036854775807) : Ok z s := by
  simp [mb] at h
  obtain ⟨⟨⟨h1, h2⟩, h3⟩, h4⟩ := h
  exact ⟨h1, h2, h3, a1, fun ho => by rcases h4 with h4 | h4 <;> first | (rw [ho] at h4; cases h4) | exact h4⟩
set_option maxHeartbeats 1000000 in
theorem mayBe_any (h : Tab w B bt q z v L) (s : Sl) (_ : 0 ≤ s.g) : Calls Tryz.prog 106 #[tp bt, .agg #[.bool s.o, .int .u32 s.g, .int .i64 s.a]] w fun e w' => e = .returned (.bool (mb z s)) ∧ K w w' := by
  have c1 := h.c1
  have hlt := h.lt
  have hK : K w (w.alloc (.cells #[.bool s.o, .int .u32 s.g, .int .i64 s.a] 170)) := (K.refl _).alloc _
  have HT : Aside _ := h
  clear h
  have HKD : Aside (∀ wx, K w wx → Calls Tryz.prog 133 #[tp bt, .agg #[.bool s.o, .int .u32 s.g, .int .i64 s.a]] wx fun e w' => e = .returned (.int .i64 (kd z s)) ∧ K wx w') := fun wx k => kindOf_any (HT.out.keep k) s
  obtain ⟨o, g, a⟩ := s
  by_cases h1 : g < 1
  · have E : Hid (mb z ⟨o, g, a⟩ = false) := by
      have : ¬ 1 ≤ g := by omega
      simp [mb, this, Hid]
    go_enter Tryz.func106, Tryz.ntmps106
    go_wp2
    go_quiet (fail)
    go_wp2
    go_ret
    exact ⟨by rw [E.out]; rfl, hK.drewN _⟩
  by_cases h2 : z < g
  · have E : Hid (mb z ⟨o, g, a⟩ = false) := by
      have : ¬ g ≤ z := by omega
      simp [mb, this, Hid]
    go_enter Tryz.func106, Tryz.ntmps106
    go_wp2
    go_quiet (fail)
    go_wp2
    go_ret
    exact ⟨by rw [E.out]; rfl, hK.drewN _⟩
  by_cases h3 : a < 0
  · have E : Hid (mb z ⟨o, g, a⟩ = false) := by
      have : ¬ 0 ≤ a := by omega
      simp [mb, this, Hid]
    go_enter Tryz.func106, Tryz.ntmps106
    go_wp2
    go_quiet (fail)
    go_wp2
    go_ret
    exact ⟨by rw [E.out]; rfl, hK.drewN _⟩
  have E0 : Hid (mb z ⟨o, g, a⟩ = (o || decide (a = 0))) := by
    have g1 : 1 ≤ g := by omega
    have g2 : g ≤ z := by omega
    have g3 : 0 ≤ a := by omega
    simp [mb, g1, g2, g3, Hid]
  cases o with
  | true =>
    have hd : (kd z ⟨true, g, a⟩ == 1) = true := rfl
    have E : Hid (mb z ⟨true, g, a⟩ = true) := E0.out
    go_enter Tryz.func106, Tryz.ntmps106
    go_wp2
    go_quiet (fail)
    go_wp2_with fail
    refine (HKD.out _ (hK.drewN _)).mono ?_
    rintro e w3 ⟨rfl, k3⟩
    go_wp2
    go_ret
    exact ⟨by rw [E.out]; rfl, (hK.drewN _).trans k3⟩
  | false =>
    have hd : (kd z ⟨false, g, a⟩ == 1) = false := by by_cases e : g = z <;> simp [kd, e]
    have E : Hid (mb z ⟨false, g, a⟩ = decide (a = 0)) := E0.out
    have hcell : (w.alloc (.cells #[.bool false, .int .u32 g, .int .i64 a] 170)).cell? ⟨w.heap.size, 2, none⟩ = some (.int .i64 a) := by simp [World.cell?_alloc_new]
    go_enter Tryz.func106, Tryz.ntmps106
    go_wp2
    go_quiet (fail)
    go_wp2_with fail
    refine (HKD.out _ (hK.drewN _)).mono ?_
    rintro e w3 ⟨rfl, k3⟩
    have c3 := k3.cell (((K.refl _).drewN _).cell hcell)
    go_wp2
    go_ret
    exact ⟨by rw [E.out]; rfl, (hK.drewN _).trans k3⟩

/-- What Of takes. -/
def okL (q z : Int) (L : List Sl) : Bool := decide ((L.length : Int) ≤ q) && L.all (mb z)

theorem okL_wf (h : okL q z L = true) (q0 : 1 ≤ q) (q1 : q ≤ 65536) (z0 : 1 ≤ z) (z1 : z ≤ 4294967295) (ha : ∀ s ∈ L, s.a ≤ 9223372036854775807) : Wf q z L := by
  simp only [okL, Bool.and_eq_true, decide_eq_true_eq, List.all_eq_true] at h
  exact ⟨q0, q1, z0, z1, h.1, fun s hs => mb_ok (h.2 s hs) (ha s hs)⟩
/-- A slot's three values, off the source's cells. -/
theorem Src.at {a : Option Addr} {b off n cap i : Nat} {s : Sl} (h : Src w a b off n cap L) (hs : L[i]? = some s) : w.cell? ⟨b, off + i * 3, none⟩ = some (.bool s.o) ∧ w.cell? ⟨b, off + i * 3 + 1, none⟩ = some (.int .u32 s.g) ∧ w.cell? ⟨b, off + i * 3 + 2, none⟩ = some (.int .i64 s.a) := by
  obtain ⟨h0, h1, h2⟩ := row_at hs
  refine ⟨h.cell _ _ h0, ?_, ?_⟩
  · have := h.cell _ _ h1
    rw [← Nat.add_assoc] at this
    exact this
  · have := h.cell _ _ h2
    rw [← Nat.add_assoc] at this
    exact this

/-- What Of tells of slots that are not too many. -/
def OfPost (w : World) (q z : Int) (L : List Sl) (e : Ending) (w' : World) : Prop :=
  (okL q z L = false ∧ e = .returned (.tuple #[.pointer none, .int .i64 8]) ∧ K w w') ∨ (okL q z L = true ∧ ∃ v, e = .returned (.tuple #[tp w.heap.size, .int .i64 0]) ∧ Tab w' w.heap.size w.heap.size q z v L ∧ K w w')

set_option maxHeartbeats 1000000 in
theorem of_in {a : Option Addr} {b off n cap : Nat} (q z : Int) (h : Src w a b off n cap L) (q0 : 1 ≤ q) (q1 : q ≤ 65536) (z0 : 1 ≤ z) (z1 : z ≤ 4294967295) (hl : n ≤ q) (hL : ∀ s ∈ L, 0 ≤ s.g ∧ s.a ≤ 9223372036854775807) : Calls Tryz.prog 76 #[.int .i64 q, .int .u32 z, .slice a n cap] w (OfPost w q z L) := by
  have hn := new_rn q z w q0 q1 z0 z1
  have HS : Aside _ := h
  have HL : Aside (L.length = n) := h.len
  have HOK : Aside _ := hL
  clear h hL
  go_enter Tryz.func76, Tryz.ntmps76
  go_wp2_with fail
  refine hn.mono ?_
  rintro e w1 ⟨rfl, h1⟩
  have hbt : w.heap.size = w.heap.size := rfl
  clear hn
  go_wp2
  go_loopg [27] n (fun gh t wx => ∃ i : Nat, i + gh = n ∧ t = .int .i64 i ∧ Aside (∀ j s, j < i → L[j]? = some s → mb z s = true) ∧ Rn w wx w.heap.size q z (.slice none 0 0) [])
  case atStart => exact ⟨0, by omega, rfl, fun j s hj => by omega, h1⟩
  case round =>
    obtain ⟨i, hig, rfl, HI, hr⟩ := hrel
    clear h1 hbt
    by_cases hlt : i < n
    · obtain ⟨s, hs⟩ : ∃ s, L[i]? = some s := ⟨_, List.getElem?_eq_getElem (by rw [HL.out]; exact hlt)⟩
      have hix := HS.out.ix i hlt
      obtain ⟨d0, d1, d2⟩ := (HS.out.keep hr.k).at hs
      have hk2 : K wr (wr.alloc (.cells #[.bool s.o, .int .u32 s.g, .int .i64 s.a] 170)) := (K.refl _).alloc _
      have hr2 := hr.keep hk2
      have hm := mayBe_any hr2.tb s (HOK.out s (List.mem_of_getElem? hs)).1
      have HSS : Aside _ := hs
      have HR2 : Aside _ := hr2
      clear hs hk2 hr2 hr
      go_wp2_with fail
      refine hm.mono ?_
      rintro e w2 ⟨rfl, hk3⟩
      have hr3 := HR2.out.keep hk3
      by_cases hb : mb z s = true
      · rw [hb]
        have HB : Aside _ := hb
        clear hm hk3 hb
        go_wp2
        go_roundg (n - (i + 1))
        case measure => omega
        case rel =>
          refine ⟨i + 1, by omega, by go_num, fun j t hj ht => ?_, hr3⟩
          by_cases e : j = i
          · subst e
            obtain rfl : s = t := Option.some.inj (HSS.out.symm.trans ht)
            exact HB.out
          · exact HI.out j t (by omega) ht
      · have hb2 : mb z s = false := by simpa using hb
        rw [hb2]
        have HB : Aside (okL q z L = false) := by
          show okL q z L = false
          cases e : okL q z L with
          | false => rfl
          | true =>
            simp only [okL, Bool.and_eq_true, List.all_eq_true] at e
            exact absurd (e.2 s (List.mem_of_getElem? HSS.out)) hb
        have hk := hr3.k
        clear hm hk3 hb hb2 hr3
        go_wp2
        go_ret2
        exact .inl ⟨HB.out, rfl, hk⟩
    · have hok : okL q z L = true := by
        simp only [okL, Bool.and_eq_true, decide_eq_true_eq, List.all_eq_true]
        refine ⟨by rw [HL.out]; exact hl, fun s hs => ?_⟩
        obtain ⟨j, hj⟩ := List.getElem?_of_mem hs
        exact HI.out j s (by have := (List.getElem?_eq_some_iff.1 hj).1; rw [HL.out] at this; omega) hj
      have hwf := okL_wf hok q0 q1 z0 z1 (fun s hs => (HOK.out s hs).2)
      have HWF : Aside _ := hwf
      have HK : Aside _ := hok
      have hc := clone_any (HS.out.keep hr.k) (by omega)
      have HR : Aside _ := hr
      clear hok hwf hr
      go_wp2_with fail
      refine hc.mono ?_
      rintro e w2 ⟨v2, rfl, hown, hk2⟩
      have hr2 := HR.out.keep hk2
      have hd := hr2.tb.hd
      have c2 := hr2.tb.c2
      have f2 := hr2.tb.fz 2
      have hlt2 := hr2.tb.lt
      have hT : Tab (w2.setCell ⟨w.heap.size, 2, none⟩ v2) w.heap.size w.heap.size q z v2 L := by
        have k4 : Kept (fun k => k = w.heap.size) w2 (w2.setCell ⟨w.heap.size, 2, none⟩ v2) := (Kept.refl _ _).setCell _ (.inl rfl)
        have hsz := HR.out.tb.lt
        refine ⟨?_, ?_, fun e => ?_, HWF.out, Nat.le_refl _⟩
        · simp only [World.setCell]
          rw [Array.getElem?_modify, if_pos rfl, hd]
          rfl
        · rw [HL.out]
          refine ⟨hown.1, ?_⟩
          rcases (ownsRow_kept hown k4 (fun g hg e => by
            have := (own_lt hown hg).1
            omega)).2 with h2 | ⟨g, c, cur, hv, hb, rest⟩
          · exact .inl h2
          · exact .inr ⟨g, c, cur, hv, by omega, rest⟩
        · have := (own_lt hown e.symm).1
          omega
      have hK : K w (w2.setCell ⟨w.heap.size, 2, none⟩ v2) := hr2.k.setCell v2 (Nat.le_refl _)
      obtain ⟨a2, c2', hv2⟩ : ∃ a cap, v2 = .slice a n cap := by
        rcases hown.2 with ⟨hv, h0⟩ | ⟨g, c, cur, hv, _⟩
        · exact ⟨none, 0, by rw [hv, h0]⟩
        · exact ⟨_, _, hv⟩
      subst hv2
      have HT : Aside _ := hT
      have HKK : Aside _ := hK
      clear hc hr2 hT hK hown hd hk2
      go_wp2
      go_ret2
      exact .inr ⟨HK.out, _, rfl, HT.out, HKK.out⟩

end Hd
end Go.Proofs.YtbbjfebdihepnaaGreatDoor
