/-
  The walk of Open.
-/
import Derived.Test.YtfokpiapaacagaaDCalls
namespace Go.Proofs.Ytfokpiapaacagaa
open Go.RowKit Go.Maps
namespace Hd
open Hp (Kept K No)
variable {w w' : World} {B bt : Nat} {q z : Int} {v : Value} {L : List Sl}

/-- What Open leaves: the table with the slots L', and of what was there its own blocks alone turned; its row may lie in a new block. -/
def OpenPost (w : World) (B bt : Nat) (q z : Int) (v : Value) (L' : List Sl) (w' : World) : Prop :=
  ∃ v', Tab w' B bt q z v' L' ∧ Kept (foot bt v) w w' ∧ ∀ k, foot bt v' k → foot bt v k ∨ w.heap.size ≤ k

theorem OpenPost.same (h : Tab w B bt q z v L) (k : K w w') : OpenPost w B bt q z v L w' := ⟨v, h.keep k, k.kept _, fun _ hk => .inl hk⟩

theorem info_slot : ∃ i0, Try.prog.info? 62 = some i0 ∧ i0.size = 3 ∧ i0.bytes = 16 ∧ ∃ z, i0.zero = some z ∧ z.cells.size = 3 := by
  have hi : (Try.prog.info? 62).map (fun i => (i.zero.map (fun z => z.cells.size), i.size, i.bytes)) = some (some 3, 3, 16) := by kernel_rfl
  obtain ⟨i0, h1, h2⟩ := Option.map_eq_some_iff.1 hi
  simp only [Prod.mk.injEq] at h2
  obtain ⟨h3, h4, h5⟩ := h2
  obtain ⟨z, h6, h7⟩ := Option.map_eq_some_iff.1 h3
  exact ⟨i0, h1, h4, h5, z, h6, h7⟩

theorem open_neg (h : Tab w B bt q z v L) (a : Int) (a0 : a < 0) : Calls Try.prog 17 #[tp bt, .int .i64 a] w fun e w' => e = .returned (.tuple #[.int .u64 0, .int .i64 2]) ∧ w = w' := by
  have hm := made_ok h
  clear h
  go_enter Try.func17, Try.ntmps17
  go_wp2_with (go_at_call 28; refine hm.mono ?_; rintro e w1 ⟨rfl, rfl⟩)
  go_ret2
  exact ⟨rfl, rfl⟩

theorem open_full (h : Tab w B bt q z v L) (a : Int) (a0 : 0 ≤ a) (hf : freeAt z L = none) (hl : q ≤ L.length) : Calls Try.prog 17 #[tp bt, .int .i64 a] w fun e w' => e = .returned (.tuple #[.int .u64 0, .int .i64 10]) ∧ K w w' := by
  have hm := made_ok h
  have hlf := leastFree_any h
  rw [show lfB q z L = false by simp [lfB, hf]; omega] at hlf
  generalize lfN z L = N at hlf
  clear h hf
  go_enter Try.func17, Try.ntmps17
  go_wp2_with (first
    | (go_at_call 28; refine hm.mono ?_; rintro e w1 ⟨rfl, rfl⟩)
    | (go_at_call 32; refine hlf.mono ?_; rintro e w1 ⟨rfl, hk1⟩))
  go_ret2
  exact ⟨rfl, by assumption⟩

set_option maxHeartbeats 1000000 in
theorem open_free (h : Tab w B bt q z v L) (a : Int) (a0 : 0 ≤ a) (a1 : a ≤ 9223372036854775807) (i : Nat) (s : Sl) (hf : freeAt z L = some i) (hs : L[i]? = some s) :
    Calls Try.prog 17 #[tp bt, .int .i64 a] w fun e w' => e = .returned (.tuple #[.int .u64 (nm (i + 1) (s.g + 1)), .int .i64 0]) ∧ Tab w' B bt q z v (L.set i ⟨true, s.g + 1, a⟩) ∧ Kept (foot bt v) w w' := by
  have hm := made_ok h
  have hlf := leastFree_any h
  rw [show lfB q z L = true by simp [lfB, hf], show lfN z L = i + 1 by simp [lfN, hf]] at hlf
  obtain ⟨s', hs', hfr, _⟩ := freeAt_some hf
  obtain rfl : s' = s := Option.some.inj (hs'.symm.trans hs)
  have hok := Ok.opened h.wf hs hfr a0 a1
  have g0 := (h.wf.get hs).lo
  have g1 : s'.g + 1 ≤ 4294967295 := Int.le_trans hok.hi h.wf.z1
  have hil := (List.getElem?_eq_some_iff.1 hs).1
  have hlen := h.wf.len
  have hq1 := h.wf.q1
  obtain ⟨g, ad, cap, rfl, hr, hg, hcap⟩ := h.form
  rcases hg with ⟨rfl, _, _⟩ | ⟨_, hnil, _⟩
  rotate_left
  · exfalso
    subst hnil
    simp at hil
  have hix := run_ixs g L.length cap i hil
  have hnm : ∀ w, _ := fun w => name_any (w := w) ((i : Int) + 1) (s'.g + 1) (by omega) (by omega) (by omega) g1
  have HT : Aside _ := h
  have HS : Aside _ := hs
  have HOK : Aside _ := hok
  clear h hs hok hfr hs' hf hr
  go_enter Try.func17, Try.ntmps17
  go_wp2_with (first
    | (go_at_call 28; refine hm.mono ?_; rintro e w1 ⟨rfl, rfl⟩)
    | (go_at_call 32; refine hlf.mono ?_; rintro e w1 ⟨rfl, hk1⟩; have hT1 := HT.out.keep hk1; have c2 := hT1.c2; obtain ⟨g', ad', cap', hv', hr', hg', _⟩ := hT1.form; cases hv'; rcases hg' with ⟨he', _, _⟩ | ⟨he', _, _⟩ <;> cases he'; have d0 := hr'.c0 i _ HS.out; have d1 := hr'.c1 i _ HS.out; have d2 := hr'.c2 i _ HS.out; have f0 := hr'.fz (by omega) (i * 3); have f1 := hr'.fz (by omega) (i * 3 + 1); have f2 := hr'.fz (by omega) (i * 3 + 2); have HP : Aside _ := hT1.set3 (i := i) hil HOK.out; clear hT1 hr' hlf)
    | (go_at_call 30; refine (hnm _).mono ?_; rintro e w1 ⟨rfl, rfl⟩))
  go_ret2
  exact ⟨rfl, HP.out.1, (K.kept (by assumption) _).trans HP.out.2⟩

/-- Behind the append of a slot, the store of the row, and the slot's own words. -/
theorem Tab.app {w1 w3 : World} {s0 s : Sl} {o : Obj} {g n cap : Nat} (h : Tab w1 B bt q z v L) (hl : (L.length : Int) < q) (hs : Ok z s) (hown : w3.ownsRow B 62 3 (.slice (some ⟨g, 0, none⟩) n cap) (L.length + 1) (rowVals L ++ slVals s0)) (hgrow : (w1.alloc o).grownBy w3 v.ownBlock) (hat : some g = v.ownBlock ∨ some g = some (w1.alloc o).heap.size) :
    n = L.length + 1 ∧ g ≠ bt ∧ w3.heap[bt]? = some (.cells #[.int .i64 q, .int .u32 z, v] 49) ∧ (∀ j, w3.frozen? ⟨g, j, none⟩ = false) ∧ (w3.cell? ⟨g, L.length * 3, none⟩ = some (.bool s0.o) ∧ w3.cell? ⟨g, L.length * 3 + 1, none⟩ = some (.int .u32 s0.g) ∧ w3.cell? ⟨g, L.length * 3 + 2, none⟩ = some (.int .i64 s0.a)) ∧
    Tab (Hd.set3 (w3.setCell ⟨bt, 2, none⟩ (.slice (some ⟨g, 0, none⟩) n cap)) g L.length s) B bt q z (.slice (some ⟨g, 0, none⟩) n cap) (L ++ [s]) ∧
    Kept (foot bt v) w1 (Hd.set3 (w3.setCell ⟨bt, 2, none⟩ (.slice (some ⟨g, 0, none⟩) n cap)) g L.length s) ∧ ∀ k, foot bt (.slice (some ⟨g, 0, none⟩) n cap) k → foot bt v k ∨ w1.heap.size ≤ k := by
  have hbt := h.lt
  have hne : g ≠ bt := fun e => by
    rcases hat with e2 | e2
    · exact h.ap (by rw [← e2, e])
    · rw [e] at e2
      simp at e2
      omega
  have hsz := hgrow.size
  simp at hsz
  have kk : Kept (fun k => some k = v.ownBlock) w1 w3 := ⟨hgrow.os, hgrow.tape, hgrow.output, by omega, fun k hk hn => by
    rw [hgrow.block k (by simp; omega) hn]
    exact Below.heap_alloc w1 o k hk⟩
  have hd3 : w3.heap[bt]? = some (.cells #[.int .i64 q, .int .u32 z, v] 49) := kk.block h.hd (fun e => h.ap e.symm)
  rw [show rowVals L ++ slVals s0 = rowVals (L ++ [s0]) by rw [row_app]; simp [rowVals], show L.length + 1 = (L ++ [s0]).length by simp] at hown
  have hown0 := hown
  obtain ⟨g2, ad, cap2, hv, hr, hg, hcap⟩ := row_form hown
  cases hv
  rcases hg with ⟨he, _⟩ | ⟨he, _⟩
  rotate_left
  · cases he
  cases he
  have hL : (L ++ [s0])[L.length]? = some s0 := by simp
  have k4 : Kept (fun k => k = bt) w3 (w3.setCell ⟨bt, 2, none⟩ (.slice (some ⟨g, 0, none⟩) (L ++ [s0]).length cap)) := (Kept.refl _ _).setCell _ (.inl rfl)
  have hd4 : (w3.setCell ⟨bt, 2, none⟩ (.slice (some ⟨g, 0, none⟩) (L ++ [s0]).length cap)).heap[bt]? = some (.cells #[.int .i64 q, .int .u32 z, .slice (some ⟨g, 0, none⟩) (L ++ [s0]).length cap] 49) := by
    simp only [World.setCell]
    rw [Array.getElem?_modify, if_pos rfl, hd3]
    rfl
  have hrow4 := ownsRow_kept hown0 k4 (fun k hk e => hne (by
    subst e
    simpa [Value.ownBlock] using hk.symm))
  have k5 : ∀ W : World, Kept (fun k => k = g) W (Hd.set3 W g L.length s) := fun W => by
    have k1 : Kept (fun k => k = g) W (W.setCell ⟨g, L.length * 3, none⟩ (.bool s.o)) := (Kept.refl _ _).setCell _ (.inl rfl)
    have k2 : Kept (fun k => k = g) W ((W.setCell ⟨g, L.length * 3, none⟩ (.bool s.o)).setCell ⟨g, L.length * 3 + 1, none⟩ (.int .u32 s.g)) := k1.setCell _ (.inl rfl)
    exact k2.setCell (p := ⟨g, L.length * 3 + 2, none⟩) (.int .i64 s.a) (.inl rfl)
  refine ⟨by simp, hne, hd3, hr.fz (by simp), ⟨hr.c0 _ _ hL, hr.c1 _ _ hL, hr.c2 _ _ hL⟩, ⟨(k5 _).block hd4 (fun e => hne e.symm), ?_, fun e => hne (by simpa [Value.ownBlock] using e), h.wf.app hs hl, h.lo⟩, ?_, ?_⟩
  · have e : L ++ [s] = (L ++ [s0]).set L.length s := by
      rw [List.set_append_right _ _ (Nat.le_refl _)]
      simp
    rw [e, List.length_set, ← row_set (by simp) s]
    exact own_set (own_set (own_set hrow4))
  · have c : ∀ k, k < w1.heap.size → k = g → some k = v.ownBlock := fun k hk e => by
      rcases hat with e2 | e2
      · rw [e, e2]
      · simp at e2
        omega
    refine ⟨((k5 _).os.trans k4.os).trans kk.os, ((k5 _).tape.trans k4.tape).trans kk.tape, ((k5 _).output.trans k4.output).trans kk.output, Nat.le_trans (Nat.le_trans kk.size k4.size) (k5 _).size, fun k hk hn => ?_⟩
    have n1 : k ≠ bt := fun e => hn (.inl e)
    have n2 : ¬ some k = v.ownBlock := fun e => hn (.inr e)
    have h3 : k < w3.heap.size := Nat.lt_of_lt_of_le hk kk.size
    rw [(k5 _).same k (Nat.lt_of_lt_of_le h3 k4.size) (fun e => n2 (c k hk e)), k4.same k h3 n1, kk.same k hk n2]
  · rintro k (rfl | hk)
    · exact .inl (.inl rfl)
    · have e : k = g := by simpa [Value.ownBlock] using hk
      subst e
      rcases hat with e2 | e2
      · exact .inl (.inr e2)
      · simp at e2
        exact .inr (by omega)

theorem src_one (w : World) (cells : Array Value) (ty : TypeId) : ∀ j u, cells.toList[j]? = some u → (w.alloc (.cells cells ty)).cell? ((⟨w.heap.size, 0, none⟩ : Addr).add j) = some u := fun j u hu => by
  rw [Go.WideShapes.add_plain, Nat.zero_add, World.cell?_alloc_new, ← Array.getElem?_toList]
  exact hu

theorem own_form {n m : Nat} {ty : TypeId} {xs : List Value} (h : w.ownsRow B ty m v (n + 1) xs) : ∃ g cap, v = .slice (some ⟨g, 0, none⟩) (n + 1) cap := by
  rcases h.2 with ⟨_, e⟩ | ⟨g, cap, _, e, _⟩
  · omega
  · exact ⟨g, cap, e⟩

set_option maxHeartbeats 1000000 in
theorem open_new (h : Tab w B bt q z v L) (a : Int) (a0 : 0 ≤ a) (a1 : a ≤ 9223372036854775807) (hf : freeAt z L = none) (hl : (L.length : Int) < q) :
    Calls Try.prog 17 #[tp bt, .int .i64 a] w fun e w' => e = .returned (.tuple #[.int .u64 (nm (L.length + 1) 1), .int .i64 0]) ∧ OpenPost w B bt q z v (L ++ [⟨true, 1, a⟩]) w' := by
  have hm := made_ok h
  have hlf := leastFree_any h
  rw [show lfB q z L = true by simp [lfB, hf]; omega, show lfN z L = L.length + 1 by simp [lfN, hf]] at hlf
  have hok : Ok z ⟨true, 1, a⟩ := ⟨Int.le_refl _, h.wf.z0, a0, a1, fun h => nomatch h⟩
  have hlen := h.wf.len
  have hq1 := h.wf.q1
  obtain ⟨i0, hi, hsz, hby, zz, hz, hzs⟩ := info_slot
  have HI : Aside (Try.prog.info? 62 = some i0 ∧ i0.size = 3 ∧ i0.bytes = 16 ∧ i0.zero = some zz ∧ zz.cells.size = 3) := ⟨hi, hsz, hby, hz, hzs⟩
  obtain ⟨g, ad, cap, rfl, hr, hg, hcap⟩ := h.form
  have hnm : ∀ w, _ := fun w => name_any (w := w) ((L.length : Int) + 1) 1 (by omega) (by omega) (by omega) (by omega)
  have HT : Aside _ := h
  have HOK : Aside _ := hok
  have HL : Aside _ := hl
  clear h hok hf hr hg hi hsz hby hz hzs
  go_enter Try.func17, Try.ntmps17
  go_wp2_with (first
    | (go_at_call 28; refine hm.mono ?_; rintro e w1 ⟨rfl, rfl⟩)
    | (go_at_call 32; refine hlf.mono ?_; rintro e w1 ⟨rfl, hk1⟩; have hT1 := HT.out.keep hk1; have c2 := hT1.c2; have HT1 : Aside _ := hT1; clear hT1 hlf)
    | (at_builtin
       refine wpList_append_own_at _ rfl _ _ 47 rfl B 62 i0 zz 3 16 Try.underlying47 HI.out.1 HI.out.2.2.2.1 HI.out.2.1 HI.out.2.2.1 HI.out.2.2.2.2 (by decide) _ L.length (rowVals L) rfl (HT1.out.row.alloc _) ⟨w1.heap.size, 0, none⟩ 1 1 (slVals ⟨false, 0, 0⟩) rfl rfl (src_one w1 #[.bool false, .int .u32 0, .int .i64 0] 62) (row_one [⟨false, 0, 0⟩]) (by unfold maxLen; omega) (by omega) (by have := HT1.out.lo; have := HT1.out.lt; simp; omega) ?_
       intro v3 w3 hown hgrow _ hat
       obtain ⟨g3, cap3, rfl⟩ := own_form hown
       obtain ⟨_, hne, hd3, hfz3, ⟨d0, d1, d2⟩, hT3, hk3, hft⟩ := HT1.out.app HL.out HOK.out hown hgrow hat
       have hix := run_ixs g3 (L.length + 1) cap3 L.length (by omega)
       have e2 : w3.cell? ⟨bt, 2, none⟩ = some (.slice ad L.length cap) := by simp [World.cell?, hd3]
       have f2 : w3.frozen? ⟨bt, 2, none⟩ = false := by simp [World.frozen?, hd3]
       have q0 := hfz3 (L.length * 3)
       have q1 := hfz3 (L.length * 3 + 1)
       have q2 := hfz3 (L.length * 3 + 2)
       have HP : Aside _ := And.intro hT3 (And.intro hk3 hft)
       clear hT3 hk3 hft hfz3 hd3 hown hgrow hat c2)
    | (go_at_call 30; refine (hnm _).mono ?_; rintro e w1 ⟨rfl, rfl⟩))
  go_ret2
  exact ⟨rfl, _, HP.out.1, (K.kept (by assumption) _).trans HP.out.2.1, fun k hk => (HP.out.2.2 k hk).imp id (fun h => Nat.le_trans (Kept.size hk1) h)⟩

theorem open_any (h : Tab w B bt q z v L) (a : Int) (a1 : a ≤ 9223372036854775807) : Calls Try.prog 17 #[tp bt, .int .i64 a] w fun e w' => e = .returned (.tuple #[.int .u64 (openL q z L a).1, .int .i64 (openL q z L a).2.1]) ∧ OpenPost w B bt q z v (openL q z L a).2.2 w' := by
  by_cases a0 : a < 0
  · rw [openL_neg a0]
    refine (open_neg h a a0).mono ?_
    rintro e w1 ⟨rfl, rfl⟩
    exact ⟨rfl, .same h (K.refl _)⟩
  have a0' : 0 ≤ a := by omega
  cases hf : freeAt z L with
  | some i =>
    obtain ⟨s, hs, hfr, _⟩ := freeAt_some hf
    rw [openL_free a0' hf hs]
    refine (open_free h a a0' a1 i s hf hs).mono ?_
    rintro e w1 ⟨rfl, hT, hk⟩
    exact ⟨rfl, v, hT, hk, fun _ h => .inl h⟩
  | none =>
    by_cases hl : (L.length : Int) < q
    · rw [openL_new a0' hf hl]
      exact open_new h a a0' a1 hf hl
    · rw [openL_full a0' hf (by omega)]
      refine (open_full h a a0' hf (by omega)).mono ?_
      rintro e w1 ⟨rfl, hk⟩
      exact ⟨rfl, .same h hk⟩

end Hd
end Go.Proofs.Ytfokpiapaacagaa
