/-
  The walk of package slab's Pages: the granted pages, rising.
-/
import Derived.Test.YtbbjfebdihepnaaGreatDoorS2
import Derived.Test.YtbbjfebdihepnaaGreatDoorS3
namespace Go.Proofs.YtbbjfebdihepnaaGreatDoor
open Go.RowKit Go.Maps Go.Sort Go.Shelf
namespace Sl
variable {w : World} {bs bm : Nat} {q : Int} {pg : List (Int × Nat)} {W : Int → Int}

theorem sorts (m : Nat) : AnyZI.SortsIn Tryz.prog Tryz.sortedLay_ren Fence.wide m :=
  ⟨fun blk off cap ss W hH hblk hsz => callsIn_wide.2 (AnyM.slices_Sort_int Tryz.sortLay blk off cap ss W hH hblk hsz),
   fun p cap W => callsIn_wide.2 (AnyM.slices_Sort_int_none Tryz.sortLay p cap W)⟩

theorem keys_any (mb : Option Nat) (w : World) : Calls Tryz.prog 70 #[.map mb] w fun e w' => e = .returned (.func (.func 102) #[] #[.pointer (some ⟨w.heap.size, 0, none⟩)]) ∧ w' = w.alloc (.cells #[.map mb] 134) :=
  (callsIn_wide (n := 5)).1 (AnyZI.keys_in Tryz.keysLay Fence.wide 5 trivial rfl mb w)

set_option maxHeartbeats 1000000 in
theorem sorted_any {H : Type} (b nn : Nat) (D0 : DataW H) (R : Value → Option (DataW H × List MemPlace)) (w : World) (hown : w.ownsMap Tryz.prog 3 R b nn D0) (hmax : Maps.size D0 ≤ maxLen) (hbytes : Maps.size D0 * 8 ≤ 140737488355328) :
    Calls Tryz.prog 69 #[.func (.func 102) #[] #[.pointer (some ⟨w.heap.size, 0, none⟩)]] (w.alloc (.cells #[.map (some b)] 134)) fun e w' => ∃ (v : Value) (ss : List Int), e = .returned v ∧ ss.Perm (intKeys D0) ∧
      w'.ownsRow (w.alloc (.cells #[.map (some b)] 134)).heap.size 3 1 v ss.length ((ss.mergeSort (fun x y => decide (x ≤ y))).map encZ) ∧ (v = .slice none 0 0 ↔ ss = []) ∧ Below (w.alloc (.cells #[.map (some b)] 134)).heap.size (w.alloc (.cells #[.map (some b)] 134)) w' := by
  have hbl := hown.lt
  have hseq : SeqGives Fence.wide 2 Tryz.prog 102 #[.pointer (some ⟨w.heap.size, 0, none⟩)] encZ (fun ss => ss.Perm (intKeys D0)) (Maps.size D0) (w.alloc (.cells #[.map (some b)] 134)) :=
    AnyZI.keys_gives (ρ := Tryz.keysLay_ren) { Tryz.keysLay with } Fence.wide _ trivial rfl (by omega) w.heap.size b nn D0 _ (by simp) (by simp) (by
      obtain ⟨es, clock, hb, Ft, hs, hD⟩ := hown
      exact ⟨es, clock, (Below.heap_alloc _ _ b hbl).trans hb, Ft, hs, hD⟩)
  exact (callsIn_wide (n := 5)).1 (AnyZI.sorted_in Tryz.sortedLay Fence.wide 5 trivial trivial trivial trivial rfl (by omega) (sorts _) (enters_of Tryz.func101 (by kernel_rfl) rfl) 102 #[.pointer (some ⟨w.heap.size, 0, none⟩)] trivial (enters_of Tryz.func102 (by kernel_rfl) rfl) _ _ hmax hbytes _ hseq)

theorem keys_pd (pg : List (Int × Nat)) : intKeys (pd pg) = pg.map fun p => p.1 := by
  simp [intKeys, pd, Go.intOf]

/-- A rising list is what any order of it is sorted to. -/
theorem sorted_keys (hs : Rising pg) {ss : List Int} (hp : ss.Perm (pg.map fun p => p.1)) : ss.mergeSort (fun x y => decide (x ≤ y)) = pg.map fun p => p.1 := by
  have h1 : (ss.mergeSort (fun x y => decide (x ≤ y))).Pairwise (fun x y => decide (x ≤ y) = true) := List.pairwise_mergeSort (fun a b c h1 h2 => by simp at *; omega) (fun a b => by simp; omega) ss
  have h2 : (pg.map fun p => p.1).Pairwise (fun x y => decide (x ≤ y) = true) := by
    rw [List.pairwise_map]
    exact hs.imp fun h => by simp; omega
  have h3 : (ss.mergeSort (fun x y => decide (x ≤ y))).Perm (pg.map fun p => p.1) := (List.mergeSort_perm ss _).trans hp
  exact h3.eq_of_pairwise (fun a b _ _ h1 h2 => by simp at h1 h2; omega) h1 h2

theorem pages_end {w' : World} {base : Nat} {v : Value} {ss : List Int} (hs : Rising pg) (hp : ss.Perm (intKeys (pd pg))) (hrow : w'.ownsRow base 3 1 v ss.length ((ss.mergeSort (fun x y => decide (x ≤ y))).map encZ)) :
    ∃ a cap, v = .slice a pg.length cap ∧ (0 < pg.length → ∃ g, a = some ⟨g, 0, none⟩ ∧ base ≤ g ∧ ∀ (i : Nat) (p : Int × Nat), pg[i]? = some p → w'.cell? ⟨g, i, none⟩ = some (.int .i64 p.1)) := by
  rw [keys_pd] at hp
  rw [sorted_keys hs hp] at hrow
  have hl : ss.length = pg.length := by rw [hp.length_eq]; simp
  rw [hl] at hrow
  rcases hrow.2 with ⟨hv, h0⟩ | ⟨g, cap, cur, hv, hbase, hbk, h1, h2, h3, h4⟩
  · refine ⟨none, 0, by rw [hv, h0], fun h => by omega⟩
  · refine ⟨some ⟨g, 0, none⟩, cap, hv, fun _ => ⟨g, rfl, hbase, fun i p hi => ?_⟩⟩
    have hil : i < pg.length := (List.getElem?_eq_some_iff.1 hi).1
    have h5 : (cur.toList.take (pg.length * 1))[i]? = some (.int .i64 p.1) := by
      rw [h4]
      simp [hi, encZ]
    rw [List.getElem?_take_of_lt (by omega)] at h5
    simp only [World.cell?, hbk]
    simpa using h5

theorem pages_said : PagesSaid := fun w bs bm q pg W h => by
  have c1 := h.c1
  have hm := made_yes bs bm w c1
  have hlen := h.len
  have hk := keys_any (some bm) w
  have hsz : Maps.size (pd pg) = pg.length := by simp [pd, Maps.size_eq]
  have hso := sorted_any bm _ _ _ w h.pm (by rw [hsz]; unfold maxLen; omega) (by rw [hsz]; omega)
  clear hsz
  go_enter Tryz.func46, Tryz.ntmps46
  go_wp2_with (first | (go_at_call 68; refine hm.mono ?_; rintro e w' ⟨rfl, rfl⟩) | (go_at_call 70; refine hk.mono ?_; rintro e w' ⟨rfl, rfl⟩))
  refine hso.mono ?_
  rintro e w' ⟨v, ss, rfl, hperm, hrow, hnil, hb⟩
  obtain ⟨a, cap, hv, hc⟩ := pages_end h.rise hperm hrow
  have HC : Aside _ := hc
  rw [hv]
  clear hc hv hrow hnil hperm
  go_wp2
  go_ret
  refine ⟨a, cap, rfl, ((Below.refl _ _).alloc (Nat.le_refl _) _).trans (hb.mono (by simp)), fun h0 => ?_⟩
  obtain ⟨g, h1, h2, h3⟩ := HC.out h0
  exact ⟨g, h1, by simp at h2; omega, h3⟩

end Sl
end Go.Proofs.YtbbjfebdihepnaaGreatDoor
