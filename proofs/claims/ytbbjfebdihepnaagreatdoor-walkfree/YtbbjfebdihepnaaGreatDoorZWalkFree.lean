/-
  Proved: a tree that is freed leaves nothing of it, and all other records as they were, for every two lists of pairs and every shape (the law itself asks for at most 60 pairs each, texts of at most 1000 bytes).
  By the tied card: the table of math/bits as its initialiser lays it, tied to the program's text (the pruned copy of the project that the seat holds).
-/
import Derived.Test.YtbbjfebdihepnaaGreatDoorRows
import Derived.Test.YtbbjfebdihepnaaGreatDoorCards
import Derived.Test.YtbbjfebdihepnaaGreatDoorTie
import Derived.Test.YtbbjfebdihepnaaGreatDoorK1
import Derived.Test.YtbbjfebdihepnaaGreatDoorWJ
import Derived.Test.YtbbjfebdihepnaaGreatDoorN4
import Derived.Test.YtbbjfebdihepnaaGreatDoorVWFrees
import Derived.SevenTiedAt
import Derived.WalkKit
import Derived.ShutString
import Derived.ChangeMaps5
import Derived.ChangeOld
import Derived.Below
namespace Go.Proofs.YtbbjfebdihepnaaGreatDoor.walkFree
open Go.ChangeShapes Go.WideShapes Go.ChangeAt Go.RowKit
open Go.ChangeMaps (open_string shut_string)

set_option maxRecDepth 100000 in
theorem lifted (os : Os) (started : os.Started) (H : Type) (enc : TypeId × Value → H) :
    ReturnsInHanded {} Tryz.checked os 5 .any (fun w args => (Rows.walkFreeSpec.pre enc Tryz.prog Tryz.f5 [] false w args ∧ laidMetH Tryz.prog Hp.laid1 w) ∧ sizedMet enc Tryz.prog Tryz.f5 (OpenSpec.ofChange Rows.walkFreeSpec) false w args)
      (Rows.walkFreeSpec.post enc Tryz.prog Tryz.f5 false true false false) := by
  refine returnsInHanded_of_change_and (C := Tryz.checked) (X := fun w _ => laidMetH Tryz.prog Hp.laid1 w) (fun _ _ _ hh h => h.of_heap hh) Hp.own started (by kernel_rfl) Tryz.func5
    (ChangeSpec.witness_shaped (enc := enc) (C := Tryz.checked) (os := os) (X := fun w _ => laidMetH Tryz.prog Hp.laid1 w) false (World.doorLaid Tryz.prog 400 os) #[.slice none 0 0, .slice none 0 0, .slice none 0 0] 8 rfl (World.shaped_of_RefB (by kernel_rfl) (by kernel_rfl)) (by kernel_rfl) (by kernel_rfl) (by kernel_rfl) (Hp.door_met os _)) ?_
  intro W base args ds gs before hval0 hW _ _ hL _
  have hval : ∀ (j : Nat) t v, Tryz.f5.params[j]? = some t → args[j]? = some v → Value.okWide Tryz.prog W .any base t v := hval0
  have hW' := hW
  obtain ⟨p, q, hA0, hV, rfl, hfz, hnd⟩ := hW
  have hA : DataW.TrodAll enc Tryz.prog W 0 (fun _ => true) true Tryz.f5.params.toList args.toList ds p := hA0
  rw [Tryz.params5] at hA hval
  obtain ⟨v0, vs0, d0, ds0, p0, q0, hargs, rfl, rfl, h0, r0⟩ := trodAll_cons hA
  obtain ⟨v1, vs1, d1, ds1, p1, q1, rfl, rfl, rfl, h1, r1⟩ := trodAll_cons r0
  obtain ⟨v2, vs2, d2, ds2, p2, q2, rfl, rfl, rfl, h2, r2⟩ := trodAll_cons r1
  obtain ⟨rfl, rfl, rfl⟩ := trodAll_nil r2
  obtain rfl : args = #[v0, v1, v2] := by cases args; simp_all
  obtain ⟨rfl, rfl⟩ := trodVars_none hV
  obtain ⟨a0, len0, cap0, rfl⟩ := okWide_slice Tryz.underlying22 (hval 0 22 v0 rfl rfl)
  have k0 := h0
  have lt0 : ∀ x ∈ p0, x.block < W.heap.size := by obtain ⟨m, hm⟩ := k0; exact DataW.trod_lt m _ _ _ hm
  obtain ⟨z0, hS0⟩ : ∃ l, Wa.Prw W a0 len0 cap0 l := by
    obtain ⟨fuel, hf⟩ := h0
    exact Wa.pairs_of (by simpa [Value.cells] using hf)
  obtain ⟨a1, len1, cap1, rfl⟩ := okWide_slice Tryz.underlying22 (hval 1 22 v1 rfl rfl)
  have k1 := h1
  have lt1 : ∀ x ∈ p1, x.block < W.heap.size := by obtain ⟨m, hm⟩ := k1; exact DataW.trod_lt m _ _ _ hm
  obtain ⟨z1, hS1⟩ : ∃ l, Wa.Prw W a1 len1 cap1 l := by
    obtain ⟨fuel, hf⟩ := h1
    exact Wa.pairs_of (by simpa [Value.cells] using hf)
  obtain ⟨a2, len2, cap2, rfl⟩ := okWide_slice Tryz.underlying23 (hval 2 23 v2 rfl rfl)
  have k2 := h2
  have lt2 : ∀ x ∈ p2, x.block < W.heap.size := by obtain ⟨m, hm⟩ := k2; exact DataW.trod_lt m _ _ _ hm
  obtain ⟨hmax2, b2, off2, z2, hS2⟩ : len2 ≤ maxLen ∧ ∃ b off z, So.Nums W a2 b off len2 cap2 z := by
    obtain ⟨fuel, hf⟩ := h2
    exact So.nums_of (by simpa [Value.cells] using hf)
  clear hA0 hval0
  refine (Wa.free_walk W a0 len0 cap0 z0 hS0 a1 len1 cap1 z1 hS1 a2 len2 cap2 (Wa.Shp.of hS2 hmax2) (Hp.tab_of_laid hL)).mono fun e W' ⟨he, hs⟩ => ?_
  subst he
  exact ⟨_, rfl, _, _, _, [], _, [], hW', trodAll_mk1 (shut_bool Tryz.underlying4 _), (trodAll_cons_mk (Below.trod So.laidOut (by kernel_rfl) (of_decide_eq_true (by kernel_rfl)) k0 hs.below lt0) (trodAll_cons_mk (Below.trod So.laidOut (by kernel_rfl) (of_decide_eq_true (by kernel_rfl)) k1 hs.below lt1) (trodAll_cons_mk (Below.trod So.laidOut (by kernel_rfl) (of_decide_eq_true (by kernel_rfl)) k2 hs.below lt2) trodAll_mk0))), rfl, hs.below.frame _, fun h => by cases h⟩

theorem over : Rows.WalkFreeSaid :=
  OpenClaim.holds_of_wide 5 Tryz.f5 rfl rfl rfl rfl rfl rfl rfl ⟨rfl, rfl, rfl, rfl, rfl⟩ rfl rfl rfl rfl rfl (by kernel_rfl) Tryz.func5 (by kernel_rfl)
    (of_decide_eq_true (by kernel_rfl)) (by unfold Func.isWrapper; first | (rw [if_pos (by decide +kernel)]; kernel_rfl) | (rw [if_neg (by decide +kernel)]; exact ⟨rfl, rfl⟩))
    (fun os started H enc _ => lifted os started H enc)

theorem proved : Rows.WalkFreeCardSaid :=
  Claim7.holds_tied_plain_at .later [] [.data] true Rows.walkFreeCard.stood.harness false
    over (fun _ h => by cases h) (by kernel_rfl) (fun _ h => by cases h) walkFree_row_tie rfl ⟨rfl, rfl⟩ (by kernel_rfl) rfl
    (fun f fn hf hfn => by
      obtain rfl : f = 5 := Option.some.inj ((show Tryz.prog.funcNamed "loft/loftlaw11.WalkFree" = some 5 by kernel_rfl).symm.trans hf) |>.symm
      obtain rfl : fn = Tryz.f5 := (Option.some.inj (Tryz.func5.symm.trans hfn)).symm
      exact ⟨by kernel_rfl, fun j t ht => by
        rw [Tryz.params5] at ht
        have hm : t ∈ [22, 22, 23] := by simpa using Array.mem_of_getElem? ht
        have hall : ([22, 22, 23].all fun u => !Tryz.prog.wantsStandIn u) = true := by kernel_rfl
        exact (show Tryz.prog.wantsStandIn t = false by simpa using List.all_eq_true.1 hall t hm)⟩)
    (by kernel_rfl)
#print axioms proved
end Go.Proofs.YtbbjfebdihepnaaGreatDoor.walkFree
