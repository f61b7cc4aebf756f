/-
  Proved: called with any script and any row of steps, CompactAmid returns true: of two stores on which the same calls are done, while the records of one are brought together between them, each call answers the same, and of every told handle both tell the same length, error and words; granted words stay within what the handles need, and Audit tells OK (scripts and rows of at most 60; of others the helper awake). No condition.
  By the tied card: the table of math/bits as its initialiser lays it, tied to the program's text (the pruned copy of the project that the seat holds).
-/
import Derived.Test.YtgcnjafoabnhgaaGreatDoorRows
import Derived.Test.YtgcnjafoabnhgaaGreatDoorCards
import Derived.Test.YtgcnjafoabnhgaaGreatDoorTie
import Derived.Test.YtgcnjafoabnhgaaGreatDoorK1
import Derived.Test.YtgcnjafoabnhgaaGreatDoorWGAmidX
import Derived.SevenTiedAt
import Derived.WalkKit
import Derived.ShutString
import Derived.ChangeOld
import Derived.Below
namespace Go.Proofs.YtgcnjafoabnhgaaGreatDoor.compactAmid
open Go.ChangeShapes Go.WideShapes Go.ChangeAt Go.RowKit

set_option maxRecDepth 100000 in
theorem lifted (os : Os) (started : os.Started) (H : Type) (enc : TypeId × Value → H) :
    ReturnsInHanded {} Tryz.checked os 3 .any (fun w args => (Rows.compactAmidSpec.pre enc Tryz.prog Tryz.f3 [] false w args ∧ laidMetH Tryz.prog Hp.laid1 w) ∧ sizedMet enc Tryz.prog Tryz.f3 (OpenSpec.ofChange Rows.compactAmidSpec) false w args)
      (Rows.compactAmidSpec.post enc Tryz.prog Tryz.f3 false true false false) := by
  refine returnsInHanded_of_change_and (C := Tryz.checked) (X := fun w _ => laidMetH Tryz.prog Hp.laid1 w) (fun _ _ _ hh h => h.of_heap hh) Hp.own started (by kernel_rfl) Tryz.func3
    (ChangeSpec.witness_shaped (enc := enc) (C := Tryz.checked) (os := os) (X := fun w _ => laidMetH Tryz.prog Hp.laid1 w) false (World.doorLaid Tryz.prog 400 os) #[.slice none 0 0, .slice none 0 0] 8 rfl (World.shaped_of_RefB (by kernel_rfl) (by kernel_rfl)) (by kernel_rfl) (by kernel_rfl) (by kernel_rfl) (Hp.door_met os _)) ?_
  intro W base args ds gs before hval0 hW _ _ hL _
  have hval : ∀ (j : Nat) t v, Tryz.f3.params[j]? = some t → args[j]? = some v → Value.okWide Tryz.prog W .any base t v := hval0
  have hW' := hW
  obtain ⟨p, q, hA0, hV, rfl, hfz, hnd⟩ := hW
  have hA : DataW.TrodAll enc Tryz.prog W 0 (fun _ => true) true Tryz.f3.params.toList args.toList ds p := hA0
  rw [Tryz.params3] at hA hval
  obtain ⟨v0, vs0, d0, ds0, p0, q0, hargs, rfl, rfl, h0, r0⟩ := trodAll_cons hA
  obtain ⟨v1, vs1, d1, ds1, p1, q1, rfl, rfl, rfl, h1, r1⟩ := trodAll_cons r0
  obtain ⟨rfl, rfl, rfl⟩ := trodAll_nil r1
  obtain rfl : args = #[v0, v1] := by cases args; simp_all
  obtain ⟨rfl, rfl⟩ := trodVars_none hV
  obtain ⟨a0, len0, cap0, rfl⟩ := okWide_slice Tryz.underlying22 (hval 0 22 v0 rfl rfl)
  have k0 := h0
  have lt0 : ∀ x ∈ p0, x.block < W.heap.size := by obtain ⟨m, hm⟩ := k0; exact DataW.trod_lt m _ _ _ hm
  obtain ⟨hmax0, b0, off0, z0, hS0⟩ : len0 ≤ maxLen ∧ ∃ b off z, So.Script W a0 b off len0 cap0 z := by
    obtain ⟨fuel, hf⟩ := h0
    exact So.script_of (by simpa [Value.cells] using hf)
  obtain ⟨a1, len1, cap1, rfl⟩ := okWide_slice Tryz.underlying23 (hval 1 23 v1 rfl rfl)
  have k1 := h1
  have lt1 : ∀ x ∈ p1, x.block < W.heap.size := by obtain ⟨m, hm⟩ := k1; exact DataW.trod_lt m _ _ _ hm
  obtain ⟨hmax1, b1, off1, z1, hS1⟩ : len1 ≤ maxLen ∧ ∃ b off z, So.Nums W a1 b off len1 cap1 z := by
    obtain ⟨fuel, hf⟩ := h1
    exact So.nums_of (by simpa [Value.cells] using hf)
  clear hA0 hval0
  refine (Co.amid_any W a0 b0 off0 len0 cap0 z0 hS0 hmax0 a1 b1 off1 len1 cap1 z1 hS1 hmax1 (Hp.tab_of_laid hL)).mono fun e W' ⟨he, hs⟩ => ?_
  subst he
  exact ⟨_, rfl, _, _, _, [], _, [], hW', trodAll_mk1 (shut_bool Tryz.underlying4 _), (trodAll_cons_mk (Below.trod So.laidOut (by kernel_rfl) (of_decide_eq_true (by kernel_rfl)) k0 hs.below lt0) (trodAll_cons_mk (Below.trod So.laidOut (by kernel_rfl) (of_decide_eq_true (by kernel_rfl)) k1 hs.below lt1) trodAll_mk0)), rfl, hs.below.frame _, fun h => by cases h⟩

theorem over : Rows.CompactAmidSaid :=
  OpenClaim.holds_of_wide 3 Tryz.f3 rfl rfl rfl rfl rfl rfl rfl ⟨rfl, rfl, rfl, rfl, rfl⟩ rfl rfl rfl rfl rfl (by kernel_rfl) Tryz.func3 (by kernel_rfl)
    (of_decide_eq_true (by kernel_rfl)) (by unfold Func.isWrapper; first | (rw [if_pos (by decide +kernel)]; kernel_rfl) | (rw [if_neg (by decide +kernel)]; exact ⟨rfl, rfl⟩))
    (fun os started H enc _ => lifted os started H enc)

theorem proved : Rows.CompactAmidCardSaid :=
  Claim7.holds_tied_plain_at .later [] [.data] true Rows.compactAmidCard.stood.harness false
    over (fun _ h => by cases h) (by kernel_rfl) (fun _ h => by cases h) compactAmid_row_tie rfl ⟨rfl, rfl⟩ (by kernel_rfl) rfl
    (fun f fn hf hfn => by
      obtain rfl : f = 3 := Option.some.inj ((show Tryz.prog.funcNamed "loft/loftlaw07.CompactAmid" = some 3 by kernel_rfl).symm.trans hf) |>.symm
      obtain rfl : fn = Tryz.f3 := (Option.some.inj (Tryz.func3.symm.trans hfn)).symm
      exact ⟨by kernel_rfl, fun j t ht => by
        rw [Tryz.params3] at ht
        have hm : t ∈ [22, 23] := by simpa using Array.mem_of_getElem? ht
        have hall : ([22, 23].all fun u => !Tryz.prog.wantsStandIn u) = true := by kernel_rfl
        exact (show Tryz.prog.wantsStandIn t = false by simpa using List.all_eq_true.1 hall t hm)⟩)
    (by kernel_rfl)
#print axioms proved
end Go.Proofs.YtgcnjafoabnhgaaGreatDoor.compactAmid
