/-
  The walk of package slab's search for a run of free pages: what it tells is the least one.
-/
import Derived.Test.YtlpdgomoepinjaaDoorSReads
import Derived.Deep.LoopGhost
namespace Go.Proofs.YtlpdgomoepinjaaDoor
open Go.RowKit Go.Maps
namespace Sl

/-- n pages from f on are not granted. -/
def freeRun (pg : List (Int × Nat)) (f n : Int) : Prop := ∀ j, f ≤ j → j < f + n → blk pg j = none

/-- r is the least page from which on n pages are not granted. -/
structure Least (pg : List (Int × Nat)) (n r : Int) : Prop where
  lo : 0 ≤ r
  hi : r + n ≤ 1048576
  run : freeRun pg r n
  least : ∀ g, 0 ≤ g → g < r → ¬ freeRun pg g n

def Nowhere (pg : List (Int × Nat)) (n : Int) : Prop := ∀ g, 0 ≤ g → g + n ≤ 1048576 → ¬ freeRun pg g n

variable {w : World} {bs bm : Nat} {q : Int} {pg : List (Int × Nat)} {W : Int → Int}

theorem not_run {f n k g : Int} (hk : k < n) (hb : (blk pg (f + k)).isSome = true) (hg : f ≤ g) (hg2 : g < f + k + 1) : ¬ freeRun pg g n := fun h => by
  have := h (f + k) (by omega) (by omega)
  rw [this] at hb
  cases hb

set_option maxHeartbeats 1000000 in
theorem gap_any (h : Arena w bs bm q pg W) (n : Int) (hn0 : 1 ≤ n) (hn1 : n ≤ 4096) :
    Calls Tryd.prog 55 #[.pointer (some ⟨bs, 0, none⟩), .int .i64 n] w fun e w' => ((∃ r, e = .returned (.tuple #[.int .i64 r, .bool true]) ∧ Least pg n r) ∨ (e = .returned (.tuple #[.int .i64 0, .bool false]) ∧ Nowhere pg n)) ∧ w = w' := by
  go_enter Tryd.func55, Tryd.ntmps55
  go_wp2
  go_step3
  go_wp2
  go_step3
  go_wp2
  go_loopg [4, 5, 6, 7] 1048577 (fun g _ _ t _ wx => ∃ f : Int, w = wx ∧ 0 ≤ f ∧ f + g = 1048577 ∧ t = .int .i64 f ∧ f ≤ 1048576 ∧ Aside (∀ x, 0 ≤ x → x < f → ¬ freeRun pg x n))
  case atStart => exact ⟨0, rfl, by omega, by omega, rfl, by omega, fun g h1 h2 => by omega⟩
  case round =>
    obtain ⟨f, rfl, hf0, hfg, rfl, hf1, HL⟩ := hrel
    have hi := isPage_any (f + n - 1) w
    by_cases hp : f + n ≤ 1048576
    · have hpb : isPageB (f + n - 1) = true := by simp [isPageB]; omega
      rw [hpb] at hi
      clear hpb
      go_wp2_with (go_at_call 38; refine hi.mono ?_; rintro e w' ⟨rfl, rfl⟩)
      clear hi
      go_loopg [6, 7] n.toNat (fun g s t wx => ∃ k : Int, w = wx ∧ s = .int .i64 f ∧ t = .int .i64 k ∧ -1 ≤ k ∧ k + 1 = g ∧ k < n ∧ Aside (∀ j, k < j → j < n → blk pg (f + j) = none))
      case atStart => exact ⟨n - 1, rfl, rfl, rfl, by omega, by omega, by omega, fun j h1 h2 => by omega⟩
      case round =>
        obtain ⟨k, rfl, rfl, rfl, hk0, hkg, hkn, HF⟩ := hrel
        by_cases hk : 0 ≤ k
        · have hi := is_any h (f + k) (wf64 (by omega))
          cases hb : (blk pg (f + k)).isSome with
          | true =>
            rw [hb] at hi
            have HB : Aside ((blk pg (f + k)).isSome = true) := hb
            clear hb
            go_wp2_with (go_at_call 58; refine hi.mono ?_; rintro e w' ⟨rfl, rfl⟩)
            go_roundg (1048577 - (f + k + 1)).toNat
            case measure => omega
            case rel =>
              refine ⟨f + k + 1, rfl, by omega, by omega, by go_num, by omega, fun x hx0 hx => ?_⟩
              by_cases hxf : x < f
              · exact HL.out x hx0 hxf
              · exact not_run hkn HB.out (by omega) hx
          | false =>
            rw [hb] at hi
            have HB : Aside ((blk pg (f + k)).isSome = false) := hb
            clear hb
            go_wp2_with (go_at_call 58; refine hi.mono ?_; rintro e w' ⟨rfl, rfl⟩)
            go_roundg k.toNat
            case measure => omega
            case rel =>
              refine ⟨k - 1, rfl, rfl, by go_num, by omega, by omega, by omega, fun j hj hjn => ?_⟩
              by_cases hjk : j = k
              · rw [hjk]; exact by simpa using HB.out
              · exact HF.out j (by omega) hjn
        · go_wp2
          try rw [Exit.noGoto_ret]
          go_ret2
          refine ⟨Or.inl ⟨f, rfl, hf0, hp, fun j hj hjn => ?_, HL.out⟩, rfl⟩
          have := HF.out (j - f) (by omega) (by omega)
          rw [show f + (j - f) = j from by omega] at this
          exact this
    · have hpb : isPageB (f + n - 1) = false := by simp [isPageB]; omega
      rw [hpb] at hi
      clear hpb
      go_wp2_with (go_at_call 38; refine hi.mono ?_; rintro e w' ⟨rfl, rfl⟩)
      try rw [Exit.noGoto_ret]
      go_ret2
      refine ⟨Or.inr ⟨rfl, fun g hg hgn hfr => ?_⟩, rfl⟩
      exact HL.out g hg (by omega) hfr

end Sl
end Go.Proofs.YtlpdgomoepinjaaDoor
