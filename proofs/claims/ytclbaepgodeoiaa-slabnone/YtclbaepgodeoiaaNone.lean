/-
  An arena that is not there, or that nobody made: every call answers ErrNil and nothing; the walk of the statement on it.
-/
import Derived.Test.YtclbaepgodeoiaaAwake
namespace Go.Proofs.Ytclbaepgodeoiaa
open Go.RowKit Go.Maps
namespace Sl
variable {w : World} {v : Value}

/-- v is no arena: made answers false. -/
def NoArena (w : World) (v : Value) : Prop := Calls Try.prog 32 #[v] w fun e w' => e = .returned (.bool false) ∧ w = w'

theorem grant_none (hm : NoArena w v) (n : Int) : Calls Try.prog 19 #[v, .int .i64 n] w fun e w' => e = .returned (.tuple #[.int .i64 0, .int .i64 1]) ∧ w = w' := by
  unfold NoArena at hm
  go_enter Try.func19, Try.ntmps19
  go_wp2_with (go_at_call 32; refine hm.mono ?_; rintro e w' ⟨rfl, rfl⟩)
  go_ret2
  exact ⟨rfl, rfl⟩

theorem release_none (hm : NoArena w v) (p n : Int) : Calls Try.prog 20 #[v, .int .i64 p, .int .i64 n] w fun e w' => e = .returned (.int .i64 1) ∧ w = w' := by
  unfold NoArena at hm
  go_enter Try.func20, Try.ntmps20
  go_wp2_with (go_at_call 32; refine hm.mono ?_; rintro e w' ⟨rfl, rfl⟩)
  go_ret
  exact ⟨rfl, rfl⟩

theorem claim_none (hm : NoArena w v) (p : Int) : Calls Try.prog 23 #[v, .int .i64 p] w fun e w' => e = .returned (.int .i64 1) ∧ w = w' := by
  unfold NoArena at hm
  go_enter Try.func23, Try.ntmps23
  go_wp2_with (go_at_call 32; refine hm.mono ?_; rintro e w' ⟨rfl, rfl⟩)
  go_ret
  exact ⟨rfl, rfl⟩

theorem move_none (hm : NoArena w v) (a b n : Int) : Calls Try.prog 22 #[v, .int .i64 a, .int .i64 b, .int .i64 n] w fun e w' => e = .returned (.int .i64 1) ∧ w = w' := by
  unfold NoArena at hm
  go_enter Try.func22, Try.ntmps22
  go_wp2_with (go_at_call 32; refine hm.mono ?_; rintro e w' ⟨rfl, rfl⟩)
  go_ret
  exact ⟨rfl, rfl⟩

theorem is_none (hm : NoArena w v) (p : Int) : Calls Try.prog 16 #[v, .int .i64 p] w fun e w' => e = .returned (.bool false) ∧ w = w' := by
  unfold NoArena at hm
  go_enter Try.func16, Try.ntmps16
  go_wp2_with (go_at_call 32; refine hm.mono ?_; rintro e w' ⟨rfl, rfl⟩)
  go_ret
  exact ⟨rfl, rfl⟩

theorem pages_none (hm : NoArena w v) : Calls Try.prog 13 #[v] w fun e w' => e = .returned (.slice none 0 0) ∧ w = w' := by
  unfold NoArena at hm
  go_enter Try.func13, Try.ntmps13
  go_wp2_with (go_at_call 32; refine hm.mono ?_; rintro e w' ⟨rfl, rfl⟩)
  go_ret
  exact ⟨rfl, rfl⟩

theorem quota_none (hm : NoArena w v) : Calls Try.prog 15 #[v] w fun e w' => e = .returned (.int .i64 0) ∧ w = w' := by
  unfold NoArena at hm
  go_enter Try.func15, Try.ntmps15
  go_wp2_with (go_at_call 32; refine hm.mono ?_; rintro e w' ⟨rfl, rfl⟩)
  go_ret
  exact ⟨rfl, rfl⟩

theorem pageOf_none2 (hm : NoArena w v) (a : Int) : Calls Try.prog 35 #[v, .int .i64 a] w fun e w' => e = .returned (.tuple #[.pointer none, .int .i64 1]) ∧ w = w' := by
  unfold NoArena at hm
  go_enter Try.func35, Try.ntmps35
  go_wp2_with (go_at_call 32; refine hm.mono ?_; rintro e w' ⟨rfl, rfl⟩)
  go_ret2
  exact ⟨rfl, rfl⟩

theorem read_none (hm : NoArena w v) (a : Int) : Calls Try.prog 18 #[v, .int .i64 a] w fun e w' => e = .returned (.tuple #[.int .u64 0, .int .i64 1]) ∧ w = w' := by
  have hp := pageOf_none2 hm a
  go_enter Try.func18, Try.ntmps18
  go_wp2_with (go_at_call 35; refine hp.mono ?_; rintro e w' ⟨rfl, rfl⟩)
  go_ret2
  exact ⟨rfl, rfl⟩

theorem write_none (hm : NoArena w v) (a x : Int) : Calls Try.prog 21 #[v, .int .i64 a, .int .u64 x] w fun e w' => e = .returned (.int .i64 1) ∧ w = w' := by
  have hp := pageOf_none2 hm a
  go_enter Try.func21, Try.ntmps21
  go_wp2_with (go_at_call 35; refine hp.mono ?_; rintro e w' ⟨rfl, rfl⟩)
  go_ret
  exact ⟨rfl, rfl⟩

set_option maxHeartbeats 1000000 in
set_option maxRecDepth 100000 in
theorem slabNone_walk (a b n x : Int) (w : World) : Calls Try.prog 4 #[.int .i64 a, .int .i64 b, .int .i64 n, .int .u64 x] w fun e w' => e = .returned (.bool true) ∧ Below w.heap.size w w' := by
  go_enter Try.func4, Try.ntmps4
  go_wp2
  go_loopg [9, 11, 12, 13, 14, 15] 3 (fun g s t _ _ _ _ wx => ∃ k : Nat, k ≤ 2 ∧ k + g = 3 ∧ t = .int .i64 k ∧ (k = 0 → s = .pointer none) ∧ w.alloc (.cells #[.int .i64 0, .map none] 53) = wx)
  case atStart => exact ⟨0, by omega, by omega, rfl, fun _ => rfl, rfl⟩
  case round =>
    obtain ⟨k, hk2, hkg, rfl, hs, rfl⟩ := hrel
    have hk : k = 0 ∨ k = 1 ∨ k = 2 := by omega
    rcases hk with rfl | rfl | rfl
    · obtain rfl := hs rfl
      have hm : NoArena (w.alloc (.cells #[.int .i64 0, .map none] 53)) (.pointer none) := made_nil _
      go_wp2_with (first
        | (go_at_call 19; refine (grant_none hm _).mono ?_; rintro e w' ⟨rfl, rfl⟩)
        | (go_at_call 18; refine (read_none hm _).mono ?_; rintro e w' ⟨rfl, rfl⟩)
        | (go_at_call 20; refine (release_none hm _ _).mono ?_; rintro e w' ⟨rfl, rfl⟩)
        | (go_at_call 21; refine (write_none hm _ _).mono ?_; rintro e w' ⟨rfl, rfl⟩)
        | (go_at_call 22; refine (move_none hm _ _ _).mono ?_; rintro e w' ⟨rfl, rfl⟩)
        | (go_at_call 23; refine (claim_none hm _).mono ?_; rintro e w' ⟨rfl, rfl⟩)
        | (go_at_call 16; refine (is_none hm _).mono ?_; rintro e w' ⟨rfl, rfl⟩)
        | (go_at_call 13; refine (pages_none hm).mono ?_; rintro e w' ⟨rfl, rfl⟩)
        | (go_at_call 15; refine (quota_none hm).mono ?_; rintro e w' ⟨rfl, rfl⟩))
      go_roundg 2
      case measure => omega
      case rel => exact ⟨1, by omega, by omega, rfl, fun h => by omega, rfl⟩
    · clear hs
      have hm : NoArena (w.alloc (.cells #[.int .i64 0, .map none] 53)) (.pointer (some ⟨w.heap.size, 0, none⟩)) := made_zero _ _ (by simp)
      go_wp2_with (first
        | (go_at_call 19; refine (grant_none hm _).mono ?_; rintro e w' ⟨rfl, rfl⟩)
        | (go_at_call 18; refine (read_none hm _).mono ?_; rintro e w' ⟨rfl, rfl⟩)
        | (go_at_call 20; refine (release_none hm _ _).mono ?_; rintro e w' ⟨rfl, rfl⟩)
        | (go_at_call 21; refine (write_none hm _ _).mono ?_; rintro e w' ⟨rfl, rfl⟩)
        | (go_at_call 22; refine (move_none hm _ _ _).mono ?_; rintro e w' ⟨rfl, rfl⟩)
        | (go_at_call 23; refine (claim_none hm _).mono ?_; rintro e w' ⟨rfl, rfl⟩)
        | (go_at_call 16; refine (is_none hm _).mono ?_; rintro e w' ⟨rfl, rfl⟩)
        | (go_at_call 13; refine (pages_none hm).mono ?_; rintro e w' ⟨rfl, rfl⟩)
        | (go_at_call 15; refine (quota_none hm).mono ?_; rintro e w' ⟨rfl, rfl⟩))
      go_roundg 1
      case measure => omega
      case rel => exact ⟨2, by omega, by omega, rfl, fun h => by omega, rfl⟩
    · clear hs
      have haw := awake_any (w.alloc (.cells #[.int .i64 0, .map none] 53))
      go_wp2_with (go_at_call 8; refine haw.mono ?_; rintro e w' ⟨rfl, hb⟩)
      go_ret
      exact ⟨rfl, ((Below.refl _ _).alloc (Nat.le_refl _) _).trans (hb.mono (by simp))⟩

end Sl
end Go.Proofs.Ytclbaepgodeoiaa
