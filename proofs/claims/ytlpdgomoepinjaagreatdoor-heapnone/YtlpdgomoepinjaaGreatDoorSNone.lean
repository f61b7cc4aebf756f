/-
  An arena that is not there, or that nobody made: every call answers ErrNil and nothing; the walk of the statement on it.
-/
import Derived.Test.YtlpdgomoepinjaaGreatDoorSAwake
namespace Go.Proofs.YtlpdgomoepinjaaGreatDoor
open Go.RowKit Go.Maps
namespace Sl
variable {w : World} {v : Value}

/-- v is no arena: made answers false. -/
def NoArena (w : World) (v : Value) : Prop := Calls Tryz.prog 42 #[v] w fun e w' => e = .returned (.bool false) ∧ w = w'

theorem grant_none (hm : NoArena w v) (n : Int) : Calls Tryz.prog 24 #[v, .int .i64 n] w fun e w' => e = .returned (.tuple #[.int .i64 0, .int .i64 1]) ∧ w = w' := by
  unfold NoArena at hm
  go_enter Tryz.func24, Tryz.ntmps24
  go_wp2_with (go_at_call 42; refine hm.mono ?_; rintro e w' ⟨rfl, rfl⟩)
  go_ret2
  exact ⟨rfl, rfl⟩

theorem release_none (hm : NoArena w v) (p n : Int) : Calls Tryz.prog 55 #[v, .int .i64 p, .int .i64 n] w fun e w' => e = .returned (.int .i64 1) ∧ w = w' := by
  unfold NoArena at hm
  go_enter Tryz.func55, Tryz.ntmps55
  go_wp2_with (go_at_call 42; refine hm.mono ?_; rintro e w' ⟨rfl, rfl⟩)
  go_ret
  exact ⟨rfl, rfl⟩

theorem claim_none (hm : NoArena w v) (p : Int) : Calls Tryz.prog 29 #[v, .int .i64 p] w fun e w' => e = .returned (.int .i64 1) ∧ w = w' := by
  unfold NoArena at hm
  go_enter Tryz.func29, Tryz.ntmps29
  go_wp2_with (go_at_call 42; refine hm.mono ?_; rintro e w' ⟨rfl, rfl⟩)
  go_ret
  exact ⟨rfl, rfl⟩

theorem move_none (hm : NoArena w v) (a b n : Int) : Calls Tryz.prog 91 #[v, .int .i64 a, .int .i64 b, .int .i64 n] w fun e w' => e = .returned (.int .i64 1) ∧ w = w' := by
  unfold NoArena at hm
  go_enter Tryz.func91, Tryz.ntmps91
  go_wp2_with (go_at_call 42; refine hm.mono ?_; rintro e w' ⟨rfl, rfl⟩)
  go_ret
  exact ⟨rfl, rfl⟩

theorem is_none (hm : NoArena w v) (p : Int) : Calls Tryz.prog 31 #[v, .int .i64 p] w fun e w' => e = .returned (.bool false) ∧ w = w' := by
  unfold NoArena at hm
  go_enter Tryz.func31, Tryz.ntmps31
  go_wp2_with (go_at_call 42; refine hm.mono ?_; rintro e w' ⟨rfl, rfl⟩)
  go_ret
  exact ⟨rfl, rfl⟩

theorem pages_none (hm : NoArena w v) : Calls Tryz.prog 14 #[v] w fun e w' => e = .returned (.slice none 0 0) ∧ w = w' := by
  unfold NoArena at hm
  go_enter Tryz.func14, Tryz.ntmps14
  go_wp2_with (go_at_call 42; refine hm.mono ?_; rintro e w' ⟨rfl, rfl⟩)
  go_ret
  exact ⟨rfl, rfl⟩

theorem pageOf_none2 (hm : NoArena w v) (a : Int) : Calls Tryz.prog 64 #[v, .int .i64 a] w fun e w' => e = .returned (.tuple #[.pointer none, .int .i64 1]) ∧ w = w' := by
  unfold NoArena at hm
  go_enter Tryz.func64, Tryz.ntmps64
  go_wp2_with (go_at_call 42; refine hm.mono ?_; rintro e w' ⟨rfl, rfl⟩)
  go_ret2
  exact ⟨rfl, rfl⟩

theorem read_none (hm : NoArena w v) (a : Int) : Calls Tryz.prog 60 #[v, .int .i64 a] w fun e w' => e = .returned (.tuple #[.int .u64 0, .int .i64 1]) ∧ w = w' := by
  have hp := pageOf_none2 hm a
  go_enter Tryz.func60, Tryz.ntmps60
  go_wp2_with (go_at_call 64; refine hp.mono ?_; rintro e w' ⟨rfl, rfl⟩)
  go_ret2
  exact ⟨rfl, rfl⟩

theorem write_none (hm : NoArena w v) (a x : Int) : Calls Tryz.prog 30 #[v, .int .i64 a, .int .u64 x] w fun e w' => e = .returned (.int .i64 1) ∧ w = w' := by
  have hp := pageOf_none2 hm a
  go_enter Tryz.func30, Tryz.ntmps30
  go_wp2_with (go_at_call 64; refine hp.mono ?_; rintro e w' ⟨rfl, rfl⟩)
  go_ret
  exact ⟨rfl, rfl⟩

end Sl
end Go.Proofs.YtlpdgomoepinjaaGreatDoor
