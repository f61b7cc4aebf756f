/-
  A table that is not there, or that nobody made: every call answers ErrNil and nothing; HandleNone's walk.
-/
import Derived.Test.YtfokpiapaacagaaDAwake
import Derived.Test.YtfokpiapaacagaaDDoor
namespace Go.Proofs.Ytfokpiapaacagaa
open Go.RowKit Go.Maps
namespace Hd
open Hp (Kept K No)
variable {w : World} {v : Value}

/-- v is no table: made answers false. -/
def NoTab (w : World) (v : Value) : Prop := Calls Try.prog 28 #[v] w fun e w' => e = .returned (.bool false) ∧ w = w'

theorem open_none (hm : NoTab w v) (a : Int) : Calls Try.prog 17 #[v, .int .i64 a] w fun e w' => e = .returned (.tuple #[.int .u64 0, .int .i64 1]) ∧ w = w' := by
  unfold NoTab at hm
  go_enter Try.func17, Try.ntmps17
  go_wp2_with (go_at_call 28; refine hm.mono ?_; rintro e w' ⟨rfl, rfl⟩)
  go_ret2
  exact ⟨rfl, rfl⟩

theorem find_none (hm : NoTab w v) (x : Int) : Calls Try.prog 33 #[v, .int .u64 x] w fun e w' => e = .returned (.tuple #[.pointer none, .int .i64 1]) ∧ w = w' := by
  unfold NoTab at hm
  go_enter Try.func33, Try.ntmps33
  go_wp2_with (go_at_call 28; refine hm.mono ?_; rintro e w' ⟨rfl, rfl⟩)
  go_ret2
  exact ⟨rfl, rfl⟩

theorem at_none (hm : NoTab w v) (x : Int) : Calls Try.prog 18 #[v, .int .u64 x] w fun e w' => e = .returned (.tuple #[.int .i64 0, .int .i64 1]) ∧ w = w' := by
  have hf := find_none hm x
  clear hm
  go_enter Try.func18, Try.ntmps18
  go_wp2_with (go_at_call 33; refine hf.mono ?_; rintro e w' ⟨rfl, rfl⟩)
  go_ret2
  exact ⟨rfl, rfl⟩

theorem move_none (hm : NoTab w v) (x a : Int) : Calls Try.prog 19 #[v, .int .u64 x, .int .i64 a] w fun e w' => e = .returned (.int .i64 1) ∧ w = w' := by
  have hf := find_none hm x
  clear hm
  go_enter Try.func19, Try.ntmps19
  go_wp2_with (go_at_call 33; refine hf.mono ?_; rintro e w' ⟨rfl, rfl⟩)
  go_ret
  exact ⟨rfl, rfl⟩

theorem close_none (hm : NoTab w v) (x : Int) : Calls Try.prog 20 #[v, .int .u64 x] w fun e w' => e = .returned (.int .i64 1) ∧ w = w' := by
  have hf := find_none hm x
  clear hm
  go_enter Try.func20, Try.ntmps20
  go_wp2_with (go_at_call 33; refine hf.mono ?_; rintro e w' ⟨rfl, rfl⟩)
  go_ret
  exact ⟨rfl, rfl⟩

theorem live_none (hm : NoTab w v) : Calls Try.prog 14 #[v] w fun e w' => e = .returned (.slice none 0 0) ∧ w = w' := by
  unfold NoTab at hm
  go_enter Try.func14, Try.ntmps14
  go_wp2_with (go_at_call 28; refine hm.mono ?_; rintro e w' ⟨rfl, rfl⟩)
  go_ret
  exact ⟨rfl, rfl⟩

theorem used_none (hm : NoTab w v) : Calls Try.prog 16 #[v] w fun e w' => e = .returned (.int .i64 0) ∧ w = w' := by
  unfold NoTab at hm
  go_enter Try.func16, Try.ntmps16
  go_wp2_with (go_at_call 28; refine hm.mono ?_; rintro e w' ⟨rfl, rfl⟩)
  go_ret
  exact ⟨rfl, rfl⟩

theorem made_nil (w : World) : NoTab w (.pointer none) := by
  unfold NoTab
  go_enter Try.func28, Try.ntmps28
  go_wp2
  go_ret
  exact ⟨rfl, rfl⟩
theorem made_zero {b : Nat} (c1 : w.cell? ⟨b, 1, none⟩ = some (.int .u32 0)) : NoTab w (tp b) := by
  unfold NoTab
  go_enter Try.func28, Try.ntmps28
  go_wp2
  go_ret
  exact ⟨rfl, rfl⟩

theorem none_any (x : Int) (_ : 0 ≤ x ∧ x ≤ 18446744073709551615) (a : Int) (_ : In64 a) (w : World) : Calls Try.prog 4 #[.int .u64 x, .int .i64 a] w fun e w' => e = .returned (.bool true) ∧ K w w' := by
  obtain ⟨w1, hw1⟩ : ∃ w1, w1 = w.alloc (.cells #[.int .i64 0, .int .u32 0, .slice none 0 0] 49) := ⟨_, rfl⟩
  have k1 : K w w1 := by rw [hw1]; exact (K.refl w).alloc _
  have hc1 : w1.cell? ⟨w.heap.size, 1, none⟩ = some (.int .u32 0) := by
    have : w1.heap[w.heap.size]? = some (.cells #[.int .i64 0, .int .u32 0, .slice none 0 0] 49) := by rw [hw1]; exact World.alloc_heap_new _ _
    simp [World.cell?, this]
  go_enter Try.func4, Try.ntmps4
  go_wp2
  rw [← hw1]
  clear hw1
  go_loopg [5, 7] 2 (fun gh t5 t7 wx => w1 = wx ∧ ((gh = 2 ∧ t7 = .int .i64 0 ∧ t5 = .pointer none) ∨ (gh = 1 ∧ t7 = .int .i64 1) ∨ (gh = 0 ∧ t7 = .int .i64 2)))
  case atStart => exact ⟨rfl, .inl ⟨rfl, rfl, rfl⟩⟩
  case round =>
    obtain ⟨rfl, (⟨rfl, rfl, rfl⟩ | ⟨rfl, rfl⟩ | ⟨rfl, rfl⟩)⟩ := hrel
    · have N : Aside (NoTab w1 (.pointer none)) := made_nil w1
      go_wp2_with (first
        | (go_at_call 17; refine (open_none N.out a).mono ?_; rintro e w' ⟨rfl, rfl⟩)
        | (go_at_call 18; refine (at_none N.out x).mono ?_; rintro e w' ⟨rfl, rfl⟩)
        | (go_at_call 19; refine (move_none N.out x a).mono ?_; rintro e w' ⟨rfl, rfl⟩)
        | (go_at_call 20; refine (close_none N.out x).mono ?_; rintro e w' ⟨rfl, rfl⟩)
        | (go_at_call 14; refine (live_none N.out).mono ?_; rintro e w' ⟨rfl, rfl⟩)
        | (go_at_call 16; refine (used_none N.out).mono ?_; rintro e w' ⟨rfl, rfl⟩))
      go_roundg 1
      case measure => omega
      case rel => exact ⟨rfl, .inr (.inl ⟨rfl, rfl⟩)⟩
    · have N : Aside (NoTab w1 (tp w.heap.size)) := made_zero hc1
      go_wp2_with (first
        | (go_at_call 17; refine (open_none N.out a).mono ?_; rintro e w' ⟨rfl, rfl⟩)
        | (go_at_call 18; refine (at_none N.out x).mono ?_; rintro e w' ⟨rfl, rfl⟩)
        | (go_at_call 19; refine (move_none N.out x a).mono ?_; rintro e w' ⟨rfl, rfl⟩)
        | (go_at_call 20; refine (close_none N.out x).mono ?_; rintro e w' ⟨rfl, rfl⟩)
        | (go_at_call 14; refine (live_none N.out).mono ?_; rintro e w' ⟨rfl, rfl⟩)
        | (go_at_call 16; refine (used_none N.out).mono ?_; rintro e w' ⟨rfl, rfl⟩))
      go_roundg 0
      case measure => omega
      case rel => exact ⟨rfl, .inr (.inr ⟨rfl, rfl⟩)⟩
    · have H := awake_any w1
      go_wp2_with (go_at_call 9; refine H.mono ?_; rintro e w' ⟨rfl, hk⟩)
      go_ret
      exact ⟨rfl, k1.trans (by assumption)⟩

end Hd
end Go.Proofs.Ytfokpiapaacagaa
