/-
  CompactParts: every input.
-/
import Derived.Test.YtpaghflclbaljaaGreatDoorWGPartsW
namespace Go.Proofs.YtpaghflclbaljaaGreatDoor
open Go.RowKit Go.Maps
attribute [local go_sem ↓] Go.wp_at_zero Go.wp_at_succ
namespace Co
open Hp (Kept K No)
open Go.Proofs.YtpaghflclbaljaaGreatDoor.So (Script Opv)

set_option maxRecDepth 100000 in
theorem parts_out (q m one two : Int) (a0 : Option Addr) (len cap : Nat) (w : World) (hT : Bt.Tab w) (h : q < 0 ∨ 4000 < q ∨ m < 1 ∨ 1000 < m ∨ 40 < len ∨ one < 0 ∨ 100 < one ∨ two < 0 ∨ 100 < two) (hmax : len ≤ maxLen) : Calls Tryz.prog 6 #[.int .i64 q, .int .i64 m, .slice a0 len cap, .int .i64 one, .int .i64 two] w fun e w' => e = .returned (.bool true) ∧ K w w' := by
  have ha := awake_any w hT
  have hl63 : (len : Int) ≤ 9223372036854775807 := by unfold maxLen at hmax; omega
  clear hmax hT
  by_cases h0 : q < 0
  · clear h
    go_enter Tryz.func6, Tryz.ntmps6
    go_wp2_with (go_at_call 9; refine ha.mono ?_; rintro e w1 ⟨rfl, hk⟩)
    go_ret
    exact ⟨rfl, hk⟩
  by_cases h1 : 4000 < q
  · clear h
    go_enter Tryz.func6, Tryz.ntmps6
    go_wp2_with (go_at_call 9; refine ha.mono ?_; rintro e w1 ⟨rfl, hk⟩)
    go_ret
    exact ⟨rfl, hk⟩
  by_cases h2 : m < 1
  · clear h
    go_enter Tryz.func6, Tryz.ntmps6
    go_wp2_with (go_at_call 9; refine ha.mono ?_; rintro e w1 ⟨rfl, hk⟩)
    go_ret
    exact ⟨rfl, hk⟩
  by_cases h3 : 1000 < m
  · clear h
    go_enter Tryz.func6, Tryz.ntmps6
    go_wp2_with (go_at_call 9; refine ha.mono ?_; rintro e w1 ⟨rfl, hk⟩)
    go_ret
    exact ⟨rfl, hk⟩
  by_cases h4 : 40 < len
  · clear h
    go_enter Tryz.func6, Tryz.ntmps6
    go_wp2_with (go_at_call 9; refine ha.mono ?_; rintro e w1 ⟨rfl, hk⟩)
    go_ret
    exact ⟨rfl, hk⟩
  by_cases h5 : one < 0
  · clear h
    go_enter Tryz.func6, Tryz.ntmps6
    go_wp2_with (go_at_call 9; refine ha.mono ?_; rintro e w1 ⟨rfl, hk⟩)
    go_ret
    exact ⟨rfl, hk⟩
  by_cases h6 : 100 < one
  · clear h
    go_enter Tryz.func6, Tryz.ntmps6
    go_wp2_with (go_at_call 9; refine ha.mono ?_; rintro e w1 ⟨rfl, hk⟩)
    go_ret
    exact ⟨rfl, hk⟩
  by_cases h7 : two < 0
  · clear h
    go_enter Tryz.func6, Tryz.ntmps6
    go_wp2_with (go_at_call 9; refine ha.mono ?_; rintro e w1 ⟨rfl, hk⟩)
    go_ret
    exact ⟨rfl, hk⟩
  have h8 : 100 < two := by omega
  · clear h
    go_enter Tryz.func6, Tryz.ntmps6
    go_wp2_with (go_at_call 9; refine ha.mono ?_; rintro e w1 ⟨rfl, hk⟩)
    go_ret
    exact ⟨rfl, hk⟩

theorem parts_any (w : World) (q : Int) (_ : So.In64 q) (m : Int) (_ : So.In64 m) (a0 : Option Addr) (b off len cap : Nat) (z : Nat → Opv) (hS : Script w a0 b off len cap z) (hmax : len ≤ maxLen) (one : Int) (_ : So.In64 one) (two : Int) (_ : So.In64 two) (hT : Bt.Tab w) : Calls Tryz.prog 6 #[.int .i64 q, .int .i64 m, .slice a0 len cap, .int .i64 one, .int .i64 two] w fun e w' => e = .returned (.bool true) ∧ K w w' := by
  by_cases h : q < 0 ∨ 4000 < q ∨ m < 1 ∨ 1000 < m ∨ 40 < len ∨ one < 0 ∨ 100 < one ∨ two < 0 ∨ 100 < two
  · exact parts_out q m one two a0 len cap w hT h hmax
  · exact parts_main q (by omega) (by omega) m (by omega) (by omega) a0 b off len cap z one (by omega) (by omega) two (by omega) (by omega) w hT hS (by omega)

end Co
end Go.Proofs.YtpaghflclbaljaaGreatDoor
