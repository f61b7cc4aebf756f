/-
  CompactEnds: every input.
-/
import Derived.Test.YtpaghflclbaljaaGreatDoorWGEndsW
namespace Go.Proofs.YtpaghflclbaljaaGreatDoor
open Go.RowKit Go.Maps
attribute [local go_sem ↓] Go.wp_at_zero Go.wp_at_succ
namespace Co
open Hp (Kept K No)
open Go.Proofs.YtpaghflclbaljaaGreatDoor.So (Script Opv)

set_option maxRecDepth 100000 in
theorem ends_out (q m : Int) (a0 : Option Addr) (len cap : Nat) (w : World) (hT : Bt.Tab w) (h : q < 0 ∨ 4000 < q ∨ m < 1 ∨ 1000 < m ∨ 60 < len) (hmax : len ≤ maxLen) : Calls Tryz.prog 5 #[.int .i64 q, .int .i64 m, .slice a0 len cap] w fun e w' => e = .returned (.bool true) ∧ K w w' := by
  have ha := awake_any w hT
  have hl63 : (len : Int) ≤ 9223372036854775807 := by unfold maxLen at hmax; omega
  clear hmax hT
  by_cases h0 : q < 0
  · clear h
    go_enter Tryz.func5, Tryz.ntmps5
    go_wp2_with (go_at_call 9; refine ha.mono ?_; rintro e w1 ⟨rfl, hk⟩)
    go_ret
    exact ⟨rfl, hk⟩
  by_cases h1 : 4000 < q
  · clear h
    go_enter Tryz.func5, Tryz.ntmps5
    go_wp2_with (go_at_call 9; refine ha.mono ?_; rintro e w1 ⟨rfl, hk⟩)
    go_ret
    exact ⟨rfl, hk⟩
  by_cases h2 : m < 1
  · clear h
    go_enter Tryz.func5, Tryz.ntmps5
    go_wp2_with (go_at_call 9; refine ha.mono ?_; rintro e w1 ⟨rfl, hk⟩)
    go_ret
    exact ⟨rfl, hk⟩
  by_cases h3 : 1000 < m
  · clear h
    go_enter Tryz.func5, Tryz.ntmps5
    go_wp2_with (go_at_call 9; refine ha.mono ?_; rintro e w1 ⟨rfl, hk⟩)
    go_ret
    exact ⟨rfl, hk⟩
  have h4 : 60 < len := by omega
  · clear h
    go_enter Tryz.func5, Tryz.ntmps5
    go_wp2_with (go_at_call 9; refine ha.mono ?_; rintro e w1 ⟨rfl, hk⟩)
    go_ret
    exact ⟨rfl, hk⟩

theorem ends_any (w : World) (q : Int) (_ : So.In64 q) (m : Int) (_ : So.In64 m) (a0 : Option Addr) (b off len cap : Nat) (z : Nat → Opv) (hS : Script w a0 b off len cap z) (hmax : len ≤ maxLen) (hT : Bt.Tab w) : Calls Tryz.prog 5 #[.int .i64 q, .int .i64 m, .slice a0 len cap] w fun e w' => e = .returned (.bool true) ∧ K w w' := by
  by_cases h : q < 0 ∨ 4000 < q ∨ m < 1 ∨ 1000 < m ∨ 60 < len
  · exact ends_out q m a0 len cap w hT h hmax
  · exact ends_main q (by omega) (by omega) m (by omega) (by omega) a0 b off len cap z w hT hS (by omega)

end Co
end Go.Proofs.YtpaghflclbaljaaGreatDoor
