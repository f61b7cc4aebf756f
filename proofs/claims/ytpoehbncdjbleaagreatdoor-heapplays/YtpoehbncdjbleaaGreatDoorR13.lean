/-
  HeapPlays' walk, of every input.
-/
import Derived.Test.YtpoehbncdjbleaaGreatDoorR12
namespace Go.Proofs.YtpoehbncdjbleaaGreatDoor
open Go.RowKit Go.Maps
attribute [local go_sem ↓] Go.wp_at_zero Go.wp_at_succ
namespace Hp

set_option maxRecDepth 100000 in
set_option maxHeartbeats 2000000 in
theorem plays_out (a0 : Option Addr) (len cap0 : Nat) (q : Int) (w : World) (hT : Bt.Tab w) (h : q < 0 ∨ 0 ≤ q ∧ (4000 < q ∨ q ≤ 4000 ∧ 80 < len)) : Calls Tryz.prog 3 #[.int .i64 q, .slice a0 len cap0] w fun e w' => e = .returned (.bool true) ∧ K w w' := by
  have ca := awake_any w hT
  rcases h with h | ⟨h1, h | ⟨h2, h⟩⟩
  · go_enter Tryz.func3, Tryz.ntmps3
    go_wp2_with (go_at_call 4; refine ca.mono ?_; rintro e w1 ⟨rfl, k1⟩)
    go_ret
    exact ⟨rfl, k1⟩
  · go_enter Tryz.func3, Tryz.ntmps3
    go_wp2_with (go_at_call 4; refine ca.mono ?_; rintro e w1 ⟨rfl, k1⟩)
    go_ret
    exact ⟨rfl, k1⟩
  · have hl : (80 : Int) < (len : Int) := by omega
    go_enter Tryz.func3, Tryz.ntmps3
    go_wp2_with (go_at_call 4; refine ca.mono ?_; rintro e w1 ⟨rfl, k1⟩)
    go_ret
    exact ⟨rfl, k1⟩

theorem plays_any (a0 : Option Addr) (b off len cap0 : Nat) (z : Nat → Opv) (q : Int) (w : World) (hT : Bt.Tab w) (hS : Script w a0 b off len cap0 z) (_ : len ≤ maxLen) : Calls Tryz.prog 3 #[.int .i64 q, .slice a0 len cap0] w fun e w' => e = .returned (.bool true) ∧ K w w' := by
  by_cases h : q < 0 ∨ 0 ≤ q ∧ (4000 < q ∨ q ≤ 4000 ∧ 80 < len)
  · exact plays_out a0 len cap0 q w hT h
  · exact plays_main a0 b off len cap0 z q w hT hS (by omega) (by omega) (by omega)

end Hp
end Go.Proofs.YtpoehbncdjbleaaGreatDoor
