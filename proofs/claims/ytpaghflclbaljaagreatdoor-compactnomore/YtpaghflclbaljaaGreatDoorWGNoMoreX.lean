/-
  CompactNoMore: every input.
-/
import Derived.Test.YtpaghflclbaljaaGreatDoorWGNoMore
namespace Go.Proofs.YtpaghflclbaljaaGreatDoor
open Go.RowKit Go.Maps
attribute [local go_sem ↓] Go.wp_at_zero Go.wp_at_succ
namespace Co
open Hp (Kept K No)
open Go.Proofs.YtpaghflclbaljaaGreatDoor.So (Script Opv)

set_option maxRecDepth 100000 in
theorem nomore_out (n many : Int) (a0 : Option Addr) (len cap : Nat) (w : World) (hT : Bt.Tab w) (h : n < 0 ∨ 3998 < n ∨ many < 0 ∨ 60 < many ∨ 60 < len) (hmax : len ≤ maxLen) : Calls Tryz.prog 7 #[.int .i64 n, .int .i64 many, .slice a0 len cap] w fun e w' => e = .returned (.bool true) ∧ K w w' := by
  have ha := awake_any w hT
  have hl63 : (len : Int) ≤ 9223372036854775807 := by unfold maxLen at hmax; omega
  clear hmax hT
  by_cases h0 : n < 0
  · clear h
    go_enter Tryz.func7, Tryz.ntmps7
    go_wp2_with (go_at_call 9; refine ha.mono ?_; rintro e w1 ⟨rfl, hk⟩)
    go_ret
    exact ⟨rfl, hk⟩
  by_cases h1 : 3998 < n
  · clear h
    go_enter Tryz.func7, Tryz.ntmps7
    go_wp2_with (go_at_call 9; refine ha.mono ?_; rintro e w1 ⟨rfl, hk⟩)
    go_ret
    exact ⟨rfl, hk⟩
  by_cases h2 : many < 0
  · clear h
    go_enter Tryz.func7, Tryz.ntmps7
    go_wp2_with (go_at_call 9; refine ha.mono ?_; rintro e w1 ⟨rfl, hk⟩)
    go_ret
    exact ⟨rfl, hk⟩
  by_cases h3 : 60 < many
  · clear h
    go_enter Tryz.func7, Tryz.ntmps7
    go_wp2_with (go_at_call 9; refine ha.mono ?_; rintro e w1 ⟨rfl, hk⟩)
    go_ret
    exact ⟨rfl, hk⟩
  have h4 : 60 < len := by omega
  · clear h
    go_enter Tryz.func7, Tryz.ntmps7
    go_wp2_with (go_at_call 9; refine ha.mono ?_; rintro e w1 ⟨rfl, hk⟩)
    go_ret
    exact ⟨rfl, hk⟩

theorem nomore_any (w : World) (n : Int) (_ : So.In64 n) (many : Int) (_ : So.In64 many) (a0 : Option Addr) (b off len cap : Nat) (z : Nat → Opv) (hS : Script w a0 b off len cap z) (hmax : len ≤ maxLen) (hT : Bt.Tab w) : Calls Tryz.prog 7 #[.int .i64 n, .int .i64 many, .slice a0 len cap] w fun e w' => e = .returned (.bool true) ∧ K w w' := by
  by_cases h : n < 0 ∨ 3998 < n ∨ many < 0 ∨ 60 < many ∨ 60 < len
  · exact nomore_out n many a0 len cap w hT h hmax
  · exact nomore_main n (by omega) (by omega) many (by omega) (by omega) a0 b off len cap z w hT hS (by omega)

end Co
end Go.Proofs.YtpaghflclbaljaaGreatDoor
