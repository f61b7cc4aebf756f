/-
  CompactAmid: every input.
-/
import Derived.Test.YtgcnjafoabnhgaaGreatDoorWGAmidW
namespace Go.Proofs.YtgcnjafoabnhgaaGreatDoor
open Go.RowKit Go.Maps
attribute [local go_sem ↓] Go.wp_at_zero Go.wp_at_succ
namespace Co
open Hp (Kept K No)
open Go.Proofs.YtgcnjafoabnhgaaGreatDoor.So (Script Opv Nums)

set_option maxRecDepth 100000 in
theorem amid_out (a0 : Option Addr) (len cap : Nat) (a9 : Option Addr) (len9 cap9 : Nat) (w : World) (hT : Bt.Tab w) (h : 60 < len ∨ len ≤ 60 ∧ 60 < len9) (hmax : len ≤ maxLen) (hmax9 : len9 ≤ maxLen) : Calls Tryz.prog 3 #[.slice a0 len cap, .slice a9 len9 cap9] w fun e w' => e = .returned (.bool true) ∧ K w w' := by
  have ha := awake_any w hT
  have hl63 : (len : Int) ≤ 9223372036854775807 := by unfold maxLen at hmax; omega
  have hl639 : (len9 : Int) ≤ 9223372036854775807 := by unfold maxLen at hmax9; omega
  clear hmax hmax9 hT
  rcases h with h | ⟨h1, h⟩
  all_goals
    go_enter Tryz.func3, Tryz.ntmps3
    go_wp2_with (go_at_call 4; refine ha.mono ?_; rintro e w1 ⟨rfl, hk⟩)
    go_ret
    exact ⟨rfl, hk⟩

theorem amid_any (w : World) (a0 : Option Addr) (b off len cap : Nat) (z : Nat → Opv) (hS : Script w a0 b off len cap z) (hmax : len ≤ maxLen) (a9 : Option Addr) (b9 off9 len9 cap9 : Nat) (z9 : Nat → Int) (hN : Nums w a9 b9 off9 len9 cap9 z9) (hmax9 : len9 ≤ maxLen) (hT : Bt.Tab w) : Calls Tryz.prog 3 #[.slice a0 len cap, .slice a9 len9 cap9] w fun e w' => e = .returned (.bool true) ∧ K w w' := by
  by_cases h1 : len ≤ 60
  · by_cases h2 : len9 ≤ 60
    · exact amid_main a0 b off len cap z a9 b9 off9 len9 cap9 z9 w hT hS h1 hN h2
    · exact amid_out a0 len cap a9 len9 cap9 w hT (.inr ⟨h1, by omega⟩) hmax hmax9
  · exact amid_out a0 len cap a9 len9 cap9 w hT (.inl (by omega)) hmax hmax9

end Co
end Go.Proofs.YtgcnjafoabnhgaaGreatDoor
