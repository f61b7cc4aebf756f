/-
  HeapAny's walk, of every input.
-/
import Derived.Test.YtkjjobafbcdmoaaGreatDoorA3
namespace Go.Proofs.YtkjjobafbcdmoaaGreatDoor
open Go.RowKit Go.Maps
attribute [local go_sem ↓] Go.wp_at_zero Go.wp_at_succ
namespace Hp

set_option maxRecDepth 100000 in
set_option maxHeartbeats 2000000 in
theorem any_out (a0 : Option Addr) (len cap : Nat) (a1 : Option Addr) (len1 cap1 : Nat) (a2 : Option Addr) (len2 cap2 : Nat) (w : World) (hT : Bt.Tab w) (h : 30 < len ∨ len ≤ 30 ∧ (100 < len1 ∨ len1 ≤ 100 ∧ 40 < len2)) : Calls Tryz.prog 3 #[.slice a0 len cap, .slice a1 len1 cap1, .slice a2 len2 cap2] w fun e w' => e = .returned (.bool true) ∧ K w w' := by
  have ca := awake_any w hT
  rcases h with h | ⟨h1, h | ⟨h2, h⟩⟩
  · have hd : (30 : Int) < (len : Int) := by omega
    go_enter Tryz.func3, Tryz.ntmps3
    go_wp2_with (go_at_call 4; refine ca.mono ?_; rintro e w1 ⟨rfl, k1⟩)
    go_ret
    exact ⟨rfl, k1⟩
  · have hd0 : (len : Int) ≤ 30 := by omega
    have hd : (100 : Int) < (len1 : Int) := by omega
    go_enter Tryz.func3, Tryz.ntmps3
    go_wp2_with (go_at_call 4; refine ca.mono ?_; rintro e w1 ⟨rfl, k1⟩)
    go_ret
    exact ⟨rfl, k1⟩
  · have hd0 : (len : Int) ≤ 30 := by omega
    have hd1 : (len1 : Int) ≤ 100 := by omega
    have hd : (40 : Int) < (len2 : Int) := by omega
    go_enter Tryz.func3, Tryz.ntmps3
    go_wp2_with (go_at_call 4; refine ca.mono ?_; rintro e w1 ⟨rfl, k1⟩)
    go_ret
    exact ⟨rfl, k1⟩

theorem any_walk (w : World) (a0 : Option Addr) (b off len cap : Nat) (pz : Nat → Int) (hN : Nums w a0 b off len cap pz) (_ : len ≤ maxLen) (a1 : Option Addr) (b1 off1 len1 cap1 : Nat) (wz : Nat → Wv) (hW : Wds w a1 b1 off1 len1 cap1 wz) (_ : len1 ≤ maxLen) (a2 : Option Addr) (b2 off2 len2 cap2 : Nat) (sz : Nat → Opv) (hS : Script w a2 b2 off2 len2 cap2 sz) (_ : len2 ≤ maxLen) (hT : Bt.Tab w) :
    Calls Tryz.prog 3 #[.slice a0 len cap, .slice a1 len1 cap1, .slice a2 len2 cap2] w fun e w' => e = .returned (.bool true) ∧ K w w' := by
  by_cases h : 30 < len ∨ len ≤ 30 ∧ (100 < len1 ∨ len1 ≤ 100 ∧ 40 < len2)
  · exact any_out a0 len cap a1 len1 cap1 a2 len2 cap2 w hT h
  · exact any_main a0 b off len cap pz a1 b1 off1 len1 cap1 wz a2 b2 off2 len2 cap2 sz w hT hN hW hS (by omega) (by omega) (by omega)

end Hp
end Go.Proofs.YtkjjobafbcdmoaaGreatDoor
