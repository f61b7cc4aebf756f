/-
  The stage's theorem's walk, of every input.
-/
import Derived.Test.YtlalmdckdejggaaGreatDoorWNBackW
namespace Go.Proofs.YtlalmdckdejggaaGreatDoor
open Go.RowKit Go.Maps
attribute [local go_sem ↓] Go.wp_at_zero Go.wp_at_succ
namespace Nd
open Hp (Kept K No)

set_option maxRecDepth 100000 in
set_option maxHeartbeats 2000000 in
theorem back_out (a0 : Option Addr) (len cap : Nat) (a1 : Option Addr) (len1 cap1 : Nat) (st : Int) (w : World) (hT : Bt.Tab w) (h : 60 < len ∨ len ≤ 60 ∧ (60 < len1 ∨ len1 ≤ 60 ∧ (st < 0 ∨ 0 ≤ st ∧ 200 < st))) : Calls Tryz.prog 5 #[.slice a0 len cap, .slice a1 len1 cap1, .int .i64 st] w fun e w' => e = .returned (.bool true) ∧ K w w' := by
  have ca := awake_any w hT
  rcases h with h | ⟨h1, h | ⟨h2, h | ⟨h3, h⟩⟩⟩
  · have hd : (60 : Int) < (len : Int) := by omega
    go_enter Tryz.func5, Tryz.ntmps5
    go_wp2_with (go_at_call 8; refine ca.mono ?_; rintro e w1 ⟨rfl, k1⟩)
    go_ret
    exact ⟨rfl, k1⟩
  · have hd0 : (len : Int) ≤ 60 := by omega
    have hd : (60 : Int) < (len1 : Int) := by omega
    go_enter Tryz.func5, Tryz.ntmps5
    go_wp2_with (go_at_call 8; refine ca.mono ?_; rintro e w1 ⟨rfl, k1⟩)
    go_ret
    exact ⟨rfl, k1⟩
  · have hd0 : (len : Int) ≤ 60 := by omega
    have hd : (len1 : Int) ≤ 60 := by omega
    go_enter Tryz.func5, Tryz.ntmps5
    go_wp2_with (go_at_call 8; refine ca.mono ?_; rintro e w1 ⟨rfl, k1⟩)
    go_ret
    exact ⟨rfl, k1⟩
  · have hd0 : (len : Int) ≤ 60 := by omega
    have hd : (len1 : Int) ≤ 60 := by omega
    go_enter Tryz.func5, Tryz.ntmps5
    go_wp2_with (go_at_call 8; refine ca.mono ?_; rintro e w1 ⟨rfl, k1⟩)
    go_ret
    exact ⟨rfl, k1⟩

theorem back_walk (w : World) (a0 : Option Addr) (b off len cap : Nat) (zz : Nat → Nv) (hS : Nodes w a0 b off len cap zz) (_ : len ≤ maxLen) (a1 : Option Addr) (b1 off1 len1 cap1 : Nat) (oo : Nat → Opn) (hD : Script w a1 b1 off1 len1 cap1 oo) (_ : len1 ≤ maxLen) (st : Int) (_ : Hp.In64 st) (hT : Bt.Tab w) : Calls Tryz.prog 5 #[.slice a0 len cap, .slice a1 len1 cap1, .int .i64 st] w fun e w' => e = .returned (.bool true) ∧ K w w' := by
  by_cases h : 60 < len ∨ len ≤ 60 ∧ (60 < len1 ∨ len1 ≤ 60 ∧ (st < 0 ∨ 0 ≤ st ∧ 200 < st))
  · exact back_out a0 len cap a1 len1 cap1 st w hT h
  · exact back_main a0 b off len cap zz a1 b1 off1 len1 cap1 oo st w hT hS hD (by omega) (by omega) (by omega) (by omega)

end Nd
end Go.Proofs.YtlalmdckdejggaaGreatDoor
