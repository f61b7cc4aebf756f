/-
  HandleOnce: every input.
-/
import Derived.Test.YtfokpiapaacagaaDOnce
namespace Go.Proofs.Ytfokpiapaacagaa
open Go.RowKit Go.Maps
namespace Hd
open Hp (Kept K No)

set_option maxRecDepth 100000 in
theorem once_bad (q z : Int) (a0 : Option Addr) (len cap : Nat) (w : World) (h : badNew q z) : Calls Try.prog 5 #[.int .i64 q, .int .u32 z, .slice a0 len cap] w fun e w' => e = .returned (.bool true) ∧ K w w' := by
  have hn := new_no q z w h
  have ha := awake_any w
  clear h
  go_enter Try.func5, Try.ntmps5
  go_wp2_with (first
    | (go_at_call 10; refine hn.mono ?_; rintro e w1 ⟨rfl, rfl⟩)
    | (go_at_call 9; refine ha.mono ?_; rintro e w1 ⟨rfl, hk⟩))
  go_ret
  exact ⟨rfl, by assumption⟩

set_option maxRecDepth 100000 in
theorem once_long (q z : Int) (a0 : Option Addr) (len cap : Nat) (w : World) (hl : (200 : Int) < len) (_ : (len : Int) ≤ 9223372036854775807) (q0 : 1 ≤ q) (q1 : q ≤ 65536) (z0 : 1 ≤ z) (z1 : z ≤ 4294967295) : Calls Try.prog 5 #[.int .i64 q, .int .u32 z, .slice a0 len cap] w fun e w' => e = .returned (.bool true) ∧ K w w' := by
  have hn := new_rn q z w q0 q1 z0 z1
  go_enter Try.func5, Try.ntmps5
  go_wp2_with fail
  refine hn.mono ?_
  rintro e w1 ⟨rfl, h1⟩
  have ha := awake_any w1
  have hk := h1.k
  clear hn h1
  go_wp2_with (go_at_call 9; refine ha.mono ?_; rintro e w2 ⟨rfl, hk2⟩)
  go_ret
  exact ⟨rfl, hk.trans (by assumption)⟩

theorem once_any (w : World) (q : Int) (_ : In64 q) (z : Int) (hz : 0 ≤ z ∧ z ≤ 4294967295) (a0 : Option Addr) (b off len cap : Nat) (zz : Nat → Opv) (hS : Script w a0 b off len cap zz) (hmax : len ≤ maxLen) : Calls Try.prog 5 #[.int .i64 q, .int .u32 z, .slice a0 len cap] w fun e w' => e = .returned (.bool true) ∧ K w w' := by
  by_cases h : badNew q z
  · exact once_bad q z a0 len cap w h
  · unfold badNew at h
    by_cases hl : len ≤ 200
    · exact once_main q z a0 b off len cap zz w hS hl (by omega) (by omega) (by omega) hz.2
    · exact once_long q z a0 len cap w (by omega) (by unfold maxLen at hmax; omega) (by omega) (by omega) (by omega) hz.2

end Hd
end Go.Proofs.Ytfokpiapaacagaa
