/-
  HandleRaw: every input.
-/
import Derived.Test.YtfokpiapaacagaaDRaw
namespace Go.Proofs.Ytfokpiapaacagaa
open Go.RowKit Go.Maps
namespace Hd
open Hp (Kept K No)

theorem raw_every (w : World) (q : Int) (_ : In64 q) (z : Int) (hz : 0 ≤ z ∧ z ≤ 4294967295) (a1 : Option Addr) (b1 off1 n1 c1 : Nat) (z1 : Nat → Opv) (hS1 : Script w a1 b1 off1 n1 c1 z1) (hm1 : n1 ≤ maxLen) (a2 : Option Addr) (b2 off2 n2 c2 : Nat) (z2 : Nat → Opv) (hS2 : Script w a2 b2 off2 n2 c2 z2) (hm2 : n2 ≤ maxLen) (a3 : Option Addr) (b3 off3 n3 c3 : Nat) (z3 : List Sl) (hS3 : Slots w a3 b3 off3 n3 c3 z3) (hm3 : n3 ≤ maxLen) :
    Calls Try.prog 7 #[.int .i64 q, .int .u32 z, .slice a1 n1 c1, .slice a2 n2 c2, .slice a3 n3 c3] w fun e w' => e = .returned (.bool true) ∧ K w w' := by
  unfold maxLen at hm1 hm2 hm3
  by_cases hl : 100 < n1 ∨ 100 < n2 ∨ 100 < n3
  · exact raw_long q z a1 a2 a3 n1 n2 n3 c1 c2 c3 w (by omega) (by omega) (by omega) hl
  · by_cases h : badNew q z
    · exact raw_bad q z a1 a2 a3 n1 n2 n3 c1 c2 c3 w (by omega) (by omega) (by omega) h
    · unfold badNew at h
      exact raw_main q z a1 a2 a3 b1 off1 n1 c1 b2 off2 n2 c2 b3 off3 n3 c3 z1 z2 z3 w hS1 hS2 hS3 (by omega) (by omega) (by omega) (by omega) (by omega) (by omega) hz.2

end Hd
end Go.Proofs.Ytfokpiapaacagaa
