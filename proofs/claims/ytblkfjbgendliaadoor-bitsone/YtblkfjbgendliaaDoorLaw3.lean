/-
  The walk of the statement BitsOne.
-/
import Derived.Test.YtblkfjbgendliaaDoorRef
namespace Go.Proofs.YtblkfjbgendliaaDoor
open Go.RowKit
namespace Bt

theorem one_walk (a k : Int) (h : U a) (w : World) (s : S w w) : Calls Tryd.prog 3 #[.int .u64 a, .int .i64 k] w fun e w' => e = .returned (.bool true) ∧ S w w' := by
  have ca := awake_ok w
  have c1 := set_any a k h w
  have c2 := rSet_any a k h w
  have c3 := clr_any a k h w
  have c4 := rClear_any a k h w
  have c5 := has_any a k h w
  have c6 := rHas_any a k h w
  generalize setV a k = x at c1 c2
  generalize clrV a k = y at c3 c4
  generalize errI k = z at c1 c2 c3 c4
  generalize hasI a k = b at c5 c6
  go_enter Tryd.func3, Tryd.ntmps3
  go_wp2_with (first
    | (go_at_call 9; refine c1.mono ?_; rintro e w' ⟨rfl, rfl⟩)
    | (go_at_call 10; refine c2.mono ?_; rintro e w' ⟨rfl, rfl⟩)
    | (go_at_call 11; refine c3.mono ?_; rintro e w' ⟨rfl, rfl⟩)
    | (go_at_call 12; refine c4.mono ?_; rintro e w' ⟨rfl, rfl⟩)
    | (go_at_call 13; refine c5.mono ?_; rintro e w' ⟨rfl, rfl⟩)
    | (go_at_call 14; refine c6.mono ?_; rintro e w' ⟨rfl, rfl⟩)
    | (go_at_call 15; refine (ca _ (by assumption)).mono ?_; rintro e w6 ⟨rfl, s6⟩))
  go_ret
  exact ⟨rfl, s6⟩

end Bt
end Go.Proofs.YtblkfjbgendliaaDoor
