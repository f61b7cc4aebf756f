/-
  The walk of the statement BitsAll.
-/
import Derived.Test.YtblkfjbgendliaaDoorRef2
namespace Go.Proofs.YtblkfjbgendliaaDoor
open Go.RowKit
namespace Bt

theorem all_walk (a n : Int) (h : U a) (w : World) (s : S w w) : Calls Tryd.prog 4 #[.int .u64 a, .int .i64 n] w fun e w' => e = .returned (.bool true) ∧ S w w' := by
  have ca := awake_ok w
  have c1 := free_s w a n h
  have c2 := rFree_any a n h
  have c3 := last_s w a n h
  have c4 := rLast_any a n h
  have c5 := count_s w a n h
  have c6 := rCount_any a n h
  have c7 := full_s w n
  have c8 := rFull_any n
  generalize freI a n = x at c1 c2
  generalize lstI a n = y at c3 c4
  generalize cntI a n = z at c5 c6
  generalize fulI n = u at c7 c8
  go_enter Tryd.func4, Tryd.ntmps4
  go_wp2_with (first
    | (go_at_call 16; refine (c1 _ (by assumption)).mono ?_; rintro e w1 ⟨rfl, s1⟩)
    | (go_at_call 17; refine (c2 _).mono ?_; rintro e w' ⟨rfl, rfl⟩)
    | (go_at_call 18; refine (c3 _ (by assumption)).mono ?_; rintro e w3 ⟨rfl, s3⟩)
    | (go_at_call 19; refine (c4 _).mono ?_; rintro e w' ⟨rfl, rfl⟩)
    | (go_at_call 20; refine (c5 _ (by assumption)).mono ?_; rintro e w5 ⟨rfl, s5⟩)
    | (go_at_call 21; refine (c6 _).mono ?_; rintro e w' ⟨rfl, rfl⟩)
    | (go_at_call 22; refine (c7 _ (by assumption)).mono ?_; rintro e w7 ⟨rfl, s7⟩)
    | (go_at_call 23; refine (c8 _).mono ?_; rintro e w' ⟨rfl, rfl⟩)
    | (go_at_call 15; refine (ca _ (by assumption)).mono ?_; rintro e w9 ⟨rfl, s9⟩))
  go_ret
  exact ⟨rfl, s9⟩

end Bt
end Go.Proofs.YtblkfjbgendliaaDoor
