/-
  The walk of ClassFits.
-/
import Derived.Test.YtddgjfdginohaaaLaw2
namespace Go.Proofs.Ytddgjfdginohaaa
open Go.RowKit
namespace Cl

set_option maxHeartbeats 2000000 in
theorem fits_walk (n : Int) (w : World) : Calls Try.prog 5 #[.int .i64 n] w fun e w' => e = .returned (.bool true) ∧ K w w' := by
  have ca := awake_ok w
  have k0 := K.refl w
  by_cases hw : Wd n
  · have n0 := hw.1
    have n1 := hw.2
    have e0 := errW_in hw
    have hp := pagI_in hw
    obtain ⟨⟨p0, q0⟩, ⟨p1, q1⟩, ⟨p2, q2⟩, ⟨p3, q3⟩, ⟨p4, q4⟩, ⟨p5, q5⟩, ⟨p6, q6⟩, ⟨p7, q7⟩, ⟨p8, q8⟩⟩ := siz_facts
    rcases of_cases n hw with ⟨u, c, d⟩ | ⟨l, u, c, d⟩ | ⟨l, u, c, d⟩ | ⟨l, u, c, d⟩ | ⟨l, u, c, d⟩ | ⟨l, u, c, d⟩ | ⟨l, u, c, d⟩ | ⟨l, u, c, d⟩ | ⟨l, c, d⟩
    case inr.inr.inr.inr.inr.inr.inr.inr =>
      have g0 : 1 ≤ pagI n ∧ pagI n ≤ 64 := by rw [hp]; omega
      have g1 : n + 2 ≤ pagI n * 64 := by rw [hp]; omega
      have g2 : (pagI n - 1) * 64 < n + 2 := by rw [hp]; omega
      clear hp hw
      have cp := pages_s w n
      generalize pagI n = p at cp g0 g1 g2
      obtain ⟨g3, g4⟩ := g0
      go_enter Try.func5, Try.ntmps5
      go_wp2_with (first
        | (go_at_call 9; refine (of_s w _ _ (by assumption)).mono ?_; rintro e w1 ⟨rfl, s1⟩)
        | (go_at_call 11; refine (cp _ (by assumption)).mono ?_; rintro e w3 ⟨rfl, s3⟩)
        | (go_at_call 15; refine (size_s w _ _ (by assumption)).mono ?_; rintro e w2 ⟨rfl, s2⟩)
        | (go_at_call 19; refine (classes_s w _ (by assumption)).mono ?_; rintro e w4 ⟨rfl, s4⟩)
        | (go_at_call 13; refine (ca _ (by assumption)).mono ?_; rintro e w6 ⟨rfl, s6⟩))
      go_ret
      exact ⟨rfl, s6⟩
    all_goals
      have g0 : pagI n = 1 := by rw [hp]; omega
      clear hp hw
      go_enter Try.func5, Try.ntmps5
      go_wp2_with (first
        | (go_at_call 9; refine (of_s w _ _ (by assumption)).mono ?_; rintro e w1 ⟨rfl, s1⟩)
        | (go_at_call 11; refine (pages_s w _ _ (by assumption)).mono ?_; rintro e w3 ⟨rfl, s3⟩)
        | (go_at_call 15; refine (size_s w _ _ (by assumption)).mono ?_; rintro e w2 ⟨rfl, s2⟩)
        | (go_at_call 13; refine (ca _ (by assumption)).mono ?_; rintro e w6 ⟨rfl, s6⟩))
      all_goals
        go_ret
        exact ⟨rfl, s6⟩
  · have e0 := errW_out hw
    by_cases h0 : n < 1
    · clear hw
      go_enter Try.func5, Try.ntmps5
      go_wp2_with (first
        | (go_at_call 9; refine (of_s w _ _ (by assumption)).mono ?_; rintro e w1 ⟨rfl, s1⟩)
        | (go_at_call 11; refine (pages_s w _ _ (by assumption)).mono ?_; rintro e w3 ⟨rfl, s3⟩)
        | (go_at_call 13; refine (ca _ (by assumption)).mono ?_; rintro e w6 ⟨rfl, s6⟩))
      go_ret
      exact ⟨rfl, s6⟩
    · have h1 : 4000 < n := by unfold Wd at hw; omega
      clear hw
      go_enter Try.func5, Try.ntmps5
      go_wp2_with (first
        | (go_at_call 9; refine (of_s w _ _ (by assumption)).mono ?_; rintro e w1 ⟨rfl, s1⟩)
        | (go_at_call 11; refine (pages_s w _ _ (by assumption)).mono ?_; rintro e w3 ⟨rfl, s3⟩)
        | (go_at_call 13; refine (ca _ (by assumption)).mono ?_; rintro e w6 ⟨rfl, s6⟩))
      go_ret
      exact ⟨rfl, s6⟩

end Cl
end Go.Proofs.Ytddgjfdginohaaa
