/-
  The walks of ClassAll and ClassFits.
-/
import Derived.Test.YtddgjfdginohaaaCode
namespace Go.Proofs.Ytddgjfdginohaaa
open Go.RowKit
namespace Cl

theorem siz_facts : (sizI 0 = 2 ∧ errC 0 = 0) ∧ (sizI 1 = 3 ∧ errC 1 = 0) ∧ (sizI 2 = 4 ∧ errC 2 = 0) ∧ (sizI 3 = 6 ∧ errC 3 = 0) ∧ (sizI 4 = 9 ∧ errC 4 = 0) ∧ (sizI 5 = 13 ∧ errC 5 = 0) ∧ (sizI 6 = 19 ∧ errC 6 = 0) ∧ (sizI 7 = 28 ∧ errC 7 = 0) ∧ (sizI 8 = 0 ∧ errC 8 = 2) := by decide

theorem all_walk (c : Int) (w : World) : Calls Try.prog 8 #[.int .i64 c] w fun e w' => e = .returned (.bool true) ∧ K w w' := by
  have ca := awake_ok w
  have k0 := K.refl w
  obtain ⟨⟨p0, q0⟩, ⟨p1, q1⟩, ⟨p2, q2⟩, ⟨p3, q3⟩, ⟨p4, q4⟩, ⟨p5, q5⟩, ⟨p6, q6⟩, ⟨p7, q7⟩, ⟨p8, q8⟩⟩ := siz_facts
  by_cases he : errC c = 0
  · obtain ⟨_, _, _, h0, h1⟩ := siz_in he
    have hc : c = 0 ∨ c = 1 ∨ c = 2 ∨ c = 3 ∨ c = 4 ∨ c = 5 ∨ c = 6 ∨ c = 7 := by omega
    clear h0 h1 he
    rcases hc with rfl | rfl | rfl | rfl | rfl | rfl | rfl | rfl
    all_goals
      go_enter Try.func8, Try.ntmps8
      go_wp2_with (first
        | (go_at_call 15; refine (size_s w _ _ (by assumption)).mono ?_; rintro e w2 ⟨rfl, s2⟩)
        | (go_at_call 19; refine (classes_s w _ (by assumption)).mono ?_; rintro e w4 ⟨rfl, s4⟩)
        | (go_at_call 13; refine (ca _ (by assumption)).mono ?_; rintro e w6 ⟨rfl, s6⟩))
      go_ret
      exact ⟨rfl, s6⟩
  · obtain ⟨h1, _, h3, h4⟩ := siz_out he
    clear he p0 q0 p1 q1 p2 q2 p3 q3 p4 q4 p5 q5 p6 q6 p7 q7 p8 q8
    unfold C at h4
    by_cases h0 : c < 0
    · clear h4
      go_enter Try.func8, Try.ntmps8
      go_wp2_with (first
        | (go_at_call 15; refine (size_s w _ _ (by assumption)).mono ?_; rintro e w2 ⟨rfl, s2⟩)
        | (go_at_call 19; refine (classes_s w _ (by assumption)).mono ?_; rintro e w4 ⟨rfl, s4⟩)
        | (go_at_call 13; refine (ca _ (by assumption)).mono ?_; rintro e w6 ⟨rfl, s6⟩))
      go_ret
      exact ⟨rfl, s6⟩
    · have h5 : 8 ≤ c := by omega
      clear h4
      go_enter Try.func8, Try.ntmps8
      go_wp2_with (first
        | (go_at_call 15; refine (size_s w _ _ (by assumption)).mono ?_; rintro e w2 ⟨rfl, s2⟩)
        | (go_at_call 19; refine (classes_s w _ (by assumption)).mono ?_; rintro e w4 ⟨rfl, s4⟩)
        | (go_at_call 13; refine (ca _ (by assumption)).mono ?_; rintro e w6 ⟨rfl, s6⟩))
      go_ret
      exact ⟨rfl, s6⟩

end Cl
end Go.Proofs.Ytddgjfdginohaaa
