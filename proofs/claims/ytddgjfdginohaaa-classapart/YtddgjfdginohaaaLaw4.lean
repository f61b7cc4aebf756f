/-
  The walk of ClassApart.
-/
import Derived.Test.YtddgjfdginohaaaCode
namespace Go.Proofs.Ytddgjfdginohaaa
open Go.RowKit
namespace Cl

/-- Where both places are, and how they lie. -/
theorem apart_arith {s q a b : Int} (hs : 2 ≤ s) (hq : q = 62 / s) (a1 : a < q) (b1 : b < q) :
    a * s + s ≤ 62 ∧ b * s + s ≤ 62 ∧ 62 < (q + 1) * s ∧ (q + 1) * s ≤ 62 + s ∧ (a < b → a * s + s ≤ b * s) ∧ (b < a → b * s + s ≤ a * s) := by
  have h1 : q * s ≤ 62 := by rw [hq]; exact Int.ediv_mul_le 62 (by omega)
  have h2 : 62 < (q + 1) * s := by rw [hq]; exact Int.lt_ediv_add_one_mul_self 62 (by omega)
  have up : ∀ x y : Int, x < y → x * s + s ≤ y * s := fun x y h => by
    have := Int.mul_le_mul_of_nonneg_right (show x + 1 ≤ y by omega) (show 0 ≤ s by omega)
    rw [Int.add_mul, Int.one_mul] at this
    exact this
  refine ⟨Int.le_trans (up a q a1) h1, Int.le_trans (up b q b1) h1, h2, ?_, up a b, up b a⟩
  rw [Int.add_mul, Int.one_mul]
  omega

theorem slo_le {c : Int} (he : errC c = 0) : 0 ≤ sloI c ∧ sloI c ≤ 31 := by
  rcases siz_cases c with ⟨_, _, _, d⟩ | ⟨_, _, _, d⟩ | ⟨_, _, _, d⟩ | ⟨_, _, _, d⟩ | ⟨_, _, _, d⟩ | ⟨_, _, _, d⟩ | ⟨_, _, _, d⟩ | ⟨_, _, _, d⟩ | ⟨_, _, b, _⟩
  case inr.inr.inr.inr.inr.inr.inr.inr => omega
  all_goals
    rw [d]
    decide

set_option maxHeartbeats 2000000 in
theorem apart_walk (c a b : Int) (w : World) : Calls Try.prog 6 #[.int .i64 c, .int .i64 a, .int .i64 b] w fun e w' => e = .returned (.bool true) ∧ K w w' := by
  have ca := awake_ok w
  have k0 := K.refl w
  by_cases he : errC c = 0
  · by_cases ha : Sl c a
    · by_cases hb : Sl c b
      · have ea := errP_in ha
        have eb := errP_in hb
        have pa := plaI_in ha
        have pb := plaI_in hb
        obtain ⟨s0, s1, hq, _⟩ := siz_in he
        obtain ⟨q0, q1⟩ := slo_le he
        obtain ⟨a0, a1⟩ := ha
        obtain ⟨b0, b1⟩ := hb
        obtain ⟨m1, r1, t0, t1, up, dn⟩ := apart_arith s0 hq a1 b1
        have m0 : 0 ≤ a * sizI c := Int.mul_nonneg a0 (by omega)
        have r0 : 0 ≤ b * sizI c := Int.mul_nonneg b0 (by omega)
        clear hq
        have cs := size_s w c
        have cl := slots_s w c
        rw [he] at cs cl
        clear he
        obtain ⟨t, ht⟩ : ∃ t, t = (sloI c + 1) * sizI c := ⟨_, rfl⟩
        rw [← ht] at t0 t1
        have key : wrap64 ((sloI c + 1) * sizI c) = t := by rw [← ht]; unfold wrap64; omega
        clear ht
        by_cases hab : a = b
        · subst hab
          clear r0 r1 up dn b0 b1 eb pb
          generalize a * sizI c = m at pa m0 m1
          generalize sizI c = s at cs s0 s1 m1 t1 key
          generalize sloI c = q at cl a1 q0 q1 key
          clear a1
          go_enter Try.func6, Try.ntmps6
          go_wp2_with (first
            | (go_at_call 15; refine (cs _ (by assumption)).mono ?_; rintro e w2 ⟨rfl, s2⟩)
            | (go_at_call 16; refine (cl _ (by assumption)).mono ?_; rintro e w3 ⟨rfl, s3⟩)
            | (go_at_call 18; refine (place_s w _ _ _ (by assumption)).mono ?_; rintro e w4 ⟨rfl, s4⟩)
            | (go_at_call 13; refine (ca _ (by assumption)).mono ?_; rintro e w6 ⟨rfl, s6⟩))
          all_goals first
            | (exfalso; rename_i h; rw [key] at h; unfold wrap64 at h; omega)
            | (go_ret; exact ⟨rfl, s6⟩)
            | (go_ret; refine ⟨?_, s6⟩; simp; omega)
        by_cases hlt : a < b
        · clear hab
          have hu := up hlt
          clear up dn
          have e1 : (a == b) = false := by rw [beq_eq_false_iff_ne]; omega
          have e2 : (2 + a * sizI c == 2 + b * sizI c) = false := by rw [beq_eq_false_iff_ne]; omega
          generalize a * sizI c = m at pa m0 m1 hu e2
          generalize b * sizI c = r at pb r0 r1 hu e2
          generalize sizI c = s at cs s0 s1 m1 r1 t1 key hu
          generalize sloI c = q at cl a1 b1 q0 q1 key
          clear a1 b1
          go_enter Try.func6, Try.ntmps6
          go_wp2_with (first
            | (go_at_call 15; refine (cs _ (by assumption)).mono ?_; rintro e w2 ⟨rfl, s2⟩)
            | (go_at_call 16; refine (cl _ (by assumption)).mono ?_; rintro e w3 ⟨rfl, s3⟩)
            | (go_at_call 18; refine (place_s w _ _ _ (by assumption)).mono ?_; rintro e w4 ⟨rfl, s4⟩)
            | (go_at_call 13; refine (ca _ (by assumption)).mono ?_; rintro e w6 ⟨rfl, s6⟩))
          all_goals first
            | (exfalso; rename_i h; rw [key] at h; unfold wrap64 at h; omega)
            | (go_ret; exact ⟨rfl, s6⟩)
            | (go_ret; refine ⟨?_, s6⟩; simp; omega)
        · have hlt : b < a := by omega
          clear hab
          have hu := dn hlt
          clear up dn
          have e1 : (a == b) = false := by rw [beq_eq_false_iff_ne]; omega
          have e2 : (2 + a * sizI c == 2 + b * sizI c) = false := by rw [beq_eq_false_iff_ne]; omega
          generalize a * sizI c = m at pa m0 m1 hu e2
          generalize b * sizI c = r at pb r0 r1 hu e2
          generalize sizI c = s at cs s0 s1 m1 r1 t1 key hu
          generalize sloI c = q at cl a1 b1 q0 q1 key
          clear a1 b1
          go_enter Try.func6, Try.ntmps6
          go_wp2_with (first
            | (go_at_call 15; refine (cs _ (by assumption)).mono ?_; rintro e w2 ⟨rfl, s2⟩)
            | (go_at_call 16; refine (cl _ (by assumption)).mono ?_; rintro e w3 ⟨rfl, s3⟩)
            | (go_at_call 18; refine (place_s w _ _ _ (by assumption)).mono ?_; rintro e w4 ⟨rfl, s4⟩)
            | (go_at_call 13; refine (ca _ (by assumption)).mono ?_; rintro e w6 ⟨rfl, s6⟩))
          all_goals first
            | (exfalso; rename_i h; rw [key] at h; unfold wrap64 at h; omega)
            | (go_ret; exact ⟨rfl, s6⟩)
            | (go_ret; refine ⟨?_, s6⟩; simp; omega)
      · have ea := errP_in ha
        have eb := errP_out hb
        clear ha hb
        go_enter Try.func6, Try.ntmps6
        go_wp2_with (first
          | (go_at_call 15; refine (size_s w _ _ (by assumption)).mono ?_; rintro e w2 ⟨rfl, s2⟩)
          | (go_at_call 18; refine (place_s w _ _ _ (by assumption)).mono ?_; rintro e w4 ⟨rfl, s4⟩)
          | (go_at_call 13; refine (ca _ (by assumption)).mono ?_; rintro e w6 ⟨rfl, s6⟩))
        go_ret
        exact ⟨rfl, s6⟩
    · have ea := errP_out ha
      have pa := plaI_out ha
      clear ha
      go_enter Try.func6, Try.ntmps6
      go_wp2_with (first
        | (go_at_call 15; refine (size_s w _ _ (by assumption)).mono ?_; rintro e w2 ⟨rfl, s2⟩)
        | (go_at_call 18; refine (place_s w _ _ _ (by assumption)).mono ?_; rintro e w4 ⟨rfl, s4⟩)
        | (go_at_call 13; refine (ca _ (by assumption)).mono ?_; rintro e w6 ⟨rfl, s6⟩))
      go_ret
      exact ⟨rfl, s6⟩
  · obtain ⟨_, h2, h3, _⟩ := siz_out he
    have ha : ¬ Sl c a := by unfold Sl; omega
    have ea := errP_out ha
    have pa := plaI_out ha
    clear ha he h2
    go_enter Try.func6, Try.ntmps6
    go_wp2_with (first
      | (go_at_call 15; refine (size_s w _ _ (by assumption)).mono ?_; rintro e w2 ⟨rfl, s2⟩)
      | (go_at_call 18; refine (place_s w _ _ _ (by assumption)).mono ?_; rintro e w4 ⟨rfl, s4⟩)
      | (go_at_call 13; refine (ca _ (by assumption)).mono ?_; rintro e w6 ⟨rfl, s6⟩))
    go_ret
    exact ⟨rfl, s6⟩

end Cl
end Go.Proofs.Ytddgjfdginohaaa
