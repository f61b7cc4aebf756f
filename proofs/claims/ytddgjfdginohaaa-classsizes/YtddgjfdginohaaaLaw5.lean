/-
  The reference's Slots, and the walk of ClassSizes.
-/
import Derived.Test.YtddgjfdginohaaaRef
namespace Go.Proofs.Ytddgjfdginohaaa
open Go.RowKit
namespace Cl

theorem rSlots_out (c : Int) (h : ¬ C c) (w : World) : Calls Try.prog 17 #[.int .i64 c] w fun e W' => e = .returned (.tuple #[.int .i64 0, .int .i64 2]) ∧ K w W' := by
  unfold C at h
  by_cases h0 : c < 0
  · clear h
    go_enter Try.func17, Try.ntmps17
    go_wp2_with (go_at_call 14; refine (rSizes_ok _).mono ?_; rintro e w2 ⟨b, rfl, k2, _⟩)
    go_ret2
    exact ⟨rfl, k2⟩
  · have h1 : 8 ≤ c := by omega
    clear h
    go_enter Try.func17, Try.ntmps17
    go_wp2_with (go_at_call 14; refine (rSizes_ok _).mono ?_; rintro e w2 ⟨b, rfl, k2, _⟩)
    go_ret2
    exact ⟨rfl, k2⟩

/-- The cell of a class. -/
theorem Row.at {w : World} {b : Nat} (R : Row w b) (c : Int) (h : errC c = 0) : w.cell? ⟨b, c.toNat, none⟩ = some (.int .i64 (sizI c)) := by
  rcases siz_cases c with ⟨rfl, a, _, _⟩ | ⟨rfl, a, _, _⟩ | ⟨rfl, a, _, _⟩ | ⟨rfl, a, _, _⟩ | ⟨rfl, a, _, _⟩ | ⟨rfl, a, _, _⟩ | ⟨rfl, a, _, _⟩ | ⟨rfl, a, _, _⟩ | ⟨_, _, a, _⟩
  case inr.inr.inr.inr.inr.inr.inr.inr => omega
  · rw [a]; exact R.c0
  · rw [a]; exact R.c1
  · rw [a]; exact R.c2
  · rw [a]; exact R.c3
  · rw [a]; exact R.c4
  · rw [a]; exact R.c5
  · rw [a]; exact R.c6
  · rw [a]; exact R.c7

theorem slots_end {s k m : Int} (hs : 2 ≤ s) (hm : k * s = m) (h0 : m ≤ 62) (h1 : 62 < m + s) : 62 / s = k := by
  have e : 62 = (62 - m) + k * s := by omega
  rw [e, Int.add_mul_ediv_right _ _ (by omega), Int.ediv_eq_zero_of_lt (by omega) (by omega)]
  omega

theorem rSlots_in (c : Int) (he : errC c = 0) (w : World) : Calls Try.prog 17 #[.int .i64 c] w fun e W' => e = .returned (.tuple #[.int .i64 (sloI c), .int .i64 0]) ∧ K w W' := by
  obtain ⟨s0, s1, hq, c0, c1⟩ := siz_in he
  have HQ : Hid (sloI c = 62 / sizI c) := hq
  have HR : Hid (∀ (w : World) (b : Nat), Row w b → w.cell? ⟨b, c.toNat, none⟩ = some (.int .i64 (sizI c))) := fun w b R => R.at c he
  clear hq he
  generalize sizI c = s at s0 s1 HQ HR
  generalize sloI c = q at HQ
  have h0 : ¬ c < 0 := by omega
  have h1 : ¬ 8 ≤ c := by omega
  go_enter Try.func17, Try.ntmps17
  go_wp2_with (go_at_call 14; refine (rSizes_ok _).mono ?_; rintro e w2 ⟨b, rfl, k2, R⟩)
  have hc := HR.out _ _ R
  clear R
  go_loopg [5] 31 (fun g t wx => ∃ k m : Int, w2 = wx ∧ k + g = 31 ∧ 0 ≤ k ∧ t = .int .i64 k ∧ Hid (k * s = m) ∧ 0 ≤ m ∧ m ≤ 62)
  case atStart => exact ⟨0, 0, rfl, by omega, by omega, rfl, Int.zero_mul _, by omega, by omega⟩
  case round =>
    obtain ⟨k, m, rfl, hg, hk, rfl, HM, m0, m1⟩ := hrel
    have HN : Hid ((k + 1) * s = m + s) := by
      show (k + 1) * s = m + s
      rw [Int.add_mul, Int.one_mul, HM.out]
    have key : wrap64 ((k + 1) * s) = m + s := by
      rw [HN.out]
      unfold wrap64
      omega
    have hh := Int.mul_le_mul_of_nonneg_left s0 (show 0 ≤ k + 1 by omega)
    rw [HN.out] at hh
    by_cases hl : m + s ≤ 62
    · go_wp2_with (simp only [key])
      go_roundg (30 - k.toNat)
      case measure => omega
      case rel => exact ⟨k + 1, m + s, rfl, by omega, by omega, by go_num, HN, by omega, by omega⟩
    · have HE : Hid (q = k) := by
        show q = k
        rw [HQ.out]
        exact slots_end s0 HM.out m1 (by omega)
      clear HQ
      go_wp2_with (simp only [key])
      go_ret2
      refine ⟨?_, k2⟩
      rw [HE.out]
      rfl

theorem rSlots_any (c : Int) (w : World) : Calls Try.prog 17 #[.int .i64 c] w fun e W' => e = .returned (.tuple #[.int .i64 (sloI c), .int .i64 (errC c)]) ∧ K w W' := by
  by_cases he : errC c = 0
  · rw [he]
    exact rSlots_in c he w
  · obtain ⟨_, h2, h3, h4⟩ := siz_out he
    rw [h2, h3]
    exact rSlots_out c h4 w

/-- Since B nothing has turned, and the reference's sizes lie in block b. -/
structure T (B : World) (b : Nat) (w : World) : Prop where
  k : K B w
  r : Row w b
theorem T.step {B w w' : World} {b : Nat} (t : T B b w) (h : K w w') : T B b w' := ⟨t.k.trans h, t.r.keep h⟩

theorem rSizes_t (B w : World) (s : K B w) : Calls Try.prog 14 #[] w fun e W' => ∃ b, e = .returned (.slice (some ⟨b, 0, none⟩) 8 8) ∧ T B b W' :=
  (rSizes_ok w).mono fun _ _ ⟨b, h1, h2, h3⟩ => ⟨b, h1, ⟨s.trans h2, h3⟩⟩
theorem size_t (B : World) (b : Nat) (c : Int) (w : World) (t : T B b w) : Calls Try.prog 15 #[.int .i64 c] w fun e W' => e = .returned (.tuple #[.int .i64 (sizI c), .int .i64 (errC c)]) ∧ T B b W' :=
  (size_any c w).mono fun _ _ r => ⟨r.1, t.step r.2⟩
theorem slots_t (B : World) (b : Nat) (c : Int) (w : World) (t : T B b w) : Calls Try.prog 16 #[.int .i64 c] w fun e W' => e = .returned (.tuple #[.int .i64 (sloI c), .int .i64 (errC c)]) ∧ T B b W' :=
  (slots_any c w).mono fun _ _ r => ⟨r.1, t.step r.2⟩
theorem rSlots_t (B : World) (b : Nat) (c : Int) (w : World) (t : T B b w) : Calls Try.prog 17 #[.int .i64 c] w fun e W' => e = .returned (.tuple #[.int .i64 (sloI c), .int .i64 (errC c)]) ∧ T B b W' :=
  (rSlots_any c w).mono fun _ _ r => ⟨r.1, t.step r.2⟩
theorem place_t (B : World) (b : Nat) (c a : Int) (w : World) (t : T B b w) : Calls Try.prog 18 #[.int .i64 c, .int .i64 a] w fun e W' => e = .returned (.tuple #[.int .i64 (plaI c a), .int .i64 (errP c a)]) ∧ T B b W' :=
  (place_any c a w).mono fun _ _ r => ⟨r.1, t.step r.2⟩
theorem awake_t (B : World) (b : Nat) (w : World) (t : T B b w) : Calls Try.prog 13 #[] w fun e w' => e = .returned (.bool true) ∧ K B w' :=
  awake_ok B w t.k

set_option maxHeartbeats 2000000 in
theorem sizes_walk (c a : Int) (w : World) : Calls Try.prog 4 #[.int .i64 c, .int .i64 a] w fun e w' => e = .returned (.bool true) ∧ K w w' := by
  have k0 := K.refl w
  by_cases he : errC c = 0
  · obtain ⟨s0, s1, _, c0, c1⟩ := siz_in he
    have HR : Hid (∀ (w : World) (b : Nat), Row w b → w.cell? ⟨b, c.toNat, none⟩ = some (.int .i64 (sizI c))) := fun w b R => R.at c he
    by_cases h : Sl c a
    · obtain ⟨m0, m1⟩ := slot_fits he h
      have ea := errP_in h
      have pa := plaI_in h
      obtain ⟨a0, a1⟩ := h
      have g0 : ¬ a < 0 := by omega
      have g1 : ¬ sloI c ≤ a := by omega
      obtain ⟨m, hm⟩ : ∃ m, m = a * sizI c := ⟨_, rfl⟩
      rw [← hm] at m0 m1 pa
      have key : wrap64 (a * sizI c) = m := by rw [← hm]; unfold wrap64; omega
      clear hm
      go_enter Try.func4, Try.ntmps4
      go_wp2_with (first
        | (go_at_call 14; refine (rSizes_t w _ (by assumption)).mono ?_; rintro e w1 ⟨b, rfl, t1⟩)
        | (go_at_call 15; refine (size_t w b _ _ (by assumption)).mono ?_; rintro e w2 ⟨rfl, t2⟩)
        | (go_at_call 16; refine (slots_t w b _ _ (by assumption)).mono ?_; rintro e w3 ⟨rfl, t3⟩)
        | (go_at_call 17; refine (rSlots_t w b _ _ (by assumption)).mono ?_; rintro e w4 ⟨rfl, t4⟩)
        | (go_at_call 18; refine (place_t w b _ _ _ (by assumption)).mono ?_; rintro e w5 ⟨rfl, t5⟩; have hc := HR.out _ _ t5.r)
        | (go_at_call 13; refine (awake_t w b _ (by assumption)).mono ?_; rintro e w6 ⟨rfl, s6⟩))
      go_ret
      exact ⟨rfl, s6⟩
    · have ea := errP_out h
      have pa := plaI_out h
      unfold Sl at h
      by_cases g0 : a < 0
      · clear h
        go_enter Try.func4, Try.ntmps4
        go_wp2_with (first
          | (go_at_call 14; refine (rSizes_t w _ (by assumption)).mono ?_; rintro e w1 ⟨b, rfl, t1⟩)
          | (go_at_call 15; refine (size_t w b _ _ (by assumption)).mono ?_; rintro e w2 ⟨rfl, t2⟩)
          | (go_at_call 16; refine (slots_t w b _ _ (by assumption)).mono ?_; rintro e w3 ⟨rfl, t3⟩)
          | (go_at_call 17; refine (rSlots_t w b _ _ (by assumption)).mono ?_; rintro e w4 ⟨rfl, t4⟩)
          | (go_at_call 18; refine (place_t w b _ _ _ (by assumption)).mono ?_; rintro e w5 ⟨rfl, t5⟩; have hc := HR.out _ _ t5.r)
          | (go_at_call 13; refine (awake_t w b _ (by assumption)).mono ?_; rintro e w6 ⟨rfl, s6⟩))
        go_ret
        exact ⟨rfl, s6⟩
      · have g1 : sloI c ≤ a := by omega
        clear h
        go_enter Try.func4, Try.ntmps4
        go_wp2_with (first
          | (go_at_call 14; refine (rSizes_t w _ (by assumption)).mono ?_; rintro e w1 ⟨b, rfl, t1⟩)
          | (go_at_call 15; refine (size_t w b _ _ (by assumption)).mono ?_; rintro e w2 ⟨rfl, t2⟩)
          | (go_at_call 16; refine (slots_t w b _ _ (by assumption)).mono ?_; rintro e w3 ⟨rfl, t3⟩)
          | (go_at_call 17; refine (rSlots_t w b _ _ (by assumption)).mono ?_; rintro e w4 ⟨rfl, t4⟩)
          | (go_at_call 18; refine (place_t w b _ _ _ (by assumption)).mono ?_; rintro e w5 ⟨rfl, t5⟩; have hc := HR.out _ _ t5.r)
          | (go_at_call 13; refine (awake_t w b _ (by assumption)).mono ?_; rintro e w6 ⟨rfl, s6⟩))
        go_ret
        exact ⟨rfl, s6⟩
  · obtain ⟨h1, h2, h3, _⟩ := siz_out he
    have ha : ¬ Sl c a := by unfold Sl; omega
    have ea := errP_out ha
    have pa := plaI_out ha
    clear ha he
    go_enter Try.func4, Try.ntmps4
    go_wp2_with (first
      | (go_at_call 14; refine (rSizes_t w _ (by assumption)).mono ?_; rintro e w1 ⟨b, rfl, t1⟩)
      | (go_at_call 15; refine (size_t w b _ _ (by assumption)).mono ?_; rintro e w2 ⟨rfl, t2⟩)
      | (go_at_call 16; refine (slots_t w b _ _ (by assumption)).mono ?_; rintro e w3 ⟨rfl, t3⟩)
      | (go_at_call 17; refine (rSlots_t w b _ _ (by assumption)).mono ?_; rintro e w4 ⟨rfl, t4⟩)
      | (go_at_call 18; refine (place_t w b _ _ _ (by assumption)).mono ?_; rintro e w5 ⟨rfl, t5⟩)
      | (go_at_call 13; refine (awake_t w b _ (by assumption)).mono ?_; rintro e w6 ⟨rfl, s6⟩))
    go_ret
    exact ⟨rfl, s6⟩

end Cl
end Go.Proofs.Ytddgjfdginohaaa
