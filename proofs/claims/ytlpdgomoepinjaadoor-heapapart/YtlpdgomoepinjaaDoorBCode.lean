/-
  What the functions of package bits answer.
-/
import Derived.Test.YtlpdgomoepinjaaDoorBCounts
namespace Go.Proofs.YtlpdgomoepinjaaDoor
open Go.RowKit
namespace Bt

theorem and_key {a k : Int} (h : U a) (hk : N k) : bits BinOp.and IntKind.u64 a (oneI k) = if a.toNat.testBit k.toNat then oneI k else 0 := by
  have h0 := h.1
  have h1 := h.2
  obtain ⟨x, rfl⟩ := Int.eq_ofNat_of_zero_le h0
  have hp := pow_lt (k := k.toNat) (by have := hk.1; have := hk.2; omega)
  unfold oneI
  rw [bits_and_u64_nat x _ (by omega) hp, and_pow, Int.toNat_natCast]
  split <;> rfl
theorem or_key {a k : Int} (h : U a) (hk : N k) : bits BinOp.or IntKind.u64 a (oneI k) = setI a k := by
  have h0 := h.1
  have h1 := h.2
  obtain ⟨x, rfl⟩ := Int.eq_ofNat_of_zero_le h0
  have hp := pow_lt (k := k.toNat) (by have := hk.1; have := hk.2; omega)
  unfold oneI setI
  rw [bits_or_u64_nat x _ (by omega) hp, Int.toNat_natCast]
theorem andNot_key {a k : Int} (h : U a) (hk : N k) : bits BinOp.andNot IntKind.u64 a (oneI k) = clrI a k := by
  have h0 := h.1
  have h1 := h.2
  obtain ⟨x, rfl⟩ := Int.eq_ofNat_of_zero_le h0
  have hp := pow_lt (k := k.toNat) (by have := hk.1; have := hk.2; omega)
  unfold oneI clrI
  rw [u64_andNot_nat x _ (by omega) hp, Int.toNat_natCast]
theorem oneI_ne (k : Int) : oneI k ≠ 0 := by
  have : 0 < 2 ^ k.toNat := Nat.two_pow_pos _
  unfold oneI
  omega

theorem has_any (a k : Int) (h : U a) (w : World) : Calls Tryd.prog 50 #[.int .u64 a, .int .i64 k] w fun e w' => e = .returned (.bool (hasI a k)) ∧ w = w' := by
  by_cases hk : N k
  · rw [hasI_N hk]
    have c1 := isNumber_in k hk w
    have c2 := only_ok k hk w
    have key := and_key h hk
    have hne : (oneI k != 0) = true := by simp [oneI_ne k]
    cases hb : a.toNat.testBit k.toNat
    all_goals
      rw [hb] at key
      simp only [Bool.false_eq_true, if_false, if_true] at key
      go_enter Tryd.func50, Tryd.ntmps50
      go_wp2_with (first | (go_at_call 59; refine c1.mono ?_; rintro e w' ⟨rfl, rfl⟩) | (go_at_call 60; refine c2.mono ?_; rintro e w' ⟨rfl, rfl⟩))
      go_ret
      exact ⟨rfl, rfl⟩
  · rw [hasI_out hk]
    have c1 := isNumber_out k hk w
    go_enter Tryd.func50, Tryd.ntmps50
    go_wp2_with (go_at_call 59; refine c1.mono ?_; rintro e w' ⟨rfl, rfl⟩)
    go_ret
    exact ⟨rfl, rfl⟩

theorem set_ok (a k : Int) (h : U a) (hk : N k) (w : World) : Calls Tryd.prog 56 #[.int .u64 a, .int .i64 k] w fun e w' => e = .returned (.tuple #[.int .u64 (setI a k), .int .i64 0]) ∧ w = w' := by
  have c1 := isNumber_in k hk w
  have c2 := only_ok k hk w
  have key := or_key h hk
  go_enter Tryd.func56, Tryd.ntmps56
  go_wp2_with (first | (go_at_call 59; refine c1.mono ?_; rintro e w' ⟨rfl, rfl⟩) | (go_at_call 60; refine c2.mono ?_; rintro e w' ⟨rfl, rfl⟩))
  go_ret2
  exact ⟨rfl, rfl⟩

theorem set_no (a k : Int) (hk : ¬ N k) (w : World) : Calls Tryd.prog 56 #[.int .u64 a, .int .i64 k] w fun e w' => e = .returned (.tuple #[.int .u64 0, .int .i64 2]) ∧ w = w' := by
  have c1 := isNumber_out k hk w
  go_enter Tryd.func56, Tryd.ntmps56
  go_wp2_with (go_at_call 59; refine c1.mono ?_; rintro e w' ⟨rfl, rfl⟩)
  go_ret2
  exact ⟨rfl, rfl⟩

theorem clr_ok (a k : Int) (h : U a) (hk : N k) (w : World) : Calls Tryd.prog 41 #[.int .u64 a, .int .i64 k] w fun e w' => e = .returned (.tuple #[.int .u64 (clrI a k), .int .i64 0]) ∧ w = w' := by
  have c1 := isNumber_in k hk w
  have c2 := only_ok k hk w
  have key := andNot_key h hk
  go_enter Tryd.func41, Tryd.ntmps41
  go_wp2_with (first | (go_at_call 59; refine c1.mono ?_; rintro e w' ⟨rfl, rfl⟩) | (go_at_call 60; refine c2.mono ?_; rintro e w' ⟨rfl, rfl⟩))
  go_ret2
  exact ⟨rfl, rfl⟩

theorem clr_no (a k : Int) (hk : ¬ N k) (w : World) : Calls Tryd.prog 41 #[.int .u64 a, .int .i64 k] w fun e w' => e = .returned (.tuple #[.int .u64 0, .int .i64 2]) ∧ w = w' := by
  have c1 := isNumber_out k hk w
  go_enter Tryd.func41, Tryd.ntmps41
  go_wp2_with (go_at_call 59; refine c1.mono ?_; rintro e w' ⟨rfl, rfl⟩)
  go_ret2
  exact ⟨rfl, rfl⟩

theorem cell_new (w : World) (n : Int) : (w.alloc (cutCell n)).cell? ⟨w.heap.size, 0, none⟩ = some (.int .i64 (64 - (mN n : Int))) := by
  unfold cutCell
  rw [World.cell?_alloc_new]
  rfl

theorem ful_key (n : Int) : cutI n 18446744073709551615 = fulI n := by
  have hm := mN_le n
  unfold cutI fulI
  congr 1
  have e : (18446744073709551615 : Int).toNat = 2 ^ 64 - 1 := rfl
  rw [e]
  apply Nat.eq_of_testBit_eq
  intro j
  rw [Nat.testBit_mod_two_pow, Nat.testBit_two_pow_sub_one, Nat.testBit_two_pow_sub_one]
  by_cases hj : j < mN n
  · simp [hj, show j < 64 by omega]
  · simp [hj]

theorem full_any (n : Int) (w : World) : Calls Tryd.prog 78 #[.int .i64 n] w fun e w' => e = .returned (.int .u64 (fulI n)) ∧ K w w' := by
  have c1 := cutter_any n w
  have c2 := cut_any 18446744073709551615 n (by unfold U; omega) (w.alloc (cutCell n)) ⟨w.heap.size, 0, none⟩ (cell_new w n)
  rw [ful_key] at c2
  have hk : K w (w.alloc (cutCell n)) := (K.refl w).alloc _
  generalize w.alloc (cutCell n) = w1 at c1 c2 hk
  unfold cutF at c1
  go_enter Tryd.func78, Tryd.ntmps78
  go_wp2_with (first | (go_at_call 72; refine c1.mono ?_; rintro e w' ⟨rfl, rfl⟩) | (go_at_call 79; refine c2.mono ?_; rintro e w2 ⟨rfl, hk2⟩))
  go_ret
  exact ⟨rfl, hk.trans hk2⟩

theorem not_key {a : Int} (h : U a) : bits BinOp.xor IntKind.u64 IntKind.u64.max a = notI a := by
  have h0 := h.1
  have h1 := h.2
  obtain ⟨x, rfl⟩ := Int.eq_ofNat_of_zero_le h0
  have e : IntKind.u64.max = ((18446744073709551615 : Nat) : Int) := rfl
  rw [e, u64_xor_nat _ _ (by decide) (by omega)]
  unfold notI
  have h2 : 18446744073709551615 ^^^ x = 18446744073709551615 - x := by
    apply Nat.eq_of_testBit_eq
    intro j
    rw [Nat.testBit_xor]
    by_cases hj : j < 64
    · rw [not_bit (by omega) hj, show 18446744073709551615 = 2 ^ 64 - 1 from rfl, Nat.testBit_two_pow_sub_one]
      simp [hj]
    · have h3 : ∀ y, y < 2 ^ 64 → y.testBit j = false := fun y hy => Nat.testBit_lt_two_pow (Nat.lt_of_lt_of_le hy (Nat.pow_le_pow_right (by decide) (by omega)))
      rw [h3 _ (by decide), h3 x (by omega), h3 (18446744073709551615 - x) (by omega)]
      rfl
  rw [h2]
  omega

theorem free_any (a n : Int) (h : U a) (w : World) (T : Tab w) : Calls Tryd.prog 53 #[.int .u64 a, .int .i64 n] w fun e w' => e = .returned (.int .i64 (freI a n)) ∧ K w w' := by
  have hn := notI_U h
  have c1 := cutter_any n w
  have c2 := cut_any (notI a) n hn (w.alloc (cutCell n)) ⟨w.heap.size, 0, none⟩ (cell_new w n)
  have hk : K w (w.alloc (cutCell n)) := (K.refl w).alloc _
  have hT := T.keep hk
  generalize w.alloc (cutCell n) = w1 at c1 c2 hk hT
  unfold cutF at c1
  by_cases hz : cutI n (notI a) = 0
  · rw [fre_none h hz]
    rw [hz] at c2
    have key := not_key h
    have hs : IntKind.u64.signed = false := rfl
    generalize notI a = z at c2 key
    go_enter Tryd.func53, Tryd.ntmps53
    go_wp2_with (first | (go_at_call 72; refine c1.mono ?_; rintro e w' ⟨rfl, rfl⟩) | (go_at_call 79; (try rw [key]); refine c2.mono ?_; rintro e w2 ⟨rfl, hk2⟩))
    go_ret
    exact ⟨rfl, hk.trans hk2⟩
  · have c3 := fun w2 T2 => tz_ok (cutI n (notI a)) (cutI_U n hn) hz w2 T2
    rw [fre_ctz h hz] at c3
    have key := not_key h
    have hs : IntKind.u64.signed = false := rfl
    generalize cutI n (notI a) = y at c2 c3 hz
    generalize notI a = z at c2 key
    go_enter Tryd.func53, Tryd.ntmps53
    go_wp2_with (first | (go_at_call 72; refine c1.mono ?_; rintro e w' ⟨rfl, rfl⟩) | (go_at_call 79; (try rw [key]); refine c2.mono ?_; rintro e w2 ⟨rfl, hk2⟩) | (go_at_call 73; refine (c3 _ (hT.keep hk2)).mono ?_; rintro e w3 ⟨rfl, rfl⟩))
    go_ret
    exact ⟨rfl, hk.trans hk2⟩

end Bt
end Go.Proofs.YtlpdgomoepinjaaDoor
