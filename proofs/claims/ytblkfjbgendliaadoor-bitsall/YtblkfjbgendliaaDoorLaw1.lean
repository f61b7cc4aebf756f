/-
  The walks of the statements' awake, BitsOther and BitsTurn.
-/
import Derived.Test.YtblkfjbgendliaaDoorCode
namespace Go.Proofs.YtblkfjbgendliaaDoor
open Go.RowKit
namespace Bt

/-- Behind B nothing that was there has turned, and the table stands. -/
structure S (B w : World) : Prop where
  k : K B w
  t : Tab w

theorem S.step {B w w' : World} (s : S B w) (h : K w w') : S B w' := ⟨s.k.trans h, s.t.keep h⟩

theorem free_s (B : World) (a n : Int) (h : U a) (w : World) (s : S B w) : Calls Tryd.prog 16 #[.int .u64 a, .int .i64 n] w fun e w' => e = .returned (.int .i64 (freI a n)) ∧ S B w' :=
  (free_any a n h w s.t).mono fun _ _ r => ⟨r.1, s.step r.2⟩
theorem last_s (B : World) (a n : Int) (h : U a) (w : World) (s : S B w) : Calls Tryd.prog 18 #[.int .u64 a, .int .i64 n] w fun e w' => e = .returned (.int .i64 (lstI a n)) ∧ S B w' :=
  (last_any a n h w).mono fun _ _ r => ⟨r.1, s.step r.2⟩
theorem count_s (B : World) (a n : Int) (h : U a) (w : World) (s : S B w) : Calls Tryd.prog 20 #[.int .u64 a, .int .i64 n] w fun e w' => e = .returned (.int .i64 (cntI a n)) ∧ S B w' :=
  (count_any a n h w).mono fun _ _ r => ⟨r.1, s.step r.2⟩
theorem full_s (B : World) (n : Int) (w : World) (s : S B w) : Calls Tryd.prog 22 #[.int .i64 n] w fun e w' => e = .returned (.int .u64 (fulI n)) ∧ S B w' :=
  (full_any n w).mono fun _ _ r => ⟨r.1, s.step r.2⟩

def setV (a k : Int) : Int := if 0 ≤ k ∧ k ≤ 63 then setI a k else 0
def clrV (a k : Int) : Int := if 0 ≤ k ∧ k ≤ 63 then clrI a k else 0
def errI (k : Int) : Int := if 0 ≤ k ∧ k ≤ 63 then 0 else 2
theorem setV_in (a : Int) {k : Int} (hk : N k) : setV a k = setI a k := if_pos hk
theorem setV_out (a : Int) {k : Int} (hk : ¬ N k) : setV a k = 0 := if_neg hk
theorem clrV_in (a : Int) {k : Int} (hk : N k) : clrV a k = clrI a k := if_pos hk
theorem clrV_out (a : Int) {k : Int} (hk : ¬ N k) : clrV a k = 0 := if_neg hk
theorem errI_in {k : Int} (hk : N k) : errI k = 0 := if_pos hk
theorem errI_out {k : Int} (hk : ¬ N k) : errI k = 2 := if_neg hk

theorem set_any (a k : Int) (h : U a) (w : World) : Calls Tryd.prog 9 #[.int .u64 a, .int .i64 k] w fun e w' => e = .returned (.tuple #[.int .u64 (setV a k), .int .i64 (errI k)]) ∧ w = w' := by
  by_cases hk : N k
  · rw [setV_in a hk, errI_in hk]
    exact set_ok a k h hk w
  · rw [setV_out a hk, errI_out hk]
    exact set_no a k hk w
theorem clr_any (a k : Int) (h : U a) (w : World) : Calls Tryd.prog 11 #[.int .u64 a, .int .i64 k] w fun e w' => e = .returned (.tuple #[.int .u64 (clrV a k), .int .i64 (errI k)]) ∧ w = w' := by
  by_cases hk : N k
  · rw [clrV_in a hk, errI_in hk]
    exact clr_ok a k h hk w
  · rw [clrV_out a hk, errI_out hk]
    exact clr_no a k hk w

theorem setV_U {a : Int} (k : Int) (h : U a) : U (setV a k) := by
  by_cases hk : N k
  · rw [setV_in a hk]
    exact setI_U h hk
  · rw [setV_out a hk]
    unfold U
    omega
theorem clrV_U {a : Int} (k : Int) (h : U a) : U (clrV a k) := by
  by_cases hk : N k
  · rw [clrV_in a hk]
    exact clrI_U h
  · rw [clrV_out a hk]
    unfold U
    omega

theorem awake_facts : setV 5 1 = 7 ∧ errI 1 = 0 ∧ errI 64 = 2 ∧ freI 7 3 = -1 ∧ freI 7 4 = 3 ∧ lstI 5 64 = 2 ∧ fulI 3 = 7 := by decide +kernel

theorem awake_ok (B : World) (w : World) (s : S B w) : Calls Tryd.prog 15 #[] w fun e w' => e = .returned (.bool true) ∧ S B w' := by
  have u5 : U 5 := by unfold U; omega
  have u0 : U 0 := by unfold U; omega
  have u7 : U 7 := by unfold U; omega
  obtain ⟨f1, f2, f3, f4, f5, f6, f7⟩ := awake_facts
  go_enter Tryd.func15, Tryd.ntmps15
  go_wp2_with (first
    | (go_at_call 9; refine (set_any _ _ (by assumption) _).mono ?_; rintro e w' ⟨rfl, rfl⟩)
    | (go_at_call 16; refine (free_s B _ _ (by assumption) _ (by assumption)).mono ?_; rintro e w3 ⟨rfl, s3⟩)
    | (go_at_call 18; refine (last_s B _ _ (by assumption) _ (by assumption)).mono ?_; rintro e w5 ⟨rfl, s5⟩)
    | (go_at_call 22; refine (full_s B _ _ (by assumption)).mono ?_; rintro e w6 ⟨rfl, s6⟩))
  go_ret
  exact ⟨rfl, s6⟩

theorem other_walk (a k o : Int) (h : U a) (w : World) (s : S w w) : Calls Tryd.prog 6 #[.int .u64 a, .int .i64 k, .int .i64 o] w fun e w' => e = .returned (.bool true) ∧ S w w' := by
  have ca := awake_ok w
  have c1 := set_any a k h w
  have c2 := clr_any a k h w
  have hx := setV_U k h
  have hy := clrV_U k h
  by_cases hk : N k
  · have e0 : errI k = 0 := errI_in hk
    have ex : setV a k = setI a k := setV_in _ hk
    have ey : clrV a k = clrI a k := clrV_in _ hk
    have hk1 : k.toNat < 64 := by have := hk.1; have := hk.2; omega
    have e3 : hasI (setV a k) k = true := by rw [ex, hasI_N hk, set_bit]; simp
    have e4 : hasI (clrV a k) k = false := by rw [ey, hasI_N hk, clr_bit hk hk1]; simp
    rw [e0] at c1 c2
    by_cases ho : k = o
    · subst ho
      clear ex ey
      generalize setV a k = x at c1 hx e3
      generalize clrV a k = y at c2 hy e4
      go_enter Tryd.func6, Tryd.ntmps6
      go_wp2_with (first
        | (go_at_call 9; refine c1.mono ?_; rintro e w' ⟨rfl, rfl⟩)
        | (go_at_call 11; refine c2.mono ?_; rintro e w' ⟨rfl, rfl⟩)
        | (go_at_call 13; refine (has_any _ _ (by assumption) _).mono ?_; rintro e w' ⟨rfl, rfl⟩)
        | (go_at_call 15; refine (ca _ (by assumption)).mono ?_; rintro e w6 ⟨rfl, s6⟩))
      go_ret
      exact ⟨rfl, s6⟩
    · have e1 : hasI (setV a k) o = hasI a o := by
        rw [ex]
        by_cases hN : N o
        · rw [hasI_N hN, hasI_N hN, set_bit]
          have : ¬ k.toNat = o.toNat := by have := hk.1; have := hN.1; omega
          simp [this]
        · rw [hasI_out hN, hasI_out hN]
      have e2 : hasI (clrV a k) o = hasI a o := by
        rw [ey]
        by_cases hN : N o
        · rw [hasI_N hN, hasI_N hN, clr_bit hk (by have := hN.1; have := hN.2; omega)]
          have : ¬ k.toNat = o.toNat := by have := hk.1; have := hN.1; omega
          simp [this]
        · rw [hasI_out hN, hasI_out hN]
      clear ex ey
      generalize setV a k = x at c1 hx e3 e1
      generalize clrV a k = y at c2 hy e4 e2
      go_enter Tryd.func6, Tryd.ntmps6
      go_wp2_with (first
        | (go_at_call 9; refine c1.mono ?_; rintro e w' ⟨rfl, rfl⟩)
        | (go_at_call 11; refine c2.mono ?_; rintro e w' ⟨rfl, rfl⟩)
        | (go_at_call 13; refine (has_any _ _ (by assumption) _).mono ?_; rintro e w' ⟨rfl, rfl⟩)
        | (go_at_call 15; refine (ca _ (by assumption)).mono ?_; rintro e w6 ⟨rfl, s6⟩))
      go_ret
      exact ⟨rfl, s6⟩
  · have e0 : errI k = 2 := errI_out hk
    rw [e0] at c1 c2
    generalize setV a k = x at c1
    generalize clrV a k = y at c2
    go_enter Tryd.func6, Tryd.ntmps6
    go_wp2_with (first
      | (go_at_call 9; refine c1.mono ?_; rintro e w' ⟨rfl, rfl⟩)
      | (go_at_call 11; refine c2.mono ?_; rintro e w' ⟨rfl, rfl⟩)
      | (go_at_call 15; refine (ca _ (by assumption)).mono ?_; rintro e w6 ⟨rfl, s6⟩))
    go_ret
    exact ⟨rfl, s6⟩

end Bt
end Go.Proofs.YtblkfjbgendliaaDoor
