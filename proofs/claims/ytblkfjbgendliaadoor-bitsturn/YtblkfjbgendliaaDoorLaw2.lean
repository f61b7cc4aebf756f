/-
  The walk of the statement BitsTurn.
-/
import Derived.Test.YtblkfjbgendliaaDoorLaw1
namespace Go.Proofs.YtblkfjbgendliaaDoor
open Go.RowKit
namespace Bt

theorem cnt_two {a n : Int} (h : U a) (h0 : 0 ≤ n) (h1 : n ≤ 64) : cntI a n + cntI (notI a) n = n := by
  have hm := mN_of n h0 h1
  have h2 : cnt (notI a).toNat (mN n) + cnt a.toNat (mN n) = mN n := cnt_not fun j hj => notI_bit h (by have := mN_le n; omega)
  unfold cntI
  omega
theorem cntI_range (a n : Int) : 0 ≤ cntI a n ∧ cntI a n ≤ 64 := by
  have h1 := cnt_le a.toNat (mN n)
  have h2 := mN_le n
  unfold cntI
  omega

theorem set_clr {a k : Int} (h : U a) : setV (clrV a k) k = setV a k := by
  by_cases hk : N k
  · rw [clrV_in a hk, setV_in _ hk, setV_in _ hk]
    refine ext (setI_U (clrI_U h) hk) (setI_U h hk) fun j hj => ?_
    rw [set_bit, set_bit, clr_bit hk hj]
    by_cases he : k.toNat = j <;> simp [he]
  · rw [setV_out _ hk, setV_out _ hk]
theorem setV_has {a k : Int} (hk : N k) (h : U a) (hb : hasI a k = true) : setV a k = a := by
  rw [setV_in a hk]
  exact set_has hb h
theorem setV_hasnt {a k : Int} (hk : N k) (hb : hasI a k = false) : setV a k ≠ a := by
  intro e
  have h1 : hasI (setV a k) k = true := by
    rw [setV_in a hk, hasI_N hk, set_bit]
    simp
  rw [e, hb] at h1
  cases h1

theorem turn_walk (a k n : Int) (h : U a) (w : World) (s : S w w) : Calls Tryd.prog 7 #[.int .u64 a, .int .i64 k, .int .i64 n] w fun e w' => e = .returned (.bool true) ∧ S w w' := by
  have ca := awake_ok w
  by_cases h0 : n < 0
  · go_enter Tryd.func7, Tryd.ntmps7
    go_wp2_with (go_at_call 15; refine (ca _ (by assumption)).mono ?_; rintro e w6 ⟨rfl, s6⟩)
    go_ret
    exact ⟨rfl, s6⟩
  by_cases h1 : 64 < n
  · go_enter Tryd.func7, Tryd.ntmps7
    go_wp2_with (go_at_call 15; refine (ca _ (by assumption)).mono ?_; rintro e w6 ⟨rfl, s6⟩)
    go_ret
    exact ⟨rfl, s6⟩
  have e1 := cnt_two h (by omega) (show n ≤ 64 by omega)
  have r1 := cntI_range a n
  have r2 := cntI_range (notI a) n
  have hu := notI_U h
  have key := not_key h
  have hs : IntKind.u64.signed = false := rfl
  have cx := count_s w a n h
  have cy := count_s w (notI a) n hu
  generalize cntI a n = p at e1 r1 cx
  generalize cntI (notI a) n = q at e1 r2 cy
  generalize notI a = z at key cy
  clear hu
  have hy := clrV_U k h
  have es := set_clr (k := k) h
  generalize ey : clrV a k = y at hy es
  by_cases hk : N k
  · have e0 : errI k = 0 := errI_in hk
    cases hb : hasI a k
    · have hne : (setV a k == a) = false := by simpa using setV_hasnt hk hb
      generalize ex : setV a k = x at es hne
      go_enter Tryd.func7, Tryd.ntmps7
      go_wp2_with (first
      | (go_at_call 20; (try rw [key]); first
          | (have _t := ONE; refine (cy _ (by assumption)).mono ?_; rintro e w4 ⟨rfl, s4⟩)
          | (refine (cx _ (by assumption)).mono ?_; rintro e w3 ⟨rfl, s3⟩; have ONE := True.intro))
      | (go_at_call 11; refine (clr_any _ _ (by assumption) _).mono ?_; rintro e w' ⟨rfl, rfl⟩)
      | (go_at_call 9; refine (set_any _ _ (by assumption) _).mono ?_; rintro e w' ⟨rfl, rfl⟩)
      | (go_at_call 13; refine (has_any _ _ (by assumption) _).mono ?_; rintro e w' ⟨rfl, rfl⟩)
      | (go_at_call 15; refine (ca _ (by assumption)).mono ?_; rintro e w6 ⟨rfl, s6⟩))
      go_ret
      exact ⟨rfl, s6⟩
    · have ex := setV_has hk h hb
      rw [ex] at es
      go_enter Tryd.func7, Tryd.ntmps7
      go_wp2_with (first
      | (go_at_call 20; (try rw [key]); first
          | (have _t := ONE; refine (cy _ (by assumption)).mono ?_; rintro e w4 ⟨rfl, s4⟩)
          | (refine (cx _ (by assumption)).mono ?_; rintro e w3 ⟨rfl, s3⟩; have ONE := True.intro))
      | (go_at_call 11; refine (clr_any _ _ (by assumption) _).mono ?_; rintro e w' ⟨rfl, rfl⟩)
      | (go_at_call 9; refine (set_any _ _ (by assumption) _).mono ?_; rintro e w' ⟨rfl, rfl⟩)
      | (go_at_call 13; refine (has_any _ _ (by assumption) _).mono ?_; rintro e w' ⟨rfl, rfl⟩)
      | (go_at_call 15; refine (ca _ (by assumption)).mono ?_; rintro e w6 ⟨rfl, s6⟩))
      go_ret
      exact ⟨rfl, s6⟩
  · have e0 : errI k = 2 := errI_out hk
    go_enter Tryd.func7, Tryd.ntmps7
    go_wp2_with (first
      | (go_at_call 20; (try rw [key]); first
          | (have _t := ONE; refine (cy _ (by assumption)).mono ?_; rintro e w4 ⟨rfl, s4⟩)
          | (refine (cx _ (by assumption)).mono ?_; rintro e w3 ⟨rfl, s3⟩; have ONE := True.intro))
      | (go_at_call 11; refine (clr_any _ _ (by assumption) _).mono ?_; rintro e w' ⟨rfl, rfl⟩)
      | (go_at_call 9; refine (set_any _ _ (by assumption) _).mono ?_; rintro e w' ⟨rfl, rfl⟩)
      | (go_at_call 13; refine (has_any _ _ (by assumption) _).mono ?_; rintro e w' ⟨rfl, rfl⟩)
      | (go_at_call 15; refine (ca _ (by assumption)).mono ?_; rintro e w6 ⟨rfl, s6⟩))
    go_ret
    exact ⟨rfl, s6⟩

end Bt
end Go.Proofs.YtblkfjbgendliaaDoor
