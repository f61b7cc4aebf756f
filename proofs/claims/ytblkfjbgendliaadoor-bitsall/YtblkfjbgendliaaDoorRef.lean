/-
  What the reference's functions answer: the same, reckoned number by number.
-/
import Derived.Test.YtblkfjbgendliaaDoorLaw1
import Derived.Deep.LoopGhost
namespace Go.Proofs.YtblkfjbgendliaaDoor
open Go.RowKit
namespace Bt

theorem rHas_in (a k : Int) (h : U a) (hk : N k) (w : World) : Calls Tryd.prog 14 #[.int .u64 a, .int .i64 k] w fun e w' => e = .returned (.bool (hasI a k)) ∧ w = w' := by
  have k0 := hk.1
  have k1 := hk.2
  have u0 := h.1
  have u1 := h.2
  have HE : Hid (hasI a k = a.toNat.testBit k.toNat) := hasI_N hk
  generalize hasI a k = b at HE
  go_enter Tryd.func14, Tryd.ntmps14
  go_wp2
  go_loopg [0, 5] k.toNat (fun g s t wx => ∃ i c : Int, w = wx ∧ 0 ≤ i ∧ i + g = k ∧ t = .int .i64 i ∧ s = .int .u64 c ∧ 0 ≤ c ∧ c ≤ 18446744073709551615 ∧ Hid (c = ((a.toNat / 2 ^ i.toNat : Nat) : Int)))
  case atStart => exact ⟨0, a, rfl, by omega, by omega, rfl, rfl, u0, u1, by show a = _; simp; omega⟩
  case round =>
    obtain ⟨i, c, rfl, hi0, hig, rfl, rfl, hc0, hc1, HC⟩ := hrel
    by_cases hik : i < k
    · go_wp2
      go_roundg (k - (i + 1)).toNat
      case measure => omega
      case rel =>
        refine ⟨i + 1, c / 2, rfl, by omega, by omega, by go_num, by go_num, by omega, by omega, ?_⟩
        have h1 := HC.out
        show c / 2 = _
        rw [show (i + 1).toNat = i.toNat + 1 by omega, Nat.pow_succ, ← Nat.div_div_eq_div_mul]
        omega
    · have hik2 : i = k := by omega
      subst hik2
      have h1 := HC.out
      have h2 : (c % 2 = 1) ↔ (a.toNat / 2 ^ i.toNat % 2 = 1) := by omega
      have h5 := HE.out
      rw [bit_div] at h5
      by_cases h3 : c % 2 = 1
      · rw [decide_eq_true (h2.1 h3)] at h5
        subst h5
        clear h1 h2 HE
        go_wp2
        go_ret
        exact ⟨rfl, rfl⟩
      · rw [decide_eq_false (fun e => h3 (h2.2 e))] at h5
        subst h5
        have h4 : c % 2 = 0 := by omega
        clear h1 h2 HE h3
        go_wp2
        go_ret
        exact ⟨rfl, rfl⟩

theorem rHas_any (a k : Int) (h : U a) (w : World) : Calls Tryd.prog 14 #[.int .u64 a, .int .i64 k] w fun e w' => e = .returned (.bool (hasI a k)) ∧ w = w' := by
  by_cases hk : N k
  · exact rHas_in a k h hk w
  · rw [hasI_out hk]
    by_cases h0 : k < 0
    · go_enter Tryd.func14, Tryd.ntmps14
      go_wp2
      go_ret
      exact ⟨rfl, rfl⟩
    · have h1 : 63 < k := by unfold N at hk; omega
      go_enter Tryd.func14, Tryd.ntmps14
      go_wp2
      go_ret
      exact ⟨rfl, rfl⟩

theorem oneI_succ (i : Int) (h0 : 0 ≤ i) : oneI (i + 1) = oneI i * 2 := by
  unfold oneI
  rw [show (i + 1).toNat = i.toNat + 1 by omega, Nat.pow_succ]
  generalize 2 ^ i.toNat = p
  omega

theorem rOne_ok (k : Int) (hk : N k) (w : World) : Calls Tryd.prog 26 #[.int .i64 k] w fun e w' => e = .returned (.int .u64 (oneI k)) ∧ w = w' := by
  have k0 := hk.1
  have k1 := hk.2
  go_enter Tryd.func26, Tryd.ntmps26
  go_wp2
  go_loopg [3, 4] k.toNat (fun g s t wx => ∃ i c : Int, w = wx ∧ 0 ≤ i ∧ i + g = k ∧ t = .int .i64 i ∧ s = .int .u64 c ∧ Hid (c = oneI i))
  case atStart => exact ⟨0, 1, rfl, by omega, by omega, rfl, rfl, rfl⟩
  case round =>
    obtain ⟨i, c, rfl, hi0, hig, rfl, rfl, HC⟩ := hrel
    by_cases hik : i < k
    · have h2 := oneI_U (k := i + 1) ⟨by omega, by omega⟩
      have h3 := oneI_succ i hi0
      have h4 := HC.out
      have key : IntKind.u64.wrap (c * 2) = c * 2 := by
        rw [h3, ← h4] at h2
        exact wrap_U h2
      clear h2 h3 h4
      go_wp2
      go_roundg (k - (i + 1)).toNat
      case measure => omega
      case rel =>
        refine ⟨i + 1, c * 2, rfl, by omega, by omega, by go_num, by go_num, ?_⟩
        show c * 2 = _
        rw [oneI_succ i hi0, HC.out]
    · have hik2 : i = k := by omega
      subst hik2
      go_wp2
      go_ret
      exact ⟨congrArg (fun z => Ending.returned (Value.int IntKind.u64 z)) HC.out, rfl⟩

theorem rSet_any (a k : Int) (h : U a) (w : World) : Calls Tryd.prog 10 #[.int .u64 a, .int .i64 k] w fun e w' => e = .returned (.tuple #[.int .u64 (setV a k), .int .i64 (errI k)]) ∧ w = w' := by
  by_cases hk : N k
  · have e0 : errI k = 0 := errI_in hk
    have ex : setV a k = setI a k := setV_in _ hk
    rw [e0, ex]
    have k0 := hk.1
    have k1 := hk.2
    have c1 := rHas_in a k h hk w
    have c2 := rOne_ok k hk w
    cases hb : hasI a k
    · have hb2 : a.toNat.testBit k.toNat = false := by rw [← hasI_N hk]; exact hb
      have key : IntKind.u64.wrap (a + oneI k) = setI a k := by
        rw [add_one h hb2]
        exact wrap_U (setI_U h hk)
      rw [hb] at c1
      clear hb2 hb ex
      go_enter Tryd.func10, Tryd.ntmps10
      go_wp2_with (first | (go_at_call 14; refine c1.mono ?_; rintro e w' ⟨rfl, rfl⟩) | (go_at_call 26; refine c2.mono ?_; rintro e w' ⟨rfl, rfl⟩))
      go_ret2
      exact ⟨rfl, rfl⟩
    · rw [set_has hb h]
      rw [hb] at c1
      clear hb ex
      go_enter Tryd.func10, Tryd.ntmps10
      go_wp2_with (go_at_call 14; refine c1.mono ?_; rintro e w' ⟨rfl, rfl⟩)
      go_ret2
      exact ⟨rfl, rfl⟩
  · have e0 : errI k = 2 := errI_out hk
    have ex : setV a k = 0 := setV_out _ hk
    rw [e0, ex]
    clear ex
    by_cases h0 : k < 0
    · go_enter Tryd.func10, Tryd.ntmps10
      go_wp2
      go_ret2
      exact ⟨rfl, rfl⟩
    · have h1 : 63 < k := by unfold N at hk; omega
      go_enter Tryd.func10, Tryd.ntmps10
      go_wp2
      go_ret2
      exact ⟨rfl, rfl⟩

theorem rClear_any (a k : Int) (h : U a) (w : World) : Calls Tryd.prog 12 #[.int .u64 a, .int .i64 k] w fun e w' => e = .returned (.tuple #[.int .u64 (clrV a k), .int .i64 (errI k)]) ∧ w = w' := by
  by_cases hk : N k
  · have e0 : errI k = 0 := errI_in hk
    have ex : clrV a k = clrI a k := clrV_in _ hk
    rw [e0, ex]
    have k0 := hk.1
    have k1 := hk.2
    have c1 := rHas_in a k h hk w
    have c2 := rOne_ok k hk w
    cases hb : hasI a k
    · rw [clr_hasnt hk hb h]
      rw [hb] at c1
      clear hb ex
      go_enter Tryd.func12, Tryd.ntmps12
      go_wp2_with (go_at_call 14; refine c1.mono ?_; rintro e w' ⟨rfl, rfl⟩)
      go_ret2
      exact ⟨rfl, rfl⟩
    · have hb2 : a.toNat.testBit k.toNat = true := by rw [← hasI_N hk]; exact hb
      have key : IntKind.u64.wrap (a - oneI k) = clrI a k := by
        rw [sub_one h hk hb2]
        exact wrap_U (clrI_U h)
      rw [hb] at c1
      clear hb2 hb ex
      go_enter Tryd.func12, Tryd.ntmps12
      go_wp2_with (first | (go_at_call 14; refine c1.mono ?_; rintro e w' ⟨rfl, rfl⟩) | (go_at_call 26; refine c2.mono ?_; rintro e w' ⟨rfl, rfl⟩))
      go_ret2
      exact ⟨rfl, rfl⟩
  · have e0 : errI k = 2 := errI_out hk
    have ex : clrV a k = 0 := clrV_out _ hk
    rw [e0, ex]
    clear ex
    by_cases h0 : k < 0
    · go_enter Tryd.func12, Tryd.ntmps12
      go_wp2
      go_ret2
      exact ⟨rfl, rfl⟩
    · have h1 : 63 < k := by unfold N at hk; omega
      go_enter Tryd.func12, Tryd.ntmps12
      go_wp2
      go_ret2
      exact ⟨rfl, rfl⟩

end Bt
end Go.Proofs.YtblkfjbgendliaaDoor
