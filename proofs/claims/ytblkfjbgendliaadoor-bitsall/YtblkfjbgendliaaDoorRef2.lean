/-
  What the reference's functions on many numbers answer.
-/
import Derived.Test.YtblkfjbgendliaaDoorRef
import Derived.Deep.LoopGhost
namespace Go.Proofs.YtblkfjbgendliaaDoor
open Go.RowKit
namespace Bt

theorem mN_lt {n : Int} {i : Nat} : i < mN n ↔ ((i : Int) < n ∧ (i : Int) < 64) := by unfold mN; omega

theorem rFree_any (a n : Int) (h : U a) (w : World) : Calls Tryd.prog 17 #[.int .u64 a, .int .i64 n] w fun e w' => e = .returned (.int .i64 (freI a n)) ∧ w = w' := by
  have cH := fun k => rHas_any a k h w
  have hm := mN_le n
  have HE : Hid (freI a n = fre a.toNat (mN n)) := rfl
  generalize freI a n = r at HE
  go_enter Tryd.func17, Tryd.ntmps17
  go_wp2
  go_loopg [5] (mN n) (fun g t wx => ∃ i : Int, w = wx ∧ 0 ≤ i ∧ i + g = mN n ∧ t = .int .i64 i ∧ Hid (∀ j, j < i.toNat → a.toNat.testBit j = true))
  case atStart => exact ⟨0, rfl, by omega, by omega, rfl, fun j hj => by simp at hj⟩
  case round =>
    obtain ⟨i, rfl, hi0, hig, rfl, HA⟩ := hrel
    have hl := mN_lt (n := n) (i := i.toNat)
    rw [Int.toNat_of_nonneg hi0] at hl
    by_cases hin : i.toNat < mN n
    · obtain ⟨l1, l2⟩ := hl.1 hin
      have hb := hasI_N (a := a) (k := i) ⟨hi0, by omega⟩
      have c1 := cH i
      cases hx : a.toNat.testBit i.toNat
      · rw [hb, hx] at c1
        have e : r = i := by
          rw [HE.out, fre_at hx HA.out hin]
          omega
        subst e
        clear hb hx HE hl
        go_wp2_with (go_at_call 14; refine c1.mono ?_; rintro e w' ⟨rfl, rfl⟩)
        go_ret
        exact ⟨rfl, rfl⟩
      · rw [hb, hx] at c1
        have HX : Hid (a.toNat.testBit i.toNat = true) := hx
        clear hb hx hl
        go_wp2_with (go_at_call 14; refine c1.mono ?_; rintro e w' ⟨rfl, rfl⟩)
        go_roundg (mN n - (i.toNat + 1))
        case measure => omega
        case rel =>
          refine ⟨i + 1, rfl, by omega, by omega, by go_num, fun j hj => ?_⟩
          by_cases hji : j = i.toNat
          · rw [hji]; exact HX.out
          · exact HA.out j (by omega)
    · have e : r = -1 := by
        rw [HE.out]
        exact fre_all fun j hj => HA.out j (by omega)
      subst e
      have l1 : ¬ (i < n ∧ i < 64) := fun hc => hin (hl.2 hc)
      clear hl HE HA hin
      by_cases l2 : i < n
      · have l3 : 64 ≤ i := by omega
        go_wp2
        go_ret
        exact ⟨rfl, rfl⟩
      · go_wp2
        go_ret
        exact ⟨rfl, rfl⟩

theorem lst_succ (x m : Nat) : lst x (m + 1) = if x.testBit m then (m : Int) else lst x m := rfl

theorem rLast_any (a n : Int) (h : U a) (w : World) : Calls Tryd.prog 19 #[.int .u64 a, .int .i64 n] w fun e w' => e = .returned (.int .i64 (lstI a n)) ∧ w = w' := by
  have cH := fun k => rHas_any a k h w
  have hm := mN_le n
  have HE : Hid (lstI a n = lst a.toNat (mN n)) := rfl
  generalize lstI a n = r at HE
  go_enter Tryd.func19, Tryd.ntmps19
  go_wp2
  go_loopg [5, 6] (mN n) (fun g s t wx => ∃ i l : Int, w = wx ∧ 0 ≤ i ∧ i + g = mN n ∧ t = .int .i64 i ∧ s = .int .i64 l ∧ Hid (l = lst a.toNat i.toNat))
  case atStart => exact ⟨0, -1, rfl, by omega, by omega, rfl, rfl, rfl⟩
  case round =>
    obtain ⟨i, l, rfl, hi0, hig, rfl, rfl, HA⟩ := hrel
    have hl := mN_lt (n := n) (i := i.toNat)
    rw [Int.toNat_of_nonneg hi0] at hl
    by_cases hin : i.toNat < mN n
    · obtain ⟨l1, l2⟩ := hl.1 hin
      have hb := hasI_N (a := a) (k := i) ⟨hi0, by omega⟩
      have c1 := cH i
      have HN := lst_succ a.toNat i.toNat
      cases hx : a.toNat.testBit i.toNat
      · rw [hb, hx] at c1
        rw [hx] at HN
        have HX : Hid (lst a.toNat (i.toNat + 1) = l) := by rw [HA.out]; exact HN
        clear hb hx hl HN
        go_wp2_with (go_at_call 14; refine c1.mono ?_; rintro e w' ⟨rfl, rfl⟩)
        go_roundg (mN n - (i.toNat + 1))
        case measure => omega
        case rel =>
          refine ⟨i + 1, l, rfl, by omega, by omega, by go_num, rfl, ?_⟩
          show l = _
          rw [show (i + 1).toNat = i.toNat + 1 by omega, HX.out]
      · rw [hb, hx] at c1
        rw [hx] at HN
        have HX : Hid (lst a.toNat (i.toNat + 1) = i) := by
          show lst a.toNat (i.toNat + 1) = i
          rw [HN]
          simp
          omega
        clear hb hx hl HN
        go_wp2_with (go_at_call 14; refine c1.mono ?_; rintro e w' ⟨rfl, rfl⟩)
        go_roundg (mN n - (i.toNat + 1))
        case measure => omega
        case rel =>
          refine ⟨i + 1, i, rfl, by omega, by omega, by go_num, rfl, ?_⟩
          show i = _
          rw [show (i + 1).toNat = i.toNat + 1 by omega, HX.out]
    · have e : r = l := by
        rw [HE.out, HA.out, show mN n = i.toNat by omega]
      subst e
      have l1 : ¬ (i < n ∧ i < 64) := fun hc => hin (hl.2 hc)
      clear hl HE HA hin
      by_cases l2 : i < n
      · have l3 : 64 ≤ i := by omega
        go_wp2
        go_ret
        exact ⟨rfl, rfl⟩
      · go_wp2
        go_ret
        exact ⟨rfl, rfl⟩

theorem rCount_any (a n : Int) (h : U a) (w : World) : Calls Tryd.prog 21 #[.int .u64 a, .int .i64 n] w fun e w' => e = .returned (.int .i64 (cntI a n)) ∧ w = w' := by
  have cH := fun k => rHas_any a k h w
  have hm := mN_le n
  have HE : Hid (cntI a n = (cnt a.toNat (mN n) : Nat)) := rfl
  generalize cntI a n = r at HE
  go_enter Tryd.func21, Tryd.ntmps21
  go_wp2
  go_loopg [5, 6] (mN n) (fun g s t wx => ∃ i l : Int, w = wx ∧ 0 ≤ i ∧ i + g = mN n ∧ t = .int .i64 i ∧ s = .int .i64 l ∧ 0 ≤ l ∧ l ≤ i ∧ Hid (l = (cnt a.toNat i.toNat : Nat)))
  case atStart => exact ⟨0, 0, rfl, by omega, by omega, rfl, rfl, by omega, by omega, rfl⟩
  case round =>
    obtain ⟨i, l, rfl, hi0, hig, rfl, rfl, hl0, hl1, HA⟩ := hrel
    have hl := mN_lt (n := n) (i := i.toNat)
    rw [Int.toNat_of_nonneg hi0] at hl
    by_cases hin : i.toNat < mN n
    · obtain ⟨l1, l2⟩ := hl.1 hin
      have hb := hasI_N (a := a) (k := i) ⟨hi0, by omega⟩
      have c1 := cH i
      have HN := cnt_succ a.toNat i.toNat
      cases hx : a.toNat.testBit i.toNat
      · rw [hb, hx] at c1
        rw [hx] at HN
        have HX : Hid (((cnt a.toNat (i.toNat + 1) : Nat) : Int) = l) := by rw [HA.out, HN]; rfl
        clear hb hx hl HN
        go_wp2_with (go_at_call 14; refine c1.mono ?_; rintro e w' ⟨rfl, rfl⟩)
        go_roundg (mN n - (i.toNat + 1))
        case measure => omega
        case rel =>
          refine ⟨i + 1, l, rfl, by omega, by omega, by go_num, rfl, hl0, by omega, ?_⟩
          show l = _
          rw [show (i + 1).toNat = i.toNat + 1 by omega, HX.out]
      · rw [hb, hx] at c1
        rw [hx] at HN
        have HX : Hid (((cnt a.toNat (i.toNat + 1) : Nat) : Int) = l + 1) := by rw [HA.out, HN]; rfl
        clear hb hx hl HN
        go_wp2_with (go_at_call 14; refine c1.mono ?_; rintro e w' ⟨rfl, rfl⟩)
        go_roundg (mN n - (i.toNat + 1))
        case measure => omega
        case rel =>
          refine ⟨i + 1, l + 1, rfl, by omega, by omega, by go_num, by go_num, by omega, by omega, ?_⟩
          show l + 1 = _
          rw [show (i + 1).toNat = i.toNat + 1 by omega, HX.out]
    · have e : r = l := by
        rw [HE.out, HA.out, show mN n = i.toNat by omega]
      subst e
      have l1 : ¬ (i < n ∧ i < 64) := fun hc => hin (hl.2 hc)
      clear hl HE HA hin
      by_cases l2 : i < n
      · have l3 : 64 ≤ i := by omega
        go_wp2
        go_ret
        exact ⟨rfl, rfl⟩
      · go_wp2
        go_ret
        exact ⟨rfl, rfl⟩

theorem rFull_any (n : Int) (w : World) : Calls Tryd.prog 23 #[.int .i64 n] w fun e w' => e = .returned (.int .u64 (fulI n)) ∧ w = w' := by
  have cH := fun k hk => rOne_ok k hk w
  have hm := mN_le n
  have HE : Hid (fulI n = oneI (mN n) - 1) := by
    show fulI n = oneI (mN n) - 1
    have : 0 < 2 ^ mN n := Nat.two_pow_pos _
    unfold fulI oneI
    rw [Int.toNat_natCast]
    omega
  generalize fulI n = r at HE
  go_enter Tryd.func23, Tryd.ntmps23
  go_wp2
  go_loopg [3, 4] (mN n) (fun g s t wx => ∃ i l : Int, w = wx ∧ 0 ≤ i ∧ i + g = mN n ∧ t = .int .i64 i ∧ s = .int .u64 l ∧ Hid (l = oneI i - 1))
  case atStart => exact ⟨0, 0, rfl, by omega, by omega, rfl, rfl, rfl⟩
  case round =>
    obtain ⟨i, l, rfl, hi0, hig, rfl, rfl, HA⟩ := hrel
    have hl := mN_lt (n := n) (i := i.toNat)
    rw [Int.toNat_of_nonneg hi0] at hl
    by_cases hin : i.toNat < mN n
    · obtain ⟨l1, l2⟩ := hl.1 hin
      have c1 := cH i ⟨hi0, by omega⟩
      have HN := oneI_succ i hi0
      have hu := oneI_U (k := i) ⟨hi0, by omega⟩
      have hb : oneI i ≤ 9223372036854775808 := by
        have : 2 ^ i.toNat ≤ 2 ^ 63 := Nat.pow_le_pow_right (by decide) (by omega)
        unfold oneI
        omega
      have ha := HA.out
      have hp : 0 < oneI i := by have h1 := hu.1; have h2 := oneI_ne i; omega
      generalize oneI i = p at c1 HN hu hb ha hp
      subst ha
      have key : IntKind.u64.wrap (p - 1 + p) = p * 2 - 1 := by
        rw [show p - 1 + p = p * 2 - 1 by omega]
        exact wrap_U ⟨by omega, by omega⟩
      have HX : Hid (oneI (i + 1) = p * 2) := HN
      clear hl HN hu hb hp HA
      generalize p - 1 = q at key
      generalize p * 2 = p2 at key HX
      go_wp2_with (go_at_call 26; refine c1.mono ?_; rintro e w' ⟨rfl, rfl⟩)
      go_roundg (mN n - (i.toNat + 1))
      case measure => omega
      case rel =>
        refine ⟨i + 1, p2 - 1, rfl, by omega, by omega, by go_num, rfl, ?_⟩
        show p2 - 1 = _
        rw [HX.out]
    · have e : r = l := by
        rw [HE.out, HA.out, show (mN n : Int) = i by omega]
      subst e
      have l1 : ¬ (i < n ∧ i < 64) := fun hc => hin (hl.2 hc)
      clear hl HE HA hin
      by_cases l2 : i < n
      · have l3 : 64 ≤ i := by omega
        go_wp2
        go_ret
        exact ⟨rfl, rfl⟩
      · go_wp2
        go_ret
        exact ⟨rfl, rfl⟩

end Bt
end Go.Proofs.YtblkfjbgendliaaDoor
