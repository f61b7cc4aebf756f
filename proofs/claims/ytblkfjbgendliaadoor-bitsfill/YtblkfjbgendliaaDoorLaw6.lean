/-
  The walk of the statement BitsFill.
-/
import Derived.Test.YtblkfjbgendliaaDoorFill
import Derived.Deep.LoopGhost
namespace Go.Proofs.YtblkfjbgendliaaDoor
open Go.RowKit
namespace Bt

set_option maxHeartbeats 4000000 in
theorem fill_walk (a n : Int) (h : U a) (w : World) (s : S w w) : Calls Tryd.prog 5 #[.int .u64 a, .int .i64 n] w fun e w' => e = .returned (.bool true) ∧ S w w' := by
  have ca := awake_ok w
  by_cases h0 : n < 0
  · go_enter Tryd.func5, Tryd.ntmps5
    go_wp2_with (go_at_call 15; refine (ca _ (by assumption)).mono ?_; rintro e w6 ⟨rfl, s6⟩)
    go_ret
    exact ⟨rfl, s6⟩
  by_cases h1 : 64 < n
  · go_enter Tryd.func5, Tryd.ntmps5
    go_wp2_with (go_at_call 15; refine (ca _ (by assumption)).mono ?_; rintro e w6 ⟨rfl, s6⟩)
    go_ret
    exact ⟨rfl, s6⟩
  have c0 := count_s w a n h
  have HM : Hid (cntI a n ≤ n ∧ 0 ≤ cntI a n) := by
    have h2 := cnt_le a.toNat (mN n)
    have h3 := mN_of n (by omega) (by omega)
    show cntI a n ≤ n ∧ 0 ≤ cntI a n
    unfold cntI
    omega
  generalize hc : cntI a n = c at c0 HM
  have HC : Hid (cntI a n = c) := hc
  clear hc
  go_enter Tryd.func5, Tryd.ntmps5
  go_wp2_with (go_at_call 20; refine (c0 _ (by assumption)).mono ?_; rintro e w1 ⟨rfl, s1⟩)
  clear c0
  go_loopg [0, 6, 7] (n - c).toNat (fun g tx tl ti wx => ∃ i x l : Int, 0 ≤ i ∧ i + g = n ∧ ti = .int .i64 i ∧ tx = .int .u64 x ∧ tl = .int .i64 l ∧ S w wx ∧ Hid (U x ∧ cntI x n = i ∧ ∀ j : Nat, (j : Int) ≤ l → x.toNat.testBit j = true))
  case atStart =>
    have h2 := HM.out
    exact ⟨c, a, -1, h2.2, by omega, rfl, rfl, rfl, s1, h, HC.out, fun j hj => by omega⟩
  case round =>
    clear s1 HM HC
    obtain ⟨i, x, l, hi0, hig, rfl, rfl, rfl, sx, HX⟩ := hrel
    obtain ⟨ux, hcx, hlx⟩ := HX.out
    by_cases hin : i < n
    · obtain ⟨k, v, e1, e2, e3, hlk, e4, uv, e5, e6⟩ := fill_up ux (by omega) (by omega) hcx hin hlx
      have cF := free_s w x n ux
      rw [e1] at cF
      have cS := fun wx => set_any x k ux wx
      rw [e2, e3] at cS
      have cH := fun wx => has_any x k ux wx
      rw [e4] at cH
      have cC := count_s w v n uv
      rw [e5] at cC
      have HN : Hid (U v ∧ cntI v n = i + 1 ∧ ∀ j : Nat, (j : Int) ≤ k → v.toNat.testBit j = true) := ⟨uv, e5, e6⟩
      clear e1 e2 e3 e4 e5 e6 uv ux hcx hlx HX
      go_wp2_with (first
        | (go_at_call 16; refine (cF _ (by assumption)).mono ?_; rintro e w2 ⟨rfl, s2⟩)
        | (go_at_call 9; refine (cS _).mono ?_; rintro e w' ⟨rfl, rfl⟩)
        | (go_at_call 13; refine (cH _).mono ?_; rintro e w' ⟨rfl, rfl⟩)
        | (go_at_call 20; refine (cC _ (by assumption)).mono ?_; rintro e w3 ⟨rfl, s3⟩))
      go_roundg (n - (i + 1)).toNat
      case measure => omega
      case rel => exact ⟨i + 1, v, k, by omega, by omega, by go_num, rfl, rfl, s3, HN⟩
    · have hin2 : i = n := by omega
      obtain ⟨e1, e2, e3⟩ := fill_full ux (by omega) (by omega) (hcx.trans hin2)
      have cF := free_s w x n ux
      rw [e1] at cF
      have cU := full_s w n
      have HN : Hid (U x ∧ (∀ j : Nat, (j : Int) < n → x.toNat.testBit j = true)) := ⟨ux, e3⟩
      generalize fulI n = u at e2 cU
      subst hin2
      clear e1 e3 ux hcx hlx HX
      go_wp2_with (first
        | (go_at_call 16; refine (cF _ (by assumption)).mono ?_; rintro e w2 ⟨rfl, s2⟩)
        | (go_at_call 22; refine (cU _ (by assumption)).mono ?_; rintro e w3 ⟨rfl, s3⟩))
      go_loopg [0, 11] i.toNat (fun g tx ti wx => ∃ k x : Int, 0 ≤ k ∧ Hid (k = g) ∧ k ≤ i ∧ ti = .int .i64 k ∧ tx = .int .u64 x ∧ S w wx ∧ Hid (U x ∧ (∀ j : Nat, (j : Int) < k → x.toNat.testBit j = true) ∧ (∀ j : Nat, k ≤ (j : Int) → (j : Int) < i → x.toNat.testBit j = false)))
      case atStart =>
        have h2 := HN.out
        exact ⟨i, x, hi0, (by show i = _; omega), by omega, rfl, rfl, by assumption, h2.1, h2.2, fun j h3 h4 => by omega⟩
      case round =>
        clear cF cU HN e2 sx
        obtain ⟨k, y, hk0, hkg, hki, rfl, rfl, sy, HY⟩ := hrel
        obtain ⟨uy, lo, hi⟩ := HY.out
        by_cases hk : 0 < k
        · obtain ⟨v, e1, e2, e3, e4, uv, e5, e6, e7⟩ := fill_down uy (by omega) hk hki lo hi
          have cL := last_s w y i uy
          rw [e1] at cL
          have cS := fun wx => clr_any y (k - 1) uy wx
          rw [e2, e3] at cS
          have cH := fun wx => has_any v (k - 1) uv wx
          rw [e4] at cH
          have cC := count_s w v i uv
          rw [e5] at cC
          have HN : Hid (U v ∧ (∀ j : Nat, (j : Int) < k - 1 → v.toNat.testBit j = true) ∧ (∀ j : Nat, k - 1 ≤ (j : Int) → (j : Int) < i → v.toNat.testBit j = false)) := ⟨uv, e6, e7⟩
          clear e1 e2 e3 e4 e5 e6 e7 uv uy lo hi HY
          go_wp2_with (first
            | (go_at_call 18; refine (cL _ (by assumption)).mono ?_; rintro e w2 ⟨rfl, s2⟩)
            | (go_at_call 11; refine (cS _).mono ?_; rintro e w' ⟨rfl, rfl⟩)
            | (go_at_call 13; refine (cH _).mono ?_; rintro e w' ⟨rfl, rfl⟩)
            | (go_at_call 20; refine (cC _ (by assumption)).mono ?_; rintro e w3 ⟨rfl, s3⟩))
          go_roundg (k - 1).toNat
          case measure =>
            have hg := hkg.out
            omega
          case rel => exact ⟨k - 1, v, by omega, (by show k - 1 = _; omega), by omega, by go_num, rfl, s3, HN⟩
        · have hk1 : k = 0 := by omega
          subst hk1
          have cL := last_s w y i uy
          rw [fill_none (by omega) hi] at cL
          clear uy lo hi HY
          go_wp2_with (first
            | (go_at_call 18; refine (cL _ (by assumption)).mono ?_; rintro e w2 ⟨rfl, s2⟩)
            | (go_at_call 15; refine (ca _ (by assumption)).mono ?_; rintro e w6 ⟨rfl, s6⟩))
          go_ret
          exact ⟨rfl, s6⟩

end Bt
end Go.Proofs.YtblkfjbgendliaaDoor
