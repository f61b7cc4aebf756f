/-
  The walk of TextBytes.
-/
import Derived.Test.YtffmfhpbhfnieaaXBackW
import Derived.Test.YtffmfhpbhfnieaaXOrderW
namespace Go.Proofs.Ytffmfhpbhfnieaa
open Go.RowKit
namespace Tx
open Hp (Kept K No)
open Go.Lib (compareBytes)
variable {w w' : World}

set_option maxRecDepth 100000 in
set_option maxHeartbeats 2000000 in
theorem bytes_out (s t : ByteArray) (w : World) (h : 300 < s.size ∨ s.size ≤ 300 ∧ s.size ≠ t.size) : Calls Try.prog 8 #[.string s, .string t] w fun e w' => e = .returned (.bool true) ∧ K w w' := by
  have k0 := K.refl w
  have ca := awake_any w
  rcases h with h | ⟨h1, h⟩
  · go_enter Try.func8, Try.ntmps8
    go_wp2_with (go_at_call 9; refine (ca _ (by assumption)).mono ?_; rintro e w6 ⟨rfl, k6⟩)
    go_ret
    exact ⟨rfl, k6⟩
  · have hne : ((t.size : Int) != (s.size : Int)) = true := by simp; omega
    clear h
    go_enter Try.func8, Try.ntmps8
    go_wp2_with (go_at_call 9; refine (ca _ (by assumption)).mono ?_; rintro e w6 ⟨rfl, k6⟩)
    go_ret
    exact ⟨rfl, k6⟩

set_option maxRecDepth 100000 in
set_option maxHeartbeats 4000000 in
theorem bytes_in (s t : ByteArray) (w : World) (h1 : s.size ≤ 300) (h2 : s.size = t.size) : Calls Try.prog 8 #[.string s, .string t] w fun e w' => e = .returned (.bool true) ∧ K w w' := by
  obtain ⟨m, hm⟩ : ∃ m, s.size = m := ⟨_, rfl⟩
  have hm2 : t.size = m := by omega
  have mm := row_len_wds (s := s) (by omega)
  have cm := many_any (m : Int)
  rw [hm] at mm
  rw [← mm] at cm
  have hlen : (wds (bs s)).length = (wds (bs t)).length := by rw [wds_len, wds_len, bs_len, bs_len, h2]
  have hll : (bs s).length = (bs t).length := by rw [bs_len, bs_len, h2]
  have H1 : Aside (∀ i, i < (wds (bs s)).length → (wds (bs s)).take i = (wds (bs t)).take i → (wds (bs s)).getD i 0 ≠ (wds (bs t)).getD i 0 → compareBytes (bs s) (bs t) = if (wds (bs s)).getD i 0 < (wds (bs t)).getD i 0 then -1 else 1) := fun i hi he hn => wds_cmp hll hi he hn
  have H2 : Aside (wds (bs s) = wds (bs t) → compareBytes (bs s) (bs t) = 0) := fun e => by rw [wds_inj e, cmp_self]
  have H3 : Aside ((wds (bs s)).getD 0 0 = m ∧ 0 < (wds (bs s)).length ∧ (wds (bs s)).length ≤ 100) := ⟨by rw [wds_zero, bs_len, hm], by rw [wds_len]; omega, by rw [wds_len, bs_len]; omega⟩
  have u1 : Aside (Us (wds (bs s))) := wds_us' (by omega)
  have u2 : Aside (Us (wds (bs t))) := wds_us' (by omega)
  obtain ⟨X, hX⟩ : ∃ X, wds (bs s) = X := ⟨_, rfl⟩
  obtain ⟨Y, hY⟩ : ∃ Y, wds (bs t) = Y := ⟨_, rfl⟩
  obtain ⟨v, hv⟩ : ∃ v, compareBytes (bs s) (bs t) = v := ⟨_, rfl⟩
  have cc := compare_eq s t v hv
  rw [hX] at H1 H2 H3 hlen mm cm u1
  rw [hY] at H1 H2 hlen u2
  rw [hv] at H1 H2
  obtain ⟨n, hn⟩ : ∃ n, X.length = n := ⟨_, rfl⟩
  have c1 := words_X s hX hn (by omega)
  have c2 := words_X t hY (hlen.symm.trans hn) (by omega)
  rw [hn] at H1 H3 cm
  have HN : Aside (X.length = n ∧ Y.length = n) := ⟨hn, hlen.symm.trans hn⟩
  have hm300 : m ≤ 300 := by omega
  obtain ⟨n0, n1⟩ := H3.out.2
  have HM : Aside _ := H3.out.1
  have hs := hm
  have ht := hm2
  clear hX hY hv hlen hn mm hll h1 h2 H3 hm hm2
  go_enter Try.func8, Try.ntmps8
  go_wp2_with fail
  refine (c1 w).mono ?_
  rintro e w1 ⟨g1, p1, rfl, R1, k1⟩
  have K1 : Aside _ := k1
  clear k1 c1
  go_wp2_with fail
  refine (c2 w1).mono ?_
  rintro e w2 ⟨g2, p2, rfl, R2, k2⟩
  have K2 : Aside (K w w2) := K1.out.trans k2
  have S1 : Aside _ := (R1.out.src u1.out (by rw [HN.out.1]; unfold maxLen; omega)).keep k2
  have S2 : Aside _ := R2.out.src u2.out (by rw [HN.out.2]; unfold maxLen; omega)
  clear k2 c2 K1 R1 R2
  have hx := S1.out.at (i := 0) (by rw [HN.out.1]; exact n0)
  rw [HM.out] at hx
  have hix := S1.out.ix0 (by rw [HN.out.1]; exact n0)
  rw [HN.out.1] at hix
  have hn0 : ((n : Int) == 0) = false := by rw [beq_eq_false_iff_ne]; omega
  go_wp2_with (go_at_call 13; refine (cm _).mono ?_; rintro e w3 ⟨rfl, rfl⟩)
  clear hx hix
  have ca := awake_any w
  go_loopw [9, 10] (fun t9 t10 wr => ∃ (i : Nat) (c : Int), t10 = .int .i64 i ∧ t9 = .int .i64 c ∧ i ≤ n ∧ Aside ((c = 0 ∧ X.take i = Y.take i) ∨ (c ≠ 0 ∧ c = v)) ∧ Aside (K w2 wr)) (fun _ t10 _ => n - (intOf t10).toNat)
  case atStart => exact ⟨0, 0, rfl, rfl, by omega, .inl ⟨rfl, rfl⟩, K.refl w2⟩
  case round =>
    obtain ⟨i, c, rfl, rfl, hi, E, Kr⟩ := hrel
    have fin : ∀ wx, K w wx → c = v → Calls Try.prog 16 #[.string s, .string t] wx fun e w' => e = .returned (.int .i64 c) ∧ wx = w' := fun wx _ e => by rw [e]; exact cc wx
    rcases E.out with ⟨rfl, he⟩ | ⟨hc0, hcv⟩
    case inr =>
      have cf := fin wr (K2.out.trans Kr.out) hcv
      have hc1 : (c == 0) = false := by rw [beq_eq_false_iff_ne]; exact hc0
      have kr : K w wr := K2.out.trans Kr.out
      clear hc0 hcv fin cc E
      by_cases hlt : i < n
      all_goals
        go_wp2_with (first
          | (go_at_call 16; refine cf.mono ?_; rintro e w6 ⟨rfl, rfl⟩)
          | (go_at_call 9; refine (ca _ (by assumption)).mono ?_; rintro e w6 ⟨rfl, k6⟩))
        go_ret
        exact ⟨rfl, k6⟩
    by_cases hlt : i < n
    case neg =>
      obtain rfl : i = n := by omega
      have hxy : X = Y := by
        rw [List.take_of_length_le (by rw [HN.out.1]; exact Nat.le_refl _), List.take_of_length_le (by rw [HN.out.2]; exact Nat.le_refl _)] at he
        exact he
      have cf := fin wr (K2.out.trans Kr.out) (H2.out hxy).symm
      have kr : K w wr := K2.out.trans Kr.out
      clear hxy he fin cc E
      go_wp2_with (first
        | (go_at_call 16; refine cf.mono ?_; rintro e w6 ⟨rfl, rfl⟩)
        | (go_at_call 9; refine (ca _ (by assumption)).mono ?_; rintro e w6 ⟨rfl, k6⟩))
      go_ret
      exact ⟨rfl, k6⟩
    have hiX : i < X.length := by rw [HN.out.1]; exact hlt
    have hiY : i < Y.length := by rw [HN.out.2]; exact hlt
    have q1 := Kr.out.cell (S1.out.at hiX)
    have q2 := Kr.out.cell (S2.out.at hiY)
    have i1 := S1.out.ix i hiX
    have i2 := S2.out.ix i hiY
    rw [HN.out.1] at i1
    rw [HN.out.2] at i2
    simp only [Nat.zero_add] at q1 q2 i1 i2
    have HH := H1.out i hlt he
    have E2 : Aside (X.getD i 0 = Y.getD i 0 → X.take (i + 1) = Y.take (i + 1)) := fun e => by
      rw [List.take_add_one, List.take_add_one, he, getD_at hiX, getD_at hiY, e]
    have HV : Aside (X.getD i 0 ≠ Y.getD i 0 → v = if X.getD i 0 < Y.getD i 0 then -1 else 1) := HH
    have kd : Aside (K w2 wr.drew.drew) := Kr.out.drew.drew
    clear fin E he HH hiX hiY H1 cc
    generalize X.getD i 0 = x at *
    generalize Y.getD i 0 = y at *
    by_cases hxy : x < y
    · have hv : Aside (v = -1) := by show v = -1; rw [HV.out (by omega), if_pos hxy]
      clear HV E2
      go_wp2
      go_region
      go_wp2_with fail
      go_region
      go_wp2_with fail
      go_roundw
      case measure => simp [intOf]; omega
      case rel => exact ⟨i + 1, -1, by go_num, rfl, by omega, .inr ⟨by decide, hv.out.symm⟩, kd⟩
    · by_cases hyx : y < x
      · have hv : Aside (v = 1) := by show v = 1; rw [HV.out (by omega), if_neg hxy]
        clear HV E2
        go_wp2
        go_region
        go_wp2_with fail
        go_region
        go_wp2_with fail
        go_roundw
        case measure => simp [intOf]; omega
        case rel => exact ⟨i + 1, 1, by go_num, rfl, by omega, .inr ⟨by decide, hv.out.symm⟩, kd⟩
      · have he2 : Aside (X.take (i + 1) = Y.take (i + 1)) := E2.out (by omega)
        clear HV E2
        go_wp2
        go_region
        go_wp2_with fail
        go_region
        go_wp2_with fail
        go_roundw
        case measure => simp [intOf]; omega
        case rel => exact ⟨i + 1, 0, by go_num, rfl, by omega, .inl ⟨rfl, he2.out⟩, kd⟩

theorem bytes_walk (s t : ByteArray) (w : World) : Calls Try.prog 8 #[.string s, .string t] w fun e w' => e = .returned (.bool true) ∧ K w w' := by
  by_cases h1 : s.size ≤ 300
  · by_cases h2 : s.size = t.size
    · exact bytes_in s t w h1 h2
    · exact bytes_out s t w (.inr ⟨h1, h2⟩)
  · exact bytes_out s t w (.inl (by omega))

end Tx
end Go.Proofs.Ytffmfhpbhfnieaa
