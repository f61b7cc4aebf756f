/-
  The reference's Compare, and the walk of TextCompare.
-/
import Derived.Test.YtffmfhpbhfnieaaXOrderW
namespace Go.Proofs.Ytffmfhpbhfnieaa
open Go.RowKit
namespace Tx
open Hp (Kept K No)
open Go.Lib (compareBytes)
variable {w w' : World}

theorem cmp_end : ∀ {a b : List UInt8} {i : Nat}, i ≤ a.length → i ≤ b.length → (∀ j, j < i → bt a j = bt b j) → (a.length ≤ i ∨ b.length ≤ i) → compareBytes a b = if a.length < b.length then -1 else if b.length < a.length then 1 else 0
  | [], [], _, _, _, _, _ => rfl
  | [], y :: b, _, _, _, _, _ => by simp [compareBytes]
  | x :: a, [], _, _, _, _, _ => by simp [compareBytes]
  | x :: a, y :: b, 0, _, _, _, h => by simp at h
  | x :: a, y :: b, i + 1, h1, h2, h, he => by
    have h0 := h 0 (by omega)
    simp only [bt, List.getD_cons_zero] at h0
    rw [cmp_cons, if_neg (by omega), if_neg (by omega), cmp_end (a := a) (b := b) (i := i) (by simpa using h1) (by simpa using h2) (fun j hj => by
      have := h (j + 1) (by omega)
      simpa [bt] using this) (by simpa using he)]
    simp

set_option maxRecDepth 100000 in
set_option maxHeartbeats 2000000 in
theorem rCompare_any (a b : ByteArray) (ha : a.size ≤ 2000) (hb : b.size ≤ 2000) (w : World) : Calls Try.prog 17 #[.string a, .string b] w fun e w' => e = .returned (.int .i64 (compareBytes (bs a) (bs b))) ∧ K w w' := by
  have IA : Aside (∀ k, k < a.size → ∀ w, (Instr.index 9 (.string a) (.int .i64 (k : Int))).run Try.prog w = .ok (.int .u8 (bt (bs a) k)) w) := fun k hk w => str_ix a k (by rw [bs_len]; exact hk) w
  have IB : Aside (∀ k, k < b.size → ∀ w, (Instr.index 9 (.string b) (.int .i64 (k : Int))).run Try.prog w = .ok (.int .u8 (bt (bs b) k)) w) := fun k hk w => str_ix b k (by rw [bs_len]; exact hk) w
  have HA : Aside (∀ k, k < a.size → k < b.size → (∀ j, j < k → bt (bs a) j = bt (bs b) j) → compareBytes (bs a) (bs b) = if bt (bs a) k < bt (bs b) k then -1 else if bt (bs b) k < bt (bs a) k then 1 else compareBytes ((bs a).drop (k + 1)) ((bs b).drop (k + 1))) := fun k h1 h2 h => cmp_at k (by rw [bs_len]; exact h1) (by rw [bs_len]; exact h2) h
  have HE : Aside (∀ k, k ≤ a.size → k ≤ b.size → (∀ j, j < k → bt (bs a) j = bt (bs b) j) → (a.size ≤ k ∨ b.size ≤ k) → compareBytes (bs a) (bs b) = if a.size < b.size then -1 else if b.size < a.size then 1 else 0) := fun k h1 h2 h he => by
    have := cmp_end (i := k) (by rw [bs_len]; exact h1) (by rw [bs_len]; exact h2) h (by rw [bs_len, bs_len]; exact he)
    rw [bs_len, bs_len] at this
    exact this
  have RA : Aside (∀ k, 0 ≤ bt (bs a) k ∧ bt (bs a) k ≤ 255) := bt_rng (bs a)
  have RB : Aside (∀ k, 0 ≤ bt (bs b) k ∧ bt (bs b) k ≤ 255) := bt_rng (bs b)
  generalize hv : compareBytes (bs a) (bs b) = v at *
  clear hv
  obtain ⟨m, hm⟩ : ∃ m, a.size = m := ⟨_, rfl⟩
  obtain ⟨n, hn⟩ : ∃ n, b.size = n := ⟨_, rfl⟩
  rw [hm] at IA HA HE ha
  rw [hn] at IB HA HE hb
  have k0 : Aside (K w w) := K.refl w
  go_enter Try.func17, Try.ntmps17
  go_wp2
  go_loopw [5] (fun t wr => ∃ i : Nat, t = .int .i64 i ∧ i ≤ m ∧ i ≤ n ∧ Aside (∀ j, j < i → bt (bs a) j = bt (bs b) j) ∧ Aside (K w wr)) (fun t _ => m - (intOf t).toNat)
  case atStart => exact ⟨0, rfl, by omega, by omega, fun j hj => absurd hj (Nat.not_lt_zero j), k0⟩
  case round =>
    obtain ⟨i, rfl, him, hin, E, Kr⟩ := hrel
    clear k0
    by_cases hlt : i < m ∧ i < n
    · obtain ⟨h1, h2⟩ := hlt
      have i1 := IA.out i h1
      have i2 := IB.out i h2
      have hA : Aside _ := HA.out i h1 h2 E.out
      obtain ⟨x0, x1⟩ := RA.out i
      obtain ⟨y0, y1⟩ := RB.out i
      have E2 : Aside (bt (bs a) i = bt (bs b) i → ∀ j, j < i + 1 → bt (bs a) j = bt (bs b) j) := fun e j hj => by
        by_cases h : j < i
        · exact E.out j h
        · obtain rfl : j = i := by omega
          exact e
      clear HA HE RA RB IA IB E
      have kd : Aside (K w wr.drew.drew) := Kr.out.drew.drew
      have kd1 : Aside (K w wr.drew) := Kr.out.drew
      generalize bt (bs a) i = x at *
      generalize bt (bs b) i = y at *
      by_cases hxy : x < y
      · have hv : Aside (v = -1) := by show v = -1; rw [hA.out, if_pos hxy]
        clear hA E2
        go_wp2
        go_region
        go_wp2_with fail
        go_ret
        refine ⟨?_, kd1⟩
        rw [hv.out]
        rfl
      · by_cases hyx : y < x
        · have hv : Aside (v = 1) := by show v = 1; rw [hA.out, if_neg hxy, if_pos hyx]
          clear hA E2
          go_wp2
          go_region
          go_wp2_with fail
          go_region
          go_wp2_with fail
          go_ret
          refine ⟨?_, kd⟩
          rw [hv.out]
          rfl
        · have he2 : Aside _ := E2.out (by omega)
          clear hA E2
          go_wp2
          go_region
          go_wp2_with fail
          go_region
          go_wp2_with fail
          go_roundw
          case measure => simp [intOf]; omega
          case rel => exact ⟨i + 1, by go_num, by omega, by omega, he2.out, kd⟩
    · have hv : Aside _ := HE.out i him hin E.out (by omega)
      clear HA HE RA RB IA IB E
      obtain ⟨hl, hc⟩ | ⟨hl, hc⟩ | ⟨hl, hc⟩ : (m < n ∧ m ≤ i) ∨ (n < m ∧ n ≤ i) ∨ (m = n ∧ m ≤ i) := by omega
      · have hv2 : Aside (v = -1) := by show v = -1; rw [hv.out, if_pos hl]
        clear hv hlt
        go_wp2
        go_ret
        refine ⟨?_, Kr⟩
        rw [hv2.out]
        rfl
      · have hv2 : Aside (v = 1) := by show v = 1; rw [hv.out, if_neg (by omega), if_pos hl]
        clear hv hlt
        have hi : i < m := by omega
        go_wp2
        go_ret
        refine ⟨?_, Kr⟩
        rw [hv2.out]
        rfl
      · have hv2 : Aside (v = 0) := by show v = 0; rw [hv.out, if_neg (by omega), if_neg (by omega)]
        clear hv hlt
        subst hl
        go_wp2
        go_ret
        refine ⟨?_, Kr⟩
        rw [hv2.out]
        rfl

set_option maxRecDepth 100000 in
set_option maxHeartbeats 2000000 in
theorem compare_walk (a b : ByteArray) (w : World) : Calls Try.prog 5 #[.string a, .string b] w fun e w' => e = .returned (.bool true) ∧ K w w' := by
  have k0 := K.refl w
  have ca := awake_any w
  obtain h | ⟨h1, h⟩ | ⟨h1, h2⟩ : 2000 < a.size ∨ (a.size ≤ 2000 ∧ 2000 < b.size) ∨ (a.size ≤ 2000 ∧ b.size ≤ 2000) := by omega
  case inr.inr =>
    have c1 := compare_any a b
    have c2 := rCompare_any a b h1 h2
    generalize compareBytes (bs a) (bs b) = v at *
    go_enter Try.func5, Try.ntmps5
    go_wp2_with (first
      | (go_at_call 16; refine (c1 _).mono ?_; rintro e w6 ⟨rfl, rfl⟩)
      | (go_at_call 17; refine (c2 _).mono ?_; rintro e w6 ⟨rfl, k6⟩)
      | (go_at_call 9; refine (ca _ (by assumption)).mono ?_; rintro e w7 ⟨rfl, k7⟩))
    go_ret
    exact ⟨rfl, k7⟩
  all_goals
    go_enter Try.func5, Try.ntmps5
    go_wp2_with (go_at_call 9; refine (ca _ (by assumption)).mono ?_; rintro e w6 ⟨rfl, k6⟩)
    go_ret
    exact ⟨rfl, k6⟩

end Tx
end Go.Proofs.Ytffmfhpbhfnieaa
