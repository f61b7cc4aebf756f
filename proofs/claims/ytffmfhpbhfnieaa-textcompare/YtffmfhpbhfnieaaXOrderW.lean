/-
  The walk of TextOrder.
-/
import Derived.Test.YtffmfhpbhfnieaaXDoor
import Derived.Test.YtffmfhpbhfnieaaXCmp
import Derived.Laws.Concat
namespace Go.Proofs.Ytffmfhpbhfnieaa
open Go.RowKit
namespace Tx
open Hp (Kept K No)
open Go.Lib (compareBytes)
variable {w w' : World}

theorem bs_app (a c : ByteArray) : bs (a ++ c) = bs a ++ bs c := by
  obtain ⟨⟨x⟩⟩ := a
  obtain ⟨⟨y⟩⟩ := c
  rw [show (ByteArray.mk ⟨x⟩ ++ ByteArray.mk ⟨y⟩) = ByteArray.mk (x ++ y).toArray from ByteArray.mk_append_mk x y]
theorem bs_inj {a b : ByteArray} (h : bs a = bs b) : a = b := by
  obtain ⟨⟨x⟩⟩ := a
  obtain ⟨⟨y⟩⟩ := b
  have : x = y := h
  rw [this]
theorem cmp_bs {a b : ByteArray} : (compareBytes (bs a) (bs b) == 0) = (a.toList == b.toList) := by
  rw [ByteArray.toList_eq, ByteArray.toList_eq]
  by_cases h : bs a = bs b
  · rw [h, cmp_self]
    show true = _
    have : (a.data.toList == b.data.toList) = true := by simpa using h
    rw [this]
  · have h1 : (compareBytes (bs a) (bs b) == 0) = false := by rw [beq_eq_false_iff_ne]; exact fun e => h (cmp_zero e)
    have h2 : (a.data.toList == b.data.toList) = false := by rw [beq_eq_false_iff_ne]; exact h
    rw [h1, h2]

theorem compare_eq (a b : ByteArray) (v : Int) (h : compareBytes (bs a) (bs b) = v) (w : World) : Calls Try.prog 16 #[.string a, .string b] w fun e w' => e = .returned (.int .i64 v) ∧ w = w' := by
  rw [← h]
  exact compare_any a b w

set_option maxRecDepth 100000 in
set_option maxHeartbeats 2000000 in
theorem order_out (a b c : ByteArray) (w : World) (h : 300 < a.size ∨ a.size ≤ 300 ∧ (300 < b.size ∨ b.size ≤ 300 ∧ 300 < c.size)) : Calls Try.prog 7 #[.string a, .string b, .string c] w fun e w' => e = .returned (.bool true) ∧ K w w' := by
  have k0 := K.refl w
  have ca := awake_any w
  rcases h with h | ⟨h1, h | ⟨h2, h⟩⟩
  all_goals
    go_enter Try.func7, Try.ntmps7
    go_wp2_with (go_at_call 9; refine (ca _ (by assumption)).mono ?_; rintro e w6 ⟨rfl, k6⟩)
    go_ret
    exact ⟨rfl, k6⟩

set_option maxRecDepth 100000 in
set_option maxHeartbeats 2000000 in
theorem order_in (a b c : ByteArray) (w : World) (ha : a.size ≤ 300) (hb : b.size ≤ 300) (hc : c.size ≤ 300) : Calls Try.prog 7 #[.string a, .string b, .string c] w fun e w' => e = .returned (.bool true) ∧ K w w' := by
  have k0 := K.refl w
  have hadd := fun w' => run_string_add_sum (P := Try.prog) w' a c (by omega)
  have t0 := cmp_trans (bs a) (bs b) (bs c)
  have p1 := cmp_app (bs a) (bs c)
  rw [← bs_app] at p1
  have s1 := cmp_swap (bs a) (bs b)
  have e1 := cmp_bs (a := a) (b := b)
  obtain ⟨r0, r1⟩ := cmp_rng (bs a) (bs b)
  have ca := awake_any w
  obtain ⟨x, hx⟩ : ∃ x, compareBytes (bs a) (bs b) = x := ⟨_, rfl⟩
  obtain ⟨y, hy⟩ : ∃ y, compareBytes (bs b) (bs c) = y := ⟨_, rfl⟩
  obtain ⟨z, hz⟩ : ∃ z, compareBytes (bs a) (bs c) = z := ⟨_, rfl⟩
  obtain ⟨u, hu⟩ : ∃ u, compareBytes (bs b) (bs a) = u := ⟨_, rfl⟩
  obtain ⟨v, hv⟩ : ∃ v, compareBytes (bs a) (bs (a ++ c)) = v := ⟨_, rfl⟩
  rw [hx, hy, hz] at t0
  rw [hv] at p1
  rw [hu, hx] at s1
  rw [hx] at e1 r0 r1
  obtain rfl | rfl | rfl : x = -1 ∨ x = 0 ∨ x = 1 := by omega
  all_goals
    subst s1
    have e2 := e1.symm
    clear e1 r0 r1
    simp only [Int.reduceNeg, Int.reduceBEq, Int.neg_neg, Int.neg_zero] at e2 hu
    obtain ⟨hy0, hz0⟩ | ⟨hy0, hz0⟩ | ⟨hy0, hz0⟩ | ⟨hy0, hz0⟩ : (0 < y ∧ z ≤ 0) ∨ (0 < y ∧ 0 < z) ∨ (y ≤ 0 ∧ z < 0) ∨ (y ≤ 0 ∧ 0 ≤ z) := by omega
    all_goals
      have tt : Aside _ := t0
      clear t0
      first
        | (exfalso; have := tt.out; omega)
        | (have hb : (decide (0 < y) || decide (z ≤ 0)) = true := by
             rw [Bool.or_eq_true, decide_eq_true_iff, decide_eq_true_iff]
             have t := tt.out
             omega
           clear tt
           go_enter Try.func7, Try.ntmps7
           go_wp2_with (first
             | (go_at_call 16; refine (compare_eq _ _ _ (by assumption) _).mono ?_; rintro e w6 ⟨rfl, rfl⟩)
             | (go_at_call 9; refine (ca _ (by assumption)).mono ?_; rintro e w6 ⟨rfl, k6⟩))
           go_ret
           exact ⟨rfl, k6⟩)
        | (clear tt
           go_enter Try.func7, Try.ntmps7
           go_wp2_with (first
             | (go_at_call 16; refine (compare_eq _ _ _ (by assumption) _).mono ?_; rintro e w6 ⟨rfl, rfl⟩)
             | (go_at_call 9; refine (ca _ (by assumption)).mono ?_; rintro e w6 ⟨rfl, k6⟩))
           go_ret
           exact ⟨rfl, k6⟩)

theorem order_walk (a b c : ByteArray) (w : World) : Calls Try.prog 7 #[.string a, .string b, .string c] w fun e w' => e = .returned (.bool true) ∧ K w w' := by
  by_cases hs : a.size ≤ 300 ∧ b.size ≤ 300 ∧ c.size ≤ 300
  · exact order_in a b c w hs.1 hs.2.1 hs.2.2
  · exact order_out a b c w (by omega)

end Tx
end Go.Proofs.Ytffmfhpbhfnieaa
