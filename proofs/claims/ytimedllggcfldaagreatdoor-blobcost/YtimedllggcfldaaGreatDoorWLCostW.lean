/-
  The walk of the statement on Cost, and on no store.
-/
import Derived.Test.YtimedllggcfldaaGreatDoorL4
namespace Go.Proofs.YtimedllggcfldaaGreatDoor
open Go.RowKit Go.Maps
attribute [local go_sem ↓] Go.wp_at_zero Go.wp_at_succ
namespace Bb
open Hp (Kept K No)

theorem cst_of (n : Int) : cstI n = if 0 ≤ n ∧ n ≤ 1000 then 3 + (n + 7) / 8 else 0 := by
  unfold cstI Tx.mn
  split
  · next h =>
    rw [if_neg (by omega)]
    omega
  · rfl

set_option maxRecDepth 100000 in
set_option maxHeartbeats 2000000 in
theorem cost_walk (n : Int) (_ : Hp.In64 n) (t : ByteArray) (_ : t.size ≤ maxLen) (x : Int) (_ : 0 ≤ x ∧ x ≤ 18446744073709551615) (w : World) (hT : Bt.Tab w) : Calls Tryz.prog 4 #[.int .i64 n, .string t, .int .u64 x] w fun e w' => e = .returned (.bool true) ∧ K w w' := by
  have ca : Aside (∀ w1, K w w1 → Calls Tryz.prog 9 #[] w1 fun e w' => e = .returned (.bool true) ∧ K w w') := fun w1 k => (awake_any w1 (hT.keep ⟨k.below⟩)).mono fun e w2 h => ⟨h.1, k.trans h.2⟩
  have k0 := K.refl w
  by_cases ht : 2000 < t.size
  · go_enter Tryz.func4, Tryz.ntmps4
    go_wp2_with (go_at_call 9; refine (ca.out _ k0).mono ?_; rintro e w1 ⟨rfl, k1⟩)
    go_ret
    exact ⟨rfl, k1⟩
  have cp := fun w => put_un (So.un_nil w) t
  have cg := fun w => get_un (So.un_nil w) x
  have cd := fun w => drop_un (So.un_nil w) x
  have cc := fun w => cost_any n w
  rw [cst_of] at cc
  have fin : ∀ want : Int, (∀ w, Calls Tryz.prog 16 #[.int .i64 n] w fun e w' => e = .returned (.int .i64 want) ∧ w = w') → (want = if 0 ≤ n ∧ n ≤ 1000 then 3 + (n + 7) / 8 else 0) → Calls Tryz.prog 4 #[.int .i64 n, .string t, .int .u64 x] w fun e w' => e = .returned (.bool true) ∧ K w w' := fun want cc hw => by
    by_cases hn0 : 0 ≤ n
    · by_cases hn1 : n ≤ 1000
      · rw [if_pos ⟨hn0, hn1⟩] at hw
        subst hw
        go_enter Tryz.func4, Tryz.ntmps4
        go_wp2_with (first | (go_at_call 14; refine (cp _).mono ?_; rintro e w1 ⟨rfl, k1⟩) | (go_at_call 15; refine (cg _).mono ?_; rintro e w2 ⟨rfl, k2⟩) | (go_at_call 16; refine (cc _).mono ?_; rintro e w3 ⟨rfl, rfl⟩) | (go_at_call 17; refine (cd _).mono ?_; rintro e w4 ⟨rfl, k4⟩) | (go_at_call 9; refine (ca.out _ ((k1.trans k2).trans k4)).mono ?_; rintro e w5 ⟨rfl, k5⟩))
        go_ret
        exact ⟨rfl, k5⟩
      · rw [if_neg (by omega)] at hw
        subst hw
        go_enter Tryz.func4, Tryz.ntmps4
        go_wp2_with (first | (go_at_call 14; refine (cp _).mono ?_; rintro e w1 ⟨rfl, k1⟩) | (go_at_call 15; refine (cg _).mono ?_; rintro e w2 ⟨rfl, k2⟩) | (go_at_call 16; refine (cc _).mono ?_; rintro e w3 ⟨rfl, rfl⟩) | (go_at_call 17; refine (cd _).mono ?_; rintro e w4 ⟨rfl, k4⟩) | (go_at_call 9; refine (ca.out _ ((k1.trans k2).trans k4)).mono ?_; rintro e w5 ⟨rfl, k5⟩))
        go_ret
        exact ⟨rfl, k5⟩
    · rw [if_neg (by omega)] at hw
      subst hw
      go_enter Tryz.func4, Tryz.ntmps4
      go_wp2_with (first | (go_at_call 14; refine (cp _).mono ?_; rintro e w1 ⟨rfl, k1⟩) | (go_at_call 15; refine (cg _).mono ?_; rintro e w2 ⟨rfl, k2⟩) | (go_at_call 16; refine (cc _).mono ?_; rintro e w3 ⟨rfl, rfl⟩) | (go_at_call 17; refine (cd _).mono ?_; rintro e w4 ⟨rfl, k4⟩) | (go_at_call 9; refine (ca.out _ ((k1.trans k2).trans k4)).mono ?_; rintro e w5 ⟨rfl, k5⟩))
      go_ret
      exact ⟨rfl, k5⟩
  exact fin _ cc rfl

end Bb
end Go.Proofs.YtimedllggcfldaaGreatDoor
