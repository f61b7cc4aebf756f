/-
  The walk of the statement on two blobs of one text.
-/
import Derived.Test.YtimedllggcfldaaGreatDoorWLRoom
namespace Go.Proofs.YtimedllggcfldaaGreatDoor
open Go.RowKit Go.Maps
attribute [local go_sem ↓] Go.wp_at_zero Go.wp_at_succ
namespace Bb
open Hp (Kept K No granted)
open Hd (U64)
open Go.Proofs.YtimedllggcfldaaGreatDoor.So (Ad Rn sp)

set_option maxRecDepth 100000 in
set_option maxHeartbeats 4000000 in
theorem same_walk (t : ByteArray) (_ : t.size ≤ maxLen) (w : World) (hT : Bt.Tab w) : Calls Tryz.prog 8 #[.string t] w fun e w' => e = .returned (.bool true) ∧ K w w' := by
  have ca : Aside (∀ w1, K w w1 → Calls Tryz.prog 9 #[] w1 fun e w' => e = .returned (.bool true) ∧ K w w') := fun w1 k => (awake_any w1 (hT.keep ⟨k.below⟩)).mono fun e w2 h => ⟨h.1, k.trans h.2⟩
  have cn := Rn.new 262144 9 9 w hT (by decide) (by decide) (by decide) (by decide) (by decide) (by decide)
  by_cases ht : 1000 < t.size
  · have hti : (1000 : Int) < (t.size : Int) := by omega
    go_enter Tryz.func8, Tryz.ntmps8
    go_wp2_with fail
    refine cn.mono ?_
    rintro e w1 ⟨A, v, rfl, HA, k1⟩
    obtain ⟨rn, hq, hm, _, _, _⟩ := HA.out
    have cp : ∀ w2, K w1 w2 → Calls Tryz.prog 14 #[sp A.st, .string t] w2 fun e w' => e = .returned (.tuple #[.int .u64 0, .int .i64 4]) ∧ K w w' := fun w2 k => (put_long (rn.keep k).s t ht).mono fun e w3 h => ⟨h.1, (k1.trans k).trans h.2⟩
    have CP : Aside _ := cp
    have cp0 : Aside (∀ w2, K w1 w2 → Calls Tryz.prog 14 #[sp A.st, .string t] w2 fun e w' => e = .returned (.tuple #[.int .u64 0, .int .i64 4]) ∧ K w1 w') := fun w2 k => (put_long (rn.keep k).s t ht).mono fun e w3 h => ⟨h.1, k.trans h.2⟩
    clear HA rn cp CP cn
    have k0 := K.refl w1
    go_wp2_with (first | (go_at_call 14; first | (refine (cp0.out _ k3).mono ?_; rintro e w5 ⟨rfl, k5⟩) | (refine (cp0.out _ k0).mono ?_; rintro e w3 ⟨rfl, k3⟩)) | (go_at_call 9; refine (ca.out _ (k1.trans k5)).mono ?_; rintro e w7 ⟨rfl, k7⟩))
    go_ret
    exact ⟨rfl, k7⟩
  · have hti : (t.size : Int) ≤ 1000 := by omega
    have hdc : decide ((1000 : Int) < (t.size : Int)) = false := decide_eq_false (by omega)
    have cst : cstI (t.size : Int) = ((Tx.wds (Tx.bs t)).length : Int) + 2 := by
      unfold cstI
      rw [Tx.wds_mn (by rw [Tx.bs_len]; omega), Tx.bs_len, if_neg (by rw [Tx.mn_in (by omega) (by omega)]; omega)]
      omega
    have hwl : (Tx.wds (Tx.bs t)).length ≤ 126 := by
      have := Tx.wds_len (Tx.bs t)
      have := Tx.bs_len t
      omega
    have cc := fun w => cost_any (t.size : Int) w
    rw [cst] at cc
    clear cst
    go_enter Tryz.func8, Tryz.ntmps8
    go_wp2_with fail
    refine cn.mono ?_
    rintro e w1 ⟨A, v, rfl, HA, k1⟩
    obtain ⟨rn, hq, hm, _, _, _⟩ := HA.out
    have g0 : granted ([] : List Hp.Pg) = 0 := rfl
    have cp := put_room rn t (by omega) (by rw [hq, g0]; decide) (by rw [hm]; decide)
    have HQ : Aside _ := And.intro hq hm
    clear HA rn cn hq hm
    go_wp2_with fail
    refine cp.mono ?_
    rintro e w2 ⟨x, rfl, HX⟩
    obtain ⟨hx, x0, L2, pg2, W2, v2, T2, hg2, F2⟩ := HX.out
    have cp2 := put_room F2.rn t (by omega) (by rw [HQ.out.1]; rw [g0] at hg2; omega) (by rw [HQ.out.2]; have := F2.len; simp at this; omega)
    clear cp HX
    have G2 : Aside _ := And.intro hg2 F2
    clear hg2 F2
    go_wp2_with fail
    refine cp2.mono ?_
    rintro e w3 ⟨y, rfl, HY⟩
    obtain ⟨hy, y0, L3, pg3, W3, v3, T3, _, F3⟩ := HY.out
    obtain ⟨hne, hox⟩ := F3.old _ _ G2.out.2.ho
    have hoy := F3.ho
    have rn3 := F3.rn
    have k03 := rn3.k
    clear cp2 HY F3 G2 HQ
    generalize Tx.wds (Tx.bs t) = ws at *
    have cl1 : Aside (∀ w4, K w3 w4 → Calls Tryz.prog 21 #[sp A.st, .int .u64 x] w4 fun e w' => e = .returned (.tuple #[.int .i64 (ws.length : Int), .int .i64 0]) ∧ K w3 w') := fun w4 k => (len_held (rn3.keep k) hx hox).mono fun e w5 h => ⟨h.1, k.trans h.2⟩
    have cl2 : Aside (∀ w4, K w3 w4 → Calls Tryz.prog 21 #[sp A.st, .int .u64 y] w4 fun e w' => e = .returned (.tuple #[.int .i64 (ws.length : Int), .int .i64 0]) ∧ K w3 w') := fun w4 k => (len_held (rn3.keep k) hy hoy).mono fun e w5 h => ⟨h.1, k.trans h.2⟩
    have cg1 : Aside (∀ w4, K w3 w4 → ∀ (k : Nat) z, ws[k]? = some z → Calls Tryz.prog 22 #[sp A.st, .int .u64 x, .int .i64 (k : Int)] w4 fun e w' => e = .returned (.tuple #[.int .u64 z, .int .i64 0]) ∧ K w3 w') := fun w4 k j z hz => (word_held (rn3.keep k) hx hox hz).mono fun e w5 h => ⟨h.1, k.trans h.2⟩
    have cg2 : Aside (∀ w4, K w3 w4 → ∀ (k : Nat) z, ws[k]? = some z → Calls Tryz.prog 22 #[sp A.st, .int .u64 y, .int .i64 (k : Int)] w4 fun e w' => e = .returned (.tuple #[.int .u64 z, .int .i64 0]) ∧ K w3 w') := fun w4 k j z hz => (word_held (rn3.keep k) hy hoy hz).mono fun e w5 h => ⟨h.1, k.trans h.2⟩
    have AT : Aside (∀ k, k < ws.length → ∃ z, ws[k]? = some z) := fun k hk => ⟨_, List.getElem?_eq_getElem hk⟩
    clear hox hoy rn3
    generalize ws.length = n at *
    have k3 := K.refl w3
    have hxy : (x == y) = false := by simpa using hne
    go_wp2_with (first | (go_at_call 21; first | (refine (cl2.out _ k4).mono ?_; rintro e w5 ⟨rfl, k5⟩) | (refine (cl1.out _ k3).mono ?_; rintro e w4 ⟨rfl, k4⟩)) | (go_at_call 16; refine (cc _).mono ?_; rintro e w6 ⟨rfl, rfl⟩))
    have K5 : Aside (K w3 w5) := k5
    clear cl1 cl2 k4 k5
    go_loopg [13] n (fun gh t wr => ∃ k : Nat, k + gh = n ∧ t = .int .i64 k ∧ Aside (K w3 wr))
    case atStart => exact ⟨0, by omega, rfl, K5⟩
    case round =>
      obtain ⟨k, hk, rfl, HK⟩ := hrel
      clear K5
      by_cases hlt : k < n
      · obtain ⟨z, hz⟩ := AT.out k hlt
        have c1 := cg1.out wr HK.out k z hz
        have c2 : Aside (∀ w4, K w3 w4 → Calls Tryz.prog 22 #[sp A.st, .int .u64 y, .int .i64 (k : Int)] w4 fun e w' => e = .returned (.tuple #[.int .u64 z, .int .i64 0]) ∧ K w3 w') := fun w4 k4 => cg2.out w4 k4 k z hz
        clear hz AT cg1 cg2 HK
        go_wp2_with (go_at_call 22; first | (refine (c2.out _ k6).mono ?_; rintro e w7 ⟨rfl, k7⟩) | (refine c1.mono ?_; rintro e w6 ⟨rfl, k6⟩))
        go_roundg (n - (k + 1))
        case measure => omega
        case rel => exact ⟨k + 1, by omega, by go_num, k7⟩
      · obtain rfl : k = n := by omega
        have kk := k03.trans HK.out
        go_wp2_with (go_at_call 9; refine (ca.out _ kk).mono ?_; rintro e w7 ⟨rfl, k7⟩)
        go_ret
        exact ⟨rfl, k7⟩

end Bb
end Go.Proofs.YtimedllggcfldaaGreatDoor
