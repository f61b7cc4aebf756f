/-
  The walk of the statement on a blob's block: a store of just so many pages, and one of a page less.
-/
import Derived.Test.YtimedllggcfldaaGreatDoorWLRoom
namespace Go.Proofs.YtimedllggcfldaaGreatDoor
open Go.RowKit Go.Maps
attribute [local go_sem ↓] Go.wp_at_zero Go.wp_at_succ
namespace Bb
open Hp (Kept K No Pg granted allocL)
open Hd (U64)
open Go.Proofs.YtimedllggcfldaaGreatDoor.So (Ad Rn Sw Stp sp)

/-- The first block of a heap. -/
theorem alloc_first {q x : Int} (hx : 3 ≤ x ∧ x ≤ 128) : (((x + 65) / 64) * 64 ≤ q → ∃ a L', allocL q [] x = (a, 0, L') ∧ granted L' = (x + 65) / 64) ∧ (q < ((x + 65) / 64) * 64 → ∃ a, allocL q [] x = (a, 3, [])) := by
  have hp : Cl.pagI x = (x + 65) / 64 := by unfold Cl.pagI; rw [if_pos (by omega)]
  unfold allocL
  rw [if_pos (by omega)]
  cases hs : Cl.smaI x with
  | true =>
    have hc := Hp.cls_in (x := x) (by omega) hs
    have h28 : x ≤ 28 := by
      have := Cl.siz_cases (Cl.clsI x)
      omega
    have e1 : (x + 65) / 64 = 1 := by omega
    have hf : Hp.freeB [] (Cl.clsI x) = none := rfl
    have hg : granted ([] : List Pg) = 0 := rfl
    rw [e1, hf, hg]
    simp only [if_true]
    constructor
    · intro h
      rw [if_pos (by omega)]
      exact ⟨_, _, rfl, by rw [Hp.granted_add, hg]; rfl⟩
    · intro h
      rw [if_neg (by omega)]
      exact ⟨_, rfl⟩
  | false =>
    have hg : granted ([] : List Pg) = 0 := rfl
    rw [hp, hg]
    simp only [Bool.false_eq_true, if_false]
    constructor
    · intro h
      rw [if_pos (by omega)]
      exact ⟨_, _, rfl, by rw [Hp.granted_add, hg]; show 0 + Cl.pagI x = _; omega⟩
    · intro h
      rw [if_neg (by omega)]
      exact ⟨_, rfl⟩

/-- A Put that the quota refuses. -/
theorem put_tight {w : World} {B : Nat} {A : Ad} {pg : List (Int × Nat)} {W : Int → Int} {L : List Pg} {v : Value} {T : List Hd.Sl} (h : Sw w B A pg W L v T) (hB : B ≤ w.heap.size) (t : ByteArray) (ht : t.size ≤ 1000) {a : Int} (ea : allocL A.q L (2 + ((Tx.wds (Tx.bs t)).length : Int)) = (a, 3, L)) :
    Calls Tryz.prog 14 #[sp A.st, .string t] w fun e w' => e = .returned (.tuple #[.int .u64 0, .int .i64 3]) ∧ Aside (∃ pg' W' v', Sw w' B A pg' W' L v' T ∧ Stp A pg pg' v v' w w') := by
  refine (put_short h hB t ht).mono ?_
  rintro e w2 (⟨a2, L2, x, T2, ea2, _⟩ | ⟨er, her, hc, rfl, pg', W', v', sw, _, st⟩)
  · rw [ea] at ea2
    simp at ea2
  · have : er = 3 := by
      rcases hc with ⟨a2, e2, _⟩ | ⟨_, _, a2, L2, e2⟩
      · rw [ea] at e2
        simp only [Prod.mk.injEq] at e2
        exact e2.2.1.symm
      · rw [ea] at e2
        simp at e2
    subst this
    exact ⟨rfl, pg', W', v', sw, st⟩

set_option maxRecDepth 100000 in
set_option maxHeartbeats 4000000 in
theorem room_walk (t : ByteArray) (_ : t.size ≤ maxLen) (w : World) (hT : Bt.Tab w) : Calls Tryz.prog 6 #[.string t] w fun e w' => e = .returned (.bool true) ∧ K w w' := by
  have ca : Aside (∀ w1, K w w1 → Calls Tryz.prog 9 #[] w1 fun e w' => e = .returned (.bool true) ∧ K w w') := fun w1 k => (awake_any w1 (hT.keep ⟨k.below⟩)).mono fun e w2 h => ⟨h.1, k.trans h.2⟩
  by_cases ht : 1000 < t.size
  · have hti : (1000 : Int) < (t.size : Int) := by omega
    have k0 := K.refl w
    go_enter Tryz.func6, Tryz.ntmps6
    go_wp2_with (go_at_call 9; refine (ca.out _ k0).mono ?_; rintro e w7 ⟨rfl, k7⟩)
    go_ret
    exact ⟨rfl, k7⟩
  · have hti : (t.size : Int) ≤ 1000 := by omega
    have hdc : decide ((1000 : Int) < (t.size : Int)) = false := decide_eq_false (by omega)
    have hwl : 1 ≤ (Tx.wds (Tx.bs t)).length ∧ (Tx.wds (Tx.bs t)).length ≤ 126 := by
      have := Tx.wds_len (Tx.bs t)
      have := Tx.bs_len t
      omega
    have cst : cstI (t.size : Int) = ((Tx.wds (Tx.bs t)).length : Int) + 2 := by
      unfold cstI
      rw [Tx.wds_mn (by rw [Tx.bs_len]; omega), Tx.bs_len, if_neg (by rw [Tx.mn_in (by omega) (by omega)]; omega)]
      omega
    have cc := fun w => cost_any (t.size : Int) w
    rw [cst] at cc
    obtain ⟨P, hP⟩ : ∃ P, P = (2 + ((Tx.wds (Tx.bs t)).length : Int) + 65) / 64 := ⟨_, rfl⟩
    have af := fun q => alloc_first (q := q) (x := 2 + ((Tx.wds (Tx.bs t)).length : Int)) (by omega)
    rw [← hP] at af
    have hPr : 1 ≤ P ∧ P ≤ 3 := by omega
    have AF : Aside _ := af
    have hPe : (((Tx.wds (Tx.bs t)).length : Int) + 2 + 2 + 63) / 64 = P := by omega
    have cn1 : Aside (∀ w1, K w w1 → Calls Tryz.prog 10 #[.int .i64 (64 * P), .int .i64 9, .int .u32 9] w1 fun e w' => ∃ A v, e = .returned (.tuple #[sp A.st, .int .i64 0]) ∧ Aside (Rn w1 w' A [] (fun _ => 0) [] v [] ∧ A.q = 64 * P ∧ A.m = 9 ∧ w1.heap.size ≤ A.st ∧ w1.heap.size ≤ A.bh) ∧ K w1 w') := fun w1 k => by
      refine (Rn.new (64 * P) 9 9 w1 (hT.keep ⟨k.below⟩) (by omega) (by omega) (by decide) (by decide) (by decide) (by decide)).mono ?_
      rintro e w2 ⟨A, v, h1, h2, h3⟩
      exact ⟨A, v, h1, ⟨h2.out.1, h2.out.2.1, h2.out.2.2.1, h2.out.2.2.2.2.1, h2.out.2.2.2.2.2⟩, h3⟩
    have cn2 : Aside (∀ w1, K w w1 → Calls Tryz.prog 10 #[.int .i64 (64 * P - 64), .int .i64 9, .int .u32 9] w1 fun e w' => ∃ A v, e = .returned (.tuple #[sp A.st, .int .i64 0]) ∧ Aside (Rn w1 w' A [] (fun _ => 0) [] v [] ∧ A.q = 64 * P - 64 ∧ A.m = 9 ∧ w1.heap.size ≤ A.st ∧ w1.heap.size ≤ A.bh) ∧ K w1 w') := fun w1 k => by
      refine (Rn.new (64 * P - 64) 9 9 w1 (hT.keep ⟨k.below⟩) (by omega) (by omega) (by decide) (by decide) (by decide) (by decide)).mono ?_
      rintro e w2 ⟨A, v, h1, h2, h3⟩
      exact ⟨A, v, h1, ⟨h2.out.1, h2.out.2.1, h2.out.2.2.1, h2.out.2.2.2.2.1, h2.out.2.2.2.2.2⟩, h3⟩
    clear cst af hP
    have k0 := K.refl w
    obtain ⟨P0, P1⟩ := hPr
    have hw1 : wrap64 (64 * P) = 64 * P := by unfold wrap64; omega
    have hw2 : wrap64 (64 * P - 64) = 64 * P - 64 := by unfold wrap64; omega
    go_enter Tryz.func6, Tryz.ntmps6
    go_wp2_with (go_at_call 16; refine (cc _).mono ?_; rintro e w6 ⟨rfl, rfl⟩)
    refine (cn1.out _ k0).mono ?_
    rintro e w1 ⟨A1, v1, rfl, HA1, k1⟩
    clear cc
    go_wp2_with fail
    refine (cn2.out _ k1).mono ?_
    rintro e w2 ⟨A2, v2, rfl, HA2, k2⟩
    obtain ⟨rn1, q1, m1, _, _⟩ := HA1.out
    obtain ⟨rn2, q2, m2, lst, lbh⟩ := HA2.out
    have e2 : ∃ a L', allocL A1.q [] (2 + ((Tx.wds (Tx.bs t)).length : Int)) = (a, 0, L') ∧ granted L' = P := (AF.out A1.q).1 (by omega)
    have e3 : ∃ a, allocL A2.q [] (2 + ((Tx.wds (Tx.bs t)).length : Int)) = (a, 3, []) := (AF.out A2.q).2 (by omega)
    obtain ⟨a1, L1, ea1, hg1⟩ := e2
    obtain ⟨a2, ea2⟩ := e3
    have cp := put_fits (rn1.keep k2) t (by omega) ea1 (by rw [m1]; decide)
    have z0 : 0 < w.heap.size := Hp.lt0 hT
    have f1 : ∀ j, So.foot A1 [] v1 j → w.heap.size ≤ j ∧ j < w1.heap.size := fun j hj => ⟨rn1.s.b.flo hj, rn1.s.b.flt hj⟩
    have f2 : ∀ j, So.foot A2 [] v2 j → w1.heap.size ≤ j ∧ j < w2.heap.size := fun j hj => ⟨rn2.s.b.flo hj, rn2.s.b.flt hj⟩
    have l1 : A1.bh < w1.heap.size ∧ A1.st < w1.heap.size := ⟨Hp.lt_of_cell rn1.s.b.hp.hw.c0, rn1.s.b.lt⟩
    have l2 : A2.bh < w2.heap.size ∧ A2.st < w2.heap.size := ⟨Hp.lt_of_cell rn2.s.b.hp.hw.c0, rn2.s.b.lt⟩
    have s0 := k1.size
    have s2 := k2.size
    have X1 : Aside (∀ (pg : List (Int × Nat)) (W : Int → Int) (v : Value) (T : List Hd.Sl) (x : Int) (w3 : World), Fits w w2 w3 A1 [] (fun _ => 0) v1 [] L1 x (Tx.wds (Tx.bs t)) pg W v T → Sw w3 w1.heap.size A2 [] (fun _ => 0) [] v2 []) := fun pg W v T x w3 F =>
      ⟨rn2.s.b.kept F.st.k (fun j hj => ⟨fun h => by have := f1 j hj; have := f2 j h; omega, by have := f1 j hj; omega, by have := f1 j hj; omega, by have := f1 j hj; omega⟩), rn2.s.r⟩
    have X2 : Aside (∀ (pg : List (Int × Nat)) (W : Int → Int) (v : Value) (T : List Hd.Sl) (x : Int) (w3 : World), Fits w w2 w3 A1 [] (fun _ => 0) v1 [] L1 x (Tx.wds (Tx.bs t)) pg W v T → ∀ (pg2 : List (Int × Nat)) (v2' : Value) (w4 : World), Stp A2 [] pg2 v2 v2' w3 w4 → Rn w w4 A1 pg W L1 v T) := fun pg W v T x w3 F pg2 v2' w4 st =>
      ⟨⟨F.rn.s.b.kept st.k (fun j hj => ⟨fun h => by
          have h2 := f2 j hj
          rcases F.st.inn j h with h3 | h3
          · have := f1 j h3; omega
          · omega, by have := f2 j hj; omega, by have := f2 j hj; omega, by have := f2 j hj; omega⟩), F.rn.s.r⟩, kthen F.rn.k st.k (fun j hj => by have := f2 j hj; omega)⟩
    clear HA1 HA2 rn1 rn2 f1 f2 l1 l2 lst lbh q1 m1 q2 m2 cn1 cn2 AF ea1
    go_wp2_with fail
    refine cp.mono ?_
    rintro e w3 ⟨x, rfl, HX⟩
    obtain ⟨hx, _, pg3, W3, v3, T3, F3⟩ := HX.out
    have sw2 := X1.out _ _ _ _ _ _ F3
    have cp2 := put_tight sw2 (by have := F3.st.k.size; omega) t (by omega) ea2
    have X3 : Aside _ := X2.out _ _ _ _ _ _ F3
    have HO : Aside _ := F3.ho
    have HK : Aside (K w w3) := F3.rn.k
    clear HX F3 sw2 X1 X2 cp ea2
    go_wp2_with fail
    refine cp2.mono ?_
    rintro e w4 ⟨rfl, HY⟩
    obtain ⟨pg4, W4, v4, sw4, st4⟩ := HY.out
    have rn4 := X3.out _ _ _ st4
    have cg := get_held rn4 hx (by omega) HO.out
    have cw1 : Aside (∀ w5, K w4 w5 → Calls Tryz.prog 20 #[sp A1.st] w5 fun e w' => e = .returned (.int .i64 (64 * P)) ∧ K w4 w') := fun w5 k => by
      have := So.words_any (rn4.keep k).s.b
      rw [hg1] at this
      exact this.mono fun e w6 h => ⟨h.1, k.trans h.2⟩
    have cw2 : Aside (∀ w5, K w4 w5 → Calls Tryz.prog 20 #[sp A2.st] w5 fun e w' => e = .returned (.int .i64 0) ∧ K w4 w') := fun w5 k => by
      have := So.words_any (sw4.keep k).b
      rw [show (64 * granted ([] : List Pg)) = 0 by decide] at this
      exact this.mono fun e w6 h => ⟨h.1, k.trans h.2⟩
    have k04 := rn4.k
    have k44 := K.refl w4
    clear HY sw4 st4 rn4 X3 HO HK cp2 hg1
    go_wp2_with fail
    refine cg.mono ?_
    rintro e w5 ⟨rfl, k5⟩
    clear cg
    go_wp2_with fail
    refine (cw1.out _ k5).mono ?_
    rintro e w6 ⟨rfl, k6⟩
    clear cw1 k5
    go_wp2_with fail
    refine (cw2.out _ k6).mono ?_
    rintro e w7 ⟨rfl, k7⟩
    clear cw2 k6
    have cx := ca.out _ (k04.trans k7)
    clear ca k7
    go_wp2_with fail
    refine cx.mono ?_
    rintro e w8 ⟨rfl, k8⟩
    go_wp2_with fail
    go_ret
    exact ⟨rfl, k8⟩

end Bb
end Go.Proofs.YtimedllggcfldaaGreatDoor
