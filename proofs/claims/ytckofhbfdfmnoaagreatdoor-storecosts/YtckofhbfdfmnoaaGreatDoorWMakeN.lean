/-
  The walks of package store's Make where it is refused for want of words, or for its argument; and Make in one.
-/
import Derived.Test.YtckofhbfdfmnoaaGreatDoorWMakeF
namespace Go.Proofs.YtckofhbfdfmnoaaGreatDoor
open Go.RowKit Go.Maps
attribute [local go_sem ↓] Go.wp_at_zero Go.wp_at_succ
namespace So
open Hp (Kept K No Pg BlR Bl Wl Same SameBut allocL dropL findB)
variable {w w' : World} {B : Nat} {A : Ad} {pg pg' : List (Int × Nat)} {W : Int → Int} {L L' : List Pg} {v v' : Value} {T : List Hd.Sl}

theorem atRisk_any (h : Sb w B A pg W L v T) : Calls Tryz.prog 44 #[sp A.st] w fun e w' => ∃ ad nn cap, e = .returned (.slice ad nn cap) ∧ K w w' := by
  cases hf : fullB A.m A.z T with
  | false =>
    refine (atRisk_no h hf).mono ?_
    rintro e w1 ⟨rfl, k1⟩
    exact ⟨none, 0, 0, rfl, k1⟩
  | true =>
    refine (atRisk_yes h hf).mono ?_
    rintro e w1 ⟨u, rfl, ho, k1⟩
    obtain ⟨g, ad, cap, rfl, _, _⟩ := rowP ho
    exact ⟨ad, _, cap, rfl, k1⟩

/-- The two variables that Make opens first. -/
theorem make_vars (h : Sb w B A pg W L v T) {w1 : World} (hw1 : w1 = (w.alloc (.cells #[sp A.st] 25)).alloc (.cells #[.int .i64 0] 26)) : K w w1 ∧ Bx A pg v w1 w.heap.size 25 (sp A.st) ∧ Bx A pg v w1 (w.heap.size + 1) 26 (.int .i64 0) := by
  refine ⟨by rw [hw1]; exact ((K.refl w).alloc _).alloc _, by rw [hw1]; exact (h.newBx _ _).keep ((K.refl _).alloc _), ?_⟩
  have := (h.keep ((K.refl w).alloc (.cells #[sp A.st] 25))).newBx (.int .i64 0) 26
  rw [hw1]
  simpa using this

set_option maxRecDepth 100000 in
theorem make_arg (h : Sb w B A pg W L v T) (n : Int) (hn : n < 0 ∨ 3998 < n) : Calls Tryz.prog 16 #[sp A.st, .int .i64 n] w fun e w' => e = .returned (.tuple #[.int .u64 0, .int .i64 2]) ∧ K w w' := by
  have hmf : ∀ (fn : Fn) (first cap : Array Value) (w : World), (Instr.makeFunc fn first cap).run Tryz.prog w = .ok (.func fn first cap) w := fun _ _ _ _ => rfl
  obtain ⟨w1, hw1⟩ : ∃ w1, w1 = (w.alloc (.cells #[sp A.st] 25)).alloc (.cells #[.int .i64 0] 26) := ⟨_, rfl⟩
  obtain ⟨k1, bs1, be1⟩ := make_vars h hw1
  have hm := made_ok (h.keep k1)
  have c1 := be1.cell
  have f1 := be1.fz
  have ce := (be1.set (.int .i64 2)).cell
  by_cases h0 : n < 0
  · clear hn
    go_enter_defers Tryz.func16, Tryz.ntmps16
    go_wp2_with fail
    rw [← hw1]
    clear hw1
    refine hm.mono ?_
    rintro e w2 ⟨rfl, rfl⟩
    go_wp2
    exact ⟨.tuple #[.int .u64 0, .int .i64 2], by simp [results, Tryz.results16, go_sem, ce], rfl, k1.setCell _ (by show w.heap.size ≤ w.heap.size + 1; omega)⟩
  · have h1 : 3998 < n := by omega
    clear hn
    go_enter_defers Tryz.func16, Tryz.ntmps16
    go_wp2_with fail
    rw [← hw1]
    clear hw1
    refine hm.mono ?_
    rintro e w2 ⟨rfl, rfl⟩
    go_wp2
    exact ⟨.tuple #[.int .u64 0, .int .i64 2], by simp [results, Tryz.results16, go_sem, ce], rfl, k1.setCell _ (by show w.heap.size ≤ w.heap.size + 1; omega)⟩

set_option maxRecDepth 100000 in
set_option maxHeartbeats 2000000 in
theorem make_no (h : Sw w B A pg W L v T) (hB : B ≤ w.heap.size) (n : Int) (n0 : 0 ≤ n) (n1 : n ≤ 3998) {a er : Int} (ea : allocL A.q L (2 + n) = (a, er, L')) (her : er ≠ 0) :
    Calls Tryz.prog 16 #[sp A.st, .int .i64 n] w fun e w' => e = .returned (.tuple #[.int .u64 0, .int .i64 er]) ∧ ∃ pg' W', Sw w' B A pg' W' L v T ∧ Same L W W' ∧ Stp A pg pg' v v w w' := by
  have hmf : ∀ (fn : Fn) (first cap : Array Value) (w : World), (Instr.makeFunc fn first cap).run Tryz.prog w = .ok (.func fn first cap) w := fun _ _ _ _ => rfl
  obtain rfl := Hp.alloc_no ea her
  obtain ⟨w1, hw1⟩ : ∃ w1, w1 = (w.alloc (.cells #[sp A.st] 25)).alloc (.cells #[.int .i64 0] 26) := ⟨_, rfl⟩
  obtain ⟨k1, bs1, be1⟩ := make_vars h.b hw1
  have LT1 : Aside (w.heap.size + 1 < w1.heap.size) := be1.lt
  have hm := made_ok (h.b.keep k1)
  have ar := atRisk_any (h.b.keep k1)
  have cs := bs1.cell
  have hB1 := Nat.le_trans hB k1.size
  have hne : (er != 0) = true := by simp [her]
  clear her
  go_enter_defers Tryz.func16, Tryz.ntmps16
  go_wp2_with fail
  rw [← hw1]
  clear hw1
  refine hm.mono ?_
  rintro e w2 ⟨rfl, rfl⟩
  go_wp2_with fail
  refine ar.mono ?_
  rintro e w2 ⟨ad, nn, cap, rfl, k2⟩
  clear hm ar cs
  obtain ⟨w3, hw3⟩ : ∃ w3, w3 = w2.alloc (.cells #[.slice ad nn cap] 67) := ⟨_, rfl⟩
  have k3 : K w2 w3 := by rw [hw3]; exact (K.refl w2).alloc _
  have k13 := k2.trans k3
  have b3 := h.b.keep (k1.trans k13)
  have be3 := be1.keep k13
  have al := b3.alloc (Nat.le_trans hB1 k13.size) (2 + n) a er ea
  have b2 := h.b.keep (k1.trans k2)
  have cs := (bs1.keep k2).cell
  have ls := (bs1.keep k2).lt
  have c1 := b2.c1
  have lc := b2.lt
  go_wp2_with fail
  rw [← hw3]
  refine al.mono ?_
  rintro e w4 ⟨rfl, pg4, W4, b4, sm4, hz4, t4⟩
  have be4 := be3.step t4
  have t04 := (Stp.ofK (A := A) (pg := pg) (v := v) (k1.trans k13)).trans t4
  clear al cs c1 hw3 be3 bs1 be1 ls lc b2 hz4
  have hbh : w.heap.size + 1 ≠ A.bh := by have : A.bh < w.heap.size := Hp.lt_of_cell h.b.hp.hw.c0; omega
  have hb0 : w.heap.size + 1 ≠ 0 := by omega
  have hbs : w.heap.size + 1 ≠ A.st := by have := h.b.lt; omega
  have e4 := be4.cell
  have f4 := be4.fz
  have lt4 := be4.lt
  obtain ⟨w5, hw5⟩ : ∃ w5, w5 = w4.setCell ⟨w.heap.size + 1, 0, none⟩ (.int .i64 er) := ⟨_, rfl⟩
  have b5 : Sb w5 B A pg4 W4 L' v T := by rw [hw5]; exact b4.setBx be4 _ hbh hb0 hbs
  have be5 : Bx A pg4 v w5 (w.heap.size + 1) 26 (.int .i64 er) := by rw [hw5]; exact be4.set _
  obtain ⟨w6, hw6⟩ : ∃ w6, w6 = w5.alloc (.cells #[.int .i64 a] 3) := ⟨_, rfl⟩
  have k6 : K w5 w6 := by rw [hw6]; exact (K.refl w5).alloc _
  have b6 := b5.keep k6
  have be6 := be5.keep k6
  have t46 : Kept (fun k => k = w.heap.size + 1) w4 w6 := by
    have : Kept (fun k => k = w.heap.size + 1) w4 (w4.setCell ⟨w.heap.size + 1, 0, none⟩ (.int .i64 er)) := (Kept.refl _ _).setCell _ (.inl rfl)
    rw [hw6, hw5]
    exact this.alloc _
  have HW : Aside ((w4.setCell ⟨w.heap.size + 1, 0, none⟩ (.int .i64 er)).alloc (.cells #[.int .i64 a] 3) = w6) := by show _ = _; rw [hw6, hw5]
  clear hw5 hw6 b5 be5 k6
  go_wp2
  rw [HW.out]
  clear HW e4 f4 lt4
  have c6 := be6.cell
  have f6 := be6.fz
  go_region
  go_wp2
  obtain ⟨w9, hw9⟩ : ∃ w9, w9 = (w6.setCell ⟨w.heap.size + 1, 0, none⟩ (.int .i64 er)).drew := ⟨_, rfl⟩
  have kd := (K.refl (w6.setCell ⟨w.heap.size + 1, 0, none⟩ (.int .i64 er))).drew
  have b9 : Sb w9 B A pg4 W4 L' v T := by rw [hw9]; exact (b6.setBx be6 _ hbh hb0 hbs).keep kd
  have be9 : Bx A pg4 v w9 (w.heap.size + 1) 26 (.int .i64 er) := by rw [hw9]; exact (be6.set _).keep kd
  have k69 : Kept (fun k => k = w.heap.size + 1) w6 w9 := by
    have : Kept (fun k => k = w.heap.size + 1) w6 (w6.setCell ⟨w.heap.size + 1, 0, none⟩ (.int .i64 er)) := (Kept.refl _ _).setCell _ (.inl rfl)
    rw [hw9]
    exact this.drew
  have ce := be9.cell
  rw [← hw9]
  exact ⟨.tuple #[.int .u64 0, .int .i64 er], by simp [results, Tryz.results16, go_sem, ce], rfl, pg4, W4, ⟨b9, h.r.same sm4⟩, sm4, (t04.own t46 (by omega)).own k69 (by omega)⟩

/-- What is so behind Make, if a record was made. -/
def MadeOk (w : World) (B : Nat) (A : Ad) (pg : List (Int × Nat)) (W : Int → Int) (L : List Pg) (v : Value) (T : List Hd.Sl) (n : Int) (e : Ending) (w' : World) : Prop :=
  0 ≤ n ∧ n ≤ 3998 ∧ ∃ a L' x T', allocL A.q L (2 + n) = (a, 0, L') ∧ Hd.openL A.m A.z T a = (x, 0, T') ∧ e = .returned (.tuple #[.int .u64 x, .int .i64 0]) ∧ ∃ pg' W' v', Sw w' B A pg' W' L' v' T' ∧ Same L W W' ∧ W' a = x ∧ W' (a + 1) = n ∧ (∀ i, 0 ≤ i → i < n → W' (a + 2 + i) = 0) ∧ Stp A pg pg' v v' w w'
/-- .. if none was. -/
def MadeNo (w : World) (B : Nat) (A : Ad) (pg : List (Int × Nat)) (W : Int → Int) (L : List Pg) (v : Value) (T : List Hd.Sl) (n : Int) (e : Ending) (w' : World) : Prop :=
  ∃ er, (er != 0) = true ∧ ((er = 2 ∧ ¬ (0 ≤ n ∧ n ≤ 3998)) ∨ (0 ≤ n ∧ n ≤ 3998 ∧ ((∃ a, allocL A.q L (2 + n) = (a, er, L) ∧ er ≠ 0) ∨ (er = 10 ∧ fullB A.m A.z T = true ∧ ∃ a L', allocL A.q L (2 + n) = (a, 0, L'))))) ∧ e = .returned (.tuple #[.int .u64 0, .int .i64 er]) ∧ ∃ pg' W' v', Sw w' B A pg' W' L v' T ∧ Same L W W' ∧ Stp A pg pg' v v' w w'

theorem make_any (h : Sw w B A pg W L v T) (hB : B ≤ w.heap.size) (n : Int) : Calls Tryz.prog 16 #[sp A.st, .int .i64 n] w fun e w' => MadeOk w B A pg W L v T n e w' ∨ MadeNo w B A pg W L v T n e w' := by
  by_cases hn : n < 0 ∨ 3998 < n
  · refine (make_arg h.b n hn).mono ?_
    rintro e w1 ⟨rfl, k1⟩
    exact .inr ⟨2, rfl, .inl ⟨rfl, by omega⟩, rfl, pg, W, v, h.keep k1, fun _ _ _ _ _ _ _ => rfl, Stp.ofK k1⟩
  · have n0 : 0 ≤ n := by omega
    have n1 : n ≤ 3998 := by omega
    obtain ⟨a, er, L', ea⟩ : ∃ a er L', allocL A.q L (2 + n) = (a, er, L') := ⟨_, _, _, rfl⟩
    by_cases her : er = 0
    · subst her
      cases hfu : fullB A.m A.z T with
      | false =>
        refine (make_ok h hB n n0 n1 hfu ea).mono ?_
        rintro e w1 ⟨x, T', eo, rfl, rest⟩
        exact .inl ⟨n0, n1, a, L', x, T', ea, eo, rfl, rest⟩
      | true =>
        refine (make_full h hB n n0 n1 hfu ea).mono ?_
        rintro e w1 ⟨rfl, rest⟩
        exact .inr ⟨10, rfl, .inr ⟨n0, n1, .inr ⟨rfl, hfu, a, L', ea⟩⟩, rfl, rest⟩
    · refine (make_no h hB n n0 n1 ea her).mono ?_
      rintro e w1 ⟨rfl, pg1, W1, rest⟩
      obtain rfl := Hp.alloc_no ea her
      exact .inr ⟨er, by simp [her], .inr ⟨n0, n1, .inl ⟨a, ea, her⟩⟩, rfl, pg1, W1, v, rest⟩

end So
end Go.Proofs.YtckofhbfdfmnoaaGreatDoor
