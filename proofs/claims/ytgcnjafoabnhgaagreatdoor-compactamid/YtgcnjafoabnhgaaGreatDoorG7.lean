/-
  The statements' helper made, and their fixed example.
-/
import Derived.Test.YtgcnjafoabnhgaaGreatDoorG6
import Derived.Deep.DeepCutAuto
import Derived.Deep.CutBlock
import Derived.WalkSpells
namespace Go.Proofs.YtgcnjafoabnhgaaGreatDoor
open Go.RowKit Go.Maps
attribute [local go_sem ↓] Go.wp_at_zero Go.wp_at_succ
namespace Co
open Hp (Kept K No Pg BlR Bl Wl lt_of_cell allocL dropL findB slideL)
open Hd (U64 findL)
open Go.Proofs.YtgcnjafoabnhgaaGreatDoor.So (Ad Sb Sw Rec sp Stp Bx foot Rn)
variable {w0 w w' : World} {B c : Nat} {A : Ad} {pg pg' : List (Int × Nat)} {W W' : Int → Int} {L L' : List Pg} {v v' : Value} {T T' : List Hd.Sl} {bu : Int}

abbrev refV (q m : Int) : Array Value := #[.int .i64 q, .slice none 0 0, .int .i64 m, .int .u32 4294967295, .slice none 0 0, .slice none 0 0]

theorem rtNew_ok (m : Int) (m0 : 1 ≤ m) (m1 : m ≤ 65536) (w : World) : Calls Tryz.prog 42 #[.int .i64 m, .int .u32 4294967295] w fun e w' => e = .returned (.tuple #[.agg #[.int .i64 m, .int .u32 4294967295, .slice none 0 0], .int .i64 0]) ∧ K w w' := by
  obtain ⟨w1, hw1⟩ : ∃ w1, w1 = w.alloc (.cells #[.int .i64 m, .int .u32 4294967295, .slice none 0 0] 33) := ⟨_, rfl⟩
  have hb : w1.heap[w.heap.size]? = some (.cells #[.int .i64 m, .int .u32 4294967295, .slice none 0 0] 33) := by rw [hw1]; exact World.alloc_heap_new _ _
  have e0 : w1.cell? ⟨w.heap.size, 0, none⟩ = some (.int .i64 m) := by simp [World.cell?, hb]
  have e1 : w1.cell? ⟨w.heap.size, 1, none⟩ = some (.int .u32 4294967295) := by simp [World.cell?, hb]
  have e2 : w1.cell? ⟨w.heap.size, 2, none⟩ = some (.slice none 0 0) := by simp [World.cell?, hb]
  have k1 : K w w1 := by rw [hw1]; exact (K.refl w).alloc _
  clear hb
  go_enter Tryz.func42, Tryz.ntmps42
  go_wp2
  rw [← hw1]
  exact bodyPost_ret (v := .tuple #[.agg #[.int .i64 m, .int .u32 4294967295, .slice none 0 0], .int .i64 0]) (by simp [results, Tryz.results42, go_sem, e0, e1, e2]) rfl ⟨rfl, k1⟩

set_option maxRecDepth 100000 in
set_option maxHeartbeats 2000000 in
theorem rNew_ok (q m : Int) (q0 : 0 ≤ q) (q1 : q ≤ 262144) (m0 : 1 ≤ m) (m1 : m ≤ 65536) (w : World) : Calls Tryz.prog 17 #[.int .i64 q, .int .i64 m, .int .u32 4294967295] w fun e w' => e = .returned (.tuple #[.agg (refV q m), .int .i64 0]) ∧ K w w' := by
  have rt := fun w => rtNew_ok m m0 m1 w
  go_enter Tryz.func17, Tryz.ntmps17
  go_wp2_with fail
  refine (rt _).mono ?_
  rintro e w2 ⟨rfl, k2⟩
  have q1 := k2.block (World.alloc_heap_new w (.cells #[.int .i64 0, .slice none 0 0, .int .i64 0, .int .u32 0, .slice none 0 0, .slice none 0 0] 36))
  have k12 : K w w2 := ((K.refl w).alloc _).trans k2
  clear k2 rt
  go_upto_if 24 with fail
  obtain ⟨w3, hw3⟩ : ∃ w3, w3 = w2.alloc (.cells #[.int .i64 m, .int .u32 4294967295, .slice none 0 0] 33) := ⟨_, rfl⟩
  have k23 : K w2 w3 := by rw [hw3]; exact (K.refl w2).alloc _
  have t3 : w3.heap[w2.heap.size]? = some (.cells #[.int .i64 m, .int .u32 4294967295, .slice none 0 0] 33) := by rw [hw3]; exact World.alloc_heap_new _ _
  have t0 : w3.cell? ⟨w2.heap.size, 0, none⟩ = some (.int .i64 m) := by simp [World.cell?, t3]
  have t1 : w3.cell? ⟨w2.heap.size, 1, none⟩ = some (.int .u32 4294967295) := by simp [World.cell?, t3]
  have t2 : w3.cell? ⟨w2.heap.size, 2, none⟩ = some (.slice none 0 0) := by simp [World.cell?, t3]
  rw [← hw3]
  clear hw3 t3
  have q2 := k23.block q1
  have k3 := k12.trans k23
  obtain ⟨⟨s0, s1, s2, s3, s4, s5⟩, sf⟩ := Hp.six q2
  have h6 := Hp.set6 q2 (.int .i64 q) (.slice none 0 0) (.int .i64 m) (.int .u32 4294967295) (.slice none 0 0) (.slice none 0 0)
  have k6 := k3.put6 (b := w.heap.size) (Nat.le_refl _) (.int .i64 q) (.slice none 0 0) (.int .i64 m) (.int .u32 4294967295) (.slice none 0 0) (.slice none 0 0)
  have H6 : Aside _ := And.intro h6 k6
  clear h6 k6 q2 q1 k12 k3 k23
  go_wp2
  obtain ⟨⟨e0, e1, e2, e3, e4, e5⟩, _⟩ := Hp.six H6.out.1
  exact bodyPost_ret (v := .tuple #[.agg (refV q m), .int .i64 0]) (by simp [results, Tryz.results17, go_sem, e0, e1, e2, e3, e4, e5]) rfl ⟨rfl, H6.out.2⟩

theorem kept6 {O : Nat → Prop} {w0 w : World} (k : Kept O w0 w) {b : Nat} (hb : O b ∨ w0.heap.size ≤ b) (u0 u1 u2 u3 u4 u5 : Value) : Kept O w0 (Hp.put6 w b u0 u1 u2 u3 u4 u5) :=
  (((((k.setCell _ hb).setCell _ hb).setCell _ hb).setCell _ hb).setCell _ hb).setCell _ hb

theorem Sw.low {B' : Nat} (h : Sw w B A pg W L v T) (hle : B' ≤ B) : Sw w B' A pg W L v T :=
  ⟨⟨h.b.hd, h.b.hp, ⟨h.b.tb.hd, So.own_low h.b.tb.row hle, h.b.tb.ap, h.b.tb.wf, Nat.le_trans hle h.b.tb.lo⟩, fun k hk => Nat.le_trans hle (h.b.lo k hk), h.b.ap, h.b.nh, h.b.n0, h.b.ns, h.b.fs⟩, h.r⟩

/-- A store, its compactor, since w0. -/
structure Cn (w0 w : World) (A : Ad) (c : Nat) (pg : List (Int × Nat)) (W : Int → Int) (L : List Pg) (v : Value) (T : List Hd.Sl) : Prop where
  rn : Rn w0 w A pg W L v T
  cb : Bx A pg v w c 87 (sp A.st)
  lo : w0.heap.size ≤ c
theorem Cn.keep (h : Cn w0 w A c pg W L v T) (k : K w w') : Cn w0 w' A c pg W L v T := ⟨h.rn.keep k, h.cb.keep k, h.lo⟩
theorem Cn.call (h : Cn w0 w A c pg W L v T) (sw : Sw w' w0.heap.size A pg' W' L' v' T') (s : Stp A pg pg' v v' w w') : Cn w0 w' A c pg' W' L' v' T' := ⟨⟨sw, h.rn.kst s⟩, h.cb.step s, h.lo⟩

theorem Cn.run (h : Cn w0 w A c pg W L v T) (b0 : 0 ≤ bu) (b1 : bu ≤ 9223372036854775807) : Calls Tryz.prog 10 #[cp c, .int .i64 bu] w fun e w' => e = .returned (.tuple #[.int .i64 (pass bu L T).n, .bool (decide ((pass bu L T).n < bu)), .int .i64 0]) ∧ ∃ pg' W' v', Cn w0 w' A c pg' W' (pass bu L T).L v' (pass bu L T).T ∧ Wk T W (pass bu L T).T W' ∧ Stp A pg pg' v v' w w' := by
  refine (run_any h.rn.s h.rn.k.size h.cb b0 b1).mono ?_
  rintro e w1 ⟨rfl, pg1, W1, v1, sw1, wk1, st1⟩
  exact ⟨rfl, pg1, W1, v1, h.call sw1 st1, wk1, st1⟩
theorem Cn.step (h : Cn w0 w A c pg W L v T) : Calls Tryz.prog 14 #[cp c] w fun e w' => e = .returned (.tuple #[.bool ((pass 1 L T).n == 1), .int .i64 0]) ∧ ∃ pg' W' v', Cn w0 w' A c pg' W' (pass 1 L T).L v' (pass 1 L T).T ∧ Wk T W (pass 1 L T).T W' ∧ Stp A pg pg' v v' w w' := by
  refine (step_any h.rn.s h.rn.k.size h.cb).mono ?_
  rintro e w1 ⟨rfl, pg1, W1, v1, sw1, wk1, st1⟩
  exact ⟨rfl, pg1, W1, v1, h.call sw1 st1, wk1, st1⟩

set_option maxRecDepth 100000 in
set_option maxHeartbeats 2000000 in
theorem lmade_lo (q m : Int) (q0 : 0 ≤ q) (q1 : q ≤ 262144) (m0 : 1 ≤ m) (m1 : m ≤ 65536) (w : World) (hT : Bt.Tab w) : Calls Tryz.prog 5 #[.int .i64 q, .int .i64 m] w fun e w' => ∃ A v c, e = .returned (.tuple #[sp A.st, cp c, .agg (refV q m), .bool true]) ∧ Aside (Cn w w' A c [] (fun _ => 0) [] v [] ∧ A.q = q ∧ A.m = m ∧ A.z = 4294967295 ∧ w.heap.size ≤ A.bh ∧ w.heap.size ≤ A.st) ∧ K w w' := by
  have rn := fun w => rNew_ok q m q0 q1 m0 m1 w
  have nw := fun w1 (k : K w w1) => Rn.new q m 4294967295 w1 (hT.keep k.toBt) q0 q1 m0 m1 (by omega) (by omega)
  go_enter Tryz.func5, Tryz.ntmps5
  go_wp2_with fail
  obtain ⟨w1, hw1⟩ : ∃ w1, w1 = w.alloc (.cells #[.int .i64 0, .slice none 0 0, .int .i64 0, .int .u32 0, .slice none 0 0, .slice none 0 0] 36) := ⟨_, rfl⟩
  have k1 : K w w1 := by rw [hw1]; exact (K.refl w).alloc _
  have hs1 : w1.heap.size = w.heap.size + 1 := by rw [hw1]; simp
  have q1 : w1.heap[w.heap.size]? = some (.cells #[.int .i64 0, .slice none 0 0, .int .i64 0, .int .u32 0, .slice none 0 0, .slice none 0 0] 36) := by rw [hw1]; exact World.alloc_heap_new _ _
  rw [← hw1]
  clear hw1
  refine (nw w1 k1).mono ?_
  rintro e w2 ⟨A, v, rfl, HR, k2⟩
  have cn := new_ok (HR.out.1.s)
  clear nw
  go_wp2_with fail
  refine cn.mono ?_
  rintro e w3 ⟨c, rfl, hcl, hcb, k3⟩
  clear cn
  go_wp2_with fail
  refine (rn w3).mono ?_
  rintro e w4 ⟨rfl, k4⟩
  clear rn
  go_upto_if 24 with fail
  obtain ⟨w5, hw5⟩ : ∃ w5, w5 = w4.alloc (.cells (refV q m) 36) := ⟨_, rfl⟩
  have k5 : K w4 w5 := by rw [hw5]; exact (K.refl w4).alloc _
  have t5 : w5.heap[w4.heap.size]? = some (.cells (refV q m) 36) := by rw [hw5]; exact World.alloc_heap_new _ _
  obtain ⟨⟨t0, t1, t2, t3, t4, t5'⟩, _⟩ := Hp.six t5
  rw [← hw5]
  clear hw5 t5
  have k15 := ((k2.trans k3).trans k4).trans k5
  have q5 := k15.block q1
  obtain ⟨⟨s0, s1, s2, s3, s4, s5⟩, sf⟩ := Hp.six q5
  have h6 := Hp.set6 q5 (.int .i64 q) (.slice none 0 0) (.int .i64 m) (.int .u32 4294967295) (.slice none 0 0) (.slice none 0 0)
  have k6 := (k1.trans k15).put6 (b := w.heap.size) (Nat.le_refl _) (.int .i64 q) (.slice none 0 0) (.int .i64 m) (.int .u32 4294967295) (.slice none 0 0) (.slice none 0 0)
  have kp := kept6 (Kept.refl (fun j => j = w.heap.size) w5) (b := w.heap.size) (.inl rfl) (.int .i64 q) (.slice none 0 0) (.int .i64 m) (.int .u32 4294967295) (.slice none 0 0) (.slice none 0 0)
  have H6 : Aside _ := And.intro h6 (And.intro k6 (And.intro kp (And.intro k2 (And.intro k3 (And.intro k4 k5)))))
  have HC : Aside _ := And.intro hcl hcb
  clear h6 k6 kp q5 q1 k1 k2 k3 k4 k5 k15 hcl hcb
  go_region
  go_wp2
  obtain ⟨h6, k6, kp, k2, k3, k4, k5⟩ := H6.out
  obtain ⟨⟨e0, e1, e2, e3, e4, e5⟩, _⟩ := Hp.six h6
  have hsw := Sw.low (HR.out.1.s.keep ((k3.trans k4).trans k5)) (show w.heap.size ≤ w1.heap.size by omega)
  have hfo : ∀ k, foot A [] v k → w1.heap.size ≤ k := fun k hk => HR.out.1.s.b.flo hk
  have hst : w1.heap.size ≤ A.st := HR.out.2.2.2.2.1
  have hbh : w1.heap.size ≤ A.bh := HR.out.2.2.2.2.2
  have hz0 : 0 < w.heap.size := Hp.lt0 hT
  have hnf : ¬ foot A [] v w.heap.size := fun hf => by have := hfo _ hf; omega
  have hsw2 : Sw _ w.heap.size A [] (fun _ => 0) [] v [] := ⟨hsw.b.kept kp (fun j hj => by subst hj; exact ⟨hnf, by omega, by omega, by omega⟩), hsw.r⟩
  have hcb := HC.out.2
  have hcl := HC.out.1
  have hs2 := k2.size
  refine bodyPost_ret (v := .tuple #[sp A.st, cp c, .agg (refV q m), .bool true]) (by simp [results, Tryz.results5, go_sem, e0, e1, e2, e3, e4, e5]) rfl ⟨A, v, c, rfl, ⟨⟨⟨hsw2.keep ((K.refl _).drew), k6.drew⟩, ⟨(kp.drew).block ((k4.trans k5).block hcb) (by omega), fun hf => ?_⟩, by omega⟩, HR.out.2.1, HR.out.2.2.1, HR.out.2.2.2.1, by omega, by omega⟩, k6.drew⟩
  have := HR.out.1.s.b.flt hf
  omega

theorem lmade_ok (q m : Int) (q0 : 0 ≤ q) (q1 : q ≤ 262144) (m0 : 1 ≤ m) (m1 : m ≤ 65536) (w : World) (hT : Bt.Tab w) : Calls Tryz.prog 5 #[.int .i64 q, .int .i64 m] w fun e w' => ∃ A v c, e = .returned (.tuple #[sp A.st, cp c, .agg (refV q m), .bool true]) ∧ Aside (Cn w w' A c [] (fun _ => 0) [] v [] ∧ A.q = q ∧ A.m = m ∧ A.z = 4294967295) ∧ K w w' := by
  refine (lmade_lo q m q0 q1 m0 m1 w hT).mono ?_
  rintro e w1 ⟨A, v, c, rfl, H, k1⟩
  exact ⟨A, v, c, rfl, ⟨H.out.1, H.out.2.1, H.out.2.2.1, H.out.2.2.2.1⟩, k1⟩

end Co
end Go.Proofs.YtgcnjafoabnhgaaGreatDoor

/-
  The statements' fixed example.
-/
namespace Go.Proofs.YtgcnjafoabnhgaaGreatDoor
open Go.RowKit Go.Maps
attribute [local go_sem ↓] Go.wp_at_zero Go.wp_at_succ
namespace Co
open Hp (Kept K No Pg BlR Bl Wl lt_of_cell allocL dropL findB slideL)
open Hd (U64 findL)
open Go.Proofs.YtgcnjafoabnhgaaGreatDoor.So (Ad Sb Sw Rec sp Stp Bx foot Rn)
variable {w0 w w' : World} {B c : Nat} {A : Ad} {pg pg' : List (Int × Nat)} {W W' : Int → Int} {L L' : List Pg} {v v' : Value} {T T' : List Hd.Sl} {bu : Int}

theorem Cn.make (h : Cn w0 w A c pg W L v T) (n : Int) (n0 : 0 ≤ n) (n1 : n ≤ 3998) {a x : Int} (ea : allocL A.q L (2 + n) = (a, 0, L')) (eo : Hd.openL A.m A.z T a = (x, 0, T')) :
    Calls Tryz.prog 7 #[sp A.st, .int .i64 n] w fun e w' => e = .returned (.tuple #[.int .u64 x, .int .i64 0]) ∧ ∃ pg' W' v', Cn w0 w' A c pg' W' L' v' T' := by
  refine (h.rn.make n n0 n1 ea eo).mono ?_
  rintro e w1 ⟨rfl, pg1, W1, v1, r1, _, _, _, _, st⟩
  exact ⟨rfl, pg1, W1, v1, r1, h.cb.step st, h.lo⟩
theorem Cn.drop (h : Cn w0 w A c pg W L v T) (x : Int) (hx : U64 x) {i : Nat} {s : Hd.Sl} (hf : findL T x = some i) (hs : T[i]? = some s) {p : Pg} {k : Int} (hb : findB L s.a = some (p, k)) (hd : dropL L p k = L') (ht : T.set i ⟨false, s.g, 0⟩ = T') :
    Calls Tryz.prog 8 #[sp A.st, .int .u64 x] w fun e w' => e = .returned (.int .i64 0) ∧ ∃ pg' W', Cn w0 w' A c pg' W' L' v T' := by
  refine (h.rn.drop x hx hf hs hb hd ht).mono ?_
  rintro e w1 ⟨rfl, pg1, W1, r1, _, st⟩
  exact ⟨rfl, pg1, W1, r1, h.cb.step st, h.lo⟩

theorem aw1 : allocL 640 [] (2 + 0) = (2, 0, [⟨0, 1, 0, 1, 0, 1⟩]) := by decide +kernel
theorem aw2 : allocL 640 [⟨0, 1, 0, 1, 0, 1⟩] (2 + 0) = (4, 0, [⟨0, 1, 0, 3, 0, 1⟩]) := by decide +kernel
theorem aw3 : allocL 640 [⟨0, 1, 0, 3, 0, 1⟩] (2 + 0) = (6, 0, [⟨0, 1, 0, 7, 0, 1⟩]) := by decide +kernel
theorem ao1 : Hd.openL 10 4294967295 [] 2 = (4294967297, 0, [⟨true, 1, 2⟩]) := by decide +kernel
theorem ao2 : Hd.openL 10 4294967295 [⟨true, 1, 2⟩] 4 = (4294967298, 0, [⟨true, 1, 2⟩, ⟨true, 1, 4⟩]) := by decide +kernel
theorem ao3 : Hd.openL 10 4294967295 [⟨true, 1, 2⟩, ⟨true, 1, 4⟩] 6 = (4294967299, 0, [⟨true, 1, 2⟩, ⟨true, 1, 4⟩, ⟨true, 1, 6⟩]) := by decide +kernel
theorem ad1 : findL [⟨true, 1, 2⟩, ⟨true, 1, 4⟩, ⟨true, 1, 6⟩] 4294967297 = some 0 := by decide +kernel
theorem ad2 : findB [⟨0, 1, 0, 7, 0, 1⟩] 2 = some (⟨0, 1, 0, 7, 0, 1⟩, 0) := by decide +kernel
theorem ad3 : dropL [⟨0, 1, 0, 7, 0, 1⟩] ⟨0, 1, 0, 7, 0, 1⟩ 0 = [⟨0, 1, 0, 6, 0, 1⟩] := by decide +kernel
abbrev awL : List Pg := [⟨0, 1, 0, 6, 0, 1⟩]
abbrev awT : List Hd.Sl := [⟨false, 1, 0⟩, ⟨true, 1, 4⟩, ⟨true, 1, 6⟩]
theorem as1 : (pass 1 awL awT).n = 1 := by decide +kernel
theorem as2 : (pass 1 (pass 1 awL awT).L (pass 1 awL awT).T).n = 0 := by decide +kernel

set_option maxRecDepth 100000 in
set_option maxHeartbeats 2000000 in
theorem awake_any (w : World) (hT : Bt.Tab w) : Calls Tryz.prog 4 #[] w fun e w' => e = .returned (.bool true) ∧ K w w' := by
  have nw := lmade_ok 640 10 (by omega) (by omega) (by omega) (by omega) w hT
  go_enter Tryz.func4, Tryz.ntmps4
  go_wp2_with fail
  refine nw.mono ?_
  rintro e w1 ⟨A, v, c, rfl, HR, _⟩
  obtain ⟨hn, eq, em, ez⟩ := HR.out
  have hn := hn.keep ((K.refl w1).alloc (.cells (refV 640 10) 36))
  have c1 := hn.make 0 (by omega) (by omega) (by rw [eq]; exact aw1) (by rw [em, ez]; exact ao1)
  have EE : Aside _ := And.intro eq (And.intro em ez)
  clear nw eq em ez HR
  go_wp2_with fail
  refine c1.mono ?_
  rintro e w2 ⟨rfl, pg2, W2, v2, h2⟩
  have c2 := h2.make 0 (by omega) (by omega) (by rw [EE.out.1]; exact aw2) (by rw [EE.out.2.1, EE.out.2.2]; exact ao2)
  clear c1 hn
  go_wp2_with fail
  refine c2.mono ?_
  rintro e w3 ⟨rfl, pg3, W3, v3, h3⟩
  have c3 := h3.make 0 (by omega) (by omega) (by rw [EE.out.1]; exact aw3) (by rw [EE.out.2.1, EE.out.2.2]; exact ao3)
  clear c2 h2
  go_wp2_with fail
  refine c3.mono ?_
  rintro e w4 ⟨rfl, pg4, W4, v4, h4⟩
  have c4 := h4.drop 4294967297 ⟨by decide, by decide⟩ (i := 0) (s := ⟨true, 1, 2⟩) ad1 rfl ad2 ad3 rfl
  clear c3 h3
  go_wp2_with fail
  refine c4.mono ?_
  rintro e w5 ⟨rfl, pg5, W5, h5⟩
  have c5 := h5.step
  rw [show ((pass 1 [⟨0, 1, 0, 6, 0, 1⟩] ([⟨true, 1, 2⟩, ⟨true, 1, 4⟩, ⟨true, 1, 6⟩].set 0 ⟨false, 1, 0⟩)).n == 1) = true by
    show ((pass 1 awL awT).n == 1) = true
    rw [as1]
    rfl] at c5
  clear c4 h4
  go_wp2_with fail
  refine c5.mono ?_
  rintro e w6 ⟨rfl, pg6, W6, v6, h6, _, _⟩
  have c6 := h6.step
  rw [show ((pass 1 (pass 1 [⟨0, 1, 0, 6, 0, 1⟩] ([⟨true, 1, 2⟩, ⟨true, 1, 4⟩, ⟨true, 1, 6⟩].set 0 ⟨false, 1, 0⟩)).L (pass 1 [⟨0, 1, 0, 6, 0, 1⟩] ([⟨true, 1, 2⟩, ⟨true, 1, 4⟩, ⟨true, 1, 6⟩].set 0 ⟨false, 1, 0⟩)).T).n == 1) = false by
    show ((pass 1 (pass 1 awL awT).L (pass 1 awL awT).T).n == 1) = false
    rw [as2]
    rfl] at c6
  clear c5 h5
  go_wp2_with fail
  refine c6.mono ?_
  rintro e w7 ⟨rfl, pg7, W7, v7, h7, _, _⟩
  have k7 := h7.rn.k
  clear c6 h6 h7 EE
  go_wp2
  go_ret
  exact ⟨rfl, k7⟩

end Co
end Go.Proofs.YtgcnjafoabnhgaaGreatDoor
