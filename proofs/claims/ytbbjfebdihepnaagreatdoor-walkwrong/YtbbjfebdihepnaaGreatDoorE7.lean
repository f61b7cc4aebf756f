/-
  The walk of package store's Make, where no slot is free: what was allocated is taken back.
-/
import Derived.Test.YtbbjfebdihepnaaGreatDoorE6
import Derived.Defers
import Derived.Test.YtbbjfebdihepnaaGreatDoorE4
import Derived.Test.YtbbjfebdihepnaaGreatDoorK1
namespace Go.Proofs.YtbbjfebdihepnaaGreatDoor
open Go.RowKit Go.Maps
attribute [local go_sem ↓] Go.wp_at_zero Go.wp_at_succ
namespace So
open Hp (Kept K No Pg BlR Bl Wl Same SameBut allocL dropL findB)
variable {w w' : World} {B : Nat} {A : Ad} {pg pg' : List (Int × Nat)} {W : Int → Int} {L L' : List Pg} {v v' : Value} {T : List Hd.Sl}

theorem atRisk_yes (h : Sb w B A pg W L v T) (hf : fullB A.m A.z T = true) : Calls Tryz.prog 84 #[sp A.st] w fun e w' => ∃ u, e = .returned u ∧ w'.ownsRow w.heap.size 184 65 u (nums pg).length (flat W (nums pg)) ∧ K w w' := by
  have fu := full_any h
  rw [hf] at fu
  have pa := fun w1 (k1 : K w w1) => pages_any (h.keep k1)
  have hl : pg.length = (nums pg).length := by simp [nums]
  rw [hl] at pa
  clear hf h hl
  go_enter Tryz.func84, Tryz.ntmps84
  go_wp2_with (go_at_call 117; refine fu.mono ?_; rintro e w1 ⟨rfl, k1⟩)
  refine (pa _ k1).mono ?_
  rintro e w2 ⟨u, rfl, ho, k2⟩
  have HO : Aside _ := own_low ho k1.size
  clear ho
  go_wp2
  go_ret
  exact ⟨u, rfl, HO.out, k1.trans k2⟩

/-- The deferred call, where no record was made. -/
theorem makeD_back (pe ps pa pw : Addr) (er : Int) (he : (er != 0) = true) (s u : Value) (a : Int) (m : FrameMode) (w : World) (he' : w.cell? pe = some (.int .i64 er)) (hs : w.cell? ps = some s) (ha : w.cell? pa = some (.int .i64 a)) (hu : w.cell? pw = some u) {R : World → Prop}
    (tb : Calls Tryz.prog 87 #[s, .int .i64 a, u] w fun e w' => e = .returned (.tuple #[]) ∧ R w') :
    CallsD Tryz.prog 86 #[.pointer (some pe), .pointer (some ps), .pointer (some pa), .pointer (some pw)] m w fun e u' w' => u' = m ∧ (e = .returned (.tuple #[]) ∧ R w') := by
  go_enter_d Tryz.func86, Tryz.ntmps86
  go_wp2_with (go_at_call 87; refine tb.mono ?_; rintro e w1 ⟨rfl, hr⟩)
  go_end0
  exact ⟨rfl, hr⟩

set_option maxRecDepth 100000 in
set_option maxHeartbeats 2000000 in
theorem make_full (h : Sw w B A pg W L v T) (hB : B ≤ w.heap.size) (n : Int) (n0 : 0 ≤ n) (n1 : n ≤ 3998) (hfu : fullB A.m A.z T = true) {a : Int} (ea : allocL A.q L (2 + n) = (a, 0, L')) :
    Calls Tryz.prog 58 #[sp A.st, .int .i64 n] w fun e w' => e = .returned (.tuple #[.int .u64 0, .int .i64 10]) ∧ ∃ pg' W' v', Sw w' B A pg' W' L v' T ∧ Same L W W' ∧ Stp A pg pg' v v' w w' := by
  have hmf : ∀ (fn : Fn) (first cap : Array Value) (w : World), (Instr.makeFunc fn first cap).run Tryz.prog w = .ok (.func fn first cap) w := fun _ _ _ _ => rfl
  obtain ⟨w1, hw1⟩ : ∃ w1, w1 = (w.alloc (.cells #[sp A.st] 26)).alloc (.cells #[.int .i64 0] 31) := ⟨_, rfl⟩
  have k1 : K w w1 := by rw [hw1]; exact ((K.refl w).alloc _).alloc _
  have bs1 : Bx A pg v w1 w.heap.size 26 (sp A.st) := by rw [hw1]; exact (h.b.newBx _ _).keep ((K.refl _).alloc _)
  have be1 : Bx A pg v w1 (w.heap.size + 1) 31 (.int .i64 0) := by
    have := (h.b.keep ((K.refl w).alloc (.cells #[sp A.st] 26))).newBx (.int .i64 0) 31
    rw [hw1]
    simpa using this
  have LT1 : Aside (w.heap.size + 1 < w1.heap.size) := be1.lt
  have hm := made_ok (h.b.keep k1)
  have ar := atRisk_yes (h.b.keep k1) hfu
  have cs := bs1.cell
  have hB1 := Nat.le_trans hB k1.size
  go_enter_defers Tryz.func58, Tryz.ntmps58
  go_wp2_with fail
  rw [← hw1]
  clear hw1
  refine hm.mono ?_
  rintro e w2 ⟨rfl, rfl⟩
  go_wp2_with fail
  refine ar.mono ?_
  rintro e w2 ⟨u, rfl, hown, k2⟩
  obtain ⟨gg, ad, cap, hu, _, _⟩ := rowP hown
  have hlen : (nums pg).length ≤ 4096 := by have := h.b.hp.hw.ar.len; simp [nums]; omega
  have HOWN : Aside _ := hown
  have hlo := fun g (hg : some g = u.ownBlock) => Hd.own_lt hown hg
  have HLO : Aside _ := hlo
  have HU : Aside _ := hu
  clear hown hlo
  generalize hnn : (nums pg).length = nn at *
  have HNN : Aside _ := hnn
  clear hnn
  subst hu
  clear hm ar cs
  obtain ⟨w3, hw3⟩ : ∃ w3, w3 = w2.alloc (.cells #[.slice ad nn cap] 100) := ⟨_, rfl⟩
  have k3 : K w2 w3 := by rw [hw3]; exact (K.refl w2).alloc _
  have k13 := k2.trans k3
  have b3 := h.b.keep (k1.trans k13)
  have bs3 := bs1.keep k13
  have be3 := be1.keep k13
  have bw3 : Bx A pg v w3 w2.heap.size 100 (.slice ad nn cap) := by rw [hw3]; exact (h.b.keep (k1.trans k2)).newBx _ _
  have al := b3.alloc (Nat.le_trans hB1 k13.size) (2 + n) a 0 ea
  have b2 := h.b.keep (k1.trans k2)
  have cs := (bs1.keep k2).cell
  have ls := (bs1.keep k2).lt
  have c1 := b2.c1
  have lc := b2.lt
  go_wp2_with fail
  rw [← hw3]
  refine al.mono ?_
  rintro e w4 ⟨rfl, pg4, W4, b4, sm4, hz4, t4⟩
  have bs4 := bs3.step t4
  have be4 := be3.step t4
  have bw4 := bw3.step t4
  have t04 := (Stp.ofK (A := A) (pg := pg) (v := v) (k1.trans k13)).trans t4
  clear al cs c1 hw3 bs3 be3 bw3 bs1 be1 ls lc b2
  have hbh : w.heap.size + 1 ≠ A.bh := by have : A.bh < w.heap.size := Hp.lt_of_cell h.b.hp.hw.c0; omega
  have hb0 : w.heap.size + 1 ≠ 1 := by have := Hp.lt0 h.b.hp.hw.tab; omega
  have hbs : w.heap.size + 1 ≠ A.st := by have := h.b.lt; omega
  have e4 := be4.cell
  have f4 := be4.fz
  have lt4 := be4.lt
  have ltw := bw4.lt
  have lts := bs4.lt
  obtain ⟨w5, hw5⟩ : ∃ w5, w5 = w4.setCell ⟨w.heap.size + 1, 0, none⟩ (.int .i64 0) := ⟨_, rfl⟩
  have sz5 : w5.heap.size = w4.heap.size := by rw [hw5]; simp [World.setCell]
  have b5 : Sb w5 B A pg4 W4 L' v T := by rw [hw5]; exact b4.setBx be4 _ hbh hb0 hbs
  have bs5 : Bx A pg4 v w5 w.heap.size 26 (sp A.st) := by rw [hw5]; exact bs4.other (by omega) _
  have be5 : Bx A pg4 v w5 (w.heap.size + 1) 31 (.int .i64 0) := by rw [hw5]; exact be4.set _
  have lw2 : w.heap.size + 1 < w2.heap.size := Nat.lt_of_lt_of_le LT1.out k2.size
  have bw5 : Bx A pg4 v w5 w2.heap.size 100 (.slice ad nn cap) := by rw [hw5]; exact bw4.other (by omega) _
  obtain ⟨w6, hw6⟩ : ∃ w6, w6 = w5.alloc (.cells #[.int .i64 a] 3) := ⟨_, rfl⟩
  have k6 : K w5 w6 := by rw [hw6]; exact (K.refl w5).alloc _
  have ba6 : Bx A pg4 v w6 w4.heap.size 3 (.int .i64 a) := by rw [hw6, ← sz5]; exact b5.newBx _ _
  have b6 := b5.keep k6
  have bs6 := bs5.keep k6
  have be6 := be5.keep k6
  have bw6 := bw5.keep k6
  have t46 : Kept (fun k => k = w.heap.size + 1) w4 w6 := by
    have : Kept (fun k => k = w.heap.size + 1) w4 (w4.setCell ⟨w.heap.size + 1, 0, none⟩ (.int .i64 0)) := (Kept.refl _ _).setCell _ (.inl rfl)
    rw [hw6, hw5]
    exact this.alloc _
  have HW : Aside ((w4.setCell ⟨w.heap.size + 1, 0, none⟩ (.int .i64 0)).alloc (.cells #[.int .i64 a] 3) = w6) := by show _ = _; rw [hw6, hw5]
  clear hw5 hw6 sz5 b5 bs5 be5 bw5 k6
  go_wp2
  rw [HW.out]
  clear HW e4 f4 lt4 ltw lts
  obtain ⟨x, er, T', eo⟩ : ∃ x er T', Hd.openL A.m A.z T a = (x, er, T') := ⟨_, _, _, rfl⟩
  have hat := b6.at ((allocRm h.b.wl (x := 2 + n) ⟨by omega, by omega⟩ ea).2 a _ |>.2 (.inl ⟨rfl, rfl⟩))
  have a0 := hat.1
  have a1 : a ≤ 67108864 := by have := rm_ge (x := 2 + n) ⟨by omega, by omega⟩; omega
  obtain ⟨rfl, rfl, rfl⟩ : er = 10 ∧ x = 0 ∧ T' = T := by
    rcases full_open (T := T) (by omega) eo with ⟨h2, _⟩ | ⟨_, h2⟩
    · rw [hfu] at h2; cases h2
    · exact h2
  have op := (b6.keep (K.refl w6).drew).opn a 0 10 (by omega) eo
  have op2 : Calls Tryz.prog 88 #[Hd.tp A.bt, .int .i64 a] w6.drew fun e w' => e = .returned (.tuple #[.int .u64 0, .int .i64 10]) ∧ Aside (∃ v7, Sb w' B A pg4 W4 L' v7 T' ∧ Stp A pg4 pg4 v v7 w6 w') ∧ w'.cell? ⟨w.heap.size, 0, none⟩ = some (sp A.st) ∧ w'.cell? ⟨A.st, 2, none⟩ = some (.pointer (some ⟨A.bt, 0, none⟩)) ∧ w'.cell? ⟨w4.heap.size, 0, none⟩ = some (.int .i64 a) ∧ w'.cell? ⟨w.heap.size + 1, 0, none⟩ = some (.int .i64 0) ∧ w'.frozen? ⟨w.heap.size + 1, 0, none⟩ = false ∧ (w'.setCell ⟨w.heap.size + 1, 0, none⟩ (.int .i64 10)).cell? ⟨w.heap.size, 0, none⟩ = some (sp A.st) ∧ (w'.setCell ⟨w.heap.size + 1, 0, none⟩ (.int .i64 10)).cell? ⟨A.st, 2, none⟩ = some (.pointer (some ⟨A.bt, 0, none⟩)) ∧ (w'.setCell ⟨w.heap.size + 1, 0, none⟩ (.int .i64 10)).cell? ⟨w4.heap.size, 0, none⟩ = some (.int .i64 a) := by
    refine op.mono ?_
    rintro e w7 ⟨rfl, v7, b7, t7⟩
    have t67 := (Stp.ofK (A := A) (pg := pg4) (v := v) (K.refl w6).drew).trans t7
    exact ⟨rfl, ⟨v7, b7, t67⟩, (bs6.step t67).cell, b7.c2, (ba6.step t67).cell, (be6.step t67).cell, (be6.step t67).fz, ((bs6.step t67).other (by omega) _).cell, (b7.setBx (be6.step t67) _ hbh hb0 hbs).c2, ((ba6.step t67).other (by have := be4.lt; omega) _).cell⟩
  have cs := bs6.cell
  have c2 := b6.c2
  have ca := ba6.cell
  have ce := be6.cell
  have fe := be6.fz
  clear op hat
  go_region_held3 (fun w' => w'.cell? ⟨w.heap.size, 0, none⟩ = some (sp A.st) ∧ w'.cell? ⟨A.st, 2, none⟩ = some (.pointer (some ⟨A.bt, 0, none⟩)) ∧ w'.cell? ⟨w4.heap.size, 0, none⟩ = some (.int .i64 a))
    (first | exact ⟨cs, c2, ca⟩ | exact ⟨y0, y1, y2⟩ | exact ⟨z0, z1, z2⟩)
    (first | (go_at_call 88; refine op2.mono ?_; rintro e w7 ⟨rfl, HP, y0, y1, y2, y3, y4, z0, z1, z2⟩))
  obtain ⟨v7, b7, t7⟩ := HP.out
  have be7 := be6.step t7
  have lt4 := be4.lt
  obtain ⟨w8, hw8⟩ : ∃ w8, w8 = w7.setCell ⟨w.heap.size + 1, 0, none⟩ (.int .i64 10) := ⟨_, rfl⟩
  have b8 : Sb w8 B A pg4 W4 L' v7 T' := by rw [hw8]; exact b7.setBx be7 _ hbh hb0 hbs
  have bs8 : Bx A pg4 v7 w8 w.heap.size 26 (sp A.st) := by rw [hw8]; exact (bs6.step t7).other (by omega) _
  have be8 : Bx A pg4 v7 w8 (w.heap.size + 1) 31 (.int .i64 10) := by rw [hw8]; exact be7.set _
  have ba8 : Bx A pg4 v7 w8 w4.heap.size 3 (.int .i64 a) := by rw [hw8]; exact (ba6.step t7).other (by omega) _
  have bw8 : Bx A pg4 v7 w8 w2.heap.size 100 (.slice ad nn cap) := by rw [hw8]; exact (bw6.step t7).other (by omega) _
  have k78 : Kept (fun k => k = w.heap.size + 1) w7 w8 := by rw [hw8]; exact (Kept.refl _ _).setCell (p := ⟨w.heap.size + 1, 0, none⟩) _ (.inl rfl)
  clear cs c2 ca ce fe y0 y1 y2 y3 y4 z0 z1 z2 HP op2
  have ce := be7.cell
  have fe := be7.fz
  go_wp2
  rw [← hw8]
  clear hw8 ce fe
  have ce8 := be8.cell
  have fe8 := be8.fz
  go_region
  go_wp2
  obtain ⟨w9, hw9⟩ : ∃ w9, w9 = (w8.setCell ⟨w.heap.size + 1, 0, none⟩ (.int .i64 10)).drew := ⟨_, rfl⟩
  have kd := (K.refl (w8.setCell ⟨w.heap.size + 1, 0, none⟩ (.int .i64 10))).drew
  have b9 : Sb w9 B A pg4 W4 L' v7 T' := by rw [hw9]; exact (b8.setBx be8 _ hbh hb0 hbs).keep kd
  have bs9 : Bx A pg4 v7 w9 w.heap.size 26 (sp A.st) := by rw [hw9]; exact (bs8.other (by omega) _).keep kd
  have be9 : Bx A pg4 v7 w9 (w.heap.size + 1) 31 (.int .i64 10) := by rw [hw9]; exact (be8.set _).keep kd
  have ba9 : Bx A pg4 v7 w9 w4.heap.size 3 (.int .i64 a) := by rw [hw9]; exact (ba8.other (by omega) _).keep kd
  have bw9 : Bx A pg4 v7 w9 w2.heap.size 100 (.slice ad nn cap) := by rw [hw9]; exact (bw8.other (by omega) _).keep kd
  have k89 : Kept (fun k => k = w.heap.size + 1) w8 w9 := by
    have : Kept (fun k => k = w.heap.size + 1) w8 (w8.setCell ⟨w.heap.size + 1, 0, none⟩ (.int .i64 10)) := (Kept.refl _ _).setCell _ (.inl rfl)
    rw [hw9]
    exact this.drew
  have l9 := b9.wl
  obtain ⟨p, kk, hfd, hdr⟩ := undo h.b.wl l9 (x := 2 + n) ⟨by omega, by omega⟩ ea
  have hA : BlR L' a (rmI (2 + n)) := (allocRm h.b.wl (x := 2 + n) ⟨by omega, by omega⟩ ea).2 a _ |>.2 (.inl ⟨rfl, rfl⟩)
  have lt1 := LT1.out
  have nf : ∀ g, some g = (Value.slice ad nn cap).ownBlock → ¬ foot A pg v g ∧ ¬ foot A pg4 v g ∧ ¬ foot A pg4 v7 g ∧ g ≠ w.heap.size + 1 := fun g hg => by
    have hl := HLO.out g hg
    have h1 : ¬ foot A pg v g := fun hf => by have := (h.b.keep k1).flt hf; omega
    have h2 : ¬ foot A pg4 v g := t4.off (by have := k3.size; omega) h1
    have h3 : ¬ foot A pg4 v7 g := t7.off (by have := k3.size; have := t4.k.size; have := t46.size; omega) h2
    exact ⟨h1, h2, h3, by omega⟩
  have o3 := Hd.ownsRow_kept HOWN.out k3 (fun _ _ x => x)
  have o4 := Hd.ownsRow_kept o3 t4.k (fun g hg => (nf g hg).1)
  have o6 := Hd.ownsRow_kept o4 t46 (fun g hg => (nf g hg).2.2.2)
  have o7 := Hd.ownsRow_kept o6 t7.k (fun g hg => (nf g hg).2.1)
  have o8 := Hd.ownsRow_kept o7 k78 (fun g hg => (nf g hg).2.2.2)
  have o9 := Hd.ownsRow_kept o8 k89 (fun g hg => (nf g hg).2.2.2)
  rw [← HNN.out] at o9
  have hBx : B ≤ w9.heap.size := by
    have h1 := t04.k.size
    have h2 := t46.size
    have h3 := t7.k.size
    have h4 := k78.size
    have h5 := k89.size
    omega
  have hkl : (nums pg).length ≤ 4096 := by have := h.b.hp.hw.ar.len; simp [nums]; omega
  have tb := takeBack_any b9 hBx hA hfd o9 (fun g hg => (nf g (by rw [HNN.out] at hg; exact hg)).2.2.1) hkl h.b.hp.hw.ar.ww (fun pg' W' hl hm => by rw [hdr] at hl ⊢; exact lay_back h.b.hp.ly (a / 64) hm hl)
  rw [HNN.out] at tb
  rw [← hw9]
  refine leaves_cons (f := 86) (args := #[.pointer (some ⟨w.heap.size + 1, 0, none⟩), .pointer (some ⟨w.heap.size, 0, none⟩), .pointer (some ⟨w4.heap.size, 0, none⟩), .pointer (some ⟨w2.heap.size, 0, none⟩)]) (by simp) (by simp [go_sem]) ?_
  refine (makeD_back ⟨w.heap.size + 1, 0, none⟩ ⟨w.heap.size, 0, none⟩ ⟨w4.heap.size, 0, none⟩ ⟨w2.heap.size, 0, none⟩ 10 (by decide) (sp A.st) (.slice ad nn cap) a .returning _ be9.cell bs9.cell ba9.cell bw9.cell tb).mono ?_
  rintro e u' w10 ⟨rfl, rfl, pg10, W10, b10, sb10, t10⟩
  have ce10 := (be9.step t10).cell
  have sm := same_back h.b.wl (x := 2 + n) ⟨by omega, by omega⟩ ea sm4 hfd sb10 (nums pg) (a / 64)
  rw [hdr] at b10
  refine ⟨.tuple #[.int .u64 0, .int .i64 10], by simp [results, Tryz.results58, go_sem, ce10], rfl, pg10, _, v7, ⟨b10, h.r.same sm⟩, sm, ?_⟩
  exact ((((t04.own t46 (by omega)).trans t7).own k78 (by omega)).own k89 (by omega)).trans t10

end So
end Go.Proofs.YtbbjfebdihepnaaGreatDoor

/-
  The walks of package store's Make where it is refused for want of words, or for its argument; and Make in one.
-/
namespace Go.Proofs.YtbbjfebdihepnaaGreatDoor
open Go.RowKit Go.Maps
attribute [local go_sem ↓] Go.wp_at_zero Go.wp_at_succ
namespace So
open Hp (Kept K No Pg BlR Bl Wl Same SameBut allocL dropL findB)
variable {w w' : World} {B : Nat} {A : Ad} {pg pg' : List (Int × Nat)} {W : Int → Int} {L L' : List Pg} {v v' : Value} {T : List Hd.Sl}

theorem atRisk_any (h : Sb w B A pg W L v T) : Calls Tryz.prog 84 #[sp A.st] w fun e w' => ∃ ad nn cap, e = .returned (.slice ad nn cap) ∧ K w w' := by
  cases hf : fullB A.m A.z T with
  | false =>
    refine (atRisk_no h hf).mono ?_
    rintro e w1 ⟨rfl, k1⟩
    exact ⟨none, 0, 0, rfl, k1⟩
  | true =>
    refine (atRisk_yes h hf).mono ?_
    rintro e w1 ⟨u, rfl, ho, k1⟩
    obtain ⟨g, ad, cap, rfl, _, _⟩ := rowP ho
    exact ⟨ad, _, cap, rfl, k1⟩

/-- The two variables that Make opens first. -/
theorem make_vars (h : Sb w B A pg W L v T) {w1 : World} (hw1 : w1 = (w.alloc (.cells #[sp A.st] 26)).alloc (.cells #[.int .i64 0] 31)) : K w w1 ∧ Bx A pg v w1 w.heap.size 26 (sp A.st) ∧ Bx A pg v w1 (w.heap.size + 1) 31 (.int .i64 0) := by
  refine ⟨by rw [hw1]; exact ((K.refl w).alloc _).alloc _, by rw [hw1]; exact (h.newBx _ _).keep ((K.refl _).alloc _), ?_⟩
  have := (h.keep ((K.refl w).alloc (.cells #[sp A.st] 26))).newBx (.int .i64 0) 31
  rw [hw1]
  simpa using this

set_option maxRecDepth 100000 in
theorem make_arg (h : Sb w B A pg W L v T) (n : Int) (hn : n < 0 ∨ 3998 < n) : Calls Tryz.prog 58 #[sp A.st, .int .i64 n] w fun e w' => e = .returned (.tuple #[.int .u64 0, .int .i64 2]) ∧ K w w' := by
  have hmf : ∀ (fn : Fn) (first cap : Array Value) (w : World), (Instr.makeFunc fn first cap).run Tryz.prog w = .ok (.func fn first cap) w := fun _ _ _ _ => rfl
  obtain ⟨w1, hw1⟩ : ∃ w1, w1 = (w.alloc (.cells #[sp A.st] 26)).alloc (.cells #[.int .i64 0] 31) := ⟨_, rfl⟩
  obtain ⟨k1, bs1, be1⟩ := make_vars h hw1
  have hm := made_ok (h.keep k1)
  have c1 := be1.cell
  have f1 := be1.fz
  have ce := (be1.set (.int .i64 2)).cell
  by_cases h0 : n < 0
  · clear hn
    go_enter_defers Tryz.func58, Tryz.ntmps58
    go_wp2_with fail
    rw [← hw1]
    clear hw1
    refine hm.mono ?_
    rintro e w2 ⟨rfl, rfl⟩
    go_wp2
    exact ⟨.tuple #[.int .u64 0, .int .i64 2], by simp [results, Tryz.results58, go_sem, ce], rfl, k1.setCell _ (by show w.heap.size ≤ w.heap.size + 1; omega)⟩
  · have h1 : 3998 < n := by omega
    clear hn
    go_enter_defers Tryz.func58, Tryz.ntmps58
    go_wp2_with fail
    rw [← hw1]
    clear hw1
    refine hm.mono ?_
    rintro e w2 ⟨rfl, rfl⟩
    go_wp2
    exact ⟨.tuple #[.int .u64 0, .int .i64 2], by simp [results, Tryz.results58, go_sem, ce], rfl, k1.setCell _ (by show w.heap.size ≤ w.heap.size + 1; omega)⟩

set_option maxRecDepth 100000 in
set_option maxHeartbeats 2000000 in
theorem make_no (h : Sw w B A pg W L v T) (hB : B ≤ w.heap.size) (n : Int) (n0 : 0 ≤ n) (n1 : n ≤ 3998) {a er : Int} (ea : allocL A.q L (2 + n) = (a, er, L')) (her : er ≠ 0) :
    Calls Tryz.prog 58 #[sp A.st, .int .i64 n] w fun e w' => e = .returned (.tuple #[.int .u64 0, .int .i64 er]) ∧ ∃ pg' W', Sw w' B A pg' W' L v T ∧ Same L W W' ∧ Stp A pg pg' v v w w' := by
  have hmf : ∀ (fn : Fn) (first cap : Array Value) (w : World), (Instr.makeFunc fn first cap).run Tryz.prog w = .ok (.func fn first cap) w := fun _ _ _ _ => rfl
  obtain rfl := Hp.alloc_no ea her
  obtain ⟨w1, hw1⟩ : ∃ w1, w1 = (w.alloc (.cells #[sp A.st] 26)).alloc (.cells #[.int .i64 0] 31) := ⟨_, rfl⟩
  obtain ⟨k1, bs1, be1⟩ := make_vars h.b hw1
  have LT1 : Aside (w.heap.size + 1 < w1.heap.size) := be1.lt
  have hm := made_ok (h.b.keep k1)
  have ar := atRisk_any (h.b.keep k1)
  have cs := bs1.cell
  have hB1 := Nat.le_trans hB k1.size
  have hne : (er != 0) = true := by simp [her]
  clear her
  go_enter_defers Tryz.func58, Tryz.ntmps58
  go_wp2_with fail
  rw [← hw1]
  clear hw1
  refine hm.mono ?_
  rintro e w2 ⟨rfl, rfl⟩
  go_wp2_with fail
  refine ar.mono ?_
  rintro e w2 ⟨ad, nn, cap, rfl, k2⟩
  clear hm ar cs
  obtain ⟨w3, hw3⟩ : ∃ w3, w3 = w2.alloc (.cells #[.slice ad nn cap] 100) := ⟨_, rfl⟩
  have k3 : K w2 w3 := by rw [hw3]; exact (K.refl w2).alloc _
  have k13 := k2.trans k3
  have b3 := h.b.keep (k1.trans k13)
  have be3 := be1.keep k13
  have al := b3.alloc (Nat.le_trans hB1 k13.size) (2 + n) a er ea
  have b2 := h.b.keep (k1.trans k2)
  have cs := (bs1.keep k2).cell
  have ls := (bs1.keep k2).lt
  have c1 := b2.c1
  have lc := b2.lt
  go_wp2_with fail
  rw [← hw3]
  refine al.mono ?_
  rintro e w4 ⟨rfl, pg4, W4, b4, sm4, hz4, t4⟩
  have be4 := be3.step t4
  have t04 := (Stp.ofK (A := A) (pg := pg) (v := v) (k1.trans k13)).trans t4
  clear al cs c1 hw3 be3 bs1 be1 ls lc b2 hz4
  have hbh : w.heap.size + 1 ≠ A.bh := by have : A.bh < w.heap.size := Hp.lt_of_cell h.b.hp.hw.c0; omega
  have hb0 : w.heap.size + 1 ≠ 1 := by have := Hp.lt0 h.b.hp.hw.tab; omega
  have hbs : w.heap.size + 1 ≠ A.st := by have := h.b.lt; omega
  have e4 := be4.cell
  have f4 := be4.fz
  have lt4 := be4.lt
  obtain ⟨w5, hw5⟩ : ∃ w5, w5 = w4.setCell ⟨w.heap.size + 1, 0, none⟩ (.int .i64 er) := ⟨_, rfl⟩
  have b5 : Sb w5 B A pg4 W4 L' v T := by rw [hw5]; exact b4.setBx be4 _ hbh hb0 hbs
  have be5 : Bx A pg4 v w5 (w.heap.size + 1) 31 (.int .i64 er) := by rw [hw5]; exact be4.set _
  obtain ⟨w6, hw6⟩ : ∃ w6, w6 = w5.alloc (.cells #[.int .i64 a] 3) := ⟨_, rfl⟩
  have k6 : K w5 w6 := by rw [hw6]; exact (K.refl w5).alloc _
  have b6 := b5.keep k6
  have be6 := be5.keep k6
  have t46 : Kept (fun k => k = w.heap.size + 1) w4 w6 := by
    have : Kept (fun k => k = w.heap.size + 1) w4 (w4.setCell ⟨w.heap.size + 1, 0, none⟩ (.int .i64 er)) := (Kept.refl _ _).setCell _ (.inl rfl)
    rw [hw6, hw5]
    exact this.alloc _
  have HW : Aside ((w4.setCell ⟨w.heap.size + 1, 0, none⟩ (.int .i64 er)).alloc (.cells #[.int .i64 a] 3) = w6) := by show _ = _; rw [hw6, hw5]
  clear hw5 hw6 b5 be5 k6
  go_wp2
  rw [HW.out]
  clear HW e4 f4 lt4
  have c6 := be6.cell
  have f6 := be6.fz
  go_region
  go_wp2
  obtain ⟨w9, hw9⟩ : ∃ w9, w9 = (w6.setCell ⟨w.heap.size + 1, 0, none⟩ (.int .i64 er)).drew := ⟨_, rfl⟩
  have kd := (K.refl (w6.setCell ⟨w.heap.size + 1, 0, none⟩ (.int .i64 er))).drew
  have b9 : Sb w9 B A pg4 W4 L' v T := by rw [hw9]; exact (b6.setBx be6 _ hbh hb0 hbs).keep kd
  have be9 : Bx A pg4 v w9 (w.heap.size + 1) 31 (.int .i64 er) := by rw [hw9]; exact (be6.set _).keep kd
  have k69 : Kept (fun k => k = w.heap.size + 1) w6 w9 := by
    have : Kept (fun k => k = w.heap.size + 1) w6 (w6.setCell ⟨w.heap.size + 1, 0, none⟩ (.int .i64 er)) := (Kept.refl _ _).setCell _ (.inl rfl)
    rw [hw9]
    exact this.drew
  have ce := be9.cell
  rw [← hw9]
  exact ⟨.tuple #[.int .u64 0, .int .i64 er], by simp [results, Tryz.results58, go_sem, ce], rfl, pg4, W4, ⟨b9, h.r.same sm4⟩, sm4, (t04.own t46 (by omega)).own k69 (by omega)⟩

/-- What is so behind Make, if a record was made. -/
def MadeOk (w : World) (B : Nat) (A : Ad) (pg : List (Int × Nat)) (W : Int → Int) (L : List Pg) (v : Value) (T : List Hd.Sl) (n : Int) (e : Ending) (w' : World) : Prop :=
  0 ≤ n ∧ n ≤ 3998 ∧ ∃ a L' x T', allocL A.q L (2 + n) = (a, 0, L') ∧ Hd.openL A.m A.z T a = (x, 0, T') ∧ e = .returned (.tuple #[.int .u64 x, .int .i64 0]) ∧ ∃ pg' W' v', Sw w' B A pg' W' L' v' T' ∧ Same L W W' ∧ W' a = x ∧ W' (a + 1) = n ∧ (∀ i, 0 ≤ i → i < n → W' (a + 2 + i) = 0) ∧ Stp A pg pg' v v' w w'
/-- .. if none was. -/
def MadeNo (w : World) (B : Nat) (A : Ad) (pg : List (Int × Nat)) (W : Int → Int) (L : List Pg) (v : Value) (T : List Hd.Sl) (n : Int) (e : Ending) (w' : World) : Prop :=
  ∃ er, (er != 0) = true ∧ ((er = 2 ∧ ¬ (0 ≤ n ∧ n ≤ 3998)) ∨ (0 ≤ n ∧ n ≤ 3998 ∧ ((∃ a, allocL A.q L (2 + n) = (a, er, L) ∧ er ≠ 0) ∨ (er = 10 ∧ fullB A.m A.z T = true ∧ ∃ a L', allocL A.q L (2 + n) = (a, 0, L'))))) ∧ e = .returned (.tuple #[.int .u64 0, .int .i64 er]) ∧ ∃ pg' W' v', Sw w' B A pg' W' L v' T ∧ Same L W W' ∧ Stp A pg pg' v v' w w'

theorem make_any (h : Sw w B A pg W L v T) (hB : B ≤ w.heap.size) (n : Int) : Calls Tryz.prog 58 #[sp A.st, .int .i64 n] w fun e w' => MadeOk w B A pg W L v T n e w' ∨ MadeNo w B A pg W L v T n e w' := by
  by_cases hn : n < 0 ∨ 3998 < n
  · refine (make_arg h.b n hn).mono ?_
    rintro e w1 ⟨rfl, k1⟩
    exact .inr ⟨2, rfl, .inl ⟨rfl, by omega⟩, rfl, pg, W, v, h.keep k1, fun _ _ _ _ _ _ _ => rfl, Stp.ofK k1⟩
  · have n0 : 0 ≤ n := by omega
    have n1 : n ≤ 3998 := by omega
    obtain ⟨a, er, L', ea⟩ : ∃ a er L', allocL A.q L (2 + n) = (a, er, L') := ⟨_, _, _, rfl⟩
    by_cases her : er = 0
    · subst her
      cases hfu : fullB A.m A.z T with
      | false =>
        refine (make_ok h hB n n0 n1 hfu ea).mono ?_
        rintro e w1 ⟨x, T', eo, rfl, rest⟩
        exact .inl ⟨n0, n1, a, L', x, T', ea, eo, rfl, rest⟩
      | true =>
        refine (make_full h hB n n0 n1 hfu ea).mono ?_
        rintro e w1 ⟨rfl, rest⟩
        exact .inr ⟨10, rfl, .inr ⟨n0, n1, .inr ⟨rfl, hfu, a, L', ea⟩⟩, rfl, rest⟩
    · refine (make_no h hB n n0 n1 ea her).mono ?_
      rintro e w1 ⟨rfl, pg1, W1, rest⟩
      obtain rfl := Hp.alloc_no ea her
      exact .inr ⟨er, by simp [her], .inr ⟨n0, n1, .inl ⟨a, ea, her⟩⟩, rfl, pg1, W1, v, rest⟩

end So
end Go.Proofs.YtbbjfebdihepnaaGreatDoor

/-
  The walk of package store's All.
-/
namespace Go.Proofs.YtbbjfebdihepnaaGreatDoor
open Go.RowKit Go.Maps
attribute [local go_sem ↓] Go.wp_at_zero Go.wp_at_succ
namespace So
open Hp (Kept K No Pg BlR Bl Wl liveL)
variable {w w' : World} {B : Nat} {A : Ad} {pg : List (Int × Nat)} {W : Int → Int} {L : List Pg} {v : Value} {T : List Hd.Sl}

end So
end Go.Proofs.YtbbjfebdihepnaaGreatDoor

/-
  A store that is not there, or that nobody made; and the walk of the statement on it.
-/
namespace Go.Proofs.YtbbjfebdihepnaaGreatDoor
open Go.RowKit Go.Maps
attribute [local go_sem ↓] Go.wp_at_zero Go.wp_at_succ
namespace So
open Hp (Kept K No)
variable {w w' : World} {v : Value}

/-- No store. -/
def Un (w : World) (v : Value) : Prop := ∀ w', K w w' → Calls Tryz.prog 43 #[v] w' fun e w'' => e = .returned (.bool false) ∧ w' = w''
theorem Un.keep (h : Un w v) (k : K w w') : Un w' v := fun w2 k2 => h w2 (k.trans k2)
end So
end Go.Proofs.YtbbjfebdihepnaaGreatDoor

/-
  StoreFull: what makes and drops do to the slots and the pages; a row of handles beside a store.
-/
namespace Go.Proofs.YtbbjfebdihepnaaGreatDoor
open Go.RowKit Go.Maps
namespace So
open Hp (Kept K No Pg BlR Bl Wl Same SameBut allocL dropL findB roomI granted)
open Hd (U64 findL openL nm)

section
variable {L L' : List Pg} {T T' : List Hd.Sl} {W : Int → Int} {q m z : Int}

theorem del_granted (n : Int) : ∀ {L : List Pg}, (∀ p ∈ L, 1 ≤ p.span) → granted (Hp.delL L n) ≤ granted L
  | [], _ => Int.le_refl _
  | p :: L, h => by
    have ih := del_granted n (L := L) (fun r hr => h r (by simp [hr]))
    have hp := h p (by simp)
    unfold Hp.delL granted at *
    rw [List.filter_cons]
    split
    · simp only [List.map_cons, List.sum_cons]
      omega
    · simp only [List.map_cons, List.sum_cons]
      omega
theorem drop_granted (l : Wl L) {p : Pg} (hp : p ∈ L) (k : Int) : granted (dropL L p k) ≤ granted L := by
  have h1 : ∀ r ∈ L, 1 ≤ r.span := fun r hr => (l.ent r hr).span.1
  unfold dropL
  split
  · exact del_granted _ h1
  · split
    · exact del_granted _ h1
    · rw [Hp.granted_upd (fun r hr hn => by rw [l.inj hr hp hn]; rfl)]
      exact Int.le_refl _
/-- How many slots are closed. -/
def cl (T : List Hd.Sl) : Nat := T.countP fun s => !s.o
theorem Rec.len (r : Rec L W T) (l : Wl L) (hl : T.length ≤ 65536) : (Hp.liveL L).length = (T.filter fun s => s.o).length := by
  have h := r.aud l hl
  unfold audS at h
  split at h
  · next e =>
    rw [Hd.liveL, opens_len] at e
    omega
  · cases h

end

variable {w0 w w' : World} {A : Ad} {pg pg' : List (Int × Nat)} {W : Int → Int} {L : List Pg} {v v' vl u : Value} {T : List Hd.Sl} {hs : List Int}

/-- A row of handles beside a store. -/
structure Hr (w0 w : World) (A : Ad) (pg : List (Int × Nat)) (v vl : Value) (hs : List Int) : Prop where
  rl : w.ownsRow w0.heap.size 28 1 vl hs.length (hs.map Hd.encU)
  ap : ∀ b, some b = vl.ownBlock → ¬ foot A pg v b ∧ b ≠ A.bh ∧ b ≠ A.st
theorem Hr.step (h : Hr w0 w A pg v vl hs) (s : Stp A pg pg' v v' w w') : Hr w0 w' A pg' v' vl hs :=
  ⟨Hd.ownsRow_kept h.rl s.k (fun g hg => (h.ap g hg).1), fun b hb => ⟨s.off (Hd.own_lt h.rl hb).2 (h.ap b hb).1, (h.ap b hb).2⟩⟩
theorem Hr.keep (h : Hr w0 w A pg v vl hs) (k : K w w') : Hr w0 w' A pg v vl hs := h.step (Stp.ofK k)
theorem Hr.app {o : Obj} (h : Hr w0 w A pg v vl hs) (rn : Rn w0 w A pg W L v T) (z0 : 1 < w0.heap.size) {x : Int} (hown : w'.ownsRow w0.heap.size 28 1 u (hs.length + 1) (hs.map Hd.encU ++ [Hd.encU x])) (hg : (w.alloc o).grownBy w' vl.ownBlock) (hat : u.ownBlock = vl.ownBlock ∨ u.ownBlock = some (w.alloc o).heap.size) :
    Hr w0 w' A pg v u (hs ++ [x]) ∧ Rn w0 w' A pg W L v T := by
  have hsz := hg.size
  simp at hsz
  have k : Kept (fun k => some k = vl.ownBlock) w w' := ⟨hg.os, hg.tape, hg.output, by omega, fun j hj hn => by rw [hg.block j (by simp; omega) hn, Below.heap_alloc w o j hj]⟩
  have h1 : A.bh < w.heap.size := Hp.lt_of_cell rn.s.b.hp.hw.c0
  have h2 := rn.s.b.lt
  refine ⟨⟨by rw [List.length_append, List.map_append]; exact hown, fun b hb => ?_⟩, ⟨⟨rn.s.b.kept k (fun j hj => ⟨(h.ap j hj).1, (h.ap j hj).2.1, by have := (Hd.own_lt h.rl hj).1; omega, (h.ap j hj).2.2⟩), rn.s.r⟩, ?_⟩⟩
  · rcases hat with e | e
    · exact h.ap b (by rw [hb, e])
    · rw [e] at hb
      have : b = (w.alloc o).heap.size := Option.some.inj hb
      simp at this
      exact ⟨fun hf => by have := rn.s.b.flt hf; omega, by omega, by omega⟩
  · exact ⟨k.os.trans rn.k.os, k.tape.trans rn.k.tape, k.output.trans rn.k.output, Nat.le_trans rn.k.size k.size, fun j hj hn => (k.same j (Nat.lt_of_lt_of_le hj rn.k.size) (fun hx => by have := (Hd.own_lt h.rl hx).1; omega)).trans (rn.k.same j hj hn)⟩

end So
end Go.Proofs.YtbbjfebdihepnaaGreatDoor
