/-
  Walks of package store's New, and of what it calls without pages and slots.
-/
import Derived.Test.YtbbjfebdihepnaaGreatDoorE2
import Derived.Defers
namespace Go.Proofs.YtbbjfebdihepnaaGreatDoor
open Go.RowKit Go.Maps
attribute [local go_sem ↓] Go.wp_at_zero Go.wp_at_succ
namespace So
open Hp (Kept K No Pg BlR Bl Wl liveL)
variable {w w' : World} {B : Nat} {A : Ad} {pg : List (Int × Nat)} {W : Int → Int} {L : List Pg} {v : Value} {T : List Hd.Sl}

theorem areNumbered_nil (w : World) : Calls Tryz.prog 103 #[.slice none 0 0] w fun e w' => e = .returned (.bool true) ∧ w = w' := by
  go_enter Tryz.func103, Tryz.ntmps103
  go_wp2
  go_loopg [8] 0 (fun _ t wx => t = .int .i64 0 ∧ w = wx)
  case atStart => exact ⟨rfl, rfl⟩
  case round =>
    obtain ⟨rfl, rfl⟩ := hrel
    go_wp2
    go_ret
    exact ⟨rfl, rfl⟩

theorem layAll_nil (p : Value) (w : World) : Calls Tryz.prog 75 #[p, .slice none 0 0] w fun e w' => e = .returned (.int .i64 0) ∧ w = w' := by
  have an := areNumbered_nil w
  go_enter Tryz.func75, Tryz.ntmps75
  go_wp2_with (go_at_call 103; refine an.mono ?_; rintro e w1 ⟨rfl, rfl⟩)
  go_loopg [13] 0 (fun _ t wx => t = .int .i64 0 ∧ w = wx)
  case atStart => exact ⟨rfl, rfl⟩
  case round =>
    obtain ⟨rfl, rfl⟩ := hrel
    go_wp2
    go_ret
    exact ⟨rfl, rfl⟩

theorem own_low {n₀ n₁ k m : Nat} {t : TypeId} {u : Value} {xs : List Value} (h : w.ownsRow n₁ t m u k xs) (hn : n₀ ≤ n₁) : w.ownsRow n₀ t m u k xs := by
  obtain ⟨h1, h2⟩ := h
  refine ⟨h1, ?_⟩
  rcases h2 with h2 | ⟨g, cap, cur, e, hb, rest⟩
  · exact .inl h2
  · exact .inr ⟨g, cap, cur, e, Nat.le_trans hn hb, rest⟩
theorem tab_low {B' bt : Nat} {q z : Int} (h : Hd.Tab w B bt q z v T) (hB : B' ≤ B) : Hd.Tab w B' bt q z v T := ⟨h.hd, own_low h.row hB, h.ap, h.wf, Nat.le_trans hB h.lo⟩

theorem src_nil (w : World) : Hd.Src w none 0 0 0 0 [] := ⟨rfl, fun i hi => by omega, fun j u hu => by simp [Hd.rowVals] at hu, fun h => by omega⟩

/-- What New makes. -/
def NewPost (w : World) (q m z : Int) (e : Ending) (w' : World) : Prop := ∃ A v, e = .returned (.tuple #[sp A.st, .int .i64 0]) ∧ Sw w' w.heap.size A [] (fun _ => 0) [] v [] ∧ K w w' ∧ A.q = q ∧ A.m = m ∧ A.z = z ∧ w.heap.size ≤ A.st ∧ w.heap.size ≤ A.bh

set_option maxRecDepth 100000 in
set_option maxHeartbeats 2000000 in
theorem of_nil (q m z : Int) (w : World) (hT : Bt.Tab w) (q0 : 0 ≤ q) (q1 : q ≤ 262144) (m0 : 1 ≤ m) (m1 : m ≤ 65536) (z0 : 1 ≤ z) (z1 : z ≤ 4294967295) :
    Calls Tryz.prog 51 #[.agg #[.int .i64 q, .int .i64 m, .int .u32 z, .slice none 0 0, .slice none 0 0]] w (NewPost w q m z) := by
  obtain ⟨w1, hw1⟩ : ∃ w1, w1 = w.alloc (.cells #[.int .i64 q, .int .i64 m, .int .u32 z, .slice none 0 0, .slice none 0 0] 103) := ⟨_, rfl⟩
  have k1 : K w w1 := by rw [hw1]; exact (K.refl w).alloc _
  have hb1 : w1.heap[w.heap.size]? = some (.cells #[.int .i64 q, .int .i64 m, .int .u32 z, .slice none 0 0, .slice none 0 0] 103) := by rw [hw1]; exact World.alloc_heap_new _ _
  have hs1 : w.heap.size < w1.heap.size := (Array.getElem?_eq_some_iff.1 hb1).1
  have cs : ∀ w2, K w1 w2 → w2.cell? ⟨w.heap.size, 0, none⟩ = some (.int .i64 q) ∧ w2.cell? ⟨w.heap.size, 1, none⟩ = some (.int .i64 m) ∧ w2.cell? ⟨w.heap.size, 2, none⟩ = some (.int .u32 z) ∧ w2.cell? ⟨w.heap.size, 3, none⟩ = some (.slice none 0 0) ∧ w2.cell? ⟨w.heap.size, 4, none⟩ = some (.slice none 0 0) := fun w2 k2 => by
    have := k2.block hb1
    exact ⟨by simp [World.cell?, this], by simp [World.cell?, this], by simp [World.cell?, this], by simp [World.cell?, this], by simp [World.cell?, this]⟩
  have CS : Aside _ := cs
  obtain ⟨x0, x1, x2, x3, x4⟩ := cs w1 (K.refl _)
  have sn := Sl.new_ok q w1 q0 q1
  have hz := Hp.lt0 hT
  clear cs
  go_enter Tryz.func51, Tryz.ntmps51
  go_wp2_with fail
  rw [← hw1]
  refine sn.mono ?_
  rintro e w2 ⟨rfl, a2, b2⟩
  have k2 := K.of_below b2
  have tn := Hd.new_ok m z w2 m0 m1 z0 z1
  clear x0 x1 x2 x3 x4 hw1
  obtain ⟨x0, x1, x2, x3, x4⟩ := CS.out w2 k2
  go_wp2_with fail
  refine tn.mono ?_
  rintro e w3 ⟨rfl, _, k3⟩
  have ln := layAll_nil (.pointer (some ⟨w1.heap.size + 1, 0, none⟩)) w3
  clear x0 x1 x2 x3 x4
  obtain ⟨x0, x1, x2, x3, x4⟩ := CS.out w3 (k2.trans k3)
  go_wp2_with (go_at_call 75; refine ln.mono ?_; rintro e w4 ⟨rfl, rfl⟩)
  have to := Hd.of_in m z (src_nil w3) m0 m1 z0 z1 (by omega) (fun s hs => by cases hs)
  refine to.mono ?_
  rintro e w4 (⟨hno, _⟩ | ⟨_, v4, rfl, t4, k4⟩)
  · have : Hd.okL m z [] = true := by simp [Hd.okL]; omega
    rw [this] at hno
    cases hno
  have k24 := (k3.trans k4)
  have a4 : Sl.Arena w4 (w1.heap.size + 1) w1.heap.size q [] (fun _ => 0) := a2.stays fun j hj => k24.same j (a2.foot_lt hj) (fun x => x)
  have hn := Hp.new_any a4 (hT.keep (k1.trans (k2.trans k24)).toBt) (fun hf => by
    rcases hf with h | h | ⟨p, hp, _⟩
    · omega
    · omega
    · cases hp)
  clear x0 x1 x2 x3 x4 tn ln to
  obtain ⟨x0, x1, x2, x3, x4⟩ := CS.out w4 (k2.trans k24)
  go_wp2_with fail
  refine hn.mono ?_
  rintro e w5 ⟨he, _, h5, k5⟩
  have e0 := he (by decide)
  subst e0
  clear x0 x1 x2 x3 x4 he hn
  obtain ⟨x0, x1, x2, x3, x4⟩ := CS.out w5 ((k2.trans k24).trans k5)
  obtain ⟨w6, hw6⟩ : ∃ w6, w6 = w5.alloc (.cells #[.pointer (some ⟨w1.heap.size + 1, 0, none⟩), .pointer (some ⟨w4.heap.size, 0, none⟩), .pointer (some ⟨w3.heap.size, 0, none⟩), .int .i64 m, .int .u32 z] 90) := ⟨_, rfl⟩
  have k6 : K w5 w6 := by rw [hw6]; exact (K.refl w5).alloc _
  have hb6 : w6.heap[w5.heap.size]? = some (.cells #[.pointer (some ⟨w1.heap.size + 1, 0, none⟩), .pointer (some ⟨w4.heap.size, 0, none⟩), .pointer (some ⟨w3.heap.size, 0, none⟩), .int .i64 m, .int .u32 z] 90) := by rw [hw6]; exact World.alloc_heap_new _ _
  have sz2 := b2.size
  have sz3 := k3.size
  have sz4 := k4.size
  have sz5 := k5.size
  have fl2 : w1.heap.size + 1 < w2.heap.size := a2.foot_lt (.inl rfl)
  have tb4 : ∀ {g : Nat}, Hd.foot w3.heap.size v4 g → w3.heap.size ≤ g ∧ g < w4.heap.size := fun hg => t4.foot_lt hg
  have sb : Sb w6 w.heap.size ⟨w5.heap.size, w4.heap.size, w1.heap.size + 1, w1.heap.size, w3.heap.size, q, m, z⟩ [] (fun _ => 0) [] v4 [] := by
    have ar : ∀ k, Sl.foot (w1.heap.size + 1) w1.heap.size [] k → k = w1.heap.size + 1 ∨ k = w1.heap.size := fun k hk => by
      rcases hk with h | h | ⟨p, hp, _⟩
      · exact .inl h
      · exact .inr h
      · cases hp
    refine ⟨hb6, ⟨h5.keep k6, Hp.Lay.nil _⟩, (tab_low t4 (by omega)).keep (k5.trans k6), fun k hk => ?_, fun k hk hf => ?_, fun hf => ?_, fun hf => ?_, fun hf => ?_, fun hk => ?_⟩
    · have := ar k hk
      omega
    · have := ar k hk
      have := tb4 hf
      omega
    · have : w3.heap.size ≤ w4.heap.size ∧ w4.heap.size < w4.heap.size := tb4 hf
      omega
    · have := tb4 hf
      omega
    · have : w3.heap.size ≤ w5.heap.size ∧ w5.heap.size < w4.heap.size := tb4 hf
      omega
    · have : w5.heap.size = w1.heap.size + 1 ∨ w5.heap.size = w1.heap.size := ar _ hk
      omega
  have au := audit_ok ⟨sb, Rec.nil _⟩
  have SB : Aside _ := sb
  have k06 := ((k1.trans (k2.trans k24)).trans k5).trans k6
  clear sb tb4
  go_wp2_with fail
  rw [← hw6]
  refine au.mono ?_
  rintro e w7 ⟨rfl, k7⟩
  go_wp2
  go_ret2
  exact ⟨_, v4, rfl, ⟨SB.out.keep k7, Rec.nil _⟩, k06.trans k7, rfl, rfl, rfl, (by show w.heap.size ≤ w5.heap.size; omega), (by show w.heap.size ≤ w4.heap.size; omega)⟩

theorem new_ok (q m z : Int) (w : World) (hT : Bt.Tab w) (q0 : 0 ≤ q) (q1 : q ≤ 262144) (m0 : 1 ≤ m) (m1 : m ≤ 65536) (z0 : 1 ≤ z) (z1 : z ≤ 4294967295) :
    Calls Tryz.prog 28 #[.int .i64 q, .int .i64 m, .int .u32 z] w (NewPost w q m z) := by
  have on := of_nil q m z w hT q0 q1 m0 m1 z0 z1
  go_enter Tryz.func28, Tryz.ntmps28
  go_wp2_with fail
  refine on.mono ?_
  rintro e w1 ⟨A, v, rfl, hs, k, rest⟩
  have HS : Aside _ := hs
  have HR : Aside _ := rest
  clear hs rest
  go_wp2
  go_ret2
  exact ⟨A, v, rfl, HS.out, k, HR.out⟩

end So
end Go.Proofs.YtbbjfebdihepnaaGreatDoor

/-
  The walk of package store's Make, where a slot is free.
-/
namespace Go.Proofs.YtbbjfebdihepnaaGreatDoor
open Go.RowKit Go.Maps
attribute [local go_sem ↓] Go.wp_at_zero Go.wp_at_succ
namespace So
open Hp (Kept K No Pg BlR Bl Wl Same allocL)
variable {w w' : World} {B : Nat} {A : Ad} {pg pg' : List (Int × Nat)} {W : Int → Int} {L L' : List Pg} {v v' : Value} {T : List Hd.Sl}

/-- A variable of one's own, beside a store. -/
structure Bx (A : Ad) (pg : List (Int × Nat)) (v : Value) (w : World) (b : Nat) (t : TypeId) (u : Value) : Prop where
  hb : w.heap[b]? = some (.cells #[u] t)
  off : ¬ foot A pg v b
variable {b c : Nat} {t t' : TypeId} {u u' x : Value}
theorem Bx.cell (h : Bx A pg v w b t u) : w.cell? ⟨b, 0, none⟩ = some u := by simp [World.cell?, h.hb]
theorem Bx.fz (h : Bx A pg v w b t u) : w.frozen? ⟨b, 0, none⟩ = false := by simp [World.frozen?, h.hb]
theorem Bx.lt (h : Bx A pg v w b t u) : b < w.heap.size := (Array.getElem?_eq_some_iff.1 h.hb).1
theorem Bx.keep (h : Bx A pg v w b t u) (k : K w w') : Bx A pg v w' b t u := ⟨k.block h.hb, h.off⟩
theorem Bx.step (h : Bx A pg v w b t u) (s : Stp A pg pg' v v' w w') : Bx A pg' v' w' b t u := ⟨s.block h.hb h.off, s.off h.lt h.off⟩
theorem Bx.other (h : Bx A pg v w b t u) (hne : b ≠ c) (x : Value) : Bx A pg v (w.setCell ⟨c, 0, none⟩ x) b t u := ⟨by
  have k : Kept (fun j => j = c) w (w.setCell ⟨c, 0, none⟩ x) := (Kept.refl _ _).setCell _ (.inl rfl)
  exact k.block h.hb hne, h.off⟩
theorem Bx.set (h : Bx A pg v w b t u) (x : Value) : Bx A pg v (w.setCell ⟨b, 0, none⟩ x) b t x := ⟨by
  have := Sl.heap_setCell_same (i := 0) h.hb x
  simpa using this, h.off⟩
/-- New variables are nobody's. -/
theorem Sb.newBx (h : Sb w B A pg W L v T) (u : Value) (t : TypeId) : Bx A pg v (w.alloc (.cells #[u] t)) w.heap.size t u :=
  ⟨World.alloc_heap_new _ _, fun hf => by have := h.flt hf; omega⟩
theorem Sb.setBx (h : Sb w B A pg W L v T) (hb : Bx A pg v w b t u) (x : Value) (h1 : b ≠ A.bh) (h2 : b ≠ 1) (h3 : b ≠ A.st) : Sb (w.setCell ⟨b, 0, none⟩ x) B A pg W L v T := by
  have k : Kept (fun j => j = b) w (w.setCell ⟨b, 0, none⟩ x) := (Kept.refl _ _).setCell _ (.inl rfl)
  exact h.kept k (fun j hj => by subst hj; exact ⟨hb.off, h1, h2, h3⟩)

/-- Behind what turns a variable of one's own. -/
theorem Stp.own {w1 w2 : World} (s : Stp A pg pg' v v' w w1) (k : Kept (fun j => j = b) w1 w2) (hb : w.heap.size ≤ b) : Stp A pg pg' v v' w w2 :=
  ⟨⟨k.os.trans s.k.os, k.tape.trans s.k.tape, k.output.trans s.k.output, Nat.le_trans s.k.size k.size, fun j hj hn => (k.same j (Nat.lt_of_lt_of_le hj s.k.size) (fun e => by omega)).trans (s.k.same j hj hn)⟩, s.inn⟩

/-- The deferred call, where a record was made. -/
theorem makeD_idle (p : Addr) (x1 x2 x3 : Value) (u : FrameMode) (w : World) (hc : w.cell? p = some (.int .i64 0)) : CallsD Tryz.prog 86 #[.pointer (some p), x1, x2, x3] u w fun e u' w' => u' = u ∧ (e = .returned (.tuple #[]) ∧ w' = w) := by
  go_enter_d Tryz.func86, Tryz.ntmps86
  go_wp2
  go_end0
  exact ⟨rfl, rfl⟩

theorem nm_word {m z a x : Int} {T T' : List Hd.Sl} (a0 : 0 ≤ a) (hl : T.length ≤ 65536) (wf : Hd.Wf m z T') (e : Hd.openL m z T a = (x, 0, T')) : Sl.WordOk x ∧ Hd.U64 x := by
  obtain ⟨i, g, hh, hi, _, _, hlt⟩ := open_slots a0 hl e
  have hk := wf.get hi
  have h1 : 1 ≤ g := hk.lo
  have h2 : g ≤ z := hk.hi
  have h3 := wf.z1
  have hb : 0 ≤ x ∧ x ≤ 18446744073709551615 := by
    rw [hh]
    unfold Hd.nm
    omega
  refine ⟨?_, hb⟩
  unfold Sl.WordOk
  have e1 : IntKind.u64.min = 0 := rfl
  have e2 : IntKind.u64.max = 18446744073709551615 := rfl
  simp only [Lit.wf, Bool.and_eq_true, decide_eq_true_eq]
  omega

set_option maxRecDepth 100000 in
set_option maxHeartbeats 2000000 in
theorem make_ok (h : Sw w B A pg W L v T) (hB : B ≤ w.heap.size) (n : Int) (n0 : 0 ≤ n) (n1 : n ≤ 3998) (hfu : fullB A.m A.z T = false) {a : Int} (ea : allocL A.q L (2 + n) = (a, 0, L')) :
    Calls Tryz.prog 58 #[sp A.st, .int .i64 n] w fun e w' => ∃ x T', Hd.openL A.m A.z T a = (x, 0, T') ∧ e = .returned (.tuple #[.int .u64 x, .int .i64 0]) ∧ ∃ pg' W' v', Sw w' B A pg' W' L' v' T' ∧ Same L W W' ∧ W' a = x ∧ W' (a + 1) = n ∧ (∀ i, 0 ≤ i → i < n → W' (a + 2 + i) = 0) ∧ Stp A pg pg' v v' w w' := by
  have hmf : ∀ (fn : Fn) (first cap : Array Value) (w : World), (Instr.makeFunc fn first cap).run Tryz.prog w = .ok (.func fn first cap) w := fun _ _ _ _ => rfl
  obtain ⟨w1, hw1⟩ : ∃ w1, w1 = (w.alloc (.cells #[sp A.st] 26)).alloc (.cells #[.int .i64 0] 31) := ⟨_, rfl⟩
  have k1 : K w w1 := by rw [hw1]; exact ((K.refl w).alloc _).alloc _
  have bs1 : Bx A pg v w1 w.heap.size 26 (sp A.st) := by rw [hw1]; exact (h.b.newBx _ _).keep ((K.refl _).alloc _)
  have be1 : Bx A pg v w1 (w.heap.size + 1) 31 (.int .i64 0) := by
    have := (h.b.keep ((K.refl w).alloc (.cells #[sp A.st] 26))).newBx (.int .i64 0) 31
    rw [hw1]
    simpa using this
  have LT1 : Aside (w.heap.size + 1 < w1.heap.size) := be1.lt
  have hm := made_ok (h.b.keep k1)
  have ar := atRisk_no (h.b.keep k1) hfu
  have cs := bs1.cell
  have hB1 := Nat.le_trans hB k1.size
  go_enter_defers Tryz.func58, Tryz.ntmps58
  go_wp2_with fail
  rw [← hw1]
  clear hw1
  refine hm.mono ?_
  rintro e w2 ⟨rfl, rfl⟩
  go_wp2_with fail
  refine ar.mono ?_
  rintro e w2 ⟨rfl, k2⟩
  clear hm ar cs
  obtain ⟨w3, hw3⟩ : ∃ w3, w3 = w2.alloc (.cells #[.slice none 0 0] 100) := ⟨_, rfl⟩
  have k3 : K w2 w3 := by rw [hw3]; exact (K.refl w2).alloc _
  have k13 := k2.trans k3
  have b3 := h.b.keep (k1.trans k13)
  have bs3 := bs1.keep k13
  have be3 := be1.keep k13
  have bw3 : Bx A pg v w3 w2.heap.size 100 (.slice none 0 0) := by rw [hw3]; exact (h.b.keep (k1.trans k2)).newBx _ _
  have al := b3.alloc (Nat.le_trans hB1 k13.size) (2 + n) a 0 ea
  have b2 := h.b.keep (k1.trans k2)
  have cs := (bs1.keep k2).cell
  have ls := (bs1.keep k2).lt
  have c1 := b2.c1
  have lc := b2.lt
  go_wp2_with fail
  rw [← hw3]
  refine al.mono ?_
  rintro e w4 ⟨rfl, pg4, W4, b4, sm4, hz4, t4⟩
  have bs4 := bs3.step t4
  have be4 := be3.step t4
  have bw4 := bw3.step t4
  have t04 := (Stp.ofK (A := A) (pg := pg) (v := v) (k1.trans k13)).trans t4
  clear al cs c1 hw3 bs3 be3 bw3 bs1 be1 ls lc b2
  have hbh : w.heap.size + 1 ≠ A.bh := by have : A.bh < w.heap.size := Hp.lt_of_cell h.b.hp.hw.c0; omega
  have hb0 : w.heap.size + 1 ≠ 1 := by have := Hp.lt0 h.b.hp.hw.tab; omega
  have hbs : w.heap.size + 1 ≠ A.st := by have := h.b.lt; omega
  have e4 := be4.cell
  have f4 := be4.fz
  have lt4 := be4.lt
  have ltw := bw4.lt
  have lts := bs4.lt
  obtain ⟨w5, hw5⟩ : ∃ w5, w5 = w4.setCell ⟨w.heap.size + 1, 0, none⟩ (.int .i64 0) := ⟨_, rfl⟩
  have sz5 : w5.heap.size = w4.heap.size := by rw [hw5]; simp [World.setCell]
  have b5 : Sb w5 B A pg4 W4 L' v T := by rw [hw5]; exact b4.setBx be4 _ hbh hb0 hbs
  have bs5 : Bx A pg4 v w5 w.heap.size 26 (sp A.st) := by rw [hw5]; exact bs4.other (by omega) _
  have be5 : Bx A pg4 v w5 (w.heap.size + 1) 31 (.int .i64 0) := by rw [hw5]; exact be4.set _
  have lw2 : w.heap.size + 1 < w2.heap.size := Nat.lt_of_lt_of_le LT1.out k2.size
  have bw5 : Bx A pg4 v w5 w2.heap.size 100 (.slice none 0 0) := by rw [hw5]; exact bw4.other (by omega) _
  obtain ⟨w6, hw6⟩ : ∃ w6, w6 = w5.alloc (.cells #[.int .i64 a] 3) := ⟨_, rfl⟩
  have k6 : K w5 w6 := by rw [hw6]; exact (K.refl w5).alloc _
  have ba6 : Bx A pg4 v w6 w4.heap.size 3 (.int .i64 a) := by rw [hw6, ← sz5]; exact b5.newBx _ _
  have b6 := b5.keep k6
  have bs6 := bs5.keep k6
  have be6 := be5.keep k6
  have bw6 := bw5.keep k6
  have t46 : Kept (fun k => k = w.heap.size + 1) w4 w6 := by
    have : Kept (fun k => k = w.heap.size + 1) w4 (w4.setCell ⟨w.heap.size + 1, 0, none⟩ (.int .i64 0)) := (Kept.refl _ _).setCell _ (.inl rfl)
    rw [hw6, hw5]
    exact this.alloc _
  have HW : Aside ((w4.setCell ⟨w.heap.size + 1, 0, none⟩ (.int .i64 0)).alloc (.cells #[.int .i64 a] 3) = w6) := by show _ = _; rw [hw6, hw5]
  clear hw5 hw6 sz5 b5 bs5 be5 bw5 k6
  go_wp2
  rw [HW.out]
  clear HW e4 f4 lt4 ltw lts
  obtain ⟨x, er, T', eo⟩ : ∃ x er T', Hd.openL A.m A.z T a = (x, er, T') := ⟨_, _, _, rfl⟩
  have hat := b6.at ((allocRm h.b.wl (x := 2 + n) ⟨by omega, by omega⟩ ea).2 a _ |>.2 (.inl ⟨rfl, rfl⟩))
  have a0 := hat.1
  have a1 : a ≤ 67108864 := by have := rm_ge (x := 2 + n) ⟨by omega, by omega⟩; omega
  obtain rfl : er = 0 := by
    rcases full_open (T := T) (by omega) eo with ⟨_, h2⟩ | ⟨h2, _⟩
    · exact h2
    · rw [hfu] at h2; cases h2
  have op := (b6.keep (K.refl w6).drew).opn a x 0 (by omega) eo
  have op2 : Calls Tryz.prog 88 #[Hd.tp A.bt, .int .i64 a] w6.drew fun e w' => e = .returned (.tuple #[.int .u64 x, .int .i64 0]) ∧ Aside (∃ v7, Sb w' B A pg4 W4 L' v7 T' ∧ Stp A pg4 pg4 v v7 w6 w') ∧ w'.cell? ⟨w.heap.size, 0, none⟩ = some (sp A.st) ∧ w'.cell? ⟨A.st, 2, none⟩ = some (.pointer (some ⟨A.bt, 0, none⟩)) ∧ w'.cell? ⟨w4.heap.size, 0, none⟩ = some (.int .i64 a) ∧ w'.cell? ⟨w.heap.size + 1, 0, none⟩ = some (.int .i64 0) ∧ w'.frozen? ⟨w.heap.size + 1, 0, none⟩ = false ∧ (w'.setCell ⟨w.heap.size + 1, 0, none⟩ (.int .i64 0)).cell? ⟨w.heap.size, 0, none⟩ = some (sp A.st) ∧ (w'.setCell ⟨w.heap.size + 1, 0, none⟩ (.int .i64 0)).cell? ⟨A.st, 2, none⟩ = some (.pointer (some ⟨A.bt, 0, none⟩)) ∧ (w'.setCell ⟨w.heap.size + 1, 0, none⟩ (.int .i64 0)).cell? ⟨w4.heap.size, 0, none⟩ = some (.int .i64 a) := by
    refine op.mono ?_
    rintro e w7 ⟨rfl, v7, b7, t7⟩
    have t67 := (Stp.ofK (A := A) (pg := pg4) (v := v) (K.refl w6).drew).trans t7
    exact ⟨rfl, ⟨v7, b7, t67⟩, (bs6.step t67).cell, b7.c2, (ba6.step t67).cell, (be6.step t67).cell, (be6.step t67).fz, ((bs6.step t67).other (by omega) _).cell, (b7.setBx (be6.step t67) _ hbh hb0 hbs).c2, ((ba6.step t67).other (by have := be4.lt; omega) _).cell⟩
  have cs := bs6.cell
  have c2 := b6.c2
  have ca := ba6.cell
  have ce := be6.cell
  have fe := be6.fz
  clear op hat
  go_region_held3 (fun w' => w'.cell? ⟨w.heap.size, 0, none⟩ = some (sp A.st) ∧ w'.cell? ⟨A.st, 2, none⟩ = some (.pointer (some ⟨A.bt, 0, none⟩)) ∧ w'.cell? ⟨w4.heap.size, 0, none⟩ = some (.int .i64 a))
    (first | exact ⟨cs, c2, ca⟩ | exact ⟨y0, y1, y2⟩ | exact ⟨z0, z1, z2⟩)
    (first | (go_at_call 88; refine op2.mono ?_; rintro e w7 ⟨rfl, HP, y0, y1, y2, y3, y4, z0, z1, z2⟩))
  obtain ⟨v7, b7, t7⟩ := HP.out
  have be7 := be6.step t7
  obtain ⟨w8, hw8⟩ : ∃ w8, w8 = w7.setCell ⟨w.heap.size + 1, 0, none⟩ (.int .i64 0) := ⟨_, rfl⟩
  have b8 : Sb w8 B A pg4 W4 L' v7 T' := by rw [hw8]; exact b7.setBx be7 _ hbh hb0 hbs
  have bs8 : Bx A pg4 v7 w8 w.heap.size 26 (sp A.st) := by rw [hw8]; exact (bs6.step t7).other (by omega) _
  have be8 : Bx A pg4 v7 w8 (w.heap.size + 1) 31 (.int .i64 0) := by rw [hw8]; exact be7.set _
  have ba8 : Bx A pg4 v7 w8 w4.heap.size 3 (.int .i64 a) := by rw [hw8]; exact (ba6.step t7).other (by have := be4.lt; omega) _
  have k78 : Kept (fun k => k = w.heap.size + 1) w7 w8 := by rw [hw8]; exact (Kept.refl _ _).setCell (p := ⟨w.heap.size + 1, 0, none⟩) _ (.inl rfl)
  have hBx : B ≤ w8.heap.size := by
    have h1 := t04.k.size
    have h2 := t46.size
    have h3 := t7.k.size
    have h4 := k78.size
    omega
  have hA : BlR L' a (rmI (2 + n)) := (allocRm h.b.wl (x := 2 + n) ⟨by omega, by omega⟩ ea).2 a _ |>.2 (.inl ⟨rfl, rfl⟩)
  have hg := rm_ge (x := 2 + n) ⟨by omega, by omega⟩
  have hxw := (nm_word (by omega) h.b.tl b7.tb.wf eo).1
  have wr := (b8.keep (K.refl w8).drew).write hBx hA (i := 0) (by omega) (by omega) hxw
  rw [Int.add_zero] at wr
  have wr2 : Calls Tryz.prog 89 #[.pointer (some ⟨A.bs, 0, none⟩), .int .i64 a, .int .u64 x] w8.drew fun e w' => e = .returned (.int .i64 0) ∧ Aside (Sb w' B A pg4 (Sl.upd W4 a x) L' v7 T' ∧ Stp A pg4 pg4 v7 v7 w8 w') ∧ w'.cell? ⟨w.heap.size, 0, none⟩ = some (sp A.st) ∧ w'.cell? ⟨A.st, 0, none⟩ = some (.pointer (some ⟨A.bs, 0, none⟩)) ∧ w'.cell? ⟨w4.heap.size, 0, none⟩ = some (.int .i64 a) := by
    refine wr.mono ?_
    rintro e w9 ⟨rfl, b9, t9⟩
    have t89 := (Stp.ofK (A := A) (pg := pg4) (v := v7) (K.refl w8).drew).trans t9
    exact ⟨rfl, ⟨b9, t89⟩, (bs8.step t89).cell, b9.c0, (ba8.step t89).cell⟩
  clear cs c2 ca ce fe y0 y1 y2 y3 y4 z0 z1 z2 HP op2 wr
  have cs := bs8.cell
  have c0 := b8.c0
  have ca := ba8.cell
  have ce := be7.cell
  have fe := be7.fz
  go_wp2
  rw [← hw8]
  clear hw8 ce fe
  go_region_held3 (fun w' => w'.cell? ⟨w.heap.size, 0, none⟩ = some (sp A.st) ∧ w'.cell? ⟨A.st, 0, none⟩ = some (.pointer (some ⟨A.bs, 0, none⟩)) ∧ w'.cell? ⟨w4.heap.size, 0, none⟩ = some (.int .i64 a))
    (first | exact ⟨cs, c0, ca⟩ | exact ⟨y0, y1, y2⟩)
    (first | (go_at_call 89; refine wr2.mono ?_; rintro e w9 ⟨rfl, HP, y0, y1, y2⟩))
  obtain ⟨b9, t9⟩ := HP.out
  have bs9 := bs8.step t9
  have be9 := be8.step t9
  have ba9 := ba8.step t9
  have hnw : Sl.WordOk n := by
    unfold Sl.WordOk
    have e1 : IntKind.u64.min = 0 := rfl
    have e2 : IntKind.u64.max = 18446744073709551615 := rfl
    simp only [Lit.wf, Bool.and_eq_true, decide_eq_true_eq]
    omega
  have ws := (b9.keep (K.refl w9).drew).write (Nat.le_trans hBx t9.k.size) hA (i := 1) (by omega) (by omega) hnw
  have ws2 : Calls Tryz.prog 89 #[.pointer (some ⟨A.bs, 0, none⟩), .int .i64 (a + 1), .int .u64 n] w9.drew fun e w' => e = .returned (.int .i64 0) ∧ Aside (Sb w' B A pg4 (Sl.upd (Sl.upd W4 a x) (a + 1) n) L' v7 T' ∧ Stp A pg4 pg4 v7 v7 w9 w') ∧ w'.cell? ⟨w.heap.size, 0, none⟩ = some (sp A.st) ∧ w'.cell? ⟨A.st, 0, none⟩ = some (.pointer (some ⟨A.bs, 0, none⟩)) ∧ w'.cell? ⟨w4.heap.size, 0, none⟩ = some (.int .i64 a) := by
    refine ws.mono ?_
    rintro e w10 ⟨rfl, b10, t10⟩
    have t910 := (Stp.ofK (A := A) (pg := pg4) (v := v7) (K.refl w9).drew).trans t10
    exact ⟨rfl, ⟨b10, t910⟩, (bs9.step t910).cell, b10.c0, (ba9.step t910).cell⟩
  have Wa : Hid (IntKind.i64.wrap (a + 1) = a + 1) := by simp [IntKind.wrap, IntKind.signed, IntKind.bits, Hid]; omega
  have Wn : Hid (IntKind.u64.wrap n = n) := by simp [IntKind.wrap, IntKind.signed, IntKind.bits, Hid]; omega
  clear cs c0 ca HP wr2 ws
  have cs := bs9.cell
  have c0 := b9.c0
  have ca := ba9.cell
  clear y0 y1 y2
  go_wp2
  go_region_held3 (fun w' => w'.cell? ⟨w.heap.size, 0, none⟩ = some (sp A.st) ∧ w'.cell? ⟨A.st, 0, none⟩ = some (.pointer (some ⟨A.bs, 0, none⟩)) ∧ w'.cell? ⟨w4.heap.size, 0, none⟩ = some (.int .i64 a))
    (first | exact ⟨cs, c0, ca⟩ | exact ⟨y0, y1, y2⟩)
    (first | (go_at_call 89; rw [Wa.out, Wn.out]; refine ws2.mono ?_; rintro e w10 ⟨rfl, HP, y0, y1, y2⟩))
  obtain ⟨b10, t10⟩ := HP.out
  have be10 := be9.step t10
  have ce := be10.cell
  have fe := be10.fz
  clear cs c0 ca ws2 y0 y1 y2 HP
  go_wp2
  have be11 := be10.set (.int .i64 0)
  have ce11 := be11.cell
  refine leaves_cons (f := 86) (args := #[.pointer (some ⟨w.heap.size + 1, 0, none⟩), .pointer (some ⟨w.heap.size, 0, none⟩), .pointer (some ⟨w4.heap.size, 0, none⟩), .pointer (some ⟨w2.heap.size, 0, none⟩)]) (by simp) (by simp [go_sem]) ?_
  refine (makeD_idle ⟨w.heap.size + 1, 0, none⟩ _ _ _ .returning _ ce11).mono ?_
  rintro e u' w'' ⟨rfl, rfl, rfl⟩
  have k1011 : Kept (fun k => k = w.heap.size + 1) w10 (w10.setCell ⟨w.heap.size + 1, 0, none⟩ (.int .i64 0)) := (Kept.refl _ _).setCell (p := ⟨w.heap.size + 1, 0, none⟩) _ (.inl rfl)
  have b11 := b10.setBx be10 (.int .i64 0) hbh hb0 hbs
  have l10 := b10.wl
  have rc := h.r.make h.b.wl l10 n0 n1 ea sm4 (by omega) h.b.tl eo
  refine ⟨.tuple #[.int .u64 x, .int .i64 0], by simp [results, Tryz.results58, go_sem, ce11], x, T', eo, rfl, pg4, _, v7, ⟨b11, rc⟩, fun p hp s hs i i0 i1 => ?_, ?_, upd_on, fun i i0 i1 => ?_, ?_⟩
  · have hB : BlR L' (Hp.addrI p s) (Hp.roomI p) := ((allocRm h.b.wl (x := 2 + n) ⟨by omega, by omega⟩ ea).2 _ _).2 (.inr ⟨p, hp, s, hs, rfl, rfl⟩)
    have hne : Hp.addrI p s ≠ a := fun e => (allocRm h.b.wl (x := 2 + n) ⟨by omega, by omega⟩ ea).1 (e ▸ ⟨p, hp, s, hs, rfl⟩)
    have x0 := l10.apart hB hA hne (i := i) (j := 0) i0 i1 (by omega) (by omega)
    have x1 := l10.apart hB hA hne (i := i) (j := 1) i0 i1 (by omega) (by omega)
    rw [upd_off (by omega), upd_off (by omega)]
    exact sm4 p hp s hs i i0 i1
  · rw [upd_off (by omega), upd_on]
  · rw [upd_off (by omega), upd_off (by omega), show a + 2 + i = a + (2 + i) by omega]
    exact hz4 (by trivial) (2 + i) (by omega) (by omega)
  · exact (((((t04.own t46 (by omega)).trans t7).own k78 (by omega)).trans t9).trans t10).own k1011 (by omega)

end So
end Go.Proofs.YtbbjfebdihepnaaGreatDoor
