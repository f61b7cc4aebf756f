/-
  What records are, over the heap's entries, the words and the table's slots. No Go text is named here.
-/
import Derived.Test.YtbbjfebdihepnaaGreatDoorH7
import Derived.Test.YtbbjfebdihepnaaGreatDoorD1
import Derived.Test.YtbbjfebdihepnaaGreatDoorD2
import Derived.Test.YtbbjfebdihepnaaGreatDoorH6
import Derived.Deep.RegionHeld3
namespace Go.Proofs.YtbbjfebdihepnaaGreatDoor
namespace So
open Hp (Pg BlR Bl Wl Same SameBut allocL slideL dropL findB roomI)
open Hd (Sl nm openL findL closeL moveL)

/-- How many words the place of a block of x words has. -/
def rmI (x : Int) : Int := if Cl.smaI x = true then Cl.sizI (Cl.clsI x) else x

theorem rm_ge {x : Int} (hx : 1 ≤ x ∧ x ≤ 4000) : x ≤ rmI x := by
  unfold rmI
  split
  · next hs => exact (Hp.cls_in hx hs).2.2
  · exact Int.le_refl _

structure Rec (L : List Pg) (W : Int → Int) (T : List Sl) : Prop where
  nm : ∀ (i : Nat) s, T[i]? = some s → s.o = true → W s.a = Hd.nm (i + 1) s.g ∧ 0 ≤ W (s.a + 1) ∧ W (s.a + 1) ≤ 3998 ∧ BlR L s.a (rmI (2 + W (s.a + 1)))
  bl : ∀ a, Bl L a → ∃ (i : Nat) (s : Sl), T[i]? = some s ∧ s.o = true ∧ s.a = a

theorem Rec.nil (W : Int → Int) : Rec [] W [] := ⟨fun i s h => by simp at h, fun a ⟨_, h, _⟩ => by cases h⟩

section
variable {L L' : List Pg} {W W' : Int → Int} {T T' : List Sl} {q m z : Int}

theorem Rec.inj (r : Rec L W T) (hl : T.length ≤ 65536) {i j : Nat} {s t : Sl} (hi : T[i]? = some s) (hj : T[j]? = some t) (so : s.o = true) (to : t.o = true) (e : s.a = t.a) : i = j := by
  have h1 := (r.nm i s hi so).1
  have h2 := (r.nm j t hj to).1
  have l1 := (List.getElem?_eq_some_iff.1 hi).1
  have l2 := (List.getElem?_eq_some_iff.1 hj).1
  rw [e, h2] at h1
  have := Hd.nm_inj h1 (by omega) (by omega) (by omega) (by omega)
  omega

theorem Same.at (h : Same L W W') {a r i : Int} (hb : BlR L a r) (i0 : 0 ≤ i) (i1 : i < r) : W' (a + i) = W (a + i) := by
  obtain ⟨p, hp, s, hs, rfl, rfl⟩ := hb
  exact h p hp s hs i i0 i1

theorem Rec.same (r : Rec L W T) (h : Same L W W') : Rec L W' T := by
  refine ⟨fun i s hi so => ?_, r.bl⟩
  obtain ⟨h1, h2, h3, h4⟩ := r.nm i s hi so
  have hg := rm_ge (x := 2 + W (s.a + 1)) ⟨by omega, by omega⟩
  have e0 := Same.at h h4 (i := 0) (by omega) (by omega)
  have e1 := Same.at h h4 (i := 1) (by omega) (by omega)
  rw [Int.add_zero] at e0
  rw [e0, e1]
  exact ⟨h1, h2, h3, h4⟩

/-- Alloc, with the room. -/
theorem allocRm (l : Wl L) {x a : Int} (hx : 1 ≤ x ∧ x ≤ 4000) (e : allocL q L x = (a, 0, L')) : ¬ Bl L a ∧ ∀ c k, BlR L' c k ↔ (c = a ∧ k = rmI x) ∨ BlR L c k := by
  unfold allocL at e
  rw [if_pos hx] at e
  unfold rmI
  cases hs : Cl.smaI x with
  | true =>
    rw [hs] at e
    simp only [if_true] at e ⊢
    obtain ⟨c0, c1, c2⟩ := Hp.cls_in hx hs
    cases hf : Hp.freeB L (Cl.clsI x) with
    | some ps =>
      obtain ⟨p, s⟩ := ps
      rw [hf] at e
      obtain ⟨hp, h1, hc, s0, s1, hh⟩ := Hp.freeB_some hf
      rw [← hc] at s1
      simp only [Prod.mk.injEq] at e
      obtain ⟨rfl, _, rfl⟩ := e
      refine ⟨l.free_not hp h1 s0 s1 hh, ?_⟩
      have e1 : Cl.sizI (Cl.clsI x) = roomI p := by
        unfold roomI
        rw [if_neg (by omega), hc]
      rw [e1]
      exact l.setR hp h1 s0 s1
    | none =>
      rw [hf] at e
      simp only [] at e
      split at e
      · simp only [Prod.mk.injEq] at e
        obtain ⟨rfl, _, rfl⟩ := e
        have ha := Hp.addr_page (Hp.ent_smallPg (Hp.fit 1 0 L) c0 c1) ((Hp.slots_smallPg c0 c1 0).2 rfl)
        have hn : (Hp.smallPg (Hp.fit 1 0 L) (Cl.clsI x)).n = Hp.fit 1 0 L := rfl
        exact ⟨l.fit_not (m := 1) (by omega) (by omega) (by omega), Hp.insR (Hp.slots_smallPg c0 c1)⟩
      · simp at e
  | false =>
    rw [hs] at e
    have hpg : Cl.pagI x = (x + 65) / 64 := if_pos hx
    simp only [Bool.false_eq_true, if_false] at e ⊢
    split at e
    · simp only [Prod.mk.injEq] at e
      obtain ⟨rfl, _, rfl⟩ := e
      have hsl : ∀ k, k ∈ Hp.slotsOf (Hp.largePg (Hp.fit (Cl.pagI x) 0 L) x) ↔ k = 0 := fun k => by
        rw [Hp.mem_slots]
        simp [Hp.largePg]
      have ha : Hp.addrI (Hp.largePg (Hp.fit (Cl.pagI x) 0 L) x) 0 = Hp.fit (Cl.pagI x) 0 L * 64 + 2 := rfl
      exact ⟨l.fit_not (m := Cl.pagI x) (by omega) (by omega) (by omega), Hp.insR hsl⟩
    · simp at e

/-- What Open makes of the slots: one comes, closed ones alone give way. -/
theorem open_slots {a h : Int} (a0 : 0 ≤ a) (hl : T.length ≤ 65536) (e : openL m z T a = (h, 0, T')) : ∃ i : Nat, ∃ g : Int, h = nm (i + 1) g ∧ T'[i]? = some ⟨true, g, a⟩ ∧ (∀ s, T[i]? = some s → s.o = false) ∧ (∀ j, j ≠ i → T'[j]? = T[j]?) ∧ i < 65537 := by
  unfold openL at e
  rw [if_neg (by omega)] at e
  split at e
  · next i hi =>
    obtain ⟨s, hs, hf, _⟩ := Hd.freeAt_some hi
    simp only [Prod.mk.injEq] at e
    obtain ⟨rfl, _, rfl⟩ := e
    have hlt := (List.getElem?_eq_some_iff.1 hs).1
    refine ⟨i, _, rfl, ?_, fun t ht => ?_, fun j hj => ?_, by omega⟩
    · rw [List.getElem?_set_self hlt]
    · rw [hs] at ht
      cases ht
      simp [Hd.fr] at hf
      exact hf.1
    · rw [List.getElem?_set_ne (Ne.symm hj)]
  · next hn =>
    split at e
    · simp only [Prod.mk.injEq] at e
      obtain ⟨rfl, _, rfl⟩ := e
      refine ⟨T.length, 1, rfl, ?_, fun s hs => ?_, fun j hj => ?_, by omega⟩
      · rw [List.getElem?_append_right (Nat.le_refl _)]
        simp
      · rw [List.getElem?_eq_none (Nat.le_refl _)] at hs
        cases hs
      · by_cases hlt : j < T.length
        · rw [List.getElem?_append_left hlt]
        · rw [List.getElem?_eq_none (l := T) (by omega), List.getElem?_eq_none (by rw [List.length_append, List.length_singleton]; omega)]
    · simp at e

theorem blr_of_bl {a : Int} (h : Bl L a) : ∃ r, BlR L a r := Hp.Bl.room h

/-- Words of a block but one stay. -/
theorem upd_off {a b x : Int} (h : a ≠ b) : Sl.upd W b x a = W a := by unfold Sl.upd; rw [if_neg h]
theorem upd_on {b x : Int} : Sl.upd W b x b = x := by unfold Sl.upd; rw [if_pos rfl]

/-- A record comes. -/
theorem Rec.make (r : Rec L W T) (l : Wl L) (l' : Wl L') {n a h : Int} (n0 : 0 ≤ n) (n1 : n ≤ 3998) (ea : allocL q L (2 + n) = (a, 0, L')) (hs : Same L W W') (a0 : 0 ≤ a) (hl : T.length ≤ 65536) (eo : openL m z T a = (h, 0, T')) :
    Rec L' (Sl.upd (Sl.upd W' a h) (a + 1) n) T' := by
  obtain ⟨hn, hR⟩ := allocRm l (x := 2 + n) ⟨by omega, by omega⟩ ea
  obtain ⟨i, g, hh, hi, hc, ho, _⟩ := open_slots a0 hl eo
  have hg := rm_ge (x := 2 + n) ⟨by omega, by omega⟩
  have hA : BlR L' a (rmI (2 + n)) := (hR _ _).2 (.inl ⟨rfl, rfl⟩)
  refine ⟨fun j s hj so => ?_, fun b hb => ?_⟩
  · by_cases e : j = i
    · subst e
      rw [hi] at hj
      cases hj
      show Sl.upd (Sl.upd W' a h) (a + 1) n a = _ ∧ 0 ≤ Sl.upd (Sl.upd W' a h) (a + 1) n (a + 1) ∧ Sl.upd (Sl.upd W' a h) (a + 1) n (a + 1) ≤ 3998 ∧ BlR L' a (rmI (2 + Sl.upd (Sl.upd W' a h) (a + 1) n (a + 1)))
      have e0 : Sl.upd (Sl.upd W' a h) (a + 1) n a = h := by rw [upd_off (by omega), upd_on]
      rw [e0, upd_on]
      exact ⟨hh, n0, n1, hA⟩
    · rw [ho j e] at hj
      obtain ⟨h1, h2, h3, h4⟩ := (r.same hs).nm j s hj so
      have hg2 := rm_ge (x := 2 + W' (s.a + 1)) ⟨by omega, by omega⟩
      have hB : BlR L' s.a (rmI (2 + W' (s.a + 1))) := (hR _ _).2 (.inr h4)
      have hne : s.a ≠ a := fun e => hn (e ▸ h4.bl)
      have x00 := l'.apart hB hA hne (i := 0) (j := 0) (by omega) (by omega) (by omega) (by omega)
      have x01 := l'.apart hB hA hne (i := 0) (j := 1) (by omega) (by omega) (by omega) (by omega)
      have x10 := l'.apart hB hA hne (i := 1) (j := 0) (by omega) (by omega) (by omega) (by omega)
      have x11 := l'.apart hB hA hne (i := 1) (j := 1) (by omega) (by omega) (by omega) (by omega)
      have e0 : Sl.upd (Sl.upd W' a h) (a + 1) n s.a = W' s.a := by rw [upd_off (by omega), upd_off (by omega)]
      have e1 : Sl.upd (Sl.upd W' a h) (a + 1) n (s.a + 1) = W' (s.a + 1) := by rw [upd_off (by omega), upd_off (by omega)]
      rw [e0, e1]
      exact ⟨h1, h2, h3, hB⟩
  · obtain ⟨k, hk⟩ := blr_of_bl hb
    rcases (hR _ _).1 hk with ⟨rfl, _⟩ | h2
    · exact ⟨i, _, hi, rfl, rfl⟩
    · obtain ⟨j, s, hj, so, sa⟩ := r.bl b h2.bl
      have hji : j ≠ i := fun e => by
        subst e
        rw [hc s hj] at so
        cases so
      exact ⟨j, s, by rw [ho j hji]; exact hj, so, sa⟩

/-- A record's word is put. -/
theorem Rec.put (r : Rec L W T) (l : Wl L) {i : Nat} {s : Sl} (hi : T[i]? = some s) (so : s.o = true) {k x : Int} (k0 : 0 ≤ k) (k1 : k < W (s.a + 1)) : Rec L (Sl.upd W (s.a + 2 + k) x) T := by
  obtain ⟨_, a2, a3, a4⟩ := r.nm i s hi so
  have hga := rm_ge (x := 2 + W (s.a + 1)) ⟨by omega, by omega⟩
  refine ⟨fun j t hj to => ?_, r.bl⟩
  obtain ⟨h1, h2, h3, h4⟩ := r.nm j t hj to
  have hg := rm_ge (x := 2 + W (t.a + 1)) ⟨by omega, by omega⟩
  have e0 : Sl.upd W (s.a + 2 + k) x t.a = W t.a := by
    refine upd_off fun e => ?_
    by_cases hne : t.a = s.a
    · omega
    · have := l.apart h4 a4 hne (i := 0) (j := 2 + k) (by omega) (by omega) (by omega) (by omega)
      omega
  have e1 : Sl.upd W (s.a + 2 + k) x (t.a + 1) = W (t.a + 1) := by
    refine upd_off fun e => ?_
    by_cases hne : t.a = s.a
    · omega
    · have := l.apart h4 a4 hne (i := 1) (j := 2 + k) (by omega) (by omega) (by omega) (by omega)
      omega
  rw [e0, e1]
  exact ⟨h1, h2, h3, h4⟩

theorem SameBut.at {p : Pg} {s a c r i : Int} (hf : findB L a = some (p, s)) (h : SameBut L p s W W') (hb : BlR L c r) (hne : c ≠ a) (i0 : 0 ≤ i) (i1 : i < r) : W' (c + i) = W (c + i) := by
  obtain ⟨p2, hp2, s2, hs2, rfl, rfl⟩ := hb
  refine h p2 hp2 s2 hs2 ?_ i i0 i1
  obtain ⟨_, _, ea⟩ := Hp.findB_some hf
  by_cases e1 : p2 = p
  · refine .inr fun e2 => hne ?_
    rw [e1, e2, ea]
  · exact .inl e1

/-- A record goes. -/
theorem Rec.drop (r : Rec L W T) (l : Wl L) {i : Nat} {s : Sl} (hi : T[i]? = some s) (so : s.o = true) (hl : T.length ≤ 65536) {p : Pg} {k g : Int} (hf : findB L s.a = some (p, k)) (hs : SameBut L p k W W') :
    Rec (dropL L p k) W' (T.set i ⟨false, g, 0⟩) := by
  have hlt := (List.getElem?_eq_some_iff.1 hi).1
  have hfr := l.freeR hf
  refine ⟨fun j t hj to => ?_, fun b hb => ?_⟩
  · by_cases e : j = i
    · subst e
      rw [List.getElem?_set_self hlt] at hj
      cases hj
      cases to
    · rw [List.getElem?_set_ne (Ne.symm e)] at hj
      obtain ⟨h1, h2, h3, h4⟩ := r.nm j t hj to
      have hg := rm_ge (x := 2 + W (t.a + 1)) ⟨by omega, by omega⟩
      have hne : t.a ≠ s.a := fun e2 => e (r.inj hl hj hi to so e2)
      have e0 := SameBut.at hf hs h4 hne (i := 0) (by omega) (by omega)
      have e1 := SameBut.at hf hs h4 hne (i := 1) (by omega) (by omega)
      rw [Int.add_zero] at e0
      rw [e0, e1]
      exact ⟨h1, h2, h3, (hfr _ _).2 ⟨hne, h4⟩⟩
  · obtain ⟨rr, hr⟩ := blr_of_bl hb
    obtain ⟨hne, h2⟩ := (hfr _ _).1 hr
    obtain ⟨j, t, hj, to, ta⟩ := r.bl b h2.bl
    have e : j ≠ i := fun e => by
      subst e
      rw [hi] at hj
      cases hj
      exact hne ta.symm
    exact ⟨j, t, by rw [List.getElem?_set_ne (Ne.symm e)]; exact hj, to, ta⟩

/-- A record goes elsewhere. -/
theorem Rec.slide (r : Rec L W T) (l : Wl L) {i : Nat} {s : Sl} (hi : T[i]? = some s) (so : s.o = true) (hl : T.length ≤ 65536) {p : Pg} {k b er : Int} (hf : findB L s.a = some (p, k)) (hsl : slideL L s.a = (b, er, L')) (hs : SameBut L p k W W') (hw : ∀ i, 0 ≤ i → i < roomI p → W' (b + i) = W (s.a + i)) :
    Rec L' W' (T.set i ⟨true, s.g, b⟩) := by
  have hlt := (List.getElem?_eq_some_iff.1 hi).1
  obtain ⟨_, _, _, hR⟩ := l.slide hf hsl
  obtain ⟨hpm, hks, hpa⟩ := Hp.findB_some hf
  refine ⟨fun j t hj to => ?_, fun c hc => ?_⟩
  · by_cases e : j = i
    · subst e
      rw [List.getElem?_set_self hlt] at hj
      cases hj
      obtain ⟨h1, h2, h3, h4⟩ := r.nm j s hi so
      have hg := rm_ge (x := 2 + W (s.a + 1)) ⟨by omega, by omega⟩
      have hro : rmI (2 + W (s.a + 1)) = roomI p := l.roomOne h4 ⟨p, hpm, k, hks, hpa, rfl⟩
      have e0 := hw 0 (by omega) (by omega)
      have e1 := hw 1 (by omega) (by omega)
      rw [Int.add_zero, Int.add_zero] at e0
      show W' b = _ ∧ 0 ≤ W' (b + 1) ∧ W' (b + 1) ≤ 3998 ∧ BlR L' b (rmI (2 + W' (b + 1)))
      rw [e0, e1]
      exact ⟨h1, h2, h3, (hR _ _).2 (.inl ⟨rfl, hro⟩)⟩
    · rw [List.getElem?_set_ne (Ne.symm e)] at hj
      obtain ⟨h1, h2, h3, h4⟩ := r.nm j t hj to
      have hg := rm_ge (x := 2 + W (t.a + 1)) ⟨by omega, by omega⟩
      have hne : t.a ≠ s.a := fun e2 => e (r.inj hl hj hi to so e2)
      have e0 := SameBut.at hf hs h4 hne (i := 0) (by omega) (by omega)
      have e1 := SameBut.at hf hs h4 hne (i := 1) (by omega) (by omega)
      rw [Int.add_zero] at e0
      rw [e0, e1]
      exact ⟨h1, h2, h3, (hR _ _).2 (.inr ⟨hne, h4⟩)⟩
  · obtain ⟨rr, hr⟩ := blr_of_bl hc
    rcases (hR _ _).1 hr with ⟨rfl, _⟩ | ⟨hne, h2⟩
    · exact ⟨i, _, List.getElem?_set_self hlt, rfl, rfl⟩
    · obtain ⟨j, t, hj, to, ta⟩ := r.bl c h2.bl
      have e : j ≠ i := fun e => by
        subst e
        rw [hi] at hj
        cases hj
        exact hne ta.symm
      exact ⟨j, t, by rw [List.getElem?_set_ne (Ne.symm e)]; exact hj, to, ta⟩

end
end So
end Go.Proofs.YtbbjfebdihepnaaGreatDoor

/-
  A store in memory: its five fields, its arena and heap, its table; and what stays.
-/
namespace Go.Proofs.YtbbjfebdihepnaaGreatDoor
open Go.RowKit Go.Maps
namespace So
open Hp (Kept K No Pg BlR Bl Wl)

/-- Where a store's parts lie, and its three numbers. -/
structure Ad where
  st : Nat
  bh : Nat
  bs : Nat
  bm : Nat
  bt : Nat
  q : Int
  m : Int
  z : Int

abbrev sp (st : Nat) : Value := .pointer (some ⟨st, 0, none⟩)

/-- The blocks that calls may turn. -/
def foot (A : Ad) (pg : List (Int × Nat)) (v : Value) (k : Nat) : Prop := Sl.foot A.bs A.bm pg k ∨ Hd.foot A.bt v k

/-- A store, its records aside. -/
structure Sb (w : World) (B : Nat) (A : Ad) (pg : List (Int × Nat)) (W : Int → Int) (L : List Pg) (v : Value) (T : List Hd.Sl) : Prop where
  hd : w.heap[A.st]? = some (.cells #[.pointer (some ⟨A.bs, 0, none⟩), .pointer (some ⟨A.bh, 0, none⟩), .pointer (some ⟨A.bt, 0, none⟩), .int .i64 A.m, .int .u32 A.z] 90)
  hp : Hp.St w A.bh A.bs A.bm A.q pg W L
  tb : Hd.Tab w B A.bt A.m A.z v T
  lo : ∀ k, Sl.foot A.bs A.bm pg k → B ≤ k
  ap : ∀ k, Sl.foot A.bs A.bm pg k → ¬ Hd.foot A.bt v k
  nh : ¬ Hd.foot A.bt v A.bh
  n0 : ¬ Hd.foot A.bt v 1
  ns : ¬ Hd.foot A.bt v A.st
  fs : ¬ Sl.foot A.bs A.bm pg A.st

/-- What a call turns: the store's own blocks, and new ones may be its own then. -/
structure Stp (A : Ad) (pg pg' : List (Int × Nat)) (v v' : Value) (w w' : World) : Prop where
  k : Kept (foot A pg v) w w'
  inn : ∀ j, foot A pg' v' j → foot A pg v j ∨ w.heap.size ≤ j

section
variable {w w' w1 w2 : World} {B : Nat} {A : Ad} {pg pg' pg1 pg2 : List (Int × Nat)} {W W' : Int → Int} {L L' : List Pg} {v v' v1 v2 : Value} {T T' : List Hd.Sl}

theorem Stp.refl (A : Ad) (pg : List (Int × Nat)) (v : Value) (w : World) : Stp A pg pg v v w w := ⟨Kept.refl _ _, fun _ h => .inl h⟩
theorem Stp.trans (h : Stp A pg pg1 v v1 w w1) (k : Stp A pg1 pg2 v1 v2 w1 w2) : Stp A pg pg2 v v2 w w2 :=
  ⟨⟨k.k.os.trans h.k.os, k.k.tape.trans h.k.tape, k.k.output.trans h.k.output, Nat.le_trans h.k.size k.k.size, fun j hj hn => (k.k.same j (Nat.lt_of_lt_of_le hj h.k.size) (fun hf => by
      rcases h.inn j hf with h2 | h2
      · exact hn h2
      · omega)).trans (h.k.same j hj hn)⟩, fun j hj => by
    rcases k.inn j hj with h2 | h2
    · exact h.inn j h2
    · exact .inr (Nat.le_trans h.k.size h2)⟩
theorem Stp.ofK (k : K w w') : Stp A pg pg v v w w' := ⟨k.kept _, fun _ h => .inl h⟩
theorem Stp.heap (s : Sl.Step A.bs A.bm pg pg' w w') : Stp A pg pg' v v w w' :=
  ⟨⟨s.os, s.tape, s.output, s.size, fun j hj hn => s.kept j hj fun hf => hn (.inl hf)⟩, fun j hj => by
    rcases hj with hj | hj
    · rcases s.inn j hj with h | h
      · exact .inl (.inl h)
      · exact .inr h
    · exact .inl (.inr hj)⟩
theorem Stp.tab (k : Kept (Hd.foot A.bt v) w w') (inn : ∀ j, Hd.foot A.bt v' j → Hd.foot A.bt v j ∨ w.heap.size ≤ j) : Stp A pg pg v v' w w' :=
  ⟨k.mono (fun _ _ h => .inr h), fun j hj => by
    rcases hj with hj | hj
    · exact .inl (.inl hj)
    · rcases inn j hj with h | h
      · exact .inl (.inr h)
      · exact .inr h⟩
theorem Stp.thenK (h : Stp A pg pg' v v' w w1) (k : K w1 w2) : Stp A pg pg' v v' w w2 := h.trans (Stp.ofK k)

theorem step_kept {bs bm : Nat} (s : Sl.Step bs bm pg pg' w w') : Kept (Sl.foot bs bm pg) w w' := ⟨s.os, s.tape, s.output, s.size, fun j hj hn => s.kept j hj hn⟩

theorem Sb.c0 (h : Sb w B A pg W L v T) : w.cell? ⟨A.st, 0, none⟩ = some (.pointer (some ⟨A.bs, 0, none⟩)) := by simp [World.cell?, h.hd]
theorem Sb.c1 (h : Sb w B A pg W L v T) : w.cell? ⟨A.st, 1, none⟩ = some (.pointer (some ⟨A.bh, 0, none⟩)) := by simp [World.cell?, h.hd]
theorem Sb.c2 (h : Sb w B A pg W L v T) : w.cell? ⟨A.st, 2, none⟩ = some (.pointer (some ⟨A.bt, 0, none⟩)) := by simp [World.cell?, h.hd]
theorem Sb.c3 (h : Sb w B A pg W L v T) : w.cell? ⟨A.st, 3, none⟩ = some (.int .i64 A.m) := by simp [World.cell?, h.hd]
theorem Sb.c4 (h : Sb w B A pg W L v T) : w.cell? ⟨A.st, 4, none⟩ = some (.int .u32 A.z) := by simp [World.cell?, h.hd]
theorem Sb.lt (h : Sb w B A pg W L v T) : A.st < w.heap.size := (Array.getElem?_eq_some_iff.1 h.hd).1
theorem Sb.flo (h : Sb w B A pg W L v T) {k : Nat} (hk : foot A pg v k) : B ≤ k := by
  rcases hk with hk | hk
  · exact h.lo k hk
  · exact (h.tb.foot_lt hk).1
theorem Sb.flt (h : Sb w B A pg W L v T) {k : Nat} (hk : foot A pg v k) : k < w.heap.size := by
  rcases hk with hk | hk
  · exact h.hp.hw.ar.foot_lt hk
  · exact (h.tb.foot_lt hk).2

theorem Sb.keep (h : Sb w B A pg W L v T) (k : K w w') : Sb w' B A pg W L v T :=
  ⟨k.block h.hd, h.hp.keep k, h.tb.keep k, h.lo, h.ap, h.nh, h.n0, h.ns, h.fs⟩
theorem Sb.kept (h : Sb w B A pg W L v T) {O : Nat → Prop} (k : Kept O w w') (hO : ∀ j, O j → ¬ foot A pg v j ∧ j ≠ A.bh ∧ j ≠ 1 ∧ j ≠ A.st) : Sb w' B A pg W L v T :=
  ⟨k.block h.hd (fun x => (hO _ x).2.2.2 rfl), ⟨h.hp.hw.kept k (fun j hj => ⟨fun hf => (hO j hj).1 (.inl hf), (hO j hj).2.1, (hO j hj).2.2.1⟩), h.hp.ly⟩, h.tb.kept k (fun g hg hO' => (hO g hO').1 (.inr hg)), h.lo, h.ap, h.nh, h.n0, h.ns, h.fs⟩

/-- Behind a call of the heap's, or of the arena's. -/
theorem Sb.heap (h : Sb w B A pg W L v T) (hB : B ≤ w.heap.size) (s : Hp.St w' A.bh A.bs A.bm A.q pg' W' L') (t : Sl.Step A.bs A.bm pg pg' w w') : Sb w' B A pg' W' L' v T := by
  refine ⟨(t.kept _ h.lt h.fs).trans h.hd, s, h.tb.kept (step_kept t) (fun g hg hf => h.ap g hf hg), fun k hk => ?_, fun k hk hf => ?_, h.nh, h.n0, h.ns, fun hk => ?_⟩
  · rcases t.inn k hk with h2 | h2
    · exact h.lo k h2
    · omega
  · rcases t.inn k hk with h2 | h2
    · exact h.ap k h2 hf
    · have := (h.tb.foot_lt hf).2
      omega
  · rcases t.inn _ hk with h2 | h2
    · exact h.fs h2
    · have := h.lt
      omega
/-- Behind a call of the table's. -/
theorem Sb.tab (h : Sb w B A pg W L v T) (t : Hd.Tab w' B A.bt A.m A.z v' T') (k : Kept (Hd.foot A.bt v) w w') (inn : ∀ j, Hd.foot A.bt v' j → Hd.foot A.bt v j ∨ w.heap.size ≤ j) : Sb w' B A pg W L v' T' := by
  have no : ∀ j, j < w.heap.size → ¬ Hd.foot A.bt v j → ¬ Hd.foot A.bt v' j := fun j hj hn hf => by
    rcases inn j hf with h2 | h2
    · exact hn h2
    · omega
  exact ⟨k.block h.hd h.ns, ⟨h.hp.hw.kept k (fun j hj => ⟨fun hf => h.ap j hf hj, fun e => h.nh (e ▸ hj), fun e => h.n0 (e ▸ hj)⟩), h.hp.ly⟩, t, h.lo,
    fun j hj => no j (h.hp.hw.ar.foot_lt hj) (h.ap j hj), no _ (Hp.lt_of_cell h.hp.hw.c0) h.nh, no _ (Hp.lt0 h.hp.hw.tab) h.n0, no _ h.lt h.ns, h.fs⟩

/-- A store with its records. -/
structure Sw (w : World) (B : Nat) (A : Ad) (pg : List (Int × Nat)) (W : Int → Int) (L : List Pg) (v : Value) (T : List Hd.Sl) : Prop where
  b : Sb w B A pg W L v T
  r : Rec L W T
theorem Sw.keep (h : Sw w B A pg W L v T) (k : K w w') : Sw w' B A pg W L v T := ⟨h.b.keep k, h.r⟩
theorem Sb.tl (h : Sb w B A pg W L v T) : T.length ≤ 65536 := by
  have := h.tb.wf.len
  have := h.tb.wf.q1
  omega
theorem Sb.wl (h : Sb w B A pg W L v T) : Wl L := h.hp.wl

/-- Where a block may lie. -/
theorem Sb.at (h : Sb w B A pg W L v T) {a r : Int} (hb : BlR L a r) : 2 ≤ a ∧ a + r ≤ 67108864 ∧ 1 ≤ r := by
  obtain ⟨p, hp, s, hs, rfl, rfl⟩ := hb
  have h1 := Hp.word_page (h.hp.ly.ent p hp) (Hp.slot_ok hs) (i := 0)
  have h2 := Hp.place_in (h.hp.ly.ent p hp) (Hp.slot_ok hs)
  have h3 := h.hp.range hp
  have h4 := (h.hp.ly.ent p hp).span
  unfold Hp.addrI
  omega

/-- made. -/
theorem made_ok (h : Sb w B A pg W L v T) : Calls Tryz.prog 43 #[sp A.st] w fun e w' => e = .returned (.bool true) ∧ w = w' := by
  have c2 := h.c2
  clear h
  go_enter Tryz.func43, Tryz.ntmps43
  go_wp2
  go_ret
  exact ⟨rfl, rfl⟩
end

end So
end Go.Proofs.YtbbjfebdihepnaaGreatDoor

/-
  Walks of package store's find, wordAt, nameAt, Len, Get, Put.
-/
namespace Go.Proofs.YtbbjfebdihepnaaGreatDoor
open Go.RowKit Go.Maps
attribute [local go_sem ↓] Go.wp_at_zero Go.wp_at_succ
namespace So
open Hp (Kept K No Pg BlR Bl Wl)
open Hd (U64 findL atL)
variable {w w' : World} {B : Nat} {A : Ad} {pg : List (Int × Nat)} {W : Int → Int} {L : List Pg} {v : Value} {T : List Hd.Sl}

/-- What find tells. -/
abbrev recV (a n : Int) : Value := .agg #[.int .i64 a, .int .i64 n]

/-- The result's variable, and what stays. -/
theorem rec_var (w : World) {w2 : World} (k : K (w.alloc (.cells #[.int .i64 0, .int .i64 0] 118)) w2) :
    w2.heap[w.heap.size]? = some (.cells #[.int .i64 0, .int .i64 0] 118) ∧ w2.cell? ⟨w.heap.size, 0, none⟩ = some (.int .i64 0) ∧ w2.cell? ⟨w.heap.size, 1, none⟩ = some (.int .i64 0) ∧ (∀ i, w2.frozen? ⟨w.heap.size, i, none⟩ = false) ∧ K w w2 := by
  have hb : w2.heap[w.heap.size]? = some (.cells #[.int .i64 0, .int .i64 0] 118) := k.block (World.alloc_heap_new _ _)
  exact ⟨hb, by simp [World.cell?, hb], by simp [World.cell?, hb], fun i => by simp [World.frozen?, hb], ((K.refl w).alloc _).trans k⟩

theorem rec_set {w2 : World} {N : Nat} (hb : w2.heap[N]? = some (.cells #[.int .i64 0, .int .i64 0] 118)) (a n : Int) :
    (w2.setCell ⟨N, 0, none⟩ (.int .i64 a)).cell? ⟨N, 0, none⟩ = some (.int .i64 a) ∧ ((w2.setCell ⟨N, 0, none⟩ (.int .i64 a)).setCell ⟨N, 1, none⟩ (.int .i64 n)).cell? ⟨N, 1, none⟩ = some (.int .i64 n) := by
  have h1 := Sl.heap_setCell_same (i := 0) hb (.int .i64 a)
  have h2 := Sl.heap_setCell_same (i := 1) h1 (.int .i64 n)
  exact ⟨by simp [World.cell?, h1], by simp [World.cell?, h2]⟩

theorem find_none (h : Sb w B A pg W L v T) (x : Int) (hx : U64 x) (hf : findL T x = none) : Calls Tryz.prog 60 #[sp A.st, .int .u64 x] w fun e w' => e = .returned (.tuple #[recV 0 0, .int .i64 7]) ∧ K w w' := by
  have h1 := h.keep ((K.refl w).alloc (.cells #[.int .i64 0, .int .i64 0] 118))
  have hm := made_ok h1
  have ha := Hd.at_any h1.tb x hx
  rw [Hd.atL_none hf] at ha
  have c2 := h1.c2
  clear hf h1
  go_enter Tryz.func60, Tryz.ntmps60
  go_wp2_with (go_at_call 43; refine hm.mono ?_; rintro e w1 ⟨rfl, rfl⟩)
  refine ha.mono ?_
  rintro e w1 ⟨rfl, k1⟩
  obtain ⟨hb, y0, y1, yf, k2⟩ := rec_var w k1
  obtain ⟨g0, g1⟩ := rec_set hb 0 0
  go_wp2
  exact bodyPost_ret (v := .tuple #[recV 0 0, .int .i64 7]) (by simp [results, Tryz.results60, go_sem, g0, g1]) rfl ⟨rfl, (k2.setCell _ (Nat.le_refl _)).setCell _ (Nat.le_refl _)⟩

/-- The slot of a live handle, and its record. -/
theorem Sw.live (h : Sw w B A pg W L v T) {x : Int} {i : Nat} (hf : findL T x = some i) : ∃ s, T[i]? = some s ∧ s.o = true ∧ W s.a = x ∧ 0 ≤ W (s.a + 1) ∧ W (s.a + 1) ≤ 3998 ∧ BlR L s.a (rmI (2 + W (s.a + 1))) := by
  obtain ⟨s, hs, so, sg, hi⟩ := Hd.findL_some hf
  obtain ⟨h1, h2, h3, h4⟩ := h.r.nm i s hs so
  refine ⟨s, hs, so, ?_, h2, h3, h4⟩
  rw [h1, sg]
  unfold Hd.nm
  omega

theorem find_some (h : Sw w B A pg W L v T) (x : Int) (hx : U64 x) {i : Nat} {s : Hd.Sl} (hf : findL T x = some i) (hs : T[i]? = some s) : Calls Tryz.prog 60 #[sp A.st, .int .u64 x] w fun e w' => e = .returned (.tuple #[recV s.a (W (s.a + 1)), .int .i64 0]) ∧ K w w' := by
  have h1 := h.b.keep ((K.refl w).alloc (.cells #[.int .i64 0, .int .i64 0] 118))
  have hm := made_ok h1
  have ha := Hd.at_any h1.tb x hx
  rw [Hd.atL_some hf hs] at ha
  have c2 := h1.c2
  obtain ⟨s', hs', so, _, n0, n1, hb⟩ := h.live hf
  obtain rfl : s = s' := Option.some.inj (hs.symm.trans hs')
  have hg := rm_ge (x := 2 + W (s.a + 1)) ⟨by omega, by omega⟩
  have hat := h.b.at hb
  have rd := fun w1 (k1 : K w w1) => (h.b.keep k1).hp.readW hb (i := 1) (by omega) (by omega)
  have a0 := hat.1
  have a1 : s.a ≤ 67108864 := by omega
  have c0' := fun w1 (k1 : K w w1) => (h.b.keep k1).c0
  clear hf hs hs' hb hg hat so h1
  generalize W (s.a + 1) = n at *
  generalize s.a = a at *
  go_enter Tryz.func60, Tryz.ntmps60
  go_wp2_with (go_at_call 43; refine hm.mono ?_; rintro e w1 ⟨rfl, rfl⟩)
  refine ha.mono ?_
  rintro e w1 ⟨rfl, k1⟩
  obtain ⟨hb, y0, y1, yf, k2⟩ := rec_var w k1
  obtain ⟨g0, g1⟩ := rec_set hb a n
  have d0 := c0' _ k2
  go_wp2_with (go_at_call 67; refine (rd _ k2).mono ?_; rintro e w2 ⟨rfl, rfl⟩)
  exact bodyPost_ret (v := .tuple #[recV a n, .int .i64 0]) (by simp [results, Tryz.results60, go_sem, g0, g1]) rfl ⟨rfl, (k2.setCell _ (Nat.le_refl _)).setCell _ (Nat.le_refl _)⟩

theorem nameAt_any (h : Sb w B A pg W L v T) {a r : Int} (hb : BlR L a r) : Calls Tryz.prog 45 #[sp A.st, .int .i64 a] w fun e w' => e = .returned (.int .u64 (W a)) ∧ w = w' := by
  have c0 := h.c0
  have hat := h.at hb
  have rd := h.hp.readW hb (i := 0) (by omega) (by omega)
  rw [Int.add_zero] at rd
  clear hb hat
  go_enter Tryz.func45, Tryz.ntmps45
  go_wp2_with (go_at_call 67; refine rd.mono ?_; rintro e w2 ⟨rfl, rfl⟩)
  go_ret
  exact ⟨rfl, rfl⟩

/-- What a call on a record's word answers, and where that lies. -/
def wE (T : List Hd.Sl) (W : Int → Int) (x k : Int) : Int := match findL T x with | none => 7 | some i => if 0 ≤ k ∧ k < W (Hd.addrAt T i + 1) then 0 else 2
def wA (T : List Hd.Sl) (x k : Int) : Int := match findL T x with | none => 0 | some i => Hd.addrAt T i + 2 + k

def wV (T : List Hd.Sl) (W : Int → Int) (x k : Int) : Int := if wE T W x k = 0 then wA T x k else 0

theorem wordAt_any (h : Sw w B A pg W L v T) (x k : Int) (hx : U64 x) : Calls Tryz.prog 71 #[sp A.st, .int .u64 x, .int .i64 k] w fun e w' => e = .returned (.tuple #[.int .i64 (wV T W x k), .int .i64 (wE T W x k)]) ∧ K w w' := by
  cases hf : findL T x with
  | none =>
    have E : Hid (wE T W x k = 7) := by simp [wE, hf, Hid]
    have EV : Hid (wV T W x k = 0) := by unfold wV; rw [E.out]; rfl
    have fd := find_none h.b x hx hf
    clear hf
    go_enter Tryz.func71, Tryz.ntmps71
    go_wp2_with (go_at_call 60; refine fd.mono ?_; rintro e w1 ⟨rfl, k1⟩)
    go_ret2
    exact ⟨by rw [E.out, EV.out]; rfl, k1.alloc _⟩
  | some i =>
    obtain ⟨s, hs, so, _, n0, n1, hb⟩ := h.live hf
    have fd := find_some h x hx hf hs
    have hat := h.b.at hb
    have hg := rm_ge (x := 2 + W (s.a + 1)) ⟨by omega, by omega⟩
    have ea : Hd.addrAt T i = s.a := by unfold Hd.addrAt; rw [Hd.getD_of hs]
    have a0 := hat.1
    have a1 : s.a ≤ 67108864 := by omega
    by_cases hk : 0 ≤ k ∧ k < W (s.a + 1)
    · have E : Hid (wE T W x k = 0) := by simp [wE, hf, ea, hk, Hid]
      have E2 : Hid (wV T W x k = s.a + 2 + k) := by unfold wV; rw [if_pos E.out]; simp [wA, hf, ea, Hid]
      obtain ⟨k0, k1⟩ := hk
      have k0' : ¬ k < 0 := by omega
      have k1' : ¬ W (s.a + 1) ≤ k := by omega
      clear hf hs so hb hat hg ea
      generalize W (s.a + 1) = n at *
      generalize s.a = a at *
      go_enter Tryz.func71, Tryz.ntmps71
      go_wp2_with (go_at_call 60; refine fd.mono ?_; rintro e w1 ⟨rfl, kk⟩)
      go_ret2
      exact ⟨by rw [E.out, E2.out]; rfl, kk.alloc _⟩
    · have E : Hid (wE T W x k = 2) := by simp [wE, hf, ea, hk, Hid]
      have EV : Hid (wV T W x k = 0) := by unfold wV; rw [E.out]; rfl
      by_cases k0 : k < 0
      · clear hf hs so hb hat hg ea hk
        generalize W (s.a + 1) = n at *
        generalize s.a = a at *
        go_enter Tryz.func71, Tryz.ntmps71
        go_wp2_with (go_at_call 60; refine fd.mono ?_; rintro e w1 ⟨rfl, kk⟩)
        go_ret2
        exact ⟨by rw [E.out, EV.out]; rfl, kk.alloc _⟩
      · have k1' : W (s.a + 1) ≤ k := by omega
        clear hf hs so hb hat hg ea hk
        generalize W (s.a + 1) = n at *
        generalize s.a = a at *
        go_enter Tryz.func71, Tryz.ntmps71
        go_wp2_with (go_at_call 60; refine fd.mono ?_; rintro e w1 ⟨rfl, kk⟩)
        go_ret2
        exact ⟨by rw [E.out, EV.out]; rfl, kk.alloc _⟩

/-- Where a word of a record lies. -/
theorem Sw.word (h : Sw w B A pg W L v T) {x k : Int} (e : wE T W x k = 0) : ∃ (i : Nat) (s : Hd.Sl), findL T x = some i ∧ T[i]? = some s ∧ s.o = true ∧ 0 ≤ k ∧ k < W (s.a + 1) ∧ wA T x k = s.a + 2 + k ∧ BlR L s.a (rmI (2 + W (s.a + 1))) ∧ 2 + W (s.a + 1) ≤ rmI (2 + W (s.a + 1)) := by
  unfold wE at e
  unfold wA
  cases hf : findL T x with
  | none => rw [hf] at e; cases e
  | some i =>
    rw [hf] at e
    obtain ⟨s, hs, so, _, n0, n1, hb⟩ := h.live hf
    have ea : Hd.addrAt T i = s.a := by unfold Hd.addrAt; rw [Hd.getD_of hs]
    simp only [ea] at e ⊢
    split at e
    · next hk => exact ⟨i, s, rfl, hs, so, hk.1, hk.2, rfl, hb, rm_ge ⟨by omega, by omega⟩⟩
    · cases e

theorem wE_cases (T : List Hd.Sl) (W : Int → Int) (x k : Int) : wE T W x k = 0 ∨ ((wE T W x k != 0) = true ∧ (wE T W x k = 7 ∨ wE T W x k = 2)) := by
  unfold wE
  split
  · exact .inr ⟨rfl, .inl rfl⟩
  · split
    · exact .inl rfl
    · exact .inr ⟨rfl, .inr rfl⟩

/-- What Get tells. -/
def gV (T : List Hd.Sl) (W : Int → Int) (x k : Int) : Int := if wE T W x k = 0 then W (wA T x k) else 0

theorem get_any (h : Sw w B A pg W L v T) (x k : Int) (hx : U64 x) : Calls Tryz.prog 48 #[sp A.st, .int .u64 x, .int .i64 k] w fun e w' => e = .returned (.tuple #[.int .u64 (gV T W x k), .int .i64 (wE T W x k)]) ∧ K w w' := by
  have wa := wordAt_any h x k hx
  have c0 := h.b.c0
  have c0' := fun w1 (k1 : K w w1) => k1.cell c0
  rcases wE_cases T W x k with e0 | ⟨e0, _⟩
  · obtain ⟨i, s, _, _, _, k0, k1, ea, hb, hr⟩ := h.word e0
    have rd := fun w1 (kk : K w w1) => (h.b.keep kk).hp.readW hb (i := 2 + k) (by omega) (by omega)
    rw [show wV T W x k = s.a + 2 + k by unfold wV; rw [if_pos e0, ea], e0] at wa
    have E : Hid (gV T W x k = W (s.a + 2 + k)) := by simp [gV, e0, ea, Hid]
    rw [show s.a + (2 + k) = s.a + 2 + k by omega] at rd
    have E0 : Hid _ := e0
    clear e0 ea hb hr
    generalize s.a + 2 + k = ad at *
    go_enter Tryz.func48, Tryz.ntmps48
    go_wp2_with fail
    refine wa.mono ?_
    rintro e w1 ⟨rfl, kk⟩
    have d0 := c0' _ kk
    go_wp2_with (go_at_call 67; refine (rd _ kk).mono ?_; rintro e w2 ⟨rfl, rfl⟩)
    go_ret2
    exact ⟨by rw [E.out, E0.out]; rfl, kk⟩
  · have hne : ¬ wE T W x k = 0 := by simpa using e0
    rw [show wV T W x k = 0 by unfold wV; rw [if_neg hne]] at wa
    have E : Hid (gV T W x k = 0) := by simp [gV, hne, Hid]
    clear hne
    generalize wE T W x k = er at *
    go_enter Tryz.func48, Tryz.ntmps48
    go_wp2_with (go_at_call 71; refine wa.mono ?_; rintro e w1 ⟨rfl, kk⟩)
    go_ret2
    exact ⟨by rw [E.out]; rfl, kk⟩

/-- What Put leaves. -/
def pW (T : List Hd.Sl) (W : Int → Int) (x k y : Int) : Int → Int := if wE T W x k = 0 then Sl.upd W (wA T x k) y else W

theorem put_any (h : Sw w B A pg W L v T) (hB : B ≤ w.heap.size) (x k y : Int) (hx : U64 x) (hy : Sl.WordOk y) : Calls Tryz.prog 59 #[sp A.st, .int .u64 x, .int .i64 k, .int .u64 y] w fun e w' => e = .returned (.int .i64 (wE T W x k)) ∧ Sw w' B A pg (pW T W x k y) L v T ∧ Stp A pg pg v v w w' := by
  have wa := wordAt_any h x k hx
  have c0 := h.b.c0
  have c0' := fun w1 (k1 : K w w1) => k1.cell c0
  rcases wE_cases T W x k with e0 | ⟨e0, _⟩
  · obtain ⟨i, s, _, hs, so, k0, k1, ea, hb, hr⟩ := h.word e0
    have wr := fun w1 (kk : K w w1) => (h.b.keep kk).hp.writeW hb (i := 2 + k) (by omega) (by omega) hy
    rw [show wV T W x k = s.a + 2 + k by unfold wV; rw [if_pos e0, ea], e0] at wa
    have E : Hid (pW T W x k y = Sl.upd W (s.a + 2 + k) y) := by simp [pW, e0, ea, Hid]
    rw [show s.a + (2 + k) = s.a + 2 + k by omega] at wr
    have E0 : Hid _ := e0
    have R : Aside (Rec L (Sl.upd W (s.a + 2 + k) y) T) := h.r.put h.b.wl hs so k0 k1
    have HB : Aside _ := h.b
    clear e0 ea hb hr hy h hs so k0 k1
    generalize s.a + 2 + k = ad at *
    go_enter Tryz.func59, Tryz.ntmps59
    go_wp2_with fail
    refine wa.mono ?_
    rintro e w1 ⟨rfl, kk⟩
    have d0 := c0' _ kk
    go_wp2_with (go_at_call 89; refine (wr _ kk).mono ?_; rintro e w2 ⟨rfl, st2, t2⟩)
    go_ret
    refine ⟨by rw [E0.out]; rfl, ?_, (Stp.ofK kk).trans (Stp.heap t2)⟩
    rw [E.out]
    exact ⟨(HB.out.keep kk).heap (Nat.le_trans hB kk.size) st2 t2, R.out⟩
  · have hne : ¬ wE T W x k = 0 := by simpa using e0
    rw [show wV T W x k = 0 by unfold wV; rw [if_neg hne]] at wa
    have E : Hid (pW T W x k y = W) := by simp [pW, hne, Hid]
    have HS : Aside _ := h
    clear hne h
    generalize wE T W x k = er at *
    go_enter Tryz.func59, Tryz.ntmps59
    go_wp2_with (go_at_call 71; refine wa.mono ?_; rintro e w1 ⟨rfl, kk⟩)
    go_ret
    refine ⟨rfl, ?_, Stp.ofK kk⟩
    rw [E.out]
    exact HS.out.keep kk

/-- What Len tells. -/
def lE (T : List Hd.Sl) (x : Int) : Int := match findL T x with | none => 7 | some _ => 0
def lN (T : List Hd.Sl) (W : Int → Int) (x : Int) : Int := match findL T x with | none => 0 | some i => W (Hd.addrAt T i + 1)

theorem len_any (h : Sw w B A pg W L v T) (x : Int) (hx : U64 x) : Calls Tryz.prog 52 #[sp A.st, .int .u64 x] w fun e w' => e = .returned (.tuple #[.int .i64 (lN T W x), .int .i64 (lE T x)]) ∧ K w w' := by
  cases hf : findL T x with
  | none =>
    have E : Hid (lE T x = 7) := by simp [lE, hf, Hid]
    have E2 : Hid (lN T W x = 0) := by simp [lN, hf, Hid]
    have fd := find_none h.b x hx hf
    clear hf
    go_enter Tryz.func52, Tryz.ntmps52
    go_wp2_with (go_at_call 60; refine fd.mono ?_; rintro e w1 ⟨rfl, k1⟩)
    go_ret2
    exact ⟨by rw [E.out, E2.out]; rfl, k1.alloc _⟩
  | some i =>
    obtain ⟨s, hs, so, _, n0, n1, hb⟩ := h.live hf
    have fd := find_some h x hx hf hs
    have ea : Hd.addrAt T i = s.a := by unfold Hd.addrAt; rw [Hd.getD_of hs]
    have E : Hid (lE T x = 0) := by simp [lE, hf, Hid]
    have E2 : Hid (lN T W x = W (s.a + 1)) := by simp [lN, hf, ea, Hid]
    clear hf hs hb ea
    generalize W (s.a + 1) = n at *
    go_enter Tryz.func52, Tryz.ntmps52
    go_wp2_with (go_at_call 60; refine fd.mono ?_; rintro e w1 ⟨rfl, k1⟩)
    go_ret2
    exact ⟨by rw [E.out, E2.out]; rfl, k1.alloc _⟩

end So
end Go.Proofs.YtbbjfebdihepnaaGreatDoor

/-
  The calls of heap, arena and table, told of a store.
-/
namespace Go.Proofs.YtbbjfebdihepnaaGreatDoor
open Go.RowKit Go.Maps
attribute [local go_sem ↓] Go.wp_at_zero Go.wp_at_succ
namespace So
open Hp (Kept K No Pg BlR Bl Wl Same SameBut allocL slideL dropL findB roomI)
open Hd (U64 findL atL openL closeL moveL)
variable {w w' : World} {B : Nat} {A : Ad} {pg : List (Int × Nat)} {W : Int → Int} {L L' : List Pg} {v : Value} {T T' : List Hd.Sl}

theorem Sb.in64 (h : Sb w B A pg W L v T) {a r : Int} (hb : BlR L a r) : Hp.In64 a := by
  have := h.at hb
  exact ⟨by omega, by omega⟩

theorem Sb.alloc (h : Sb w B A pg W L v T) (hB : B ≤ w.heap.size) (x a er : Int) (e : allocL A.q L x = (a, er, L')) : Calls Tryz.prog 85 #[Hp.hp A.bh, .int .i64 x] w fun e w' => e = .returned (.tuple #[.int .i64 a, .int .i64 er]) ∧ ∃ pg' W', Sb w' B A pg' W' L' v T ∧ Same L W W' ∧ (er = 0 → ∀ i, 0 ≤ i → i < x → W' (a + i) = 0) ∧ Stp A pg pg' v v w w' := by
  have := Hp.alloc_any h.hp x
  rw [e] at this
  refine this.mono ?_
  rintro e w1 ⟨rfl, pg1, W1, s1, t1, hs, hz⟩
  exact ⟨rfl, pg1, W1, h.heap hB s1 t1, hs, hz, Stp.heap t1⟩

theorem Sb.free (h : Sb w B A pg W L v T) (hB : B ≤ w.heap.size) {a r : Int} (hb : BlR L a r) {p : Pg} {k : Int} (hf : findB L a = some (p, k)) : Calls Tryz.prog 61 #[Hp.hp A.bh, .int .i64 a] w fun e w' => e = .returned (.int .i64 0) ∧ ∃ pg' W', Sb w' B A pg' W' (dropL L p k) v T ∧ SameBut L p k W W' ∧ Stp A pg pg' v v w w' := by
  have hfr : (Hp.freeL L a).1 = 0 := by unfold Hp.freeL; rw [hf]
  have := Hp.free_any h.hp a (h.in64 hb)
  rw [hfr] at this
  refine this.mono ?_
  rintro e3 w1 ⟨rfl, (⟨h1, _⟩ | ⟨p', s', h1, pg1, W1, s1, t1, hs⟩)⟩
  · rw [hf] at h1; cases h1
  · rw [hf] at h1
    obtain ⟨rfl, rfl⟩ := Prod.mk.inj (Option.some.inj h1)
    exact ⟨rfl, pg1, W1, h.heap hB s1 t1, hs, Stp.heap t1⟩

theorem Sb.write (h : Sb w B A pg W L v T) (hB : B ≤ w.heap.size) {a r i x : Int} (hb : BlR L a r) (i0 : 0 ≤ i) (i1 : i < r) (hx : Sl.WordOk x) : Calls Tryz.prog 89 #[.pointer (some ⟨A.bs, 0, none⟩), .int .i64 (a + i), .int .u64 x] w fun e w' => e = .returned (.int .i64 0) ∧ Sb w' B A pg (Sl.upd W (a + i) x) L v T ∧ Stp A pg pg v v w w' := by
  refine (h.hp.writeW hb i0 i1 hx).mono ?_
  rintro e w1 ⟨rfl, s1, t1⟩
  exact ⟨rfl, h.heap hB s1 t1, Stp.heap t1⟩

theorem Sb.opn (h : Sb w B A pg W L v T) (a x er : Int) (a1 : a ≤ 9223372036854775807) (e : openL A.m A.z T a = (x, er, T')) : Calls Tryz.prog 88 #[Hd.tp A.bt, .int .i64 a] w fun e w' => e = .returned (.tuple #[.int .u64 x, .int .i64 er]) ∧ ∃ v', Sb w' B A pg W L v' T' ∧ Stp A pg pg v v' w w' := by
  have := Hd.open_any h.tb a a1
  rw [e] at this
  refine this.mono ?_
  rintro e w1 ⟨rfl, v1, t1, k1, i1⟩
  exact ⟨rfl, v1, h.tab t1 k1 i1, Stp.tab k1 i1⟩

theorem Sb.close (h : Sb w B A pg W L v T) (x er : Int) (hx : U64 x) (e : closeL T x = (er, T')) : Calls Tryz.prog 62 #[Hd.tp A.bt, .int .u64 x] w fun e w' => e = .returned (.int .i64 er) ∧ Sb w' B A pg W L v T' ∧ Stp A pg pg v v w w' := by
  have := Hd.close_any h.tb x hx
  rw [e] at this
  refine this.mono ?_
  rintro e w1 ⟨rfl, t1, k1⟩
  exact ⟨rfl, h.tab t1 k1 (fun _ hj => .inl hj), Stp.tab k1 (fun _ hj => .inl hj)⟩

/-- A block of one's own beside a store stays. -/
theorem Stp.block {pg' : List (Int × Nat)} {v' : Value} (s : Stp A pg pg' v v' w w') {k : Nat} {o : Obj} (hk : w.heap[k]? = some o) (hn : ¬ foot A pg v k) : w'.heap[k]? = some o := s.k.block hk hn
theorem Stp.cell {pg' : List (Int × Nat)} {v' : Value} (s : Stp A pg pg' v v' w w') {p : Addr} {u : Value} (hk : w.cell? p = some u) (hn : ¬ foot A pg v p.block) : w'.cell? p = some u := s.k.cell hk hn
theorem Stp.off {pg' : List (Int × Nat)} {v' : Value} (s : Stp A pg pg' v v' w w') {k : Nat} (hk : k < w.heap.size) (hn : ¬ foot A pg v k) : ¬ foot A pg' v' k := fun hf => by
  rcases s.inn k hf with h | h
  · exact hn h
  · omega

set_option maxHeartbeats 1000000 in
theorem drop_some (h : Sw w B A pg W L v T) (hB : B ≤ w.heap.size) (x : Int) (hx : U64 x) {i : Nat} {s : Hd.Sl} (hf : findL T x = some i) (hs : T[i]? = some s) : Calls Tryz.prog 42 #[sp A.st, .int .u64 x] w fun e w' => e = .returned (.int .i64 0) ∧ ∃ pg' W' p k, findB L s.a = some (p, k) ∧ SameBut L p k W W' ∧ Sw w' B A pg' W' (dropL L p k) v (T.set i ⟨false, s.g, 0⟩) ∧ Stp A pg pg' v v w w' := by
  obtain ⟨s', hs', so, _, n0, n1, hb⟩ := h.live hf
  obtain rfl : s = s' := Option.some.inj (hs.symm.trans hs')
  have fd := find_some h x hx hf hs
  obtain ⟨⟨p, k⟩, hfb⟩ := h.b.wl.find_iff.1 hb.bl
  have hcl := Hd.closeL_some hf hs
  have R : Aside (∀ W', SameBut L p k W W' → Rec (dropL L p k) W' (T.set i ⟨false, s.g, 0⟩)) := fun W' hs' => h.r.drop h.b.wl hs so h.b.tl hfb hs'
  have HH : Aside _ := h.b
  have fr : Aside (∀ w1, K w w1 → Calls Tryz.prog 61 #[Hp.hp A.bh, .int .i64 s.a] w1 fun e w' => e = .returned (.int .i64 0) ∧ ∃ pg' W', Sb w' B A pg' W' (dropL L p k) v T ∧ SameBut L p k W W' ∧ Stp A pg pg' v v w1 w') := fun w1 k1 => (HH.out.keep k1).free (Nat.le_trans hB k1.size) hb hfb
  have FB : Aside _ := hfb
  have CL : Aside _ := hcl
  clear hfb hcl hs' hb n0 n1 so hf hs
  generalize W (s.a + 1) = n at *
  go_enter Tryz.func42, Tryz.ntmps42
  go_wp2_with fail
  refine fd.mono ?_
  rintro e w1 ⟨rfl, k1⟩
  obtain ⟨w2, hw2⟩ : ∃ w2, w2 = w1.alloc (.cells #[.int .i64 s.a, .int .i64 n] 118) := ⟨_, rfl⟩
  have k2 : K w1 w2 := by rw [hw2]; exact (K.refl w1).alloc _
  have hB2 : w2.heap[w1.heap.size]? = some (.cells #[.int .i64 s.a, .int .i64 n] 118) := by rw [hw2]; exact World.alloc_heap_new _ _
  have x0 : w2.cell? ⟨w1.heap.size, 0, none⟩ = some (.int .i64 s.a) := by simp [World.cell?, hB2]
  have k12 := k1.trans k2
  have hnf : ¬ foot A pg v w1.heap.size := fun hf => by have := (h.b.keep k1).flt hf; omega
  have hst : ¬ foot A pg v A.st := fun hf => by
    rcases hf with hf | hf
    · exact h.b.fs hf
    · exact h.b.ns hf
  have c1 := (h.b.keep k12).c1
  have fr2 : Calls Tryz.prog 61 #[Hp.hp A.bh, .int .i64 s.a] w2.drew fun e w' => e = .returned (.int .i64 0) ∧ Aside (∃ pg' W', Sb w' B A pg' W' (dropL L p k) v T ∧ SameBut L p k W W' ∧ Stp A pg pg' v v w w') ∧ w'.cell? ⟨A.st, 1, none⟩ = some (.pointer (some ⟨A.bh, 0, none⟩)) ∧ w'.cell? ⟨w1.heap.size, 0, none⟩ = some (.int .i64 s.a) := by
    refine (fr.out _ k12.drew).mono ?_
    rintro e w3 ⟨rfl, pg3, W3, b3, sb3, t3⟩
    exact ⟨rfl, ⟨pg3, W3, b3, sb3, (Stp.ofK k12.drew).trans t3⟩, b3.c1, t3.cell x0 hnf⟩
  clear fr hB2 hnf hst HH h
  go_wp2
  rw [← hw2]
  clear hw2 k2
  generalize w1.heap.size = N at *
  go_region_held3 (fun w' => w'.cell? ⟨A.st, 1, none⟩ = some (.pointer (some ⟨A.bh, 0, none⟩)) ∧ w'.cell? ⟨N, 0, none⟩ = some (.int .i64 s.a))
    (first | exact ⟨c1, x0⟩ | exact ⟨y1, y0⟩)
    (first | (go_at_call 61; refine fr2.mono ?_; rintro e w3 ⟨rfl, HP, y1, y0⟩))
  obtain ⟨pg3, W3, b3, sb3, t3⟩ := HP.out
  have d2 := b3.c2
  have cl := b3.close x 0 hx CL.out
  have SB3 : Aside _ := sb3
  clear b3 sb3 HP c1 x0 fr2 fd
  go_wp2_with (go_at_call 62; refine cl.mono ?_; rintro e w4 ⟨rfl, b4, t4⟩)
  go_ret
  exact ⟨rfl, pg3, W3, p, k, FB.out, SB3.out, ⟨b4, R.out _ SB3.out⟩, t3.trans t4⟩

/-- Words: 64 times the granted pages. -/
theorem words_any (h : Sb w B A pg W L v T) : Calls Tryz.prog 25 #[sp A.st] w fun e w' => e = .returned (.int .i64 (64 * Hp.granted L)) ∧ K w w' := by
  have hm := made_ok h
  have c0 := h.c0
  have pp := Sl.pages_said w _ _ _ _ _ h.hp.hw.ar
  have hlen := h.hp.len
  have hl := h.hp.hw.ar.len
  rw [← hlen]
  clear h hlen
  generalize pg.length = n at *
  go_enter Tryz.func25, Tryz.ntmps25
  go_wp2_with (first
    | (go_at_call 43; refine hm.mono ?_; rintro e w1 ⟨rfl, rfl⟩)
    | (go_at_call 46; refine pp.mono ?_; rintro e w1 ⟨a, cap, rfl, hk, _⟩))
  go_ret
  exact ⟨rfl, K.of_below hk⟩

end So
end Go.Proofs.YtbbjfebdihepnaaGreatDoor
