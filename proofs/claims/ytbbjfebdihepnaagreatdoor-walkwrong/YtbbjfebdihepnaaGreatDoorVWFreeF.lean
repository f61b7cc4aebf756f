/-
  What Free's rounds keep: the nodes that are still to be told, what is held beside those that are gone.
-/
import Derived.Test.YtbbjfebdihepnaaGreatDoorWJ
namespace Go.Proofs.YtbbjfebdihepnaaGreatDoor
open Go.RowKit Go.Maps
namespace Wa
open Hp (Kept K No Pg Wl granted dropL Grows)
open Hd (U64 findL)
open Nd (Nv)
open Co (Off)
open Go.Proofs.YtbbjfebdihepnaaGreatDoor.Bb (Ho rwI)
open Go.Proofs.YtbbjfebdihepnaaGreatDoor.So (Ad Sb Sw Rec Rn Stp sp foot)
variable {w0 w w' : World} {A : Ad} {pg pg' : List (Int × Nat)} {W W' W0 : Int → Int} {L : List Pg} {v v' : Value} {T T' T0 : List Hd.Sl} {x : Int} {c : Nat} {g0 : Vw} {h : Int} {st : List (Int × Nv)} {m : List Int} {tc l r t : Tr} {i : It} {ps : List (It × Tr)}

/-- Nodes that are still to be told. -/
def remI (tc : Tr) (ps : List (It × Tr)) : List It := tc.items ++ ps.flatMap fun p => p.1 :: p.2.items

/-- Where the iterator stands in a right tree. -/
structure Fz (g0 : Vw) (h : Int) (st : List (Int × Nv)) (m : List Int) (tc : Tr) (ps : List (It × Tr)) : Prop where
  root : tc.root = h
  lay : tc.Lay g0
  st : st = ps.map fun p => (p.1.h, p.1.n)
  ok : ∀ p ∈ ps, p.1.Ok g0 ∧ p.1.n.d = p.2.root ∧ p.2.Lay g0
  nd : (hsOf (remI tc ps)).Nodup
  m : ∀ y ∈ m, y ∉ hsOf tc.items ∧ ∀ p ∈ ps, y ∉ hsOf p.2.items

theorem Fz.start (h : Right g0 t) : Fz g0 t.root [] [] t [] :=
  ⟨rfl, h.lay, rfl, fun p h => (by cases h), by simpa [remI] using h.nd, fun y h => (by cases h)⟩
theorem Fz.due (z : Fz g0 h st m tc ps) (h0 : h ≠ 0) : ∃ i l r, tc = .node i l r ∧ i.h = h ∧ h ∉ m ∧ g0.nd h = some i.n := by
  cases tc with
  | nil => exact absurd z.root.symm h0
  | node i l r =>
    have e : i.h = h := z.root
    refine ⟨i, l, r, rfl, e, fun hm => (z.m h hm).1 ?_, by rw [← e]; exact z.lay.1.nd⟩
    rw [← e]
    simp [Tr.items, hs_app, hs_cons]
theorem Fz.mark (z : Fz g0 h st m (.node i l r) ps) : Fz g0 i.n.c ((h, i.n) :: st) (h :: m) l ((i, r) :: ps) ∧ remI l ((i, r) :: ps) = remI (.node i l r) ps := by
  have er : remI l ((i, r) :: ps) = remI (.node i l r) ps := by simp [remI, Tr.items]
  have e : i.h = h := z.root
  have hn := z.nd
  have hz := z.m
  obtain ⟨hi, ec, ed, ee, hll, hlr⟩ := z.lay
  rw [← er] at hn
  simp only [remI, hs_app, List.flatMap_cons, List.cons_append, hs_cons] at hn
  obtain ⟨n1, n2, n3⟩ := List.nodup_append.1 hn
  obtain ⟨n4, _⟩ := List.nodup_cons.1 n2
  simp only [List.mem_cons, List.mem_append, not_or] at n4
  refine ⟨⟨ec.symm, hll, by rw [z.st, ← e]; rfl, fun p hp => ?_, by rw [er]; exact z.nd, fun y hy => ?_⟩, er⟩
  · rcases List.mem_cons.1 hp with rfl | hp
    · exact ⟨hi, ed, hlr⟩
    · exact z.ok p hp
  · rcases List.mem_cons.1 hy with rfl | hy
    · rw [← e]
      refine ⟨fun hm => n3 _ hm _ (by simp) rfl, fun p hp hm => ?_⟩
      rcases List.mem_cons.1 hp with rfl | hp
      · exact n4.2.2.1 hm
      · refine n4.2.2.2 ?_
        obtain ⟨j, hj, hjm⟩ := List.mem_flatMap.1 hm
        exact List.mem_flatMap.2 ⟨j, List.mem_flatMap.2 ⟨p, hp, by simp [hj]⟩, hjm⟩
    · obtain ⟨h1, h2⟩ := hz y hy
      simp only [Tr.items, hs_app, hs_cons, List.mem_append, List.mem_cons, not_or] at h1
      refine ⟨h1.1, fun p hp => ?_⟩
      rcases List.mem_cons.1 hp with rfl | hp
      · exact h1.2.2.2.2
      · exact h2 p hp
theorem Fz.nil (hf : g0.Fit) (z : Fz g0 0 st m tc ps) : tc = .nil := by
  cases tc with
  | nil => rfl
  | node i l r => exact absurd z.root (root_ne hf z.lay)
theorem Fz.item (hf : g0.Fit) {p : Int × Nv} (z : Fz g0 0 (p :: st) m tc ps) : ∃ i tr ps', p = (i.h, i.n) ∧ i.Ok g0 ∧ Fz g0 i.n.d st m tr ps' ∧ remI tc ps = i :: remI tr ps' := by
  obtain rfl := z.nil hf
  have est := z.st
  cases ps with
  | nil => cases est
  | cons q ps =>
    obtain ⟨i, tr⟩ := q
    simp only [List.map_cons, List.cons.injEq] at est
    obtain ⟨rfl, est⟩ := est
    obtain ⟨hi, ed, hl⟩ := z.ok (i, tr) (by simp)
    have er : remI .nil ((i, tr) :: ps) = i :: remI tr ps := by simp [remI, Tr.items]
    have hn := z.nd
    rw [er, hs_cons] at hn
    refine ⟨i, tr, ps, rfl, hi, ⟨ed.symm, hl, est, fun p hp => z.ok p (by simp [hp]), (List.nodup_cons.1 (List.nodup_cons.1 (List.nodup_cons.1 hn).2).2).2, fun y hy => ⟨(z.m y hy).2 (i, tr) (by simp), fun p hp => (z.m y hy).2 p (by simp [hp])⟩⟩, er⟩
theorem Fz.fin (hf : g0.Fit) (z : Fz g0 0 [] m tc ps) : remI tc ps = [] := by
  obtain rfl := z.nil hf
  have est := z.st
  cases ps with
  | nil => rfl
  | cons q ps => cases est

theorem lvH_drop {i : Nat} {s : Hd.Sl} (hs : T[i]? = some s) (a : Int) : lvH (T.set i ⟨false, s.g, a⟩) = lvH T := by
  unfold lvH
  rw [List.length_set]
  refine List.map_congr_left fun j _ => ?_
  congr 1
  rw [List.getD_eq_getElem?_getD, List.getD_eq_getElem?_getD]
  by_cases e : i = j
  · subst e
    rw [List.getElem?_set_self (List.getElem?_eq_some_iff.1 hs).1, hs]
    rfl
  · rw [List.getElem?_set_ne e]

/-- A store without these records of before. -/
structure Fst (w0 w : World) (A : Ad) (c : Nat) (T0 : List Hd.Sl) (W0 : Int → Int) (D : List Int) (pg : List (Int × Nat)) (v : Value) (T : List Hd.Sl) (W : Int → Int) : Prop where
  rn : ∃ L, Rn w0 w A pg W L v T ∧ T.length ≤ c ∧ granted L ≤ 3 * (c : Int) ∧ A.q = 262144 ∧ A.m = 1000
  lv : lvH T = lvH T0
  cnt : Bb.op T + D.length = Bb.op T0
  held : ∀ y ys, y ∉ D → Ho T0 W0 y ys → Ho T W y ys
  gone : ∀ y ∈ D, findL T y = none
theorem Fst.start (h : Gs w0 w A c T W) : ∃ pg v, Fst w0 w A c T W [] pg v T W := by
  obtain ⟨pg, L, v, rn, r⟩ := h
  exact ⟨pg, v, ⟨L, rn, r⟩, rfl, rfl, fun _ _ _ h => h, fun y h => (by cases h)⟩
theorem Fst.gs {D : List Int} (h : Fst w0 w A c T0 W0 D pg v T W) : Gs w0 w A c T W := by
  obtain ⟨L, rn, r⟩ := h.rn
  exact ⟨pg, L, v, rn, r⟩
theorem Rn.kept {O : Nat → Prop} (h : Rn w0 w A pg W L v T) (k : Kept O w w') (hO : ∀ j, O j → w0.heap.size ≤ j ∧ ¬ foot A pg v j ∧ j ≠ A.bh ∧ j ≠ 1 ∧ j ≠ A.st) : Rn w0 w' A pg W L v T :=
  ⟨⟨h.s.b.kept k (fun j hj => (hO j hj).2), h.s.r⟩, ⟨k.os.trans h.k.os, k.tape.trans h.k.tape, k.output.trans h.k.output, Nat.le_trans h.k.size k.size, fun j hj hn => (k.same j (Nat.lt_of_lt_of_le hj h.k.size) (fun hx => by have := (hO j hx).1; omega)).trans (h.k.same j hj hn)⟩⟩
theorem Fst.kept {D : List Int} {O : Nat → Prop} (h : Fst w0 w A c T0 W0 D pg v T W) (k : Kept O w w') (hO : ∀ j, O j → w0.heap.size ≤ j ∧ ¬ foot A pg v j ∧ j ≠ A.bh ∧ j ≠ 1 ∧ j ≠ A.st) : Fst w0 w' A c T0 W0 D pg v T W := by
  obtain ⟨L, rn, r⟩ := h.rn
  exact ⟨⟨L, Rn.kept rn k hO, r⟩, h.lv, h.cnt, h.held, h.gone⟩
theorem Fst.keep {D : List Int} (h : Fst w0 w A c T0 W0 D pg v T W) (k : K w w') : Fst w0 w' A c T0 W0 D pg v T W := by
  obtain ⟨L, rn, r⟩ := h.rn
  exact ⟨⟨L, rn.keep k, r⟩, h.lv, h.cnt, h.held, h.gone⟩
theorem Fst.drop {D : List Int} (h : Fst w0 w A c T0 W0 D pg v T W) {y : Int} (hu : U64 y) (hy : (findL T0 y).isSome = true) (hD : y ∉ D) :
    Calls Tryz.prog 42 #[sp A.st, .int .u64 y] w fun e w' => e = .returned (.int .i64 0) ∧ Aside (∃ pg' T' W', Fst w0 w' A c T0 W0 (y :: D) pg' v T' W' ∧ Stp A pg pg' v v w w') := by
  obtain ⟨L, rn, h1, h2, h3⟩ := h.rn
  have hf := (h.held y (rwI T0 W0 y) hD ⟨hy, rfl⟩).1
  obtain ⟨i, hi⟩ := Option.isSome_iff_exists.1 hf
  obtain ⟨s, hs, so, _, _⟩ := Hd.findL_some hi
  refine (So.drop_some rn.s rn.k.size y hu hi hs).mono ?_
  rintro e w1 ⟨rfl, pg1, W1, p, k, hb, sb, sw1, st⟩
  obtain ⟨d1, d2⟩ := Bb.find_drop hi hs
  refine ⟨rfl, pg1, _, W1, ⟨⟨_, ⟨sw1, rn.kst st⟩, by rw [List.length_set]; exact h1, ?_, h3⟩, (lvH_drop hs 0).trans h.lv, ?_, fun z zs hz ho => ?_, fun z hz => ?_⟩, st⟩
  · have := So.drop_granted rn.s.b.wl (Hp.findB_some hb).1 k
    omega
  · have h4 := Bb.close_op hs so s.g
    have h5 := h.cnt
    simp only [List.length_cons]
    omega
  · simp only [List.mem_cons, not_or] at hz
    exact Ho.drop rn.s.r rn.s.b.tl hi hs hb sb hz.1 (h.held z zs hz.2 ho)
  · by_cases e : z = y
    · rw [e]; exact d1
    · rw [(d2 z e).1]
      rcases List.mem_cons.1 hz with h6 | h6
      · exact absurd h6 e
      · exact h.gone z h6

/-- What Free leaves. -/
def FreeT (w0 w : World) (A : Ad) (c : Nat) (T : List Hd.Sl) (W : Int → Int) (t : Tr) (w' : World) : Prop := Fr w w' ∧ ∃ T' W', Gs w0 w' A c T' W' ∧ Bb.op T' + 3 * t.items.length = Bb.op T ∧ (∀ y ys, y ∉ hsOf t.items → Ho T W y ys → Ho T' W' y ys) ∧ ∀ y ∈ hsOf t.items, findL T' y = none
theorem hs_len : ∀ l : List It, (hsOf l).length = 3 * l.length
  | [] => rfl
  | i :: l => by
    rw [hs_cons]
    simp only [List.length_cons, hs_len l]
    omega
theorem Fst.fin {D : List Int} (h : Fst w0 w' A c T0 W0 D pg v T W) (fr : Fr w w') (pm : D.Perm (hsOf t.items)) : FreeT w0 w A c T0 W0 t w' := by
  refine ⟨fr, T, W, h.gs, ?_, fun y ys hy ho => h.held y ys (fun hd => hy (pm.mem_iff.1 hd)) ho, fun y hy => h.gone y (pm.mem_iff.2 hy)⟩
  have h1 := h.cnt
  rw [pm.length_eq, hs_len] at h1
  exact h1
end Wa
end Go.Proofs.YtbbjfebdihepnaaGreatDoor
