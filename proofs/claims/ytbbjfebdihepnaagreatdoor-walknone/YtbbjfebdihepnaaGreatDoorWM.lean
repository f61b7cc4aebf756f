/-
  What Free's rounds keep: the nodes that are still to be told, what is held beside those that are gone.
-/
import Derived.Test.YtbbjfebdihepnaaGreatDoorWJ
import Derived.OrdersIn
import Derived.Test.YtbbjfebdihepnaaGreatDoorWK
namespace Go.Proofs.YtbbjfebdihepnaaGreatDoor
open Go.RowKit Go.Maps
namespace Wa
open Hp (Kept K No Pg Wl granted dropL Grows)
open Hd (U64 findL)
open Nd (Nv)
open Co (Off)
open Go.Proofs.YtbbjfebdihepnaaGreatDoor.Bb (Ho rwI)
open Go.Proofs.YtbbjfebdihepnaaGreatDoor.So (Ad Sb Sw Rec Rn Stp sp foot)
variable {w0 w w' : World} {A : Ad} {pg pg' : List (Int × Nat)} {W W' W0 : Int → Int} {L : List Pg} {v v' : Value} {T T' T0 : List Hd.Sl} {x : Int} {c : Nat} {g0 : Vw} {h : Int} {st : List (Int × Nv)} {m : List Int} {tc l r t : Tr} {i : It} {ps : List (It × Tr)}

/-- Nodes that are still to be told. -/
def remI (tc : Tr) (ps : List (It × Tr)) : List It := tc.items ++ ps.flatMap fun p => p.1 :: p.2.items

/-- Where the iterator stands in a right tree. -/
structure Fz (g0 : Vw) (h : Int) (st : List (Int × Nv)) (m : List Int) (tc : Tr) (ps : List (It × Tr)) : Prop where
  root : tc.root = h
  lay : tc.Lay g0
  st : st = ps.map fun p => (p.1.h, p.1.n)
  ok : ∀ p ∈ ps, p.1.Ok g0 ∧ p.1.n.d = p.2.root ∧ p.2.Lay g0
  nd : (hsOf (remI tc ps)).Nodup
  m : ∀ y ∈ m, y ∉ hsOf tc.items ∧ ∀ p ∈ ps, y ∉ hsOf p.2.items

theorem Fz.start (h : Right g0 t) : Fz g0 t.root [] [] t [] :=
  ⟨rfl, h.lay, rfl, fun p h => (by cases h), by simpa [remI] using h.nd, fun y h => (by cases h)⟩
theorem Fz.due (z : Fz g0 h st m tc ps) (h0 : h ≠ 0) : ∃ i l r, tc = .node i l r ∧ i.h = h ∧ h ∉ m ∧ g0.nd h = some i.n := by
  cases tc with
  | nil => exact absurd z.root.symm h0
  | node i l r =>
    have e : i.h = h := z.root
    refine ⟨i, l, r, rfl, e, fun hm => (z.m h hm).1 ?_, by rw [← e]; exact z.lay.1.nd⟩
    rw [← e]
    simp [Tr.items, hs_app, hs_cons]
theorem Fz.mark (z : Fz g0 h st m (.node i l r) ps) : Fz g0 i.n.c ((h, i.n) :: st) (h :: m) l ((i, r) :: ps) ∧ remI l ((i, r) :: ps) = remI (.node i l r) ps := by
  have er : remI l ((i, r) :: ps) = remI (.node i l r) ps := by simp [remI, Tr.items]
  have e : i.h = h := z.root
  have hn := z.nd
  have hz := z.m
  obtain ⟨hi, ec, ed, ee, hll, hlr⟩ := z.lay
  rw [← er] at hn
  simp only [remI, hs_app, List.flatMap_cons, List.cons_append, hs_cons] at hn
  obtain ⟨n1, n2, n3⟩ := List.nodup_append.1 hn
  obtain ⟨n4, _⟩ := List.nodup_cons.1 n2
  simp only [List.mem_cons, List.mem_append, not_or] at n4
  refine ⟨⟨ec.symm, hll, by rw [z.st, ← e]; rfl, fun p hp => ?_, by rw [er]; exact z.nd, fun y hy => ?_⟩, er⟩
  · rcases List.mem_cons.1 hp with rfl | hp
    · exact ⟨hi, ed, hlr⟩
    · exact z.ok p hp
  · rcases List.mem_cons.1 hy with rfl | hy
    · rw [← e]
      refine ⟨fun hm => n3 _ hm _ (by simp) rfl, fun p hp hm => ?_⟩
      rcases List.mem_cons.1 hp with rfl | hp
      · exact n4.2.2.1 hm
      · refine n4.2.2.2 ?_
        obtain ⟨j, hj, hjm⟩ := List.mem_flatMap.1 hm
        exact List.mem_flatMap.2 ⟨j, List.mem_flatMap.2 ⟨p, hp, by simp [hj]⟩, hjm⟩
    · obtain ⟨h1, h2⟩ := hz y hy
      simp only [Tr.items, hs_app, hs_cons, List.mem_append, List.mem_cons, not_or] at h1
      refine ⟨h1.1, fun p hp => ?_⟩
      rcases List.mem_cons.1 hp with rfl | hp
      · exact h1.2.2.2.2
      · exact h2 p hp
theorem Fz.nil (hf : g0.Fit) (z : Fz g0 0 st m tc ps) : tc = .nil := by
  cases tc with
  | nil => rfl
  | node i l r => exact absurd z.root (root_ne hf z.lay)
theorem Fz.item (hf : g0.Fit) {p : Int × Nv} (z : Fz g0 0 (p :: st) m tc ps) : ∃ i tr ps', p = (i.h, i.n) ∧ i.Ok g0 ∧ Fz g0 i.n.d st m tr ps' ∧ remI tc ps = i :: remI tr ps' := by
  obtain rfl := z.nil hf
  have est := z.st
  cases ps with
  | nil => cases est
  | cons q ps =>
    obtain ⟨i, tr⟩ := q
    simp only [List.map_cons, List.cons.injEq] at est
    obtain ⟨rfl, est⟩ := est
    obtain ⟨hi, ed, hl⟩ := z.ok (i, tr) (by simp)
    have er : remI .nil ((i, tr) :: ps) = i :: remI tr ps := by simp [remI, Tr.items]
    have hn := z.nd
    rw [er, hs_cons] at hn
    refine ⟨i, tr, ps, rfl, hi, ⟨ed.symm, hl, est, fun p hp => z.ok p (by simp [hp]), (List.nodup_cons.1 (List.nodup_cons.1 (List.nodup_cons.1 hn).2).2).2, fun y hy => ⟨(z.m y hy).2 (i, tr) (by simp), fun p hp => (z.m y hy).2 p (by simp [hp])⟩⟩, er⟩
theorem Fz.fin (hf : g0.Fit) (z : Fz g0 0 [] m tc ps) : remI tc ps = [] := by
  obtain rfl := z.nil hf
  have est := z.st
  cases ps with
  | nil => rfl
  | cons q ps => cases est

theorem lvH_drop {i : Nat} {s : Hd.Sl} (hs : T[i]? = some s) (a : Int) : lvH (T.set i ⟨false, s.g, a⟩) = lvH T := by
  unfold lvH
  rw [List.length_set]
  refine List.map_congr_left fun j _ => ?_
  congr 1
  rw [List.getD_eq_getElem?_getD, List.getD_eq_getElem?_getD]
  by_cases e : i = j
  · subst e
    rw [List.getElem?_set_self (List.getElem?_eq_some_iff.1 hs).1, hs]
    rfl
  · rw [List.getElem?_set_ne e]

/-- A store without these records of before. -/
structure Fst (w0 w : World) (A : Ad) (c : Nat) (T0 : List Hd.Sl) (W0 : Int → Int) (D : List Int) (pg : List (Int × Nat)) (v : Value) (T : List Hd.Sl) (W : Int → Int) : Prop where
  rn : ∃ L, Rn w0 w A pg W L v T ∧ T.length ≤ c ∧ granted L ≤ 3 * (c : Int) ∧ A.q = 262144 ∧ A.m = 1000
  lv : lvH T = lvH T0
  cnt : Bb.op T + D.length = Bb.op T0
  held : ∀ y ys, y ∉ D → Ho T0 W0 y ys → Ho T W y ys
  gone : ∀ y ∈ D, findL T y = none
theorem Fst.start (h : Gs w0 w A c T W) : ∃ pg v, Fst w0 w A c T W [] pg v T W := by
  obtain ⟨pg, L, v, rn, r⟩ := h
  exact ⟨pg, v, ⟨L, rn, r⟩, rfl, rfl, fun _ _ _ h => h, fun y h => (by cases h)⟩
theorem Fst.gs {D : List Int} (h : Fst w0 w A c T0 W0 D pg v T W) : Gs w0 w A c T W := by
  obtain ⟨L, rn, r⟩ := h.rn
  exact ⟨pg, L, v, rn, r⟩
theorem Rn.kept {O : Nat → Prop} (h : Rn w0 w A pg W L v T) (k : Kept O w w') (hO : ∀ j, O j → w0.heap.size ≤ j ∧ ¬ foot A pg v j ∧ j ≠ A.bh ∧ j ≠ 1 ∧ j ≠ A.st) : Rn w0 w' A pg W L v T :=
  ⟨⟨h.s.b.kept k (fun j hj => (hO j hj).2), h.s.r⟩, ⟨k.os.trans h.k.os, k.tape.trans h.k.tape, k.output.trans h.k.output, Nat.le_trans h.k.size k.size, fun j hj hn => (k.same j (Nat.lt_of_lt_of_le hj h.k.size) (fun hx => by have := (hO j hx).1; omega)).trans (h.k.same j hj hn)⟩⟩
theorem Fst.kept {D : List Int} {O : Nat → Prop} (h : Fst w0 w A c T0 W0 D pg v T W) (k : Kept O w w') (hO : ∀ j, O j → w0.heap.size ≤ j ∧ ¬ foot A pg v j ∧ j ≠ A.bh ∧ j ≠ 1 ∧ j ≠ A.st) : Fst w0 w' A c T0 W0 D pg v T W := by
  obtain ⟨L, rn, r⟩ := h.rn
  exact ⟨⟨L, Rn.kept rn k hO, r⟩, h.lv, h.cnt, h.held, h.gone⟩
theorem Fst.keep {D : List Int} (h : Fst w0 w A c T0 W0 D pg v T W) (k : K w w') : Fst w0 w' A c T0 W0 D pg v T W := by
  obtain ⟨L, rn, r⟩ := h.rn
  exact ⟨⟨L, rn.keep k, r⟩, h.lv, h.cnt, h.held, h.gone⟩
theorem Fst.drop {D : List Int} (h : Fst w0 w A c T0 W0 D pg v T W) {y : Int} (hu : U64 y) (hy : (findL T0 y).isSome = true) (hD : y ∉ D) :
    Calls Tryz.prog 42 #[sp A.st, .int .u64 y] w fun e w' => e = .returned (.int .i64 0) ∧ Aside (∃ pg' T' W', Fst w0 w' A c T0 W0 (y :: D) pg' v T' W' ∧ Stp A pg pg' v v w w') := by
  obtain ⟨L, rn, h1, h2, h3⟩ := h.rn
  have hf := (h.held y (rwI T0 W0 y) hD ⟨hy, rfl⟩).1
  obtain ⟨i, hi⟩ := Option.isSome_iff_exists.1 hf
  obtain ⟨s, hs, so, _, _⟩ := Hd.findL_some hi
  refine (So.drop_some rn.s rn.k.size y hu hi hs).mono ?_
  rintro e w1 ⟨rfl, pg1, W1, p, k, hb, sb, sw1, st⟩
  obtain ⟨d1, d2⟩ := Bb.find_drop hi hs
  refine ⟨rfl, pg1, _, W1, ⟨⟨_, ⟨sw1, rn.kst st⟩, by rw [List.length_set]; exact h1, ?_, h3⟩, (lvH_drop hs 0).trans h.lv, ?_, fun z zs hz ho => ?_, fun z hz => ?_⟩, st⟩
  · have := So.drop_granted rn.s.b.wl (Hp.findB_some hb).1 k
    omega
  · have h4 := Bb.close_op hs so s.g
    have h5 := h.cnt
    simp only [List.length_cons]
    omega
  · simp only [List.mem_cons, not_or] at hz
    exact Ho.drop rn.s.r rn.s.b.tl hi hs hb sb hz.1 (h.held z zs hz.2 ho)
  · by_cases e : z = y
    · rw [e]; exact d1
    · rw [(d2 z e).1]
      rcases List.mem_cons.1 hz with h6 | h6
      · exact absurd h6 e
      · exact h.gone z h6

/-- What Free leaves. -/
def FreeT (w0 w : World) (A : Ad) (c : Nat) (T : List Hd.Sl) (W : Int → Int) (t : Tr) (w' : World) : Prop := Fr w w' ∧ ∃ T' W', Gs w0 w' A c T' W' ∧ Bb.op T' + 3 * t.items.length = Bb.op T ∧ (∀ y ys, y ∉ hsOf t.items → Ho T W y ys → Ho T' W' y ys) ∧ ∀ y ∈ hsOf t.items, findL T' y = none
theorem hs_len : ∀ l : List It, (hsOf l).length = 3 * l.length
  | [] => rfl
  | i :: l => by
    rw [hs_cons]
    simp only [List.length_cons, hs_len l]
    omega
theorem Fst.fin {D : List Int} (h : Fst w0 w' A c T0 W0 D pg v T W) (fr : Fr w w') (pm : D.Perm (hsOf t.items)) : FreeT w0 w A c T0 W0 t w' := by
  refine ⟨fr, T, W, h.gs, ?_, fun y ys hy ho => h.held y ys (fun hd => hy (pm.mem_iff.1 hd)) ho, fun y hy => h.gone y (pm.mem_iff.2 hy)⟩
  have h1 := h.cnt
  rw [pm.length_eq, hs_len] at h1
  exact h1
theorem perm_item {D R H : List Int} {a b d : Int} (h : (D ++ (a :: b :: d :: R)).Perm H) : ((a :: d :: b :: D) ++ R).Perm H := by
  refine List.Perm.trans ?_ h
  have e : D ++ (a :: b :: d :: R) = (D ++ [a, b, d]) ++ R := by simp
  rw [e]
  refine List.Perm.append_right R ?_
  refine List.Perm.trans ?_ List.perm_append_comm
  exact .cons a (.swap b d D)

end Wa
end Go.Proofs.YtbbjfebdihepnaaGreatDoor

/-
  What lies in memory between two rounds of Free.
-/
namespace Go.Proofs.YtbbjfebdihepnaaGreatDoor
open Go.RowKit Go.Maps
namespace Wa
open Hp (Kept K No Pg Wl granted dropL Grows)
open Hd (U64 findL)
open Nd (Nv)
open Co (Off)
open Go.Proofs.YtbbjfebdihepnaaGreatDoor.Bb (Ho rwI)
open Go.Proofs.YtbbjfebdihepnaaGreatDoor.So (Ad Sb Sw Rec Rn Stp sp foot)
variable {w0 w V V' : World} {A : Ad} {pg pg' : List (Int × Nat)} {W W' W0 : Int → Int} {v v' : Value} {T T' T0 : List Hd.Sl} {c : Nat} {t : Tr} {p q : Nat} {s s' : Sg} {D : List Int}

/-- Where the store lies. -/
structure Lo (w0 w : World) (A : Ad) : Prop where
  bh : A.bh < w.heap.size
  st : A.st < w.heap.size
  tb : 1 < w.heap.size
  s0 : w0.heap.size ≤ w.heap.size
theorem Gs.lo (h : Gs w0 w A c T W) : Lo w0 w A := by
  obtain ⟨pg, L, v, rn, r⟩ := h
  exact ⟨Hp.lt_of_cell rn.s.b.hp.hw.c0, (Array.getElem?_eq_some_iff.1 rn.s.b.hd).1, Hp.lt0 rn.s.b.hp.hw.tab, rn.k.size⟩
theorem Fr.then {O : Nat → Prop} (h : Fr w V) (k : Kept O V V') (hO : ∀ j, O j → w.heap.size ≤ j) : Fr w V' :=
  ⟨Nat.le_trans h.size k.size, fun j cs t hj ht => k.block (h.same j cs t hj ht) (fun ho => by have := hO j ho; have := (Array.getElem?_eq_some_iff.1 hj).1; omega)⟩
theorem Fst.sb (h : Fst w0 V A c T0 W0 D pg v T W) : ∃ L, Sw V w0.heap.size A pg W L v T := by
  obtain ⟨L, rn, _⟩ := h.rn
  exact ⟨L, rn.s⟩
theorem Fst.flt (h : Fst w0 V A c T0 W0 D pg v T W) {j : Nat} (hj : foot A pg v j) : j < V.heap.size := by
  obtain ⟨L, sw⟩ := h.sb
  exact sw.b.flt hj
theorem Fst.frS (h : Fst w0 V A c T0 W0 D pg v T W) (fr : Fr w V) (st : Stp A pg pg' v v' V V') : Fr w V' := by
  obtain ⟨L, sw⟩ := h.sb
  exact fr.trans (Fr.ofStp sw.b st)

/-- Free's variables, and what is left of the tree, between two rounds. -/
structure Fi (w0 w : World) (A : Ad) (c : Nat) (T0 : List Hd.Sl) (W0 : Int → Int) (t : Tr) (p q : Nat) (s : Sg) (D : List Int) (pg : List (Int × Nat)) (v : Value) (T : List Hd.Sl) (W : Int → Int) (V : World) : Prop where
  fs : Fst w0 V A c T0 W0 D pg v T W
  eg : s.g = vw T W
  z : ∃ tc ps, Fz (vw T0 W0) s.h s.st s.m tc ps ∧ (D ++ hsOf (remI tc ps)).Perm (hsOf t.items)
  fr : Fr w V
  bs : Boxed V p 26 (sp A.st)
  i2 : Boxed V (q + 1) 26 (sp A.st)
  i1 : Boxed V (q + 1 + 1) 28 (.int .u64 t.root)
  i3 : Boxed V (q + 1 + 2) 66 (.map (some q))
  d : V.heap[q + 4]? = some (.deferred (some []))
  mp : Mp V q s.m
  sub : ∀ y ∈ s.m, y ∈ lvH T0
  high : s.st.length ≤ s.m.length
  hu : U64 s.h
  su : ∀ y ∈ s.st, U64 y.1 ∧ y.2.Ok
  out : ∀ k, foot A pg v k → k < p ∨ q + 5 ≤ k

theorem Fi.turn {O : Nat → Prop} (lo : Lo w0 w A) (hp : w.heap.size = p) (hq : p < q) (h : Fi w0 w A c T0 W0 t p q s D pg v T W V) (k : Kept O V V') (hO : ∀ j, O j → q + 5 ≤ j ∧ ¬ foot A pg v j) : Fi w0 w A c T0 W0 t p q s D pg v T W V' := by
  have n : ∀ j, j < q + 5 → ¬ O j := fun j hj ho => by have := (hO j ho).1; omega
  have h1 := lo.bh
  have h2 := lo.st
  have h3 := lo.tb
  have h4 := lo.s0
  exact ⟨h.fs.kept k (fun j hj => ⟨by have := (hO j hj).1; omega, (hO j hj).2, by have := (hO j hj).1; omega, by have := (hO j hj).1; omega, by have := (hO j hj).1; omega⟩), h.eg, h.z, h.fr.then k (fun j hj => by have := (hO j hj).1; omega),
    k.boxed h.bs (n _ (by omega)), k.boxed h.i2 (n _ (by omega)), k.boxed h.i1 (n _ (by omega)), k.boxed h.i3 (n _ (by omega)), k.block h.d (n _ (by omega)), h.mp.kept k (n _ (by omega)), h.sub, h.high, h.hu, h.su, h.out⟩
theorem Fi.kk (lo : Lo w0 w A) (hp : w.heap.size = p) (hq : p < q) (h : Fi w0 w A c T0 W0 t p q s D pg v T W V) (k : K V V') : Fi w0 w A c T0 W0 t p q s D pg v T W V' := h.turn lo hp hq (k.kept (fun _ => False)) (fun _ h => h.elim)

/-- What is left is still held. -/
theorem Fi.left (rt : Right (vw T0 W0) t) (h : Fi w0 w A c T0 W0 t p q s D pg v T W V) {tc : Tr} {ps : List (It × Tr)} (pm : (D ++ hsOf (remI tc ps)).Perm (hsOf t.items)) {y : Int} (hy : y ∈ hsOf (remI tc ps)) : y ∉ D ∧ (findL T0 y).isSome = true ∧ Ho T W y (rwI T0 W0 y) := by
  have nd : (D ++ hsOf (remI tc ps)).Nodup := pm.nodup_iff.2 rt.nd
  have n1 : y ∉ D := fun hd => (List.nodup_append.1 nd).2.2 y hd y hy rfl
  have n2 := lay_found rt.lay (pm.mem_iff.1 (List.mem_append_right D hy))
  exact ⟨n1, n2, h.fs.held y _ n1 ⟨n2, rfl⟩⟩
theorem Fi.good (rt : Right (vw T0 W0) t) (h : Fi w0 w A c T0 W0 t p q s D pg v T W V) (h0 : s.h ≠ 0) : ∃ n, s.g.nd s.h = some n ∧ s.h ∉ s.m := by
  obtain ⟨tc, ps, z, pm⟩ := h.z
  obtain ⟨i, l, r, rfl, e, hm, hn⟩ := z.due h0
  obtain ⟨_, _, ho⟩ := h.left rt pm (y := i.h) (by simp [remI, Tr.items, hs_app, hs_cons])
  refine ⟨i.n, ?_, hm⟩
  rw [h.eg]
  obtain ⟨u, hh⟩ := nd_some hn
  refine nd_of u ?_
  rw [e] at ho
  have e2 : rwI T0 W0 s.h = i.n.ws := hh.2
  rw [e2] at ho
  exact ho
theorem Fi.mark (lo : Lo w0 w A) (hp : w.heap.size = p) (hq : p < q) (rt : Right (vw T0 W0) t) (ft : (vw T0 W0).Fit) (h : Fi w0 w A c T0 W0 t p q s D pg v T W V) (m : (iWay q).Mark s V s' V') : Fi w0 w A c T0 W0 t p q s' D pg v T W V' := by
  obtain ⟨h0, n, hn, hm, rfl, k, mp⟩ := m
  have h1 := lo.bh
  have h2 := lo.st
  have h3 := lo.tb
  have h4 := lo.s0
  have ne : ∀ {c : Nat}, c ≠ q → ¬ c = q := fun h => h
  obtain ⟨tc, ps, z, pm⟩ := h.z
  obtain ⟨i, l, r, rfl, e, _, hn0⟩ := z.due h0
  obtain ⟨_, hf, ho⟩ := h.left rt pm (y := i.h) (by simp [remI, Tr.items, hs_app, hs_cons])
  have hn1 : s.g.nd s.h = some i.n := by
    rw [h.eg]
    obtain ⟨u, hh⟩ := nd_some hn0
    refine nd_of u ?_
    rw [e] at ho
    rw [show rwI T0 W0 s.h = i.n.ws from hh.2] at ho
    exact ho
  obtain rfl : i.n = n := Option.some.inj (hn1.symm.trans hn)
  obtain ⟨z2, er⟩ := z.mark
  have ok := ft.sz _ _ hn0
  refine ⟨h.fs.kept k (fun j hj => ?_), h.eg, ⟨l, (i, r) :: ps, z2, by rw [er]; exact pm⟩, h.fr.then k (fun j hj => ?_), k.boxed h.bs (ne (by omega)), k.boxed h.i2 (ne (by omega)), k.boxed h.i1 (ne (by omega)), k.boxed h.i3 (ne (by omega)), k.block h.d (ne (by omega)), mp, fun y hy => ?_, ?_, ⟨ok.c.1, ok.c.2⟩, fun y hy => ?_, h.out⟩
  · have hj : j = q := hj
    subst hj
    exact ⟨by omega, fun hf => by have := h.out _ hf; omega, by omega, by omega, by omega⟩
  · have hj : j = q := hj
    omega
  · rcases List.mem_cons.1 hy with rfl | hy
    · exact nd_mem hn0
    · exact h.sub y hy
  · have := h.high
    simp only [List.length_cons]
    omega
  · rcases List.mem_cons.1 hy with rfl | hy
    · exact ⟨h.hu, ok⟩
    · exact h.su y hy

theorem Fi.lt (h : Fi w0 w A c T0 W0 t p q s D pg v T W V) {k : Nat} (hk : foot A pg v k) : k < V.heap.size := h.fs.flt hk
theorem Fi.read (h : Fi w0 w A c T0 W0 t p q s D pg v T W V) (few : (lvH T0).length ≤ 65536) : Rdg (some ⟨A.st, 0, none⟩) (lvH T0) t.root (q + 1 + 1) (q + 1) (q + 1 + 2) q s (foot A pg v) V := by
  obtain ⟨L, sw⟩ := h.fs.sb
  refine ⟨by rw [h.eg]; exact gets_of sw, h.i1.cell, h.i2.cell, h.i3.cell, h.mp, h.sub, fun y n hn => ?_, few, h.high, h.hu, fun y hy => ⟨(h.su y hy).1, (h.su y hy).2⟩, fun _ hk => h.lt hk⟩
  rw [h.eg] at hn
  rw [← h.fs.lv]
  exact nd_mem hn

/-- A node's records, in the order in which they go. -/
def hk (i : It) : Nat → Int
  | 0 => i.n.a
  | 1 => i.n.b
  | _ => i.h
def dk (i : It) (D : List Int) : Nat → List Int
  | 0 => D
  | k + 1 => hk i k :: dk i D k
/-- Amid a round: so many of a node's records are gone. -/
def Fm (w0 : World) (A : Ad) (c : Nat) (T0 : List Hd.Sl) (W0 : Int → Int) (i : It) (D : List Int) (pg : List (Int × Nat)) (v : Value) (V : World) (k : Nat) (V2 : World) : Prop :=
  ∃ pg2 T2 W2, Fst w0 V2 A c T0 W0 (dk i D k) pg2 v T2 W2 ∧ Stp A pg pg2 v v V V2
theorem Fm.start {i : It} (h : Fst w0 V A c T0 W0 D pg v T W) : Fm w0 A c T0 W0 i D pg v V 0 V := ⟨pg, T, W, h, Stp.refl _ _ _ _⟩
theorem Fm.keep {i : It} {V2 V3 : World} {k : Nat} (h : Fm w0 A c T0 W0 i D pg v V k V2) (q : K V2 V3) : Fm w0 A c T0 W0 i D pg v V k V3 := by
  obtain ⟨pg2, T2, W2, f, st⟩ := h
  exact ⟨pg2, T2, W2, f.keep q, st.thenK q⟩
theorem Fm.drop {i : It} {V2 : World} {k : Nat} (h : Fm w0 A c T0 W0 i D pg v V k V2) (ok : U64 (hk i k) ∧ (findL T0 (hk i k)).isSome = true ∧ hk i k ∉ dk i D k) :
    Calls Tryz.prog 42 #[sp A.st, .int .u64 (hk i k)] V2 fun e w' => e = .returned (.int .i64 0) ∧ Aside (Fm w0 A c T0 W0 i D pg v V (k + 1) w') := by
  obtain ⟨pg2, T2, W2, f, st⟩ := h
  refine (f.drop ok.1 ok.2.1 ok.2.2).mono ?_
  rintro e w1 ⟨rfl, hh⟩
  obtain ⟨pg3, T3, W3, f3, st3⟩ := hh.out
  exact ⟨rfl, pg3, T3, W3, f3, st.trans st3⟩
theorem Fm.kp {i : It} {V2 : World} {k : Nat} (h : Fm w0 A c T0 W0 i D pg v V k V2) : Kept (foot A pg v) V V2 := by
  obtain ⟨_, _, _, _, st⟩ := h
  exact st.k

/-- The node whose turn it is. -/
theorem Fi.due {hh : Int} {n : Nv} {st : List (Int × Nv)} {m : List Int} {g : Vw} (rt : Right (vw T0 W0) t) (ft : (vw T0 W0).Fit) (h : Fi w0 w A c T0 W0 t p q ⟨0, (hh, n) :: st, m, g⟩ D pg v T W V) :
    ∃ (i : It) (tr : Tr) (ps : List (It × Tr)), hh = i.h ∧ n = i.n ∧ Fz (vw T0 W0) i.n.d st m tr ps ∧ (D ++ (i.h :: i.n.a :: i.n.b :: hsOf (remI tr ps))).Perm (hsOf t.items) ∧ ∀ k, k < 3 → U64 (hk i k) ∧ (findL T0 (hk i k)).isSome = true ∧ hk i k ∉ dk i D k := by
  obtain ⟨tc, ps, z, pm⟩ := h.z
  obtain ⟨i, tr, ps', e, _, z', er⟩ := z.item ft
  obtain ⟨rfl, rfl⟩ : hh = i.h ∧ n = i.n := by simpa using e
  have hl := fun {y : Int} (hy : y ∈ hsOf (remI tc ps)) => h.left rt pm hy
  rw [er, hs_cons] at pm hl
  have nd : (D ++ (i.h :: i.n.a :: i.n.b :: hsOf (remI tr ps'))).Nodup := pm.nodup_iff.2 rt.nd
  obtain ⟨_, n2, _⟩ := List.nodup_append.1 nd
  obtain ⟨n3, n4⟩ := List.nodup_cons.1 n2
  obtain ⟨n5, _⟩ := List.nodup_cons.1 n4
  simp only [List.mem_cons, not_or] at n3 n5
  obtain ⟨u1, u2⟩ := h.su _ (List.mem_cons_self ..)
  refine ⟨i, tr, ps', rfl, rfl, z', pm, fun k hk3 => ?_⟩
  match k, hk3 with
  | 0, _ =>
    obtain ⟨h1, h2, _⟩ := hl (y := i.n.a) (by simp)
    exact ⟨u2.a, h2, h1⟩
  | 1, _ =>
    obtain ⟨h1, h2, _⟩ := hl (y := i.n.b) (by simp)
    refine ⟨u2.b, h2, ?_⟩
    show i.n.b ∉ i.n.a :: D
    simp only [List.mem_cons, not_or]
    exact ⟨fun e => n5.1 e.symm, h1⟩
  | 2, _ =>
    obtain ⟨h1, h2, _⟩ := hl (y := i.h) (by simp)
    refine ⟨u1, h2, ?_⟩
    show i.h ∉ i.n.b :: i.n.a :: D
    simp only [List.mem_cons, not_or]
    exact ⟨n3.2.1, n3.1, h1⟩

/-- Behind a round. -/
theorem Fi.next {i : It} {tr : Tr} {ps : List (It × Tr)} {st : List (Int × Nv)} {m : List Int} {g : Vw} {V2 : World} (hq : p < q) (h : Fi w0 w A c T0 W0 t p q ⟨0, (i.h, i.n) :: st, m, g⟩ D pg v T W V) (z : Fz (vw T0 W0) i.n.d st m tr ps)
    (pm : (D ++ (i.h :: i.n.a :: i.n.b :: hsOf (remI tr ps))).Perm (hsOf t.items)) (f : Fm w0 A c T0 W0 i D pg v V 3 V2) : ∃ pg2 T2 W2, Fi w0 w A c T0 W0 t p q ⟨i.n.d, st, m, vw T2 W2⟩ (dk i D 3) pg2 v T2 W2 V2 ∧ Grows (foot A pg v) (foot A pg2 v) V := by
  obtain ⟨pg2, T2, W2, fs, sp⟩ := f
  have n : ∀ j, p ≤ j → j < q + 5 → ¬ foot A pg v j := fun j h1 h2 hf => by have := h.out j hf; omega
  have hd := (Array.getElem?_eq_some_iff.1 h.d).1
  have hh := h.high
  simp only [List.length_cons] at hh
  refine ⟨pg2, T2, W2, ⟨fs, rfl, ⟨tr, ps, z, perm_item pm⟩, h.fs.frS h.fr sp, sp.k.boxed h.bs (n _ (by omega) (by omega)), sp.k.boxed h.i2 (n _ (by omega) (by omega)), sp.k.boxed h.i1 (n _ (by omega) (by omega)), sp.k.boxed h.i3 (n _ (by omega) (by omega)), sp.k.block h.d (n _ (by omega) (by omega)), h.mp.kept sp.k (n _ (by omega) (by omega)), h.sub, ?_, ⟨(h.su _ (List.mem_cons_self ..)).2.d.1, (h.su _ (List.mem_cons_self ..)).2.d.2⟩, fun y hy => h.su y (List.mem_cons_of_mem _ hy), fun k hk => ?_⟩, sp.inn⟩
  · show st.length ≤ m.length
    omega
  · rcases sp.inn k hk with h1 | h1
    · exact h.out k h1
    · omega

/-- All is told. -/
theorem Fi.fin (lo : Lo w0 w A) (hp : w.heap.size = p) (hq : p < q) (ft : (vw T0 W0).Fit) (h : Fi w0 w A c T0 W0 t p q s D pg v T W V) (e1 : s.h = 0) (e2 : s.st = []) (k : Kept (fun j => j = q + 4) V V') : FreeT w0 w A c T0 W0 t V' := by
  obtain ⟨tc, ps, z, pm⟩ := h.z
  rw [e1, e2] at z
  have e := z.fin ft
  rw [e] at pm
  have pm2 : D.Perm (hsOf t.items) := by simpa [hsOf] using pm
  have h1 := lo.bh
  have h2 := lo.st
  have h3 := lo.tb
  have h4 := lo.s0
  exact (h.fs.kept k (fun j hj => by
    have hj : j = q + 4 := hj
    subst hj
    exact ⟨by omega, fun hf => by have := h.out _ hf; omega, by omega, by omega, by omega⟩)).fin (h.fr.then k (fun j hj => by have hj : j = q + 4 := hj; omega)) pm2

/-- At the start. -/
theorem Fi.start {w1 : World} (h : Gs w0 w A c T W) (k1 : K w w1) (b0 : w1.heap[p]? = some (.cells #[sp A.st] 26)) (hp : w.heap.size = p) (hq : w1.heap.size = q) (hu : U64 t.root) (rt : Right (vw T W) t) :
    ∃ pg v, Fi w0 w A c T W t p q ⟨t.root, [], [], vw T W⟩ [] pg v T W (((((w1.alloc (.map #[] 0)).alloc (.cells #[sp A.st] 26)).alloc (.cells #[.int .u64 t.root] 28)).alloc (.cells #[.map (some q)] 66)).alloc (.deferred (some []))) := by
  subst hq
  obtain ⟨pg, v, fs⟩ := Fst.start h
  have m1 := Mp.new w1
  have i2 := Boxed.new (w1.alloc (.map #[] 0)) 26 (sp A.st)
  have i1 := Boxed.new ((w1.alloc (.map #[] 0)).alloc (.cells #[sp A.st] 26)) 28 (.int .u64 t.root)
  have i3 := Boxed.new (((w1.alloc (.map #[] 0)).alloc (.cells #[sp A.st] 26)).alloc (.cells #[.int .u64 t.root] 28)) 66 (.map (some w1.heap.size))
  have d1 := World.alloc_heap_new ((((w1.alloc (.map #[] 0)).alloc (.cells #[sp A.st] 26)).alloc (.cells #[.int .u64 t.root] 28)).alloc (.cells #[.map (some w1.heap.size)] 66)) (.deferred (some []))
  simp only [World.size_alloc] at i2 i1 i3 d1
  have r : ∀ V, K V V := fun V => K.refl V
  have kk : K w1 (((((w1.alloc (.map #[] 0)).alloc (.cells #[sp A.st] 26)).alloc (.cells #[.int .u64 t.root] 28)).alloc (.cells #[.map (some w1.heap.size)] 66)).alloc (.deferred (some []))) := (((((r _).alloc _).alloc _).alloc _).alloc _).alloc _
  refine ⟨pg, v, (fs.keep k1).keep kk, rfl, ⟨t, [], Fz.start rt, by simp [remI]⟩, Fr.ofK (k1.trans kk), kk.boxed b0, ((((r _).alloc _).alloc _).alloc _).boxed i2, (((r _).alloc _).alloc _).boxed i1, ((r _).alloc _).boxed i3, d1, ?_, by simp, by simp, hu, by simp, fun k hk => .inl ?_⟩
  · exact m1.kept (((((r _).alloc _).alloc _).alloc _).alloc _ |>.kept (fun _ => False)) (fun h => h)
  · have := fs.flt hk
    omega
end Wa
end Go.Proofs.YtbbjfebdihepnaaGreatDoor

/-
  The walk of Free.
-/
namespace Go.Proofs.YtbbjfebdihepnaaGreatDoor
open Go.RowKit Go.Maps
attribute [local go_sem] Oper.semAt_some
namespace Wa
open Hp (Kept K No Pg Grows wide outer)
open Hd (U64)
open Nd (Nv nv0 encU six)
open Co (Off)
open Go.Proofs.YtbbjfebdihepnaaGreatDoor.So (Ad Sw sp foot)
variable {w0 w w' : World} {A : Ad} {W : Int → Int} {T : List Hd.Sl} {c : Nat} {t : Tr}

theorem run_ix3a (a b c : Int) (w' : World) : (Instr.index 84 (.agg #[encU a, encU b, encU c]) (.int .i64 0)).run Tryz.prog w' = .ok (.int .u64 a) w' := by kernel_rfl
theorem run_ix3b (a b c : Int) (w' : World) : (Instr.index 84 (.agg #[encU a, encU b, encU c]) (.int .i64 1)).run Tryz.prog w' = .ok (.int .u64 b) w' := by kernel_rfl
theorem run_ix3c (a b c : Int) (w' : World) : (Instr.index 84 (.agg #[encU a, encU b, encU c]) (.int .i64 2)).run Tryz.prog w' = .ok (.int .u64 c) w' := by kernel_rfl
theorem run_ix3 (i : It) {k : Nat} (hlt : k < 3) (w' : World) : (Instr.index 84 (.agg #[encU i.n.a, encU i.n.b, encU i.h]) (.int .i64 (k : Int))).run Tryz.prog w' = .ok (.int .u64 (hk i k)) w' := by
  rcases (show k = 0 ∨ k = 1 ∨ k = 2 by omega) with rfl | rfl | rfl
  · exact run_ix3a _ _ _ w'
  · exact run_ix3b _ _ _ w'
  · exact run_ix3c _ _ _ w'

set_option maxRecDepth 100000 in
set_option maxHeartbeats 4000000 in
theorem free_in (h : Gs w0 w A c T W) (hu : U64 t.root) (rt : Right (vw T W) t) : CallsIn Fence.wide 0 Tryz.prog 23 #[sp A.st, .int .u64 t.root] w fun e w' => e = .returned (.int .i64 0) ∧ Aside (FreeT w0 w A c T W t w') := by
  have CK : Aside (∀ V, K w V → Calls Tryz.prog 12 #[sp A.st, .int .u64 t.root] V fun e w' => e = .returned (.int .i64 0) ∧ K V w') := fun V k => by
    obtain ⟨pg, L, v, rn, r⟩ := h.keep k
    exact check_right rn.s hu rt
  have HH : Aside (Gs w0 w A c T W) := h
  have LO : Aside (Lo w0 w A) := h.lo
  have FT : Aside (vw T W).Fit := h.fit
  have RT : Aside (Right (vw T W) t) := rt
  have HU : Aside (U64 t.root) := hu
  have FEW : Aside ((lvH T).length ≤ 65536) := by
    obtain ⟨pg, L, v, rn, r⟩ := h
    show (lvH T).length ≤ 65536
    rw [lvH_len]
    exact rn.s.b.tl
  clear h hu rt
  refine callsIn_of_wp_marks Tryz.func23 rfl trivial ?_ rfl
  simp only [Tryz.ntmps23, List.size_toArray, List.length_cons, List.length_nil, Nat.reduceAdd, Nat.reduceSub, Array.replicate_succ, Array.replicate_zero, List.push_toArray, List.append_toArray, List.nil_append, List.cons_append]
  gi_wp2
  refine ⟨trivial, rfl, (callsIn_wide.2 (CK.out _ ((K.refl w).alloc _))).mono ?_⟩
  rintro e w1 ⟨rfl, k1⟩
  have b0 : w1.heap[w.heap.size]? = some (.cells #[sp A.st] 26) := k1.block (World.alloc_heap_new w _)
  have c0 : w1.cell? ⟨w.heap.size, 0, none⟩ = some (sp A.st) := by simp [World.cell?, b0]
  have K1 : Aside (K w w1) := ((K.refl w).alloc _).trans k1
  have B0 : Aside (w1.heap[w.heap.size]? = some (.cells #[sp A.st] 26)) := b0
  have l0 : w.heap.size < w1.heap.size := (Array.getElem?_eq_some_iff.1 b0).1
  have c01 : (w1.alloc (.map #[] 0)).cell? ⟨w.heap.size, 0, none⟩ = some (sp A.st) := ((K.refl w1).alloc _).cell c0
  have hmm := @run_makeMap Tryz.prog
  clear CK k1 b0
  gi_wp2
  refine ⟨trivial, rfl, (callsIn_wide.2 (inOrder_any (some ⟨A.st, 0, none⟩) t.root w1.heap.size _)).mono ?_⟩
  rintro e W7 ⟨rfl, hw7⟩
  simp only [World.size_alloc] at hw7 ⊢
  have s7 : W7.heap.size = w1.heap.size + 4 := by rw [hw7]; simp
  have c0x : ∃ pg v, Fi w0 w A c T W t w.heap.size w1.heap.size ⟨t.root, [], [], vw T W⟩ [] pg v T W (W7.alloc (.deferred (some []))) := by
    rw [hw7]
    exact Fi.start HH.out K1.out B0.out rfl rfl HU.out RT.out
  obtain ⟨pg0, v0, c0y⟩ := c0x
  have C0 : Aside _ := c0y
  clear hw7 hmm c0 c01 B0 c0y
  gi_wp2
  refine range_G (r := none) (w' := W7.alloc (.deferred (some []))) (mark := [{ target := .collected W7.heap.size, args := #[] }]) (gf := 53) (ba := #[]) (cp := #[.pointer (some ⟨w1.heap.size + 1 + 1, 0, none⟩), .pointer (some ⟨w1.heap.size + 1, 0, none⟩), .pointer (some ⟨w1.heap.size + 1 + 2, 0, none⟩)]) rfl (enters_of Tryz.func53 (by kernel_rfl) rfl) (fun fn => outer W7)
    (inOrder_seq (pp := some ⟨A.st, 0, none⟩) (lvH T) t.root (w1.heap.size + 1 + 1) (w1.heap.size + 1) (w1.heap.size + 1 + 2) w1.heap.size [] (vw T W) (foot A pg0 v0) W7) ((K.refl W7).alloc _) ?hO ?hps ?hmk
    (fun s M V => ∃ D pg v T2 W2, M = foot A pg v ∧ Fi w0 w A c T W t w.heap.size w1.heap.size s D pg v T2 W2 V)
    (fun c M V => False)
    (fun s enc M a' V => (∃ D pg v T2 W2, M = foot A pg v ∧ Fi w0 w A c T W t w.heap.size w1.heap.size s D pg v T2 W2 V) ∧ ∃ hh n er pb, enc = #[pv hh n, .int .i64 er] ∧ V.heap[pb]? = some (pbx hh n) ∧ w1.heap.size + 5 < pb ∧ a' = { tmps := #[sp A.st, .int .u64 t.root, .pointer (some ⟨w.heap.size, 0, none⟩), undef, .int .i64 0, .int .i64 0, .pointer (some ⟨pb, 0, none⟩), undef, undef, sp A.st, .int .u64 t.root, .int .i64 0, .int .i64 0, .bool false, undef, sp A.st, .int .u64 t.root, .map (some w1.heap.size), .func (.func 53) #[] #[.pointer (some ⟨w1.heap.size + 1 + 1, 0, none⟩), .pointer (some ⟨w1.heap.size + 1, 0, none⟩), .pointer (some ⟨w1.heap.size + 1 + 2, 0, none⟩)], pv hh n, .int .i64 er, undef, undef, undef, undef, undef, undef, undef, undef, undef, undef, undef, undef, undef, undef, undef, undef], defers := [] })
    ?hI ?hIm ?hIx ?hAx ?hS ?h0 ?hassign ?hbody ?hdone ?hstop
  case hO =>
    intro k hk
    exact C0.out.lt hk
  case hps => rintro s enc (⟨_, p, st, _, rfl⟩ | ⟨_, _, rfl⟩) <;> rfl
  case hmk =>
    rintro s V s' V' ⟨_, n, _, _, _, k, _⟩
    exact k.mono (fun j _ hj => by have : j = w1.heap.size := hj; rw [World.size_alloc, s7]; omega)
  case hI =>
    rintro s M V V' ⟨D, pg, v, T2, W2, rfl, hc⟩ k
    exact ⟨D, pg, v, T2, W2, rfl, hc.turn LO.out rfl l0 k (fun j hj => ⟨by have := hj.1; rw [World.size_alloc, s7] at this; omega, hj.2⟩)⟩
  case hIm =>
    rintro s M V s' V' ⟨D, pg, v, T2, W2, rfl, hc⟩ hm
    exact ⟨D, pg, v, T2, W2, rfl, hc.mark LO.out rfl l0 RT.out FT.out hm⟩
  case hIx =>
    rintro c M V V' h _
    exact h
  case hAx =>
    rintro s enc M a' V V' ⟨⟨D, pg, v, T2, W2, rfl, hc⟩, hh, n, er, pb, he, hb, hp, ha⟩ hM k
    have e8 : (W7.alloc (.deferred (some []))).heap.size = w1.heap.size + 5 := by rw [World.size_alloc, s7]
    refine ⟨⟨D, pg, v, T2, W2, rfl, hc.turn LO.out rfl l0 k (fun j hj => ?_)⟩, hh, n, er, pb, he, k.block hb (by rw [e8]; omega), hp, ha⟩
    have hj : j = _ := hj
    subst hj
    exact ⟨by rw [e8]; omega, hM⟩
  case hS =>
    rintro s M V ⟨D, pg, v, T2, W2, rfl, hc⟩
    exact hc.read FEW.out
  case h0 => exact ⟨_, _, _, _, _, rfl, C0.out⟩
  case hassign =>
    rintro s enc M V hdue ⟨D, pg, v, T2, W2, rfl, hc⟩ _ hlt
    obtain ⟨hh, n, er, rfl⟩ : ∃ hh n er, enc = #[pv hh n, .int .i64 er] := by
      rcases hdue with ⟨_, p, st, _, e⟩ | ⟨_, _, e⟩
      · exact ⟨_, _, _, e⟩
      · exact ⟨_, _, _, e⟩
    have HC : Aside _ := hc
    have LT : Aside (w1.heap.size + 5 < V.heap.size) := by rw [World.size_alloc, s7] at hlt; exact hlt
    clear hdue hc hlt C0
    gi_wp2
    exact ⟨((K.refl V).alloc _).kept _, ⟨D, pg, v, T2, W2, rfl, HC.out.kk LO.out rfl l0 ((K.refl V).alloc _)⟩, hh, n, er, _, rfl, World.alloc_heap_new V (pbx hh n), LT.out, rfl⟩
  case hbody =>
    rintro s enc M a' V hdue _ _ ⟨⟨D, pg, v, T2, W2, rfl, hc⟩, hh, n, er, pb, henc, hb, hp, rfl⟩
    clear C0
    rcases hdue with ⟨e0, p1, st, e1, rfl⟩ | ⟨e0, e1, rfl⟩
    · obtain ⟨h1, st1, m, g1⟩ := s
      simp only at e0 e1
      subst e0 e1
      have he : pv p1.1 p1.2 = pv hh n ∧ er = 0 := by
        have h0 := congrArg (fun a : Array Value => a[0]?) henc
        have h1 := congrArg (fun a : Array Value => a[1]?) henc
        simp at h0 h1
        exact ⟨by simpa using h0, h1.symm⟩
      obtain ⟨hpv, rfl⟩ := he
      obtain ⟨ph, pn⟩ := p1
      obtain ⟨i, tr, ps, rfl, rfl, z, pm, ok⟩ := hc.due RT.out FT.out
      obtain ⟨ih, ⟨pa, pb1, pc, pd, pe, pf⟩, ik, ix⟩ := i
      obtain ⟨na, nb, nc, nd, ne, nf⟩ := n
      have hpv2 : ih = hh ∧ pa = na ∧ pb1 = nb ∧ pc = nc ∧ pd = nd ∧ pe = ne ∧ pf = nf := by simpa using hpv
      obtain ⟨rfl, rfl, rfl, rfl, rfl, rfl, rfl⟩ := hpv2
      have HC : Aside _ := hc
      have OK : Aside _ := ok
      have Z : Aside _ := z
      have PM : Aside _ := pm
      obtain ⟨d0, d1, d2, d3, d4, d5, d6⟩ := seven hb
      have FM : Aside (Fm w0 A c T W ⟨ih, ⟨pa, pb1, pc, pd, pe, pf⟩, ik, ix⟩ D pg v V 0 V) := Fm.start hc.fs
      clear hc henc hpv hp ok z pm
      gi_wp2
      gi_loopg [30] 3 (fun gh kv wr => ∃ k : Nat, gh = 3 - k ∧ kv = .int .i64 k ∧ k ≤ 3 ∧ Aside (Fm w0 A c T W ⟨ih, ⟨pa, pb1, pc, pd, pe, pf⟩, ik, ix⟩ D pg v V k wr))
      case atStart => exact ⟨0, rfl, rfl, by omega, FM.out⟩
      case round =>
        obtain ⟨k, rfl, rfl, hk, HF⟩ := hrel
        clear d0 d1 d2 d3 d4 d5 d6 FM hb
        have BS : Aside (∀ {V2 : World} {k : Nat}, Fm w0 A c T W ⟨ih, ⟨pa, pb1, pc, pd, pe, pf⟩, ik, ix⟩ D pg v V k V2 → V2.cell? ⟨w.heap.size, 0, none⟩ = some (sp A.st)) := fun f => (f.kp.boxed HC.out.bs (fun hf => by have := HC.out.out _ hf; omega)).cell
        by_cases hlt : k < 3
        · have cs := BS.out HF.out
          have cd := HF.out.drop (OK.out k hlt)
          have hix := fun w' => run_ix3 ⟨ih, ⟨pa, pb1, pc, pd, pe, pf⟩, ik, ix⟩ hlt w'
          simp only at hix
          obtain ⟨y, ey⟩ : ∃ y, Wa.hk ⟨ih, ⟨pa, pb1, pc, pd, pe, pf⟩, ik, ix⟩ k = y := ⟨_, rfl⟩
          rw [ey] at cd hix
          clear HF BS ey
          gi_wp2
          refine ⟨trivial, rfl, (callsIn_wide.2 cd).mono ?_⟩
          rintro e w3 ⟨rfl, h3⟩
          clear cd cs
          gi_wp2
          gi_roundg (3 - (k + 1))
          case measure => omega
          case rel => exact ⟨k + 1, rfl, by go_num, by omega, h3.out⟩
        · obtain rfl : k = 3 := by omega
          have NX : Aside _ := HC.out.next l0 Z.out PM.out HF.out
          have KP : Aside _ := HF.out.kp
          clear HF BS
          gi_wp2
          obtain ⟨pg2, T3, W3, f3, gr⟩ := NX.out
          exact ⟨KP.out, ⟨pd, st, m, vw T3 W3⟩, _, ⟨rfl, _, _, rfl, rfl, rfl, Nat.le_refl _⟩, ⟨_, _, _, rfl, _, _, f3⟩, gr⟩
    · obtain ⟨n0, g1, g2⟩ := hc.good RT.out e0
      rcases e1 with e1 | e1
      · rw [e1] at g1
        cases g1
      · exact absurd e1 g2
  case hdone =>
    rintro s M V hend ⟨D, pg, v, T2, W2, rfl, hc⟩
    obtain ⟨e1, e2⟩ := hend
    have HC : Aside _ := hc
    have HL : Aside (W7.heap.size = w1.heap.size + 4) := s7
    have HD : Aside (V.heap[w1.heap.size + 4]? = some (.deferred (some []))) := hc.d
    have k6 : Kept (fun j => j = w1.heap.size + 4) V (V.putObj (w1.heap.size + 4) (.deferred none)) := (Kept.refl _ V).putObj _ (.inl rfl)
    have FIN : Aside _ := hc.fin LO.out rfl l0 FT.out e1 e2 k6
    clear hc C0 e1 e2 k6
    gi_wp2
    rw [HL.out]
    refine ⟨by simp, .inl ⟨_, _, rfl, run_takeDeferred HD.out, .int .i64 0, ?_, rfl, FIN.out⟩⟩
    simp [results, Tryz.f23, go_sem]
  case hstop =>
    rintro c M V h
    exact h.elim
theorem free_any (h : Gs w0 w A c T W) (hu : U64 t.root) (rt : Right (vw T W) t) : Calls Tryz.prog 23 #[sp A.st, .int .u64 t.root] w fun e w' => e = .returned (.int .i64 0) ∧ Aside (FreeT w0 w A c T W t w') := callsIn_wide.1 (free_in h hu rt)

end Wa
end Go.Proofs.YtbbjfebdihepnaaGreatDoor

/-
  Two trees in one store: one of them is freed.
-/
namespace Go.Proofs.YtbbjfebdihepnaaGreatDoor
open Go.RowKit Go.Maps
namespace Wa
open Hp (Kept K No Pg Wl granted)
open Hd (U64 findL)
open Nd (Nv)
open Go.Proofs.YtbbjfebdihepnaaGreatDoor.Bb (Ho rwI)
open Go.Proofs.YtbbjfebdihepnaaGreatDoor.So (Ad Sb Sw Rec Rn Stp sp foot)
variable {w0 w w' : World} {A : Ad} {W W' : Int → Int} {T T' : List Hd.Sl} {x : Int} {c : Nat} {t t2 : Tr} {P : List Pr}

theorem one_nd (h : ∀ ys, Ho T W x ys → Ho T' W' x ys) {n : Nv} (hn : (vw T W).nd x = some n) : (vw T' W').nd x = some n := nd_of (nd_some hn).1 (h _ (nd_some hn).2)
theorem one_tx (h : ∀ ys, Ho T W x ys → Ho T' W' x ys) {t : ByteArray} (ht : (vw T W).tx x = some t) : (vw T' W').tx x = some t := by
  have hf := tx_find ht
  obtain ⟨hu, he, hs⟩ := tx_some ht
  have h1 := h (rwI T W x) ⟨hf, rfl⟩
  have e1 : Bb.gtE T' W' x = Bb.gtE T W x := by
    unfold Bb.gtE
    rw [if_pos h1.1, if_pos hf, h1.2]
  have e2 : Bb.gtS T' W' x = Bb.gtS T W x := by
    unfold Bb.gtS
    simp only [h1.1, hf, h1.2]
  simp only [vw]
  rw [if_pos ⟨hu, by rw [e1]; exact he⟩, e2, hs]
theorem lay_on : ∀ {t : Tr}, (∀ y ∈ hsOf t.items, ∀ ys, Ho T W y ys → Ho T' W' y ys) → t.Lay (vw T W) → t.Lay (vw T' W')
  | .nil, _, _ => trivial
  | .node i l r, h, ⟨⟨a, b, c⟩, h2, h3, h4, h5, h6⟩ => by
    simp only [Tr.items, hs_app, hs_cons, List.mem_append, List.mem_cons] at h
    exact ⟨⟨one_nd (h _ (by simp)) a, one_tx (h _ (by simp)) b, one_tx (h _ (by simp)) c⟩, h2, h3, h4, lay_on (fun y hy => h y (.inl hy)) h5, lay_on (fun y hy => h y (by simp [hy])) h6⟩

/-- A tree beside one that is freed. -/
theorem FreeT.tv (f : FreeT w0 w A c T W t w') (hl : t2.Lay (vw T W)) (hn : (hsOf t2.items).Nodup) (hu : U64 t2.root) (hp : prOf t2.items = P) (up : upP P) (ds : ∀ y ∈ hsOf t2.items, y ∉ hsOf t.items) :
    Fr w w' ∧ ∃ T' W', Tv w0 w' A c T' W' t2 P ∧ Bb.op T' + 3 * t.items.length = Bb.op T := by
  obtain ⟨fr, T', W', gs, ho, hh, _⟩ := f
  exact ⟨fr, T', W', ⟨gs, right_of (lay_on (fun y hy ys h => hh y ys (ds y hy) h) hl) hn hp up, hu, hp⟩, ho⟩
theorem Right.le (h : Right (vw T W) t) (le : Le T W T' W') : Right (vw T' W') t := ⟨le.lay h.lay, h.nd, h.up⟩
theorem Gs.all (h : Gs w0 w A c T W) : Calls Tryz.prog 24 #[sp A.st] w fun e w' => ∃ a c', e = .returned (.slice a (Bb.op T) c') ∧ K w w' := by
  obtain ⟨pg, L, v, rn, r⟩ := h
  have hl := So.Rec.len rn.s.r rn.s.b.wl rn.s.b.tl
  have e : Bb.op T = (Hp.liveL L).length := by
    rw [hl]
    exact List.countP_eq_length_filter
  rw [e]
  refine (So.all_any rn.s.b).mono ?_
  rintro e w1 ⟨u, rfl, hrow, k⟩
  obtain ⟨g, a, c', rfl, _⟩ := So.row1 hrow
  exact ⟨a, c', rfl, k⟩

end Wa
end Go.Proofs.YtbbjfebdihepnaaGreatDoor
