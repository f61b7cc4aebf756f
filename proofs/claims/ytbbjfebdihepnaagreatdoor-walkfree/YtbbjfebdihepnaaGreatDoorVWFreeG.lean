/-
  What lies in memory between two rounds of Free.
-/
import Derived.Test.YtbbjfebdihepnaaGreatDoorVWFreeF
namespace Go.Proofs.YtbbjfebdihepnaaGreatDoor
open Go.RowKit Go.Maps
namespace Wa
open Hp (Kept K No Pg Wl granted dropL Grows)
open Hd (U64 findL)
open Nd (Nv)
open Co (Off)
open Go.Proofs.YtbbjfebdihepnaaGreatDoor.Bb (Ho rwI)
open Go.Proofs.YtbbjfebdihepnaaGreatDoor.So (Ad Sb Sw Rec Rn Stp sp foot)
variable {w0 w V V' : World} {A : Ad} {pg pg' : List (Int × Nat)} {W W' W0 : Int → Int} {v v' : Value} {T T' T0 : List Hd.Sl} {c : Nat} {t : Tr} {p q : Nat} {s s' : Sg} {D : List Int}

/-- Where the store lies. -/
structure Lo (w0 w : World) (A : Ad) : Prop where
  bh : A.bh < w.heap.size
  st : A.st < w.heap.size
  tb : 1 < w.heap.size
  s0 : w0.heap.size ≤ w.heap.size
theorem Gs.lo (h : Gs w0 w A c T W) : Lo w0 w A := by
  obtain ⟨pg, L, v, rn, r⟩ := h
  exact ⟨Hp.lt_of_cell rn.s.b.hp.hw.c0, (Array.getElem?_eq_some_iff.1 rn.s.b.hd).1, Hp.lt0 rn.s.b.hp.hw.tab, rn.k.size⟩
theorem Fr.then {O : Nat → Prop} (h : Fr w V) (k : Kept O V V') (hO : ∀ j, O j → w.heap.size ≤ j) : Fr w V' :=
  ⟨Nat.le_trans h.size k.size, fun j cs t hj ht => k.block (h.same j cs t hj ht) (fun ho => by have := hO j ho; have := (Array.getElem?_eq_some_iff.1 hj).1; omega)⟩
theorem Fst.sb (h : Fst w0 V A c T0 W0 D pg v T W) : ∃ L, Sw V w0.heap.size A pg W L v T := by
  obtain ⟨L, rn, _⟩ := h.rn
  exact ⟨L, rn.s⟩
theorem Fst.flt (h : Fst w0 V A c T0 W0 D pg v T W) {j : Nat} (hj : foot A pg v j) : j < V.heap.size := by
  obtain ⟨L, sw⟩ := h.sb
  exact sw.b.flt hj
theorem Fst.frS (h : Fst w0 V A c T0 W0 D pg v T W) (fr : Fr w V) (st : Stp A pg pg' v v' V V') : Fr w V' := by
  obtain ⟨L, sw⟩ := h.sb
  exact fr.trans (Fr.ofStp sw.b st)

/-- Free's variables, and what is left of the tree, between two rounds. -/
structure Fi (w0 w : World) (A : Ad) (c : Nat) (T0 : List Hd.Sl) (W0 : Int → Int) (t : Tr) (p q : Nat) (s : Sg) (D : List Int) (pg : List (Int × Nat)) (v : Value) (T : List Hd.Sl) (W : Int → Int) (V : World) : Prop where
  fs : Fst w0 V A c T0 W0 D pg v T W
  eg : s.g = vw T W
  z : ∃ tc ps, Fz (vw T0 W0) s.h s.st s.m tc ps ∧ (D ++ hsOf (remI tc ps)).Perm (hsOf t.items)
  fr : Fr w V
  bs : Boxed V p 26 (sp A.st)
  i2 : Boxed V (q + 1) 26 (sp A.st)
  i1 : Boxed V (q + 1 + 1) 28 (.int .u64 t.root)
  i3 : Boxed V (q + 1 + 2) 66 (.map (some q))
  d : V.heap[q + 4]? = some (.deferred (some []))
  mp : Mp V q s.m
  sub : ∀ y ∈ s.m, y ∈ lvH T0
  high : s.st.length ≤ s.m.length
  hu : U64 s.h
  su : ∀ y ∈ s.st, U64 y.1 ∧ y.2.Ok
  out : ∀ k, foot A pg v k → k < p ∨ q + 5 ≤ k

theorem Fi.turn {O : Nat → Prop} (lo : Lo w0 w A) (hp : w.heap.size = p) (hq : p < q) (h : Fi w0 w A c T0 W0 t p q s D pg v T W V) (k : Kept O V V') (hO : ∀ j, O j → q + 5 ≤ j ∧ ¬ foot A pg v j) : Fi w0 w A c T0 W0 t p q s D pg v T W V' := by
  have n : ∀ j, j < q + 5 → ¬ O j := fun j hj ho => by have := (hO j ho).1; omega
  have h1 := lo.bh
  have h2 := lo.st
  have h3 := lo.tb
  have h4 := lo.s0
  exact ⟨h.fs.kept k (fun j hj => ⟨by have := (hO j hj).1; omega, (hO j hj).2, by have := (hO j hj).1; omega, by have := (hO j hj).1; omega, by have := (hO j hj).1; omega⟩), h.eg, h.z, h.fr.then k (fun j hj => by have := (hO j hj).1; omega),
    k.boxed h.bs (n _ (by omega)), k.boxed h.i2 (n _ (by omega)), k.boxed h.i1 (n _ (by omega)), k.boxed h.i3 (n _ (by omega)), k.block h.d (n _ (by omega)), h.mp.kept k (n _ (by omega)), h.sub, h.high, h.hu, h.su, h.out⟩
theorem Fi.kk (lo : Lo w0 w A) (hp : w.heap.size = p) (hq : p < q) (h : Fi w0 w A c T0 W0 t p q s D pg v T W V) (k : K V V') : Fi w0 w A c T0 W0 t p q s D pg v T W V' := h.turn lo hp hq (k.kept (fun _ => False)) (fun _ h => h.elim)

/-- What is left is still held. -/
theorem Fi.left (rt : Right (vw T0 W0) t) (h : Fi w0 w A c T0 W0 t p q s D pg v T W V) {tc : Tr} {ps : List (It × Tr)} (pm : (D ++ hsOf (remI tc ps)).Perm (hsOf t.items)) {y : Int} (hy : y ∈ hsOf (remI tc ps)) : y ∉ D ∧ (findL T0 y).isSome = true ∧ Ho T W y (rwI T0 W0 y) := by
  have nd : (D ++ hsOf (remI tc ps)).Nodup := pm.nodup_iff.2 rt.nd
  have n1 : y ∉ D := fun hd => (List.nodup_append.1 nd).2.2 y hd y hy rfl
  have n2 := lay_found rt.lay (pm.mem_iff.1 (List.mem_append_right D hy))
  exact ⟨n1, n2, h.fs.held y _ n1 ⟨n2, rfl⟩⟩
theorem Fi.good (rt : Right (vw T0 W0) t) (h : Fi w0 w A c T0 W0 t p q s D pg v T W V) (h0 : s.h ≠ 0) : ∃ n, s.g.nd s.h = some n ∧ s.h ∉ s.m := by
  obtain ⟨tc, ps, z, pm⟩ := h.z
  obtain ⟨i, l, r, rfl, e, hm, hn⟩ := z.due h0
  obtain ⟨_, _, ho⟩ := h.left rt pm (y := i.h) (by simp [remI, Tr.items, hs_app, hs_cons])
  refine ⟨i.n, ?_, hm⟩
  rw [h.eg]
  obtain ⟨u, hh⟩ := nd_some hn
  refine nd_of u ?_
  rw [e] at ho
  have e2 : rwI T0 W0 s.h = i.n.ws := hh.2
  rw [e2] at ho
  exact ho
theorem Fi.mark (lo : Lo w0 w A) (hp : w.heap.size = p) (hq : p < q) (rt : Right (vw T0 W0) t) (ft : (vw T0 W0).Fit) (h : Fi w0 w A c T0 W0 t p q s D pg v T W V) (m : (iWay q).Mark s V s' V') : Fi w0 w A c T0 W0 t p q s' D pg v T W V' := by
  obtain ⟨h0, n, hn, hm, rfl, k, mp⟩ := m
  have h1 := lo.bh
  have h2 := lo.st
  have h3 := lo.tb
  have h4 := lo.s0
  have ne : ∀ {c : Nat}, c ≠ q → ¬ c = q := fun h => h
  obtain ⟨tc, ps, z, pm⟩ := h.z
  obtain ⟨i, l, r, rfl, e, _, hn0⟩ := z.due h0
  obtain ⟨_, hf, ho⟩ := h.left rt pm (y := i.h) (by simp [remI, Tr.items, hs_app, hs_cons])
  have hn1 : s.g.nd s.h = some i.n := by
    rw [h.eg]
    obtain ⟨u, hh⟩ := nd_some hn0
    refine nd_of u ?_
    rw [e] at ho
    rw [show rwI T0 W0 s.h = i.n.ws from hh.2] at ho
    exact ho
  obtain rfl : i.n = n := Option.some.inj (hn1.symm.trans hn)
  obtain ⟨z2, er⟩ := z.mark
  have ok := ft.sz _ _ hn0
  refine ⟨h.fs.kept k (fun j hj => ?_), h.eg, ⟨l, (i, r) :: ps, z2, by rw [er]; exact pm⟩, h.fr.then k (fun j hj => ?_), k.boxed h.bs (ne (by omega)), k.boxed h.i2 (ne (by omega)), k.boxed h.i1 (ne (by omega)), k.boxed h.i3 (ne (by omega)), k.block h.d (ne (by omega)), mp, fun y hy => ?_, ?_, ⟨ok.c.1, ok.c.2⟩, fun y hy => ?_, h.out⟩
  · have hj : j = q := hj
    subst hj
    exact ⟨by omega, fun hf => by have := h.out _ hf; omega, by omega, by omega, by omega⟩
  · have hj : j = q := hj
    omega
  · rcases List.mem_cons.1 hy with rfl | hy
    · exact nd_mem hn0
    · exact h.sub y hy
  · have := h.high
    simp only [List.length_cons]
    omega
  · rcases List.mem_cons.1 hy with rfl | hy
    · exact ⟨h.hu, ok⟩
    · exact h.su y hy

theorem Fi.lt (h : Fi w0 w A c T0 W0 t p q s D pg v T W V) {k : Nat} (hk : foot A pg v k) : k < V.heap.size := h.fs.flt hk
theorem Fi.read (h : Fi w0 w A c T0 W0 t p q s D pg v T W V) (few : (lvH T0).length ≤ 65536) : Rdg (some ⟨A.st, 0, none⟩) (lvH T0) t.root (q + 1 + 1) (q + 1) (q + 1 + 2) q s (foot A pg v) V := by
  obtain ⟨L, sw⟩ := h.fs.sb
  refine ⟨by rw [h.eg]; exact gets_of sw, h.i1.cell, h.i2.cell, h.i3.cell, h.mp, h.sub, fun y n hn => ?_, few, h.high, h.hu, fun y hy => ⟨(h.su y hy).1, (h.su y hy).2⟩, fun _ hk => h.lt hk⟩
  rw [h.eg] at hn
  rw [← h.fs.lv]
  exact nd_mem hn

/-- A node's records, in the order in which they go. -/
def hk (i : It) : Nat → Int
  | 0 => i.n.a
  | 1 => i.n.b
  | _ => i.h
def dk (i : It) (D : List Int) : Nat → List Int
  | 0 => D
  | k + 1 => hk i k :: dk i D k
/-- Amid a round: so many of a node's records are gone. -/
def Fm (w0 : World) (A : Ad) (c : Nat) (T0 : List Hd.Sl) (W0 : Int → Int) (i : It) (D : List Int) (pg : List (Int × Nat)) (v : Value) (V : World) (k : Nat) (V2 : World) : Prop :=
  ∃ pg2 T2 W2, Fst w0 V2 A c T0 W0 (dk i D k) pg2 v T2 W2 ∧ Stp A pg pg2 v v V V2
theorem Fm.start {i : It} (h : Fst w0 V A c T0 W0 D pg v T W) : Fm w0 A c T0 W0 i D pg v V 0 V := ⟨pg, T, W, h, Stp.refl _ _ _ _⟩
theorem Fm.keep {i : It} {V2 V3 : World} {k : Nat} (h : Fm w0 A c T0 W0 i D pg v V k V2) (q : K V2 V3) : Fm w0 A c T0 W0 i D pg v V k V3 := by
  obtain ⟨pg2, T2, W2, f, st⟩ := h
  exact ⟨pg2, T2, W2, f.keep q, st.thenK q⟩
theorem Fm.drop {i : It} {V2 : World} {k : Nat} (h : Fm w0 A c T0 W0 i D pg v V k V2) (ok : U64 (hk i k) ∧ (findL T0 (hk i k)).isSome = true ∧ hk i k ∉ dk i D k) :
    Calls Tryz.prog 42 #[sp A.st, .int .u64 (hk i k)] V2 fun e w' => e = .returned (.int .i64 0) ∧ Aside (Fm w0 A c T0 W0 i D pg v V (k + 1) w') := by
  obtain ⟨pg2, T2, W2, f, st⟩ := h
  refine (f.drop ok.1 ok.2.1 ok.2.2).mono ?_
  rintro e w1 ⟨rfl, hh⟩
  obtain ⟨pg3, T3, W3, f3, st3⟩ := hh.out
  exact ⟨rfl, pg3, T3, W3, f3, st.trans st3⟩
theorem Fm.kp {i : It} {V2 : World} {k : Nat} (h : Fm w0 A c T0 W0 i D pg v V k V2) : Kept (foot A pg v) V V2 := by
  obtain ⟨_, _, _, _, st⟩ := h
  exact st.k

/-- The node whose turn it is. -/
theorem Fi.due {hh : Int} {n : Nv} {st : List (Int × Nv)} {m : List Int} {g : Vw} (rt : Right (vw T0 W0) t) (ft : (vw T0 W0).Fit) (h : Fi w0 w A c T0 W0 t p q ⟨0, (hh, n) :: st, m, g⟩ D pg v T W V) :
    ∃ (i : It) (tr : Tr) (ps : List (It × Tr)), hh = i.h ∧ n = i.n ∧ Fz (vw T0 W0) i.n.d st m tr ps ∧ (D ++ (i.h :: i.n.a :: i.n.b :: hsOf (remI tr ps))).Perm (hsOf t.items) ∧ ∀ k, k < 3 → U64 (hk i k) ∧ (findL T0 (hk i k)).isSome = true ∧ hk i k ∉ dk i D k := by
  obtain ⟨tc, ps, z, pm⟩ := h.z
  obtain ⟨i, tr, ps', e, _, z', er⟩ := z.item ft
  obtain ⟨rfl, rfl⟩ : hh = i.h ∧ n = i.n := by simpa using e
  have hl := fun {y : Int} (hy : y ∈ hsOf (remI tc ps)) => h.left rt pm hy
  rw [er, hs_cons] at pm hl
  have nd : (D ++ (i.h :: i.n.a :: i.n.b :: hsOf (remI tr ps'))).Nodup := pm.nodup_iff.2 rt.nd
  obtain ⟨_, n2, _⟩ := List.nodup_append.1 nd
  obtain ⟨n3, n4⟩ := List.nodup_cons.1 n2
  obtain ⟨n5, _⟩ := List.nodup_cons.1 n4
  simp only [List.mem_cons, not_or] at n3 n5
  obtain ⟨u1, u2⟩ := h.su _ (List.mem_cons_self ..)
  refine ⟨i, tr, ps', rfl, rfl, z', pm, fun k hk3 => ?_⟩
  match k, hk3 with
  | 0, _ =>
    obtain ⟨h1, h2, _⟩ := hl (y := i.n.a) (by simp)
    exact ⟨u2.a, h2, h1⟩
  | 1, _ =>
    obtain ⟨h1, h2, _⟩ := hl (y := i.n.b) (by simp)
    refine ⟨u2.b, h2, ?_⟩
    show i.n.b ∉ i.n.a :: D
    simp only [List.mem_cons, not_or]
    exact ⟨fun e => n5.1 e.symm, h1⟩
  | 2, _ =>
    obtain ⟨h1, h2, _⟩ := hl (y := i.h) (by simp)
    refine ⟨u1, h2, ?_⟩
    show i.h ∉ i.n.b :: i.n.a :: D
    simp only [List.mem_cons, not_or]
    exact ⟨n3.2.1, n3.1, h1⟩

/-- Behind a round. -/
theorem Fi.next {i : It} {tr : Tr} {ps : List (It × Tr)} {st : List (Int × Nv)} {m : List Int} {g : Vw} {V2 : World} (hq : p < q) (h : Fi w0 w A c T0 W0 t p q ⟨0, (i.h, i.n) :: st, m, g⟩ D pg v T W V) (z : Fz (vw T0 W0) i.n.d st m tr ps)
    (pm : (D ++ (i.h :: i.n.a :: i.n.b :: hsOf (remI tr ps))).Perm (hsOf t.items)) (f : Fm w0 A c T0 W0 i D pg v V 3 V2) : ∃ pg2 T2 W2, Fi w0 w A c T0 W0 t p q ⟨i.n.d, st, m, vw T2 W2⟩ (dk i D 3) pg2 v T2 W2 V2 ∧ Grows (foot A pg v) (foot A pg2 v) V := by
  obtain ⟨pg2, T2, W2, fs, sp⟩ := f
  have n : ∀ j, p ≤ j → j < q + 5 → ¬ foot A pg v j := fun j h1 h2 hf => by have := h.out j hf; omega
  have hd := (Array.getElem?_eq_some_iff.1 h.d).1
  have hh := h.high
  simp only [List.length_cons] at hh
  refine ⟨pg2, T2, W2, ⟨fs, rfl, ⟨tr, ps, z, perm_item pm⟩, h.fs.frS h.fr sp, sp.k.boxed h.bs (n _ (by omega) (by omega)), sp.k.boxed h.i2 (n _ (by omega) (by omega)), sp.k.boxed h.i1 (n _ (by omega) (by omega)), sp.k.boxed h.i3 (n _ (by omega) (by omega)), sp.k.block h.d (n _ (by omega) (by omega)), h.mp.kept sp.k (n _ (by omega) (by omega)), h.sub, ?_, ⟨(h.su _ (List.mem_cons_self ..)).2.d.1, (h.su _ (List.mem_cons_self ..)).2.d.2⟩, fun y hy => h.su y (List.mem_cons_of_mem _ hy), fun k hk => ?_⟩, sp.inn⟩
  · show st.length ≤ m.length
    omega
  · rcases sp.inn k hk with h1 | h1
    · exact h.out k h1
    · omega

/-- All is told. -/
theorem Fi.fin (lo : Lo w0 w A) (hp : w.heap.size = p) (hq : p < q) (ft : (vw T0 W0).Fit) (h : Fi w0 w A c T0 W0 t p q s D pg v T W V) (e1 : s.h = 0) (e2 : s.st = []) (k : Kept (fun j => j = q + 4) V V') : FreeT w0 w A c T0 W0 t V' := by
  obtain ⟨tc, ps, z, pm⟩ := h.z
  rw [e1, e2] at z
  have e := z.fin ft
  rw [e] at pm
  have pm2 : D.Perm (hsOf t.items) := by simpa [hsOf] using pm
  have h1 := lo.bh
  have h2 := lo.st
  have h3 := lo.tb
  have h4 := lo.s0
  exact (h.fs.kept k (fun j hj => by
    have hj : j = q + 4 := hj
    subst hj
    exact ⟨by omega, fun hf => by have := h.out _ hf; omega, by omega, by omega, by omega⟩)).fin (h.fr.then k (fun j hj => by have hj : j = q + 4 := hj; omega)) pm2

/-- At the start. -/
theorem Fi.start {w1 : World} (h : Gs w0 w A c T W) (k1 : K w w1) (b0 : w1.heap[p]? = some (.cells #[sp A.st] 26)) (hp : w.heap.size = p) (hq : w1.heap.size = q) (hu : U64 t.root) (rt : Right (vw T W) t) :
    ∃ pg v, Fi w0 w A c T W t p q ⟨t.root, [], [], vw T W⟩ [] pg v T W (((((w1.alloc (.map #[] 0)).alloc (.cells #[sp A.st] 26)).alloc (.cells #[.int .u64 t.root] 28)).alloc (.cells #[.map (some q)] 66)).alloc (.deferred (some []))) := by
  subst hq
  obtain ⟨pg, v, fs⟩ := Fst.start h
  have m1 := Mp.new w1
  have i2 := Boxed.new (w1.alloc (.map #[] 0)) 26 (sp A.st)
  have i1 := Boxed.new ((w1.alloc (.map #[] 0)).alloc (.cells #[sp A.st] 26)) 28 (.int .u64 t.root)
  have i3 := Boxed.new (((w1.alloc (.map #[] 0)).alloc (.cells #[sp A.st] 26)).alloc (.cells #[.int .u64 t.root] 28)) 66 (.map (some w1.heap.size))
  have d1 := World.alloc_heap_new ((((w1.alloc (.map #[] 0)).alloc (.cells #[sp A.st] 26)).alloc (.cells #[.int .u64 t.root] 28)).alloc (.cells #[.map (some w1.heap.size)] 66)) (.deferred (some []))
  simp only [World.size_alloc] at i2 i1 i3 d1
  have r : ∀ V, K V V := fun V => K.refl V
  have kk : K w1 (((((w1.alloc (.map #[] 0)).alloc (.cells #[sp A.st] 26)).alloc (.cells #[.int .u64 t.root] 28)).alloc (.cells #[.map (some w1.heap.size)] 66)).alloc (.deferred (some []))) := (((((r _).alloc _).alloc _).alloc _).alloc _).alloc _
  refine ⟨pg, v, (fs.keep k1).keep kk, rfl, ⟨t, [], Fz.start rt, by simp [remI]⟩, Fr.ofK (k1.trans kk), kk.boxed b0, ((((r _).alloc _).alloc _).alloc _).boxed i2, (((r _).alloc _).alloc _).boxed i1, ((r _).alloc _).boxed i3, d1, ?_, by simp, by simp, hu, by simp, fun k hk => .inl ?_⟩
  · exact m1.kept (((((r _).alloc _).alloc _).alloc _).alloc _ |>.kept (fun _ => False)) (fun h => h)
  · have := fs.flt hk
    omega
end Wa
end Go.Proofs.YtbbjfebdihepnaaGreatDoor
