/-
  Nodes in a store with a compactor, beside a row of handles and a row of nodes.
-/
import Derived.Test.YtlalmdckdejggaaGreatDoorWNRoomF
import Derived.Test.YtlalmdckdejggaaGreatDoorN4
import Derived.Test.YtlalmdckdejggaaGreatDoorWNWk
import Derived.Test.YtlalmdckdejggaaGreatDoorG6
import Derived.Test.YtlalmdckdejggaaGreatDoorG7
import Derived.Maps.AppendAt
namespace Go.Proofs.YtlalmdckdejggaaGreatDoor
open Go.RowKit Go.Maps
namespace Nd
open Hp (Kept K No Pg Wl granted)
open Hd (U64 findL own_set)
open Co (pass cp)
open Go.Proofs.YtlalmdckdejggaaGreatDoor.Bb (Ho)
open Go.Proofs.YtlalmdckdejggaaGreatDoor.So (Ad Sb Sw Rec Rn Stp sp Hr Bx cl)
variable {w0 w w' : World} {B : Nat} {A : Ad} {c : Nat} {pg pg' : List (Int × Nat)} {W W' : Int → Int} {L L' : List Pg} {v v' vl vw u : Value} {T T' : List Hd.Sl} {hs : List Int} {zs : List Nv} {i n : Nat}

theorem own_kind {B n sz : Nat} {t : TypeId} {v : Value} {xs : List Value} (h : w.ownsRow B t sz v n xs) {j : Nat} (hj : some j = v.ownBlock) : ∃ cs, w.heap[j]? = some (.cells cs t) := by
  rcases h.2 with ⟨e, _⟩ | ⟨g, cap, cur, e, _, hb, _⟩
  · rw [e] at hj
    cases hj
  · rw [e] at hj
    have : j = g := Option.some.inj hj
    subst this
    exact ⟨_, hb⟩
theorem kind_ne {j : Nat} {cs ds : Array Value} {t u : TypeId} (h : w.heap[j]? = some (.cells cs t)) (h2 : w.heap[j]? = some (.cells ds u)) : t = u := by
  rw [h] at h2
  injection h2 with h2
  injection h2

/-- What kinds of blocks a store's calls turn. -/
theorem foot_kind (h : Sb w B A pg W L v T) {j : Nat} (hj : So.foot A pg v j) {cs : Array Value} {t : TypeId} (hb : w.heap[j]? = some (.cells cs t)) : t = 175 ∨ t = 218 ∨ t = 151 ∨ t = 153 := by
  rcases hj with (rfl | rfl | ⟨p, hp, rfl⟩) | rfl | hj
  · exact .inl (kind_ne hb h.hp.hw.ar.s0)
  · obtain ⟨_, _, hm⟩ := Sl.PMap.isMap h.hp.hw.ar.pm
    rw [hb] at hm
    cases hm
  · exact .inr (.inl (kind_ne hb (h.hp.hw.ar.page p hp)))
  · exact .inr (.inr (.inl (kind_ne hb h.tb.hd)))
  · obtain ⟨ds, hd⟩ := own_kind h.tb.row hj
    exact .inr (.inr (.inr (kind_ne hb hd)))
/-- A row of another kind is none of the store's. -/
theorem row_off (h : Sb w B A pg W L v T) {B' n sz : Nat} {t : TypeId} {u : Value} {xs : List Value} (hr : w.ownsRow B' t sz u n xs) (ht : ¬ (t = 175 ∨ t = 218 ∨ t = 151 ∨ t = 153) ∧ t ≠ 186 ∧ t ≠ 97) : ∀ b, some b = u.ownBlock → ¬ So.foot A pg v b ∧ b ≠ A.bh ∧ b ≠ A.st := fun b hb => by
  obtain ⟨cs, hc⟩ := own_kind hr hb
  refine ⟨fun hf => ht.1 (foot_kind h hf hc), fun e => ?_, fun e => ?_⟩
  · subst e
    exact ht.2.1 (kind_ne hc h.hp.hw.hd)
  · subst e
    exact ht.2.2 (kind_ne hc h.hd)

/-- Which node lies under which handle. -/
structure Bn (T : List Hd.Sl) (W : Int → Int) (hs : List Int) (zs : List Nv) : Prop where
  u : ∀ (k : Nat) x, hs[k]? = some x → U64 x
  ho : ∀ (k : Nat) x n, hs[k]? = some x → zs[k]? = some n → Ho T W x n.ws
  nd : ∀ (j k : Nat) x, hs[j]? = some x → hs[k]? = some x → j = k
theorem snoc_get {x y : Int} {k : Nat} (h : (hs ++ [x])[k]? = some y) : (k < hs.length ∧ hs[k]? = some y) ∨ (k = hs.length ∧ y = x) := by
  by_cases hk : k < hs.length
  · rw [List.getElem?_append_left hk] at h
    exact .inl ⟨hk, h⟩
  · have hl := (List.getElem?_eq_some_iff.1 h).1
    simp at hl
    have e : k = hs.length := by omega
    subst e
    rw [List.getElem?_append_right (Nat.le_refl _)] at h
    simp at h
    exact .inr ⟨rfl, h.symm⟩
theorem Bn.make (b : Bn T W hs zs) {x : Int} {m : Nv} (hm : zs[hs.length]? = some m) (hx : U64 x) (ho : Ho T' W' x m.ws) (old : ∀ y ys, Ho T W y ys → y ≠ x ∧ Ho T' W' y ys) : Bn T' W' (hs ++ [x]) zs := by
  have hlen := (List.getElem?_eq_some_iff.1 hm).1
  have at' : ∀ (k : Nat) y, hs[k]? = some y → ∃ n, zs[k]? = some n ∧ Ho T W y (Nv.ws n) := fun k y hy => by
    have hk := (List.getElem?_eq_some_iff.1 hy).1
    obtain ⟨n, hn⟩ : ∃ n, zs[k]? = some n := ⟨_, List.getElem?_eq_getElem (by omega)⟩
    exact ⟨n, hn, b.ho k y n hy hn⟩
  refine ⟨fun k y hy => ?_, fun k y n hy hn => ?_, fun j k y hj hk => ?_⟩
  · rcases snoc_get hy with ⟨_, h⟩ | ⟨_, rfl⟩
    · exact b.u k y h
    · exact hx
  · rcases snoc_get hy with ⟨_, h⟩ | ⟨rfl, rfl⟩
    · exact (old _ _ (b.ho k y n h hn)).2
    · rw [hm] at hn
      rw [← Option.some.inj hn]
      exact ho
  · rcases snoc_get hj with ⟨_, h1⟩ | ⟨rfl, rfl⟩
    · rcases snoc_get hk with ⟨_, h2⟩ | ⟨rfl, rfl⟩
      · exact b.nd j k y h1 h2
      · obtain ⟨n, _, hn⟩ := at' j _ h1
        exact absurd rfl (old _ _ hn).1
    · rcases snoc_get hk with ⟨_, h2⟩ | ⟨rfl, _⟩
      · obtain ⟨n, _, hn⟩ := at' k _ h2
        exact absurd rfl (old _ _ hn).1
      · rfl
theorem Bn.put (b : Bn T W hs zs) {k : Nat} {x : Int} {m : Nv} (hk : hs[k]? = some x) (ho : Ho T W' x m.ws) (old : ∀ z ys, z ≠ x → Ho T W z ys → Ho T W' z ys) : Bn T W' hs (zs.set k m) := by
  refine ⟨b.u, fun j y n hj hn => ?_, b.nd⟩
  by_cases e : k = j
  · subst e
    rw [hk] at hj
    obtain rfl := Option.some.inj hj
    have hl := (List.getElem?_eq_some_iff.1 hn).1
    rw [List.length_set] at hl
    rw [List.getElem?_set_self hl] at hn
    rw [← Option.some.inj hn]
    exact ho
  · rw [List.getElem?_set_ne e] at hn
    exact old _ _ (fun e2 => e (b.nd k j x hk (by rw [← e2]; exact hj))) (b.ho j y n hj hn)
theorem Bn.wk (b : Bn T W hs zs) (r : Rec L W T) (h : Co.Wk T W T' W') : Bn T' W' hs zs := ⟨b.u, fun k x n hx hn => Ho.wk r h (b.ho k x n hx hn), b.nd⟩

/-- A row of nodes, cell by cell. -/
def nodeVals (zs : List Nv) : List Value := zs.flatMap fun n => n.cs.toList
theorem nodeVals_cons (z : Nv) (zs : List Nv) : nodeVals (z :: zs) = encU z.a :: encU z.b :: encU z.c :: encU z.d :: encU z.e :: encU z.f :: nodeVals zs := rfl
theorem nodeVals_len : ∀ zs : List Nv, (nodeVals zs).length = zs.length * 6
  | [] => rfl
  | z :: zs => by
    rw [nodeVals_cons]
    simp only [List.length_cons, nodeVals_len zs]
    omega
theorem nodeVals_at : ∀ {zs : List Nv} {k : Nat} {m : Nv}, zs[k]? = some m → (nodeVals zs)[k * 6]? = some (encU m.a) ∧ (nodeVals zs)[k * 6 + 1]? = some (encU m.b) ∧ (nodeVals zs)[k * 6 + 2]? = some (encU m.c) ∧ (nodeVals zs)[k * 6 + 3]? = some (encU m.d) ∧ (nodeVals zs)[k * 6 + 4]? = some (encU m.e) ∧ (nodeVals zs)[k * 6 + 5]? = some (encU m.f)
  | [], _, _, h => by simp at h
  | z :: zs, 0, m, h => by
    obtain rfl : z = m := by simpa using h
    exact ⟨rfl, rfl, rfl, rfl, rfl, rfl⟩
  | z :: zs, k + 1, m, h => by
    have ih := nodeVals_at (zs := zs) (k := k) (m := m) (by simpa using h)
    have e : ∀ j, (nodeVals (z :: zs))[(k + 1) * 6 + j]? = (nodeVals zs)[k * 6 + j]? := fun j => by
      rw [nodeVals_cons, show (k + 1) * 6 + j = k * 6 + j + 1 + 1 + 1 + 1 + 1 + 1 by omega]
      simp only [List.getElem?_cons_succ]
    have e0 := e 0
    simp only [Nat.add_zero] at e0
    rw [e0, e 1, e 2, e 3, e 4, e 5]
    exact ih
theorem nodeVals_one (zs : List Nv) : ∀ u ∈ nodeVals zs, u.oneCell' = true := fun u hu => by
  obtain ⟨z, _, hz⟩ := List.mem_flatMap.1 hu
  simp only [Nv.cs, List.mem_cons, List.not_mem_nil, or_false] at hz
  rcases hz with rfl | rfl | rfl | rfl | rfl | rfl <;> rfl
theorem set_cons (a : Value) (l : List Value) (k : Nat) (u : Value) : (a :: l).set (k + 1) u = a :: l.set k u := rfl
theorem nodeVals_set : ∀ {zs : List Nv} {k : Nat} (m : Nv), k < zs.length → ((((((nodeVals zs).set (k * 6) (encU m.a)).set (k * 6 + 1) (encU m.b)).set (k * 6 + 2) (encU m.c)).set (k * 6 + 3) (encU m.d)).set (k * 6 + 4) (encU m.e)).set (k * 6 + 5) (encU m.f) = nodeVals (zs.set k m)
  | [], _, _, h => by simp at h
  | z :: zs, 0, m, _ => rfl
  | z :: zs, k + 1, m, h => by
    have ih := nodeVals_set (zs := zs) (k := k) m (by simpa using h)
    have e : ∀ (l : List Value) (a b c d e f x : Value) (j : Nat), (a :: b :: c :: d :: e :: f :: l).set ((k + 1) * 6 + j) x = a :: b :: c :: d :: e :: f :: l.set (k * 6 + j) x := fun l a b c d e f x j => by
      rw [show (k + 1) * 6 + j = k * 6 + j + 1 + 1 + 1 + 1 + 1 + 1 by omega]
      rfl
    rw [nodeVals_cons, List.set_cons_succ, nodeVals_cons, ← ih]
    have e0 := fun (l : List Value) (a b c d e' f x : Value) => e l a b c d e' f x 0
    simp only [Nat.add_zero] at e0
    rw [e0, e, e, e, e, e]

/-- A node is stored into a row. -/
theorem nodes_stored {base n g cap k : Nat} (h : w.ownsRow base 47 6 (.slice (some ⟨g, 0, none⟩) n cap) n (nodeVals zs)) (hk : k < zs.length) (m : Nv) : (w.setCells g (k * 6) [encU m.a, encU m.b, encU m.c, encU m.d, encU m.e, encU m.f]).ownsRow base 47 6 (.slice (some ⟨g, 0, none⟩) n cap) n (nodeVals (zs.set k m)) := by
  rw [← nodeVals_set m hk]
  exact own_set (own_set (own_set (own_set (own_set (own_set h)))))
theorem kept_stored (g : Nat) : ∀ (vs : List Value) (o : Nat) (w : World), Kept (fun j => j = g) w (w.setCells g o vs)
  | [], _, w => Kept.refl _ w
  | v :: r, o, w => ((Kept.refl (fun j => j = g) w).setCell (p := ⟨g, o, none⟩) v (.inl rfl)).trans (by
    have := kept_stored g r (o + 1) (w.setCell ⟨g, o, none⟩ v)
    exact this)
theorem row_cell {base n sz g cap : Nat} {t : TypeId} {xs : List Value} (h : w.ownsRow base t sz (.slice (some ⟨g, 0, none⟩) n cap) n xs) {j : Nat} {u : Value} (hu : xs[j]? = some u) : w.cell? ⟨g, j, none⟩ = some u := by
  have hj := (List.getElem?_eq_some_iff.1 hu).1
  have hl := h.1
  rcases h.2 with ⟨e, _⟩ | ⟨g2, cap2, cur, e, _, hb, h1, h2, h4, h5⟩
  · cases e
  · injection e with e1 e2 e3
    injection e1 with e1
    injection e1 with e1
    subst e1
    rw [← h5, List.getElem?_take] at hu
    split at hu
    · simp only [World.cell?, hb]
      rw [if_neg (by simp), ← Array.getElem?_toList]
      exact hu
    · cases hu
theorem row_there {base n g cap k : Nat} (h : w.ownsRow base 47 6 (.slice (some ⟨g, 0, none⟩) n cap) n (nodeVals zs)) (hk : k < zs.length) : w.there g (k * 6) 6 := fun j hj => by
  obtain ⟨m, hm⟩ : ∃ m, zs[k]? = some m := ⟨_, List.getElem?_eq_getElem hk⟩
  have hc : ∃ u, (nodeVals zs)[k * 6 + j]? = some u := ⟨_, List.getElem?_eq_getElem (by rw [nodeVals_len]; omega)⟩
  obtain ⟨u, hu⟩ := hc
  exact ⟨by rw [row_cell h hu]; rfl, World.ownsRow.frozenAt h _⟩

theorem info_node : ∃ i0, Tryz.prog.info? 47 = some i0 ∧ i0.size = 6 ∧ i0.bytes = 48 ∧ ∃ z, i0.zero = some z ∧ z.cells.size = 6 := by
  have hi : (Tryz.prog.info? 47).map (fun i => (i.zero.map (fun z => z.cells.size), i.size, i.bytes)) = some (some 6, 6, 48) := by kernel_rfl
  obtain ⟨i0, h1, h2⟩ := Option.map_eq_some_iff.1 hi
  simp only [Prod.mk.injEq] at h2
  obtain ⟨h3, h4, h5⟩ := h2
  obtain ⟨z, h6, h7⟩ := Option.map_eq_some_iff.1 h3
  exact ⟨i0, h1, h4, h5, z, h6, h7⟩
theorem run_append_nil (g n cap c : Nat) (hn : n ≤ cap) (ty : TypeId) (w : World) : (Builtin.append_ #[59, 59] ty #[.slice (some ⟨g, 0, none⟩) n cap, .slice none 0 c]).run Tryz.prog w = .ok (.slice (some ⟨g, 0, none⟩) n cap) w := by
  obtain ⟨i0, hi, hs, _, _⟩ := info_node
  have := run_append_room_src (P := Tryz.prog) w 59 59 ty 47 i0 Tryz.underlying59 hi g 0 n cap (.slice none 0 c) 0 [] (Src.ofNil w Tryz.underlying59 c) (by omega) (fun j hj => by simp at hj) (fun j hj => by simp at hj)
  simpa [World.setCells] using this
/-- What is appended: no node of a nil slice, or the cells behind an address. -/
def SrcN (w : World) (oa : Option Addr) (m : Nat) (news : List Value) : Prop := (oa = none ∧ m = 0 ∧ news = []) ∨ ∃ ad, oa = some ad ∧ ∀ j u, news[j]? = some u → w.cell? (ad.add j) = some u
theorem wpList_append_nodes {ops : Array Oper} {rest : List Oper} {o : Oper} {ac : Act} {Q : Exit → Act → World → Prop} (w : World) (hgd : o.guard = none) (s x : Operand)
    (ho : o.op = .call { callee := .builtin .append, args := #[s, x], argTypes := #[59, 59] })
    (base : Nat) (v : Value) (n : Nat) (xs : List Value) (hs : ac.eval s = v) (hown : w.ownsRow base 47 6 v n xs) (hv : v.ownBlock.isSome = true)
    (oa : Option Addr) (m c : Nat) (news : List Value) (hx : ac.eval x = .slice oa m c) (hl : news.length = m * 6) (hsrc : SrcN w oa m news) (h1 : ∀ u ∈ news, u.oneCell' = true) (hb : n + m ≤ 100000) (hbase : base ≤ w.heap.size)
    (h : ∀ v' w', w'.ownsRow base 47 6 v' (n + m) (xs ++ news) → w.grownBy w' v.ownBlock → (v'.ownBlock = v.ownBlock ∨ v'.ownBlock = some w.heap.size) → wpList Tryz.prog ops Q rest (ac.put o.dst v') w') :
    wpList Tryz.prog ops Q (o :: rest) ac w := by
  obtain ⟨i0, hi, hsz, hby, z, hz, hzs⟩ := info_node
  rcases hsrc with ⟨rfl, rfl, rfl⟩ | ⟨ad, rfl, hc⟩
  · refine wpList_plain hgd fun K hK => ?_
    rcases hown.2 with ⟨rfl, _⟩ | ⟨g, cap, cur, hvv, r1, r2, r3, r4⟩
    · cases hv
    · have hrun := run_append_nil g n cap c r3 o.type w
      rw [← hvv] at hrun
      unfold Oper.wp execOp
      simp only [ho, resolve, invoke, builtin, Sem.run_bind, Sem.run_pure, Result.andThen_ok, List.map_toArray, List.map_cons, List.map_nil, hs, hx, hrun]
      refine hK _ _ (h v w ?_ ⟨rfl, rfl, rfl, Nat.le_refl _, fun _ _ _ => rfl⟩ (Or.inl rfl))
      simpa using hown
  · exact wpList_append_own_at w hgd s x 59 ho base 47 i0 z 6 48 Tryz.underlying59 hi hz hsz hby hzs (by decide) v n xs hs hown ad m c news hx hl hc h1 (by unfold maxLen; omega) (by omega) hbase (fun v' w' r1 r2 _ r4 => h v' w' r1 r2 r4)

/-- Behind i Makes. -/
structure Pt (w0 w : World) (A : Ad) (c : Nat) (vl vw : Value) (hs : List Int) (zs : List Nv) (i : Nat) : Prop where
  ex : ∃ pg W v T, Rn w0 w A pg W (seqL i) v T ∧ Hr w0 w A pg v vl hs ∧ Bx A pg v w c 108 (sp A.st) ∧ T.length = i ∧ cl T = 0 ∧ Bn T W hs zs
  rw : w.ownsRow w0.heap.size 47 6 vw zs.length (nodeVals zs)
  ln : hs.length = i
  nc : some c ≠ vl.ownBlock
theorem Pt.k (h : Pt w0 w A c vl vw hs zs i) : K w0 w := by
  obtain ⟨pg, W, v, T, rn, _⟩ := h.ex
  exact rn.k
theorem Pt.keep (h : Pt w0 w A c vl vw hs zs i) (k : K w w') : Pt w0 w' A c vl vw hs zs i := by
  obtain ⟨pg, W, v, T, rn, hr, cb, rest⟩ := h.ex
  exact ⟨⟨pg, W, v, T, rn.keep k, hr.keep k, cb.keep k, rest⟩, Hd.ownsRow_kept h.rw k (fun _ _ z => z), h.ln, h.nc⟩

/-- A handle is told, and not yet in the row. -/
structure Pq (w0 w : World) (A : Ad) (c : Nat) (vl vw : Value) (hs : List Int) (x : Int) (zs : List Nv) (i : Nat) : Prop where
  ex : ∃ pg W v T, Rn w0 w A pg W (seqL (i + 1)) v T ∧ Hr w0 w A pg v vl hs ∧ Bx A pg v w c 108 (sp A.st) ∧ T.length = i + 1 ∧ cl T = 0 ∧ Bn T W (hs ++ [x]) zs
  rw : w.ownsRow w0.heap.size 47 6 vw zs.length (nodeVals zs)
  ln : hs.length = i
  nc : some c ≠ vl.ownBlock
theorem Pq.row {x : Int} (h : Pq w0 w A c vl vw hs x zs i) : w.ownsRow w0.heap.size 45 1 vl i (hs.map Hd.encU) ∧ w0.heap.size ≤ w.heap.size ∧ K w0 w := by
  obtain ⟨pg, W, v, T, rn, hr, _⟩ := h.ex
  have := hr.rl
  rw [h.ln] at this
  exact ⟨this, rn.k.size, rn.k⟩
theorem Pq.app {x : Int} {o : Obj} (h : Pq w0 w A c vl vw hs x zs i) (z0 : 0 < w0.heap.size) (hown : w'.ownsRow w0.heap.size 45 1 u (i + 1) (hs.map Hd.encU ++ [Hd.encU x])) (hg : (w.alloc o).grownBy w' vl.ownBlock) (hat : u.ownBlock = vl.ownBlock ∨ u.ownBlock = some (w.alloc o).heap.size) : Pt w0 w' A c u vw (hs ++ [x]) zs (i + 1) := by
  obtain ⟨pg, W, v, T, rn, hr, cb, ht, hc, b⟩ := h.ex
  obtain ⟨h1, h2⟩ := hr.app (x := x) rn z0 (by rw [h.ln]; exact hown) hg hat
  have hlt := cb.lt
  have cb2 : Bx A pg v w' c 108 (sp A.st) := ⟨by rw [hg.block c (by simp; omega) h.nc, Below.heap_alloc w o c hlt]; exact cb.hb, cb.off⟩
  refine ⟨⟨pg, W, v, T, h2, h1, cb2, ht, hc, b⟩, ?_, by rw [List.length_append, h.ln]; rfl, ?_⟩
  · obtain ⟨q1, q2⟩ := h.rw
    refine ⟨q1, ?_⟩
    rcases q2 with q2 | ⟨g, cap, cur, e, hb, hgb, rest⟩
    · exact .inl q2
    · have gl : g < w.heap.size := (Array.getElem?_eq_some_iff.1 hgb).1
      refine .inr ⟨g, cap, cur, e, hb, ?_, rest⟩
      rw [hg.block g (by simp; omega) (fun e2 => ?_), Below.heap_alloc w o g gl]
      · exact hgb
      · obtain ⟨cs, hcs⟩ := own_kind hr.rl e2
        exact absurd (kind_ne hgb hcs) (by decide)
  · rcases hat with e | e
    · rw [e]; exact h.nc
    · rw [e]
      intro e2
      have := Option.some.inj e2
      simp at this
      omega

theorem Pt.make (h : Pt w0 w A c vl vw hs zs i) (hq : A.q = 4000) (hm : A.m = 100) (hi : i < 60) {m : Nv} (hz : zs[i]? = some m) (ok : m.Ok) :
    Calls Tryz.prog 13 #[sp A.st, m.v] w fun e w' => ∃ x, e = .returned (.tuple #[.int .u64 x, .int .i64 0]) ∧ Aside (Pq w0 w' A c vl vw hs x zs i) := by
  obtain ⟨pg, W, v, T, rn, hr, cb, ht, hc, b⟩ := h.ex
  obtain ⟨a, ea⟩ := seq_ok (q := 4000) hi (by omega)
  refine (make_any rn.s rn.k.size m ok).mono ?_
  rintro e w2 (⟨a2, L2, x, T2, ea2, eo, a0, hx, x0, rfl, hh⟩ | ⟨er, her, hcc, rfl, _⟩)
  · rw [hq, ea] at ea2
    simp only [Prod.mk.injEq] at ea2
    obtain ⟨rfl, _, rfl⟩ := ea2
    obtain ⟨pg2, W2, v2, sw, ho, hold, st⟩ := hh.out
    have eo2 := So.open_next (z := A.z) hc (by rw [hm, ht]; omega : (T.length : Int) < A.m) a0
    rw [eo] at eo2
    simp only [Prod.mk.injEq] at eo2
    obtain ⟨_, _, rfl⟩ := eo2
    exact ⟨x, rfl, ⟨pg2, W2, v2, _, ⟨sw, rn.kst st⟩, hr.step st, cb.step st, by simp [ht], by simpa [cl] using hc, b.make (by rw [h.ln]; exact hz) hx ho hold⟩, Hd.ownsRow_kept h.rw st.k (fun g hg => (row_off rn.s.b h.rw (by decide) g hg).1), h.ln, h.nc⟩
  · exfalso
    rcases hcc with ⟨a2, e2, hne⟩ | ⟨_, hf, _⟩
    · rw [hq, ea] at e2
      simp only [Prod.mk.injEq] at e2
      exact hne e2.2.1.symm
    · unfold So.fullB at hf
      rw [decide_eq_false (by rw [hm, ht]; omega)] at hf
      cases hf

/-- All of it, amid changes. -/
structure Bk (w0 w : World) (A : Ad) (c : Nat) (vl vw : Value) (hs : List Int) (zs : List Nv) (n : Nat) : Prop where
  ex : ∃ pg W L v T, Rn w0 w A pg W L v T ∧ Hr w0 w A pg v vl hs ∧ Bx A pg v w c 108 (sp A.st) ∧ granted L ≤ ((n + 5) / 6 : Nat) ∧ Bn T W hs zs
  rw : w.ownsRow w0.heap.size 47 6 vw n (nodeVals zs)
  lh : hs.length = n
  lz : zs.length = n
theorem Bk.k (h : Bk w0 w A c vl vw hs zs n) : K w0 w := by
  obtain ⟨pg, W, L, v, T, rn, _⟩ := h.ex
  exact rn.k
theorem Bk.keep (h : Bk w0 w A c vl vw hs zs n) (k : K w w') : Bk w0 w' A c vl vw hs zs n := by
  obtain ⟨pg, W, L, v, T, rn, hr, cb, rest⟩ := h.ex
  exact ⟨⟨pg, W, L, v, T, rn.keep k, hr.keep k, cb.keep k, rest⟩, Hd.ownsRow_kept h.rw k (fun _ _ z => z), h.lh, h.lz⟩
theorem Pt.done (h : Pt w0 w A c vl vw hs zs n) (hz : zs.length = n) (hn : n ≤ 60) : Bk w0 w A c vl vw hs zs n := by
  obtain ⟨pg, W, v, T, rn, hr, cb, _, _, b⟩ := h.ex
  have := h.rw
  rw [hz] at this
  exact ⟨⟨pg, W, _, v, T, rn, hr, cb, by rw [(seq_at hn).1]; omega, b⟩, this, h.ln, hz⟩

/-- A node is something else. -/
theorem Bk.put (h : Bk w0 w A c vl vw hs zs n) {k : Nat} {x : Int} (hk : hs[k]? = some x) {m : Nv} (ok : m.Ok) :
    Calls Tryz.prog 15 #[sp A.st, .int .u64 x, m.v] w fun e w' => e = .returned (.int .i64 0) ∧ Aside (K w0 w' ∧ w'.ownsRow w0.heap.size 47 6 vw n (nodeVals zs) ∧ ∃ pg W L v T, Rn w0 w' A pg W L v T ∧ Hr w0 w' A pg v vl hs ∧ Bx A pg v w' c 108 (sp A.st) ∧ granted L ≤ ((n + 5) / 6 : Nat) ∧ Bn T W hs (zs.set k m)) := by
  obtain ⟨pg, W, L, v, T, rn, hr, cb, hg, b⟩ := h.ex
  have hkl := (List.getElem?_eq_some_iff.1 hk).1
  obtain ⟨z, hz⟩ : ∃ z, zs[k]? = some z := ⟨_, List.getElem?_eq_getElem (by rw [h.lz, ← h.lh]; exact hkl)⟩
  refine (put_ok rn.s rn.k.size (b.u k x hk) (b.ho k x z hk hz) rfl m ok).mono ?_
  rintro e w2 ⟨rfl, hh⟩
  obtain ⟨W2, sw, ho, hold, st⟩ := hh.out
  exact ⟨rfl, rn.kst st, Hd.ownsRow_kept h.rw st.k (fun g hg => (row_off rn.s.b h.rw (by decide) g hg).1), pg, W2, L, v, T, ⟨sw, rn.kst st⟩, hr.step st, cb.step st, hg, b.put hk ho hold⟩
/-- It is noted in the row. -/
theorem Bk.note {g cap k : Nat} {m : Nv} (hl : hs.length = n) (hz : zs.length = n) (hk : k < n) (z0 : 0 < w0.heap.size) (h : w.ownsRow w0.heap.size 47 6 (.slice (some ⟨g, 0, none⟩) n cap) n (nodeVals zs) ∧ ∃ pg W L v T, Rn w0 w A pg W L v T ∧ Hr w0 w A pg v vl hs ∧ Bx A pg v w c 108 (sp A.st) ∧ granted L ≤ ((n + 5) / 6 : Nat) ∧ Bn T W hs (zs.set k m)) :
    Bk w0 (w.setCells g (k * 6) [encU m.a, encU m.b, encU m.c, encU m.d, encU m.e, encU m.f]) A c vl (.slice (some ⟨g, 0, none⟩) n cap) hs (zs.set k m) n := by
  obtain ⟨hr0, pg, W, L, v, T, rn, hr, cb, hg, b⟩ := h
  have kk := kept_stored g [encU m.a, encU m.b, encU m.c, encU m.d, encU m.e, encU m.f] (k * 6) w
  obtain ⟨f1, f2, f3⟩ := row_off rn.s.b hr0 (by decide) g rfl
  have lo := (Hd.own_lt hr0 (g := g) rfl).1
  obtain ⟨cs, hcs⟩ := own_kind hr0 (j := g) rfl
  refine ⟨⟨pg, W, L, v, T, ⟨⟨rn.s.b.kept kk (fun j hj => by subst hj; exact ⟨f1, f2, by omega, f3⟩), rn.s.r⟩, kthen rn.k kk (fun j hj => by omega)⟩, ⟨Hd.ownsRow_kept hr.rl kk (fun j hj e => ?_), hr.ap⟩, ⟨kk.block cb.hb (fun e => ?_), cb.off⟩, hg, b⟩, nodes_stored hr0 (by omega) m, hl, by rw [List.length_set]; exact hz⟩
  · subst e
    obtain ⟨ds, hds⟩ := own_kind hr.rl hj
    exact absurd (kind_ne hcs hds) (by decide)
  · have e2 : c = g := e
    rw [← e2] at hcs
    exact absurd (kind_ne hcs cb.hb) (by decide)

/-- A run of the compactor. -/
theorem Bk.run {bu : Int} (h : Bk w0 w A c vl vw hs zs n) (b0 : 0 ≤ bu) (b1 : bu ≤ 9223372036854775807) :
    Calls Tryz.prog 18 #[cp c, .int .i64 bu] w fun e w' => (∃ x y z, e = .returned (.tuple #[.int .i64 x, .bool y, .int .i64 z])) ∧ Aside (Bk w0 w' A c vl vw hs zs n) := by
  obtain ⟨pg, W, L, v, T, rn, hr, cb, hg, b⟩ := h.ex
  refine (Co.run_any rn.s rn.k.size cb b0 b1).mono ?_
  rintro e w2 ⟨rfl, pg', W', v', sw, wk, st⟩
  have hg2 := Co.fold_granted (bu := bu) (Co.pass_start rn.s.b.wl rn.s.r)
  exact ⟨⟨_, _, _, rfl⟩, ⟨pg', W', _, v', _, ⟨sw, rn.kst st⟩, hr.step st, cb.step st, Int.le_trans hg2 hg, b.wk rn.s.r wk⟩, Hd.ownsRow_kept h.rw st.k (fun g hg => (row_off rn.s.b h.rw (by decide) g hg).1), h.lh, h.lz⟩

theorem Bk.get (h : Bk w0 w A c vl vw hs zs n) {k : Nat} {x : Int} {z : Nv} (hk : hs[k]? = some x) (hz : zs[k]? = some z) : Calls Tryz.prog 14 #[sp A.st, .int .u64 x] w fun e w' => e = .returned (.tuple #[z.v, .int .i64 0]) ∧ K w w' := by
  obtain ⟨pg, W, L, v, T, rn, hr, cb, hg, b⟩ := h.ex
  exact get_node rn.s (b.u k x hk) (b.ho k x z hk hz)
theorem Bk.words (h : Bk w0 w A c vl vw hs zs n) : Calls Tryz.prog 19 #[sp A.st] w fun e w' => (∃ g : Int, e = .returned (.int .i64 (64 * g)) ∧ 0 ≤ g ∧ g ≤ ((n + 5) / 6 : Nat)) ∧ K w w' := by
  obtain ⟨pg, W, L, v, T, rn, hr, cb, hg, b⟩ := h.ex
  exact (So.words_any rn.s.b).mono fun e w2 hh => ⟨⟨_, hh.1, So.granted_pos rn.s.b.wl, hg⟩, hh.2⟩

end Nd
end Go.Proofs.YtlalmdckdejggaaGreatDoor
