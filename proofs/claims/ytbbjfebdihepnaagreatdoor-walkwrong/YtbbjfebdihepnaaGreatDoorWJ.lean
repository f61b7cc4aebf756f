/-
  A right tree in a store made since: what each call answers.
-/
import Derived.Test.YtbbjfebdihepnaaGreatDoorWI
import Derived.Test.YtbbjfebdihepnaaGreatDoorWF
import Derived.Test.YtbbjfebdihepnaaGreatDoorK1
import Derived.ChangeArms
namespace Go.Proofs.YtbbjfebdihepnaaGreatDoor
open Go.RowKit Go.Maps
namespace Wa
open Hp (Kept K No)
open Hd (U64 findL)
open Nd (Nv encU)
open Go.Proofs.YtbbjfebdihepnaaGreatDoor.So (Ad sp)
variable {w0 w w' : World} {A : Ad} {W : Int → Int} {T : List Hd.Sl} {x : Int} {c : Nat} {t : Tr} {P : List Pr}

/-- A right tree of these pairs. -/
structure Tv (w0 w : World) (A : Ad) (c : Nat) (T : List Hd.Sl) (W : Int → Int) (t : Tr) (P : List Pr) : Prop where
  gs : Gs w0 w A c T W
  rt : Right (vw T W) t
  u : U64 t.root
  pr : prOf t.items = P
theorem Tv.keep (h : Tv w0 w A c T W t P) (k : K w w') : Tv w0 w' A c T W t P := ⟨h.gs.keep k, h.rt, h.u, h.pr⟩
theorem Tv.k (h : Tv w0 w A c T W t P) : K w0 w := h.gs.k
theorem Tv.len (h : Tv w0 w A c T W t P) : t.items.length = P.length := by rw [← h.pr]; simp [prOf]
theorem Gs.dwn (h : Gs w0 w A c T W) : Dwn w A (vw T W) := by
  obtain ⟨pg, L, v, rn, r⟩ := h
  exact Wa.dwn rn.s
theorem Gs.fit (h : Gs w0 w A c T W) : (vw T W).Fit := by
  obtain ⟨pg, L, v, rn, r⟩ := h
  exact vw_fit rn.s
theorem Gs.tab (h : Gs w0 w A c T W) : Bt.Tab w := by
  obtain ⟨pg, L, v, rn, r⟩ := h
  exact rn.s.b.hp.hw.tab

theorem rank_of (l : List It) (key : ByteArray) : rankL l key = rankP (prOf l) key := by
  simp only [rankL, rankP, prOf, List.countP_map]
  rfl
theorem pr_at {l : List It} {i : Nat} {q : Pr} (h : (prOf l)[i]? = some q) : ∃ j, l[i]? = some j ∧ q = ⟨j.k, j.x⟩ := by
  unfold prOf at h
  rw [List.getElem?_map] at h
  cases e : l[i]? with
  | none => rw [e] at h; cases h
  | some j =>
    rw [e] at h
    exact ⟨j, rfl, (Option.some.inj h).symm⟩

theorem Tv.check (h : Tv w0 w A c T W t P) : Calls Tryz.prog 12 #[sp A.st, .int .u64 t.root] w fun e w' => e = .returned (.int .i64 0) ∧ K w w' := by
  obtain ⟨pg, L, v, rn, r⟩ := h.gs
  exact check_right rn.s h.u h.rt
theorem Tv.size (h : Tv w0 w A c T W t P) : Calls Tryz.prog 13 #[sp A.st, .int .u64 t.root] w fun e w' => e = .returned (.int .i64 (P.length : Int)) ∧ K w w' := by
  have := h.gs.dwn.size w (K.refl w) t.root h.u
  rw [sz_root h.gs.fit h.rt.lay h.rt.nd, h.len] at this
  exact this
theorem Tv.skr (h : Tv w0 w A c T W t P) {key : ByteArray} {hh y : Int} (s : Skr (vw T W) key t.root hh y) : hh = findI t.items key ∧ y = (rankP P key : Int) := by
  cases ht : t with
  | nil =>
    subst ht
    have e : lk (vw T W) (0 : Int) = none := by simp [lk, h.gs.fit.zero]
    unfold Skr at s
    rw [show Tr.root .nil = 0 from rfl, e] at s
    have hp := h.pr
    simp only [Tr.items, prOf, List.map_nil] at hp
    rw [← hp]
    simp [s.1, s.2, findI, rankP, Tr.items]
  | node i l r =>
    subst ht
    have hl := few_items h.gs.fit h.rt.lay h.rt.nd
    have e : lk (vw T W) i.h = some i.n := by
      have he := e_node h.rt.lay
      simp only [lk, h.rt.lay.1.nd]
      rw [if_pos (by omega)]
    unfold Skr at s
    rw [show Tr.root (.node i l r) = i.h from rfl, e] at s
    obtain ⟨s1, s2⟩ := Sk.tree h.gs.fit key (.node i l r) rfl h.rt.lay h.rt.nd h.rt.up s
    exact ⟨s1, by rw [s2, rank_of, h.pr]; omega⟩
theorem Tv.rank (h : Tv w0 w A c T W t P) (key : ByteArray) : Calls Tryz.prog 16 #[sp A.st, .int .u64 t.root, .string key] w fun e w' => e = .returned (.int .i64 (rankP P key : Int)) ∧ K w w' := by
  refine (rank_any h.gs.dwn h.u key).mono ?_
  rintro e w1 ⟨hh, y, rfl, s, k⟩
  obtain ⟨_, rfl⟩ := h.skr s.out
  exact ⟨rfl, k⟩
theorem Tv.find (h : Tv w0 w A c T W t P) (key : ByteArray) : Calls Tryz.prog 14 #[sp A.st, .int .u64 t.root, .string key] w fun e w' => e = .returned (.tuple #[.int .u64 (findI t.items key), .bool (findI t.items key != 0)]) ∧ K w w' := by
  refine (find_any h.gs.dwn h.u key).mono ?_
  rintro e w1 ⟨hh, y, rfl, s, k⟩
  obtain ⟨rfl, _⟩ := h.skr s.out
  exact ⟨rfl, k⟩
theorem Tv.item (h : Tv w0 w A c T W t P) {i : It} (hi : i ∈ t.items) : i.h ≠ 0 ∧ U64 i.h ∧ Calls Tryz.prog 18 #[sp A.st, .int .u64 i.h] w fun e w' => e = .returned (.tuple #[prV i.k i.x, .int .i64 0]) ∧ K w w' := by
  obtain ⟨pg, L, v, rn, r⟩ := h.gs
  have ok := lay_mem h.rt.lay i hi
  refine ⟨fun e => ?_, (nd_some ok.nd).1, pair_yes rn.s ok.nd ok.k ok.x⟩
  have := ok.nd
  rw [e, h.gs.fit.zero] at this
  cases this
theorem Tv.at (h : Tv w0 w A c T W t P) {k : Nat} {i : It} (hi : t.items[k]? = some i) : Calls Tryz.prog 19 #[sp A.st, .int .u64 t.root, .int .i64 (k : Int)] w fun e w' => e = .returned (.tuple #[.int .u64 i.h, .int .i64 0]) ∧ K w w' := by
  have hk := (List.getElem?_eq_some_iff.1 hi).1
  cases ht : t with
  | nil => subst ht; simp [Tr.items] at hk
  | node j l r =>
    subst ht
    have hl := few_items h.gs.fit h.rt.lay h.rt.nd
    have e : lk (vw T W) j.h = some j.n := by
      have he := e_node h.rt.lay
      simp only [lk, h.rt.lay.1.nd]
      rw [if_pos (by omega)]
    have es : sz (vw T W) j.h = ((Tr.node j l r).items.length : Int) := sz_root (t := .node j l r) h.gs.fit h.rt.lay h.rt.nd
    refine (at_go h.gs.dwn h.u e (by omega) (by rw [show (Tr.node j l r).root = j.h from rfl, es]; omega)).mono ?_
    rintro e1 w1 ⟨hh, y, rfl, s, q⟩
    obtain ⟨rfl, h2⟩ := Atm.tree h.gs.fit (.node j l r) rfl h.rt.lay h.rt.nd hk s.out
    rw [List.getElem?_map, hi] at h2
    obtain rfl : i.h = hh := by simpa using h2
    exact ⟨rfl, q⟩
theorem Tv.atno (h : Tv w0 w A c T W t P) {k : Int} (hk : k < 0 ∨ (P.length : Int) ≤ k) : Calls Tryz.prog 19 #[sp A.st, .int .u64 t.root, .int .i64 k] w fun e w' => e = .returned (.tuple #[.int .u64 0, .int .i64 2]) ∧ K w w' :=
  at_no h.gs.dwn h.u k (by rw [sz_root h.gs.fit h.rt.lay h.rt.nd, h.len]; exact hk)
theorem Tv.list (h : Tv w0 w A c T W t P) : Calls Tryz.prog 20 #[sp A.st, .int .u64 t.root] w fun e w' => ∃ v, e = .returned v ∧ w'.ownsRow w.heap.size 28 1 v P.length ((t.items.map It.h).map encU) ∧ K w w' := by
  obtain ⟨pg, L, v, rn, r⟩ := h.gs
  refine (list_any rn.s h.u).mono ?_
  rintro e w1 ⟨rr, k, hl, hk, hc⟩
  have e1 := Lst.right h.gs.fit h.rt.lay h.rt.nd hl
  rcases hc with ⟨rfl, _⟩ | ⟨l, v, rfl, rfl, hrow⟩
  · cases e1
  · obtain rfl := Option.some.inj e1
    rw [List.length_map, h.len] at hrow
    exact ⟨v, rfl, hrow, hk⟩

theorem right_of {l : List Pr} (h1 : t.Lay (vw T W)) (h2 : (hsOf t.items).Nodup) (h3 : prOf t.items = l) (hu : upP l) : Right (vw T W) t := by
  refine ⟨h1, h2, ?_⟩
  rw [← h3] at hu
  exact List.pairwise_map.1 hu

theorem Tv.cut (h : Tv w0 w A c T W t P) {j : It} {r : Nat} : (j ∈ t.items.take r → (⟨j.k, j.x⟩ : Pr) ∈ P.take r) ∧ (j ∈ t.items.drop r → (⟨j.k, j.x⟩ : Pr) ∈ P.drop r) := by
  rw [← h.pr]
  unfold prOf
  rw [← List.map_take, ← List.map_drop]
  exact ⟨fun hj => List.mem_map.2 ⟨j, hj, rfl⟩, fun hj => List.mem_map.2 ⟨j, hj, rfl⟩⟩

/-- Which node has a key. -/
theorem find_yes (h : Tv w0 w A c T W t P) (hu : upP P) {key : ByteArray} {q : Pr} (hq : P[rankP P key]? = some q) (hk : q.k = key) : ∃ i, t.items[rankP P key]? = some i ∧ findI t.items key = i.h ∧ q = ⟨i.k, i.x⟩ := by
  obtain ⟨s1, _⟩ := rank_split (key := key) hu
  generalize rankP P key = r at hq s1
  have hq' : (prOf t.items)[r]? = some q := by rw [h.pr]; exact hq
  obtain ⟨i, hi, e⟩ := pr_at hq'
  refine ⟨i, hi, ?_, e⟩
  obtain ⟨hlt, hv⟩ := List.getElem?_eq_some_iff.1 hi
  have e2 : t.items = t.items.take r ++ (i :: t.items.drop (r + 1)) := by
    rw [← hv, ← List.drop_eq_getElem_cons hlt, List.take_append_drop]
  have hk2 : i.k = key := by rw [← hk, e]
  rw [e2, find_r fun j hj => by
    have := s1 _ (h.cut.1 hj)
    simp only at this
    omega]
  simp [findI, hk2, cmp_same]
theorem find_no (h : Tv w0 w A c T W t P) (hu : upP P) {key : ByteArray} (hn : ∀ q, P[rankP P key]? = some q → q.k ≠ key) : findI t.items key = 0 := by
  obtain ⟨s1, s2⟩ := rank_split (key := key) hu
  obtain ⟨_, u2, _⟩ := up_take hu (rankP P key)
  generalize rankP P key = r at hn s1 s2 u2
  unfold findI
  rw [find_none fun j hj e => ?_]
  rw [← List.take_append_drop r t.items] at hj
  rcases List.mem_append.1 hj with hj | hj
  · have := s1 _ (h.cut.1 hj)
    simp only at this
    omega
  · have hm := h.cut.2 hj
    have ek : j.k = key := cmp_eq e
    cases hd : P.drop r with
    | nil => rw [hd] at hm; cases hm
    | cons q l =>
      have hq : P[r]? = some q := by
        have := congrArg (fun l => l[0]?) hd
        simpa using this
      have h0 := hn q hq
      rw [hd] at hm s2 u2
      rcases List.mem_cons.1 hm with rfl | hm
      · exact h0 ek
      · have h1 := (List.pairwise_cons.1 u2).1 _ hm
        have h2 := s2 q (by simp)
        simp only [ek] at h1
        omega

end Wa
end Go.Proofs.YtbbjfebdihepnaaGreatDoor

/-
  Arguments that came in: rows of pairs of texts; the numbers of a shape.
-/
namespace Go.Proofs.YtbbjfebdihepnaaGreatDoor
open Go.RowKit Go.Maps Go.Deep Go.ChangeShapes Go.WideShapes Go.ChangeAt
namespace Wa
open Hp (Kept K No)

/-- A row of pairs that came in. -/
structure Prw (w : World) (a : Option Addr) (n cap : Nat) (l : List Pr) : Prop where
  p : Srp w a n cap l
  mx : ∀ p ∈ l, p.k.size ≤ maxLen ∧ p.x.size ≤ maxLen
theorem Prw.keep {w w' : World} {a : Option Addr} {n cap : Nat} {l : List Pr} (h : Prw w a n cap l) (k : K w w') : Prw w' a n cap l := ⟨h.p.keep k, h.mx⟩

structure PrAt (w : World) (b off : Nat) (o : Pr) : Prop where
  c0 : w.cell? ⟨b, off, none⟩ = some (.string o.k)
  c1 : w.cell? ⟨b, off + 1, none⟩ = some (.string o.x)

theorem two_of {α : Type} {l : List α} (h : l.length = 2) : ∃ a b, l = [a, b] := by
  match l, h with
  | [a, b], _ => exact ⟨a, b, rfl⟩

theorem prAt_of {H : Type} {enc : TypeId × Value → H} {W : World} {base : Nat} {sp : Nat → Bool} {held : Bool} {a : Addr} {cs : List Value} {n : Nat} {x : DataW H × List MemPlace} (hc : W.cells? base a 2 = some cs) (h : DataW.trod enc Tryz.prog W base sp held n 39 cs = some x) :
    ∃ (b off : Nat) (o : Pr), a = ⟨b, off, none⟩ ∧ PrAt W b off o ∧ (o.k.size ≤ maxLen ∧ o.x.size ≤ maxLen) := by
  obtain ⟨_, hlen, hcell⟩ := World.cells?_some hc
  obtain ⟨xs, k, _, _, _, hxl, hf⟩ := DataW.trod_struct Tryz.underlying39 h
  have cs1 : Tryz.prog.cellsOf 9 = 1 := by kernel_rfl
  have hxl : xs.length = 2 := by simpa using hxl
  have g0 := So.field_at hf 0 9 0 rfl cs1 (by omega)
  have g1 := So.field_at hf 1 9 1 rfl cs1 (by omega)
  obtain ⟨z0, e0, _, k0⟩ := DataW.trod_string Tryz.underlying9 g0
  obtain ⟨z1, e1, _, k1⟩ := DataW.trod_string Tryz.underlying9 g1
  obtain ⟨v0, v1, rfl⟩ := two_of hlen
  simp at e0 e1
  subst e0 e1
  have r0 := hcell 0 (by omega)
  have r1 := hcell 1 (by omega)
  obtain ⟨b, off, spot⟩ := a
  have hspot : spot = none := by simpa [Addr.add] using World.cell?_spot r0
  subst hspot
  rw [Go.WideShapes.add_plain] at r0 r1
  exact ⟨b, off, ⟨z0, z1⟩, rfl, ⟨by simpa using r0, by simpa using r1⟩, k0, k1⟩

theorem pairs_of {H : Type} {enc : TypeId × Value → H} {W : World} {base : Nat} {sp : Nat → Bool} {held : Bool} {fuel : Nat} {a : Option Addr} {len cap : Nat} {x : DataW H × List MemPlace} (h : DataW.trod enc Tryz.prog W base sp held fuel 22 [.slice a len cap] = some x) :
    ∃ l, Prw W a len cap l := by
  have hcc : len ≤ cap ∧ cap ≤ maxLen := by
    rcases open_slice Tryz.underlying22 h with ⟨hcs, _⟩ | ⟨ad, l, c, k, n, D, Pl, hcs, _, hl, hm, _⟩
    · simp at hcs
      obtain ⟨rfl, rfl, rfl⟩ := hcs
      exact ⟨Nat.le_refl _, Nat.zero_le _⟩
    · simp at hcs
      obtain ⟨rfl, rfl, rfl⟩ := hcs
      exact ⟨hl, hm⟩
  obtain ⟨hm, b, off, z, h1, h2, h3⟩ := So.rows_of Tryz.underlying22 (m := 2) (by kernel_rfl) (PrAt W) (fun o => o.k.size ≤ maxLen ∧ o.x.size ≤ maxLen) ⟨ByteArray.empty, ByteArray.empty⟩ ⟨by decide, by decide⟩ (fun ad cs n y hc ht => prAt_of hc ht) h
  refine ⟨(List.range len).map z, ⟨by simp, fun hn => ⟨b, off, h1 hn, fun i p hp => ?_⟩, hcc.1, hcc.2⟩, fun p hp => ?_⟩
  · rw [List.getElem?_map] at hp
    obtain ⟨j, hj, rfl⟩ := Option.map_eq_some_iff.1 hp
    obtain ⟨hi, hv⟩ := List.getElem?_eq_some_iff.1 hj
    simp at hi hv
    subst hv
    exact ⟨(h2 i hi).c0, (h2 i hi).c1⟩
  · obtain ⟨j, _, rfl⟩ := List.mem_map.1 hp
    exact h3 j

theorem Shp.of {w : World} {a : Option Addr} {b off len cap : Nat} {z : Nat → Int} (h : So.Nums w a b off len cap z) (hm : len ≤ maxLen) : Shp w a len cap :=
  ⟨fun i hi => ⟨b, off + i, z i, h.ix i hi, h.cell i hi, (h.ok i).1, (h.ok i).2⟩, hm⟩
theorem Shp.nil (w : World) : Shp w none 0 0 := ⟨fun i hi => by omega, Nat.zero_le _⟩
theorem Shp.keep {w w' : World} {a : Option Addr} {n cap : Nat} (h : Shp w a n cap) (k : K w w') : Shp w' a n cap := ⟨fun i hi => by
  obtain ⟨b, off, z, h1, h2, h3⟩ := h.ix i hi
  exact ⟨b, off, z, h1, k.cell h2, h3⟩, h.mx⟩
/-- No pairs. -/
theorem Prw.nil (w : World) : Prw w none 0 0 [] := ⟨⟨rfl, fun h => by omega, Nat.le_refl _, Nat.zero_le _⟩, fun p h => by cases h⟩

end Wa
end Go.Proofs.YtbbjfebdihepnaaGreatDoor

/-
  A store with a tree of any pairs.
-/
namespace Go.Proofs.YtbbjfebdihepnaaGreatDoor
open Go.RowKit Go.Maps
attribute [local go_sem ↓] Go.wp_at_zero Go.wp_at_succ
namespace Wa
open Hp (Kept K No granted)
open Hd (U64 findL)
open Nd (Nv encU)
open Go.Proofs.YtbbjfebdihepnaaGreatDoor.So (Ad sp)
variable {w0 w w' : World} {A : Ad} {a sa : Option Addr} {n cap sn sc : Nat} {l : List Pr}

theorem sorted_all (l : List Pr) : upP (sortedP l) := by
  have := sorted_up l l.length
  rwa [List.take_length] at this
theorem sorted_allS {l : List Pr} (h : shortL l) : shortL (sortedP l) := by
  have := sorted_short h l.length
  rwa [List.take_length] at this

/-- What made leaves: the tree, and the row that it is of. -/
def MdT (w0 w' : World) (A : Ad) (l : List Pr) (root : Int) (a : Option Addr) (n cap : Nat) (N : Nat) : Prop :=
  (∃ T W t, Tv w0 w' A 180 T W t (sortedP l) ∧ t.root = root ∧ Bb.op T = 3 * (sortedP l).length) ∧ Srt w' a n cap (sortedP l) ∧ n ≤ N

set_option maxRecDepth 100000 in
set_option maxHeartbeats 4000000 in
theorem made_any (hT : Bt.Tab w) (h : Srp w a n cap l) (hs : shortL l) (hn : n ≤ 60) (sh : Shp w sa sn sc) :
    Calls Tryz.prog 11 #[.slice a n cap, .slice sa sn sc] w fun e w' => ∃ A root a' n' cap', e = .returned (.tuple #[sp A.st, .int .u64 root, .slice a' n' cap', .bool true]) ∧ Aside (MdT w w' A l root a' n' cap' n) := by
  have cn := So.Rn.new 262144 1000 4294967295 w hT (by decide) (by decide) (by decide) (by decide) (by decide) (by decide)
  have H : Aside _ := h
  have HS : Aside (shortL l) := hs
  have SH : Aside _ := sh
  clear h hs sh hT
  go_enter Tryz.func11, Tryz.ntmps11
  go_wp2_with fail
  refine cn.mono ?_
  rintro e w1 ⟨A, v, rfl, HA, k1⟩
  have GS : Aside (Gs w w1 A 0 [] (fun _ => 0)) := ⟨[], [], v, HA.out.1, by simp, by simp [granted], HA.out.2.1, HA.out.2.2.1⟩
  have cs := rsorted_any (H.out.keep k1) HS.out (by omega)
  clear cn HA k1
  go_wp2_with fail
  refine cs.mono ?_
  rintro e w2 ⟨a2, n2, c2, rfl, h2, k2⟩
  have HN : Aside _ := h2.out.2
  have hn2 : n2 ≤ 60 := by have := h2.out.2; omega
  have cg := grow_any (SH.out) n2 w2 0 [] (fun _ => 0) a2 n2 c2 (sortedP l) 0 (Nat.le_refl _) (GS.out.keep k2) (by omega) h2.out.1 (sorted_allS HS.out) (by omega)
  have H2 : Aside _ := h2.out.1
  clear cs h2 k2 hn2
  go_wp2_with fail
  refine cg.mono ?_
  rintro e w3 ⟨root, rfl, h3⟩
  have FIN : Aside (MdT w w3 A l root a2 n2 c2 n) := by
    obtain ⟨fr, t, T, W, gs, le, rt, ur, lay, pr, nd, _, ho⟩ := h3.out
    have hl := H2.out.p.len
    have hn2 := HN.out
    refine ⟨⟨T, W, t, ⟨gs.mono (by omega), right_of lay nd pr (sorted_all l), by rw [rt]; exact ur, pr⟩, rt, by rw [ho]; simp [Bb.op]⟩, H2.out.fr fr, HN.out⟩
  clear cg h3
  go_wp2_with fail
  refine bodyPost_ret (v := .tuple #[sp A.st, .int .u64 root, .slice a2 n2 c2, .bool true]) (by simp [results, Tryz.results11, go_sem]; try rfl) rfl ?_
  exact ⟨A, root, a2, n2, c2, rfl, FIN⟩

end Wa
end Go.Proofs.YtbbjfebdihepnaaGreatDoor

/-
  All that a right tree in a store made since answers, told of its pairs and its nodes' names alone.
-/
namespace Go.Proofs.YtbbjfebdihepnaaGreatDoor
open Go.RowKit Go.Maps
namespace Wa
open Hp (Kept K No)
open Hd (U64 findL)
open Nd (Nv encU)
open Go.Proofs.YtbbjfebdihepnaaGreatDoor.So (Ad sp)
variable {w0 w w' : World} {A : Ad} {W : Int → Int} {T : List Hd.Sl} {c : Nat} {t : Tr} {P : List Pr} {root : Int} {hd : Nat → Int}

def hdO (hd : Nat → Int) (k : Int) : Int := if k < 0 then 0 else hd k.toNat
structure Ans (w : World) (A : Ad) (root : Int) (P : List Pr) (hd : Nat → Int) : Prop where
  u : U64 root
  ne : ∀ i, i < P.length → hd i ≠ 0 ∧ U64 (hd i)
  check : ∀ V, K w V → Calls Tryz.prog 12 #[sp A.st, .int .u64 root] V fun e w' => e = .returned (.int .i64 0) ∧ K V w'
  size : ∀ V, K w V → Calls Tryz.prog 13 #[sp A.st, .int .u64 root] V fun e w' => e = .returned (.int .i64 (P.length : Int)) ∧ K V w'
  rank : ∀ V, K w V → ∀ key, Calls Tryz.prog 16 #[sp A.st, .int .u64 root, .string key] V fun e w' => e = .returned (.int .i64 (rankP P key : Int)) ∧ K V w'
  find : ∀ V, K w V → ∀ key, Calls Tryz.prog 14 #[sp A.st, .int .u64 root, .string key] V fun e w' => e = .returned (.tuple #[.int .u64 (hdO hd (findP P key)), .bool (decide (0 ≤ findP P key))]) ∧ K V w'
  att : ∀ V, K w V → ∀ i : Nat, i < P.length → Calls Tryz.prog 19 #[sp A.st, .int .u64 root, .int .i64 (i : Int)] V fun e w' => e = .returned (.tuple #[.int .u64 (hd i), .int .i64 0]) ∧ K V w'
  atno : ∀ V, K w V → ∀ k : Int, k < 0 ∨ (P.length : Int) ≤ k → Calls Tryz.prog 19 #[sp A.st, .int .u64 root, .int .i64 k] V fun e w' => e = .returned (.tuple #[.int .u64 0, .int .i64 2]) ∧ K V w'
  pair : ∀ V, K w V → ∀ (i : Nat) q, P[i]? = some q → Calls Tryz.prog 18 #[sp A.st, .int .u64 (hd i)] V fun e w' => e = .returned (.tuple #[prV q.k q.x, .int .i64 0]) ∧ K V w'
  list : ∀ V, K w V → Calls Tryz.prog 20 #[sp A.st, .int .u64 root] V fun e w' => ∃ v, e = .returned v ∧ w'.ownsRow V.heap.size 28 1 v P.length ((List.range P.length).map fun i => encU (hd i)) ∧ K V w'
theorem Ans.keep (h : Ans w A root P hd) (k : K w w') : Ans w' A root P hd :=
  ⟨h.u, h.ne, fun V q => h.check V (k.trans q), fun V q => h.size V (k.trans q), fun V q => h.rank V (k.trans q), fun V q => h.find V (k.trans q), fun V q => h.att V (k.trans q), fun V q => h.atno V (k.trans q), fun V q => h.pair V (k.trans q), fun V q => h.list V (k.trans q)⟩

theorem find_cases (P : List Pr) (key : ByteArray) : (∃ q, P[rankP P key]? = some q ∧ q.k = key ∧ findP P key = (rankP P key : Int)) ∨ ((∀ q, P[rankP P key]? = some q → q.k ≠ key) ∧ findP P key = -1) := by
  unfold findP
  cases h : P[rankP P key]? with
  | none => exact .inr ⟨fun q hq => (by cases hq), rfl⟩
  | some q =>
    by_cases e : q.k = key
    · exact .inl ⟨q, rfl, e, by simp [e]⟩
    · exact .inr ⟨fun q' hq' => by rw [← Option.some.inj hq']; exact e, by simp [e]⟩
def hdI (l : List It) (i : Nat) : Int := match l[i]? with
  | some j => j.h
  | none => 0
theorem hdI_at {l : List It} {i : Nat} {j : It} (h : l[i]? = some j) : hdI l i = j.h := by simp [hdI, h]
theorem Tv.ans (h : Tv w0 w A c T W t P) (hu : upP P) : Ans w A t.root P (hdI t.items) := by
  have get : ∀ i, i < P.length → ∃ j, t.items[i]? = some j ∧ j ∈ t.items := fun i hi => ⟨_, List.getElem?_eq_getElem (by rw [h.len]; exact hi), List.getElem_mem _⟩
  refine ⟨h.u, fun i hi => ?_, fun V k => (h.keep k).check, fun V k => (h.keep k).size, fun V k key => (h.keep k).rank key, fun V k key => ?_, fun V k i hi => ?_, fun V k i hi => (h.keep k).atno hi, fun V k i q hq => ?_, fun V k => ?_⟩
  · obtain ⟨j, hj, hm⟩ := get i hi
    rw [hdI_at hj]
    exact ⟨(h.item hm).1, (h.item hm).2.1⟩
  · have cf := (h.keep k).find key
    rcases find_cases P key with ⟨q, hq, hk, e⟩ | ⟨hn, e⟩
    · obtain ⟨i, hi, ef, _⟩ := find_yes h hu hq hk
      have hne := (h.item (List.mem_of_getElem? hi)).1
      have e1 : hdO (hdI t.items) (findP P key) = i.h := by
        rw [e]
        unfold hdO
        rw [if_neg (by omega), Int.toNat_natCast, hdI_at hi]
      rw [e1, decide_eq_true (by rw [e]; omega)]
      rw [ef, show (i.h != 0) = true by simpa using hne] at cf
      exact cf
    · have ef := find_no h hu hn
      rw [e, show hdO (hdI t.items) (-1) = 0 from rfl, show decide ((0 : Int) ≤ -1) = false from rfl]
      rw [ef] at cf
      exact cf
  · obtain ⟨j, hj, hm⟩ := get i hi
    rw [hdI_at hj]
    exact (h.keep k).at hj
  · have hq' : (prOf t.items)[i]? = some q := by rw [h.pr]; exact hq
    obtain ⟨j, hj, rfl⟩ := pr_at hq'
    rw [hdI_at hj]
    exact ((h.keep k).item (List.mem_of_getElem? hj)).2.2
  · refine (h.keep k).list.mono ?_
    rintro e w1 ⟨v, rfl, hrow, k1⟩
    refine ⟨v, rfl, ?_, k1⟩
    have e : (t.items.map It.h).map encU = (List.range P.length).map fun i => encU (hdI t.items i) := by
      rw [← h.len]
      apply List.ext_getElem?
      intro i
      by_cases hi : i < t.items.length
      · rw [List.getElem?_map, List.getElem?_map, List.getElem?_map, List.getElem?_range hi, List.getElem?_eq_getElem hi]
        simp [hdI_at (List.getElem?_eq_getElem hi)]
      · rw [List.getElem?_eq_none (by simp; omega), List.getElem?_eq_none (by simp; omega)]
    rw [e] at hrow
    exact hrow

/-- What made leaves, told so. -/
def MdA (w w' : World) (l : List Pr) (N : Nat) (A : Ad) (root : Int) (hd : Nat → Int) (a : Option Addr) (n cap : Nat) : Prop := K w w' ∧ Ans w' A root (sortedP l) hd ∧ Srp w' a n cap (sortedP l) ∧ upP (sortedP l) ∧ shortL (sortedP l) ∧ n ≤ N
variable {a sa : Option Addr} {n cap sn sc : Nat} {l : List Pr}
theorem made_ans (hT : Bt.Tab w) (h : Srp w a n cap l) (hs : shortL l) (hn : n ≤ 60) (sh : Shp w sa sn sc) :
    Calls Tryz.prog 11 #[.slice a n cap, .slice sa sn sc] w fun e w' => ∃ A root hd a' n' cap', e = .returned (.tuple #[sp A.st, .int .u64 root, .slice a' n' cap', .bool true]) ∧ Aside (MdA w w' l n A root hd a' n' cap') := by
  refine (made_any hT h hs hn sh).mono ?_
  rintro e w1 ⟨A, root, a', n', cap', rfl, hm⟩
  obtain ⟨⟨T, W, t, tv, rfl, _⟩, sr, hn'⟩ := hm.out
  exact ⟨A, _, _, a', n', cap', rfl, tv.k, tv.ans (sorted_all l), sr.p, sorted_all l, sorted_allS hs, hn'⟩

end Wa
end Go.Proofs.YtbbjfebdihepnaaGreatDoor

/-
  The document's answers that each statement asks for.
-/
namespace Go.Proofs.YtbbjfebdihepnaaGreatDoor
open Go.RowKit Go.Maps
attribute [local go_sem ↓] Go.wp_at_zero Go.wp_at_succ
namespace Wa
open Hp (Kept K No)
open Hd (U64 findL)
open Nd (Nv encU)
open Go.Proofs.YtbbjfebdihepnaaGreatDoor.So (Ad sp)

def l0 : List Pr := [⟨⟨#[97]⟩, ⟨#[]⟩⟩, ⟨⟨#[98]⟩, ⟨#[]⟩⟩, ⟨⟨#[99]⟩, ⟨#[120]⟩⟩]
theorem l0_sorted : sortedP l0 = l0 := by kernel_rfl
theorem l0_short : shortL l0 := by
  intro p hp
  simp only [l0, List.mem_cons, List.not_mem_nil, or_false] at hp
  rcases hp with rfl | rfl | rfl <;> exact ⟨by decide, by decide⟩
theorem l0_c : findP l0 ⟨#[99]⟩ = 2 := by kernel_rfl
theorem l0_bb : rankP l0 ⟨#[98, 98]⟩ = 2 := by kernel_rfl

set_option maxRecDepth 100000 in
set_option maxHeartbeats 2000000 in
theorem awake_any (w : World) (hT : Bt.Tab w) : Calls Tryz.prog 10 #[] w fun e w' => e = .returned (.bool true) ∧ K w w' := by
  obtain ⟨v, hv⟩ : ∃ v, v = w.alloc (.cells #[.string ⟨#[97]⟩, .string ⟨#[]⟩, .string ⟨#[98]⟩, .string ⟨#[]⟩, .string ⟨#[99]⟩, .string ⟨#[120]⟩] 39) := ⟨_, rfl⟩
  have kv : K w v := by rw [hv]; exact (K.refl w).alloc _
  have hs : Srp v (some ⟨w.heap.size, 0, none⟩) 3 3 l0 := by
    have hb : v.heap[w.heap.size]? = some (.cells #[.string ⟨#[97]⟩, .string ⟨#[]⟩, .string ⟨#[98]⟩, .string ⟨#[]⟩, .string ⟨#[99]⟩, .string ⟨#[120]⟩] 39) := by rw [hv]; exact World.alloc_heap_new _ _
    refine ⟨rfl, fun _ => ⟨_, 0, rfl, fun i p hp => ?_⟩, Nat.le_refl _, by decide⟩
    match i, hp with
    | 0, hp => cases hp; exact ⟨by simp [World.cell?, hb], by simp [World.cell?, hb]⟩
    | 1, hp => cases hp; exact ⟨by simp [World.cell?, hb], by simp [World.cell?, hb]⟩
    | 2, hp => cases hp; exact ⟨by simp [World.cell?, hb], by simp [World.cell?, hb]⟩
  have cm := made_ans (hT.keep ⟨kv.below⟩) hs l0_short (by decide) (Shp.nil v)
  have KV : Aside (K w v) := kv
  rw [hv] at KV
  rw [hv] at cm
  clear hs kv hT hv
  go_enter Tryz.func10, Tryz.ntmps10
  go_wp2_with fail
  refine cm.mono ?_
  rintro e w1 ⟨A, root, hd, a1, n1, c1, rfl, hm⟩
  obtain ⟨k1, an, _, up, _, _⟩ := hm.out
  rw [l0_sorted] at an
  have cf := an.find w1 (K.refl w1) ⟨#[99]⟩
  rw [l0_c, show hdO hd 2 = hd 2 from rfl, show decide ((0 : Int) ≤ 2) = true from rfl] at cf
  have AN : Aside _ := an
  have K1 : Aside (K w w1) := KV.out.trans k1
  clear cm hm k1 an up KV
  go_wp2_with fail
  refine cf.mono ?_
  rintro e w2 ⟨rfl, k2⟩
  have cp := AN.out.pair w2 k2 2 ⟨⟨#[99]⟩, ⟨#[120]⟩⟩ rfl
  have K2 : Aside (K w1 w2) := k2
  clear cf k2
  go_wp2_with fail
  refine cp.mono ?_
  rintro e w3 ⟨rfl, k3⟩
  have K3 : Aside (K w1 (w3.alloc (.cells #[.string ⟨#[99]⟩, .string ⟨#[120]⟩] 39))) := (K2.out.trans k3).alloc _
  have cn := AN.out.atno _ K3.out 3 (.inr (by decide))
  have hb3 : (w3.alloc (.cells #[.string ⟨#[99]⟩, .string ⟨#[120]⟩] 39)).heap[w3.heap.size]? = some (.cells #[.string ⟨#[99]⟩, .string ⟨#[120]⟩] 39) := World.alloc_heap_new _ _
  have HB3 : Aside _ := hb3
  clear cp k3 K2 hb3
  go_wp2_with fail
  refine cn.mono ?_
  rintro e w4 ⟨rfl, k4⟩
  have K4 : Aside (K w1 w4) := K3.out.trans k4
  have hb4 := k4.block HB3.out
  have cs := AN.out.size w4 K4.out
  rw [show (l0.length : Int) = 3 from rfl] at cs
  have HB4 : Aside _ := hb4
  clear cn k4 K3 HB3 hb4
  go_wp2_with fail
  refine cs.mono ?_
  rintro e w5 ⟨rfl, k5⟩
  have K5 : Aside (K w1 w5) := K4.out.trans k5
  obtain ⟨d0, d1⟩ := two (k5.block HB4.out)
  have cr := AN.out.rank w5 K5.out ⟨#[98, 98]⟩
  rw [l0_bb] at cr
  clear cs k5 K4 HB4
  go_wp2_with fail
  refine cr.mono ?_
  rintro e w6 ⟨rfl, k6⟩
  have K6 : Aside (K w1 w6) := K5.out.trans k6
  have cc := AN.out.check w6 K6.out
  clear cr k6 K5
  go_wp2_with fail
  refine cc.mono ?_
  rintro e w7 ⟨rfl, k7⟩
  have K7 : Aside (K w w7) := K1.out.trans (K6.out.trans k7)
  clear cc k7 K6 K1
  go_wp2_with fail
  go_ret
  exact ⟨rfl, K7.out⟩

end Wa
end Go.Proofs.YtbbjfebdihepnaaGreatDoor
