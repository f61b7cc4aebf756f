/-
  The iterator that tells nodes in order: its contract.
-/
import Derived.Test.YtbbjfebdihepnaaGreatDoorWA
import Derived.Test.YtbbjfebdihepnaaGreatDoorWB
import Derived.Test.YtbbjfebdihepnaaGreatDoorLA
import Derived.Sort.LoopGhostIn
import Derived.WalkSmall
import Derived.Test.YtbbjfebdihepnaaGreatDoorK1
namespace Go.Proofs.YtbbjfebdihepnaaGreatDoor
open Go.RowKit Go.Maps
attribute [local go_sem] Oper.semAt_some
namespace Wa
open Hp (Kept K No Pg Grows)
open Hd (U64)
open Nd (Nv nv0 encU six)
open Co (Off)
open Go.Proofs.YtbbjfebdihepnaaGreatDoor.So (Ad Sw sp)
variable {w w' : World} {B : Nat} {A : Ad}

/-- Where the iterator stands: what comes, what is left to be done, what was met; what the store tells. -/
structure Sg where
  h : Int
  st : List (Int × Nv)
  m : List Int
  g : Vw
def iWay (mb : Nat) : Way Sg where
  Due := fun s enc => (s.h = 0 ∧ ∃ p st, s.st = p :: st ∧ enc = #[pv p.1 p.2, .int .i64 0]) ∨ (s.h ≠ 0 ∧ (s.g.nd s.h = none ∨ s.h ∈ s.m) ∧ enc = #[pv 0 nv0, .int .i64 8])
  After := fun s s' => s.h = 0 ∧ ∃ p st, s.st = p :: st ∧ s'.h = p.2.d ∧ s'.st = st ∧ s.m.length ≤ s'.m.length
  Mark := fun s A s' B => s.h ≠ 0 ∧ ∃ n, s.g.nd s.h = some n ∧ s.h ∉ s.m ∧ s' = ⟨n.c, (s.h, n) :: s.st, s.h :: s.m, s.g⟩ ∧ Kept (fun k => k = mb) A B ∧ Mp B mb (s.h :: s.m)
  End := fun s => s.h = 0 ∧ s.st = []
/-- What a store's Get tells. -/
def Gets (V : World) (pp : Option Addr) (g : Vw) : Prop := ∀ x, U64 x → (∀ n, g.nd x = some n → Calls Tryz.prog 26 #[.pointer pp, .int .u64 x] V fun e w' => e = .returned (.tuple #[n.v, .int .i64 0]) ∧ K V w') ∧ (g.nd x = none → ∃ er, (er != 0) = true ∧ Calls Tryz.prog 26 #[.pointer pp, .int .u64 x] V fun e w' => e = .returned (.tuple #[nv0.v, .int .i64 er]) ∧ K V w')
theorem gets_of {pg : List (Int × Nat)} {W : Int → Int} {L : List Pg} {v : Value} {T : List Hd.Sl} {V : World} (h : Sw V B A pg W L v T) : Gets V (some ⟨A.st, 0, none⟩) (vw T W) :=
  fun _ hx => ⟨fun _ hn => get_some h hn, fun hn => get_none h hx hn⟩
/-- What it reads. -/
structure Rdg (pp : Option Addr) (hs0 : List Int) (root : Int) (b1 b2 b3 mb : Nat) (s : Sg) (M : Nat → Prop) (V : World) : Prop where
  sw : Gets V pp s.g
  c1 : V.cell? ⟨b1, 0, none⟩ = some (encU root)
  c2 : V.cell? ⟨b2, 0, none⟩ = some (.pointer pp)
  c3 : V.cell? ⟨b3, 0, none⟩ = some (.map (some mb))
  mp : Mp V mb s.m
  sub : ∀ x ∈ s.m, x ∈ hs0
  dom : ∀ x n, s.g.nd x = some n → x ∈ hs0
  few : hs0.length ≤ 65536
  high : s.st.length ≤ s.m.length
  hu : U64 s.h
  su : ∀ p ∈ s.st, U64 p.1 ∧ p.2.Ok
  lt : ∀ k, M k → k < V.heap.size

/-- The row of what is left: the last one on top. -/
def plVals : List (Int × Nv) → List Value
  | [] => []
  | p :: st => plVals st ++ (pcs p.1 p.2).toList
theorem plVals_len : ∀ st, (plVals st).length = st.length * 7
  | [] => rfl
  | p :: st => by
    simp only [plVals, List.length_append, plVals_len st, List.length_cons, pcs]
    simp
    omega
structure RowP (N : Nat) (v : Value) (st : List (Int × Nv)) (M : Nat → Prop) (V : World) : Prop where
  own : V.ownsRow N 71 7 v st.length (plVals st)
  off : ∀ b, some b = v.ownBlock → ¬ M b
theorem RowP.nil (N : Nat) (M : Nat → Prop) (V : World) : RowP N (.slice none 0 0) [] M V := ⟨World.ownsRow_nil _ _ _ _, fun b h => by cases h⟩
theorem RowP.kept {N : Nat} {v : Value} {st : List (Int × Nv)} {M O : Nat → Prop} {V V' : World} (h : RowP N v st M V) (k : Kept O V V') (hO : ∀ b, some b = v.ownBlock → ¬ O b) : RowP N v st M V' := ⟨Hd.ownsRow_kept h.own k hO, h.off⟩
theorem RowP.lt {N : Nat} {v : Value} {st : List (Int × Nv)} {M : Nat → Prop} {V : World} (h : RowP N v st M V) {b : Nat} (hb : some b = v.ownBlock) : N ≤ b ∧ b < V.heap.size := Hd.own_lt h.own hb

theorem info_place : ∃ i0, Tryz.prog.info? 71 = some i0 ∧ i0.size = 7 ∧ i0.bytes = 56 ∧ ∃ z, i0.zero = some z ∧ z.cells.size = 7 := by
  have hi : (Tryz.prog.info? 71).map (fun i => (i.zero.map (fun z => z.cells.size), i.size, i.bytes)) = some (some 7, 7, 56) := by kernel_rfl
  cases h : Tryz.prog.info? 71 with
  | none => rw [h] at hi; cases hi
  | some i =>
    rw [h] at hi
    simp only [Option.map_some, Option.some.injEq, Prod.mk.injEq] at hi
    obtain ⟨h1, h2, h3⟩ := hi
    obtain ⟨z, hz1, hz2⟩ := Option.map_eq_some_iff.1 h1
    exact ⟨i, rfl, h2, h3, z, hz1, hz2⟩
theorem run_ixP (g n cap i : Nat) (hi : i < n) (w' : World) : (Instr.indexAt 107 (.slice (some ⟨g, 0, none⟩) n cap) (.int .i64 (i : Int))).run Tryz.prog w' = .ok (.pointer (some ⟨g, i * 7, none⟩)) w' := by
  have := So.run_ixg (t := 107) (e := 71) (m := 7) (by kernel_rfl) (by kernel_rfl) (fun w => by kernel_rfl) g 0 n cap i hi w'
  rwa [Nat.zero_add] at this

/-- The last one of the row. -/
theorem RowP.top {N : Nat} {a : Option Addr} {cap : Nat} {p : Int × Nv} {st : List (Int × Nv)} {M : Nat → Prop} {V : World} (h : RowP N (.slice a (st.length + 1) cap) (p :: st) M V) :
    ∃ g, a = some ⟨g, 0, none⟩ ∧ st.length + 1 ≤ cap ∧ cap ≤ maxLen ∧ N ≤ g ∧ g < V.heap.size ∧ ¬ M g ∧ (V.cell? ⟨g, st.length * 7, none⟩ = some (encU p.1) ∧ V.cell? ⟨g, st.length * 7 + 1, none⟩ = some (encU p.2.a) ∧ V.cell? ⟨g, st.length * 7 + 2, none⟩ = some (encU p.2.b) ∧ V.cell? ⟨g, st.length * 7 + 3, none⟩ = some (encU p.2.c) ∧ V.cell? ⟨g, st.length * 7 + 4, none⟩ = some (encU p.2.d) ∧ V.cell? ⟨g, st.length * 7 + 5, none⟩ = some (encU p.2.e) ∧ V.cell? ⟨g, st.length * 7 + 6, none⟩ = some (encU p.2.f)) ∧
    RowP N (.slice (some ⟨g, 0, none⟩) st.length cap) st M V := by
  have hlt := fun {b : Nat} (hb : some b = (Value.slice a (st.length + 1) cap).ownBlock) => h.lt hb
  have hoff := h.off
  have own := h.own
  obtain ⟨h1, h2⟩ := h.own
  rcases h2 with ⟨e, _⟩ | ⟨g, cap', cur, e, hg, hb, hn, hc, hs, ht⟩
  · cases e
  · cases e
    have hl := plVals_len st
    have hat : ∀ j u, (pcs p.1 p.2).toList[j]? = some u → V.cell? ⟨g, st.length * 7 + j, none⟩ = some u := fun j u hu => by
      have hj : j < 7 := by simpa [pcs] using (List.getElem?_eq_some_iff.1 hu).1
      simp only [World.cell?, hb]
      rw [if_neg (by simp), ← Array.getElem?_toList]
      have e : (cur.toList.take ((p :: st).length * 7))[st.length * 7 + j]? = some u := by
        rw [ht]
        simp only [plVals]
        rw [List.getElem?_append_right (by omega), hl, Nat.add_sub_cancel_left]
        exact hu
      rwa [List.getElem?_take, if_pos (by simp only [List.length_cons]; omega)] at e
    refine ⟨g, rfl, hn, hc, hg, (hlt rfl).2, hoff g rfl, ⟨by simpa using hat 0 _ rfl, hat 1 _ rfl, hat 2 _ rfl, hat 3 _ rfl, hat 4 _ rfl, hat 5 _ rfl, hat 6 _ rfl⟩, ?_, fun b hb => hoff b hb⟩
    exact ownsRow_pop hl own

set_option maxRecDepth 100000 in
set_option maxHeartbeats 4000000 in
theorem inOrder_seq {pp : Option Addr} (hs0 : List Int) (root : Int) (b1 b2 b3 mb : Nat) (m0 : List Int) (g0 : Vw) (O : Nat → Prop) (wa : World) :
    SeqG Tryz.prog 53 #[] #[.pointer (some ⟨b1, 0, none⟩), .pointer (some ⟨b2, 0, none⟩), .pointer (some ⟨b3, 0, none⟩)] (iWay mb) ⟨root, [], m0, g0⟩ O (Rdg pp hs0 root b1 b2 b3 mb) wa := fun m r J Jx W0 k0 hr0 hOlt hJ hJm hJx hJS hY h0 => by
  have S0 := (hJS _ _ _ h0).1
  obtain c1 := S0.c1
  have HJ : Aside _ := hJ
  have HJM : Aside _ := hJm
  have HJS : Aside _ := hJS
  have HY : Aside _ := hY
  have HJX : Aside _ := hJx
  have H0 : Aside _ := h0
  have N0 : Aside (∃ n0, n0 = 2 * (65536 - m0.length) + 0) := ⟨_, rfl⟩
  obtain ⟨N, hN⟩ : ∃ N, N = W0.heap.size := ⟨_, rfl⟩
  have HMB : Aside (mb < N ∧ N = W0.heap.size) := ⟨by rw [hN]; exact S0.mp.lt, hN⟩
  clear hJ hJm hJS hY hJx h0 S0 hN
  refine callsIn_of_wp Tryz.func53 rfl trivial ?_ rfl
  simp only [Tryz.ntmps53, List.size_toArray, List.length_cons, List.length_nil, Nat.reduceAdd, Nat.reduceSub, Array.replicate_succ, Array.replicate_zero, List.push_toArray, List.append_toArray, List.nil_append, List.cons_append]
  gi_wp2
  gi_loopg [5, 6] (2 * (65536 - m0.length)) (fun gh lv hv wr => ∃ (s : Sg) (M : Nat → Prop) (a : Option Addr) (cap : Nat), gh = 2 * (65536 - s.m.length) + s.st.length ∧ hv = .int .u64 s.h ∧ lv = .slice a s.st.length cap ∧ Aside (J s M wr ∧ RowP N (.slice a s.st.length cap) s.st M wr))
  case atStart => exact ⟨_, _, none, 0, rfl, rfl, rfl, H0.out, RowP.nil _ _ _⟩
  case round =>
    obtain ⟨s, M, a, cap, hgh, rfl, rfl, HS⟩ := hrel
    clear H0 c1 N0
    obtain ⟨h, st, m, g⟩ := s
    simp only at hgh HS ⊢
    have HGH : Aside _ := hgh
    clear hgh
    have S1 : Aside _ := (HJS.out _ _ _ HS.out.1).1
    by_cases hh : h = 0
    · subst hh
      have hb : ((0 : Int) != 0) = false := rfl
      cases st with
      | nil =>
        gi_wp2
        go_end0
        exact ⟨⟨_, rfl⟩, .inl ⟨_, M, ⟨rfl, rfl⟩, HS.out.1⟩⟩
      | cons p st =>
        obtain ⟨gb, rfl, hcap, hmax, hNg, hgV, hMg, ⟨d0, d1, d2, d3, d4, d5, d6⟩, RP⟩ := RowP.top HS.out.2
        have HJ1 : Aside (J ⟨0, p :: st, m, g⟩ M wr) := HS.out.1
        have HR : Aside _ := RP
        have HO : Aside (N ≤ gb ∧ gb < wr.heap.size ∧ ¬ M gb) := ⟨hNg, hgV, hMg⟩
        obtain ⟨ph, pa, pb, pc, pd, pe, pf⟩ := p
        obtain ⟨n, hn⟩ : ∃ n, st.length = n := ⟨_, rfl⟩
        simp only [List.length_cons] at HGH ⊢
        rw [hn] at d0 d1 d2 d3 d4 d5 d6 hcap HR HGH ⊢
        have HN : Aside (st.length = n) := hn
        obtain ⟨l, hl⟩ : ∃ l, l = n + 1 := ⟨_, rfl⟩
        rw [← hl] at hcap HGH ⊢
        have HL : Aside (l = n + 1) := hl
        have hL : (l : Int) - 1 = (n : Int) := by omega
        have hl0 : decide ((0 : Int) < (l : Int)) = true := decide_eq_true (by omega)
        have hl1 : n ≤ l := by omega
        have hl3 : l ≤ 9223372036854775807 := by unfold maxLen at hmax; omega
        have ix := fun w' => run_ixP gb l cap n (by omega) w'
        clear HS RP hNg hgV hMg hn hl
        have hbx : (wr.alloc (pbx ph ⟨pa, pb, pc, pd, pe, pf⟩)).heap[wr.heap.size]? = some (pbx ph ⟨pa, pb, pc, pd, pe, pf⟩) := World.alloc_heap_new _ _
        have HB : Aside _ := hbx
        obtain ⟨fn, tmps, assign, body, hy, hR⟩ := HY.out ⟨0, (ph, ⟨pa, pb, pc, pd, pe, pf⟩) :: st, m, g⟩ _ M (wr.alloc (pbx ph ⟨pa, pb, pc, pd, pe, pf⟩)) (.inl ⟨rfl, _, _, rfl, rfl⟩) (HJ.out _ _ _ _ HJ1.out (((K.refl wr).alloc _).kept _))
        clear hbx
        gi_wp2
        refine ⟨fun h => (by cases h), hR.mono ?_⟩
        rintro e w3 (⟨rfl, s', M', haf, hJ3, k3, g3⟩ | ⟨rfl, M', hx3, k3, g3⟩)
        · obtain ⟨_, p', st', e1, e2, e3, e4⟩ := haf
          cases e1
          obtain ⟨h', st', m', g'⟩ := s'
          simp only at e2 e3 e4
          subst e3
          rw [e2] at hJ3
          clear e2
          have hnw : ¬ M wr.heap.size := fun h => by
            have := S1.out.lt _ h
            exact Nat.lt_irrefl _ this
          obtain ⟨_, _, _, _, q4, _, _⟩ := seven (k3.block HB.out hnw)
          have R3 : Aside (RowP N (.slice (some ⟨gb, 0, none⟩) n cap) st' M' w3) := by
            have r1 := HR.out.kept (((K.refl wr).alloc (pbx ph ⟨pa, pb, pc, pd, pe, pf⟩)).kept (fun _ => False)) (fun _ _ h => h)
            have r2 := r1.kept k3 r1.off
            refine ⟨r2.own, fun b hb hM => ?_⟩
            rcases g3 b hM with h1 | h1
            · exact HR.out.off b hb h1
            · have := (HR.out.lt hb).2
              simp at h1
              omega
          have J3 : Aside _ := hJ3
          have E4 : Aside (m.length ≤ m'.length) := e4
          have HG : Aside _ := HGH
          clear k3 g3 hJ3 e4 hy hR HJ1 HR HB d0 d1 d2 d3 d4 d5 d6
          gi_wp2
          gi_roundg (2 * (65536 - m'.length) + n)
          case measure => have := HG.out; have := E4.out; have := HL.out; omega
          case rel => exact ⟨⟨pd, st', m', g'⟩, M', some ⟨gb, 0, none⟩, cap, by rw [HN.out], rfl, by rw [HN.out], by rw [HN.out]; exact ⟨J3.out, R3.out⟩⟩
        · clear hy hR
          gi_wp2
          refine bodyPost_ret (results_none rfl _ _ _) rfl ?_
          exact ⟨⟨_, rfl⟩, .inr ⟨M', hx3⟩⟩
    · have hb : (h != 0) = true := by simpa using hh
      obtain ⟨n, hn⟩ : ∃ n, st.length = n := ⟨_, rfl⟩
      rw [hn] at HGH HS ⊢
      have HN : Aside (st.length = n) := hn
      clear hn
      have hu := S1.out.hu
      have c2 := S1.out.c2
      have c3 := S1.out.c3
      have sw := S1.out.sw
      simp only at hu sw
      cases hnd : g.nd h with
      | none =>
        obtain ⟨er, her, cg⟩ := (sw h hu).2 hnd
        have ND : Aside (g.nd h = none ∧ h ≠ 0) := ⟨hnd, hh⟩
        clear sw hnd hu hh
        gi_wp2
        refine ⟨trivial, fun h => (by cases h), (callsIn_wide.2 cg).mono ?_⟩
        rintro e w1 ⟨rfl, k1⟩
        obtain ⟨fn, tmps, assign, body, hy, hR⟩ := HY.out ⟨h, st, m, g⟩ #[.agg #[.int .u64 0, .int .u64 0, .int .u64 0, .int .u64 0, .int .u64 0, .int .u64 0, .int .u64 0], .int .i64 8] M (w1.alloc (.cells #[encU nv0.a, encU nv0.b, encU nv0.c, encU nv0.d, encU nv0.e, encU nv0.f] 54)) (.inr ⟨ND.out.2, .inl ND.out.1, rfl⟩) (HJ.out _ _ _ _ HS.out.1 ((k1.alloc _).kept _))
        clear cg k1
        gi_wp2
        refine ⟨trivial, ?_⟩
        gi_wp2
        refine ⟨fun h => (by cases h), hR.mono ?_⟩
        rintro e w3 (⟨rfl, s', M', haf, _⟩ | ⟨rfl, M', hx3, k3, g3⟩)
        · exact absurd haf.1 ND.out.2
        · clear hy hR
          gi_wp2
          refine bodyPost_ret (results_none rfl _ _ _) rfl ?_
          exact ⟨⟨_, rfl⟩, .inr ⟨M', hx3⟩⟩
      | some nv =>
        have cg := (sw h hu).1 nv hnd
        have ND : Aside (g.nd h = some nv ∧ h ≠ 0 ∧ U64 h) := ⟨hnd, hh, hu⟩
        obtain ⟨na, nb, nc, nd, ne, nf⟩ := nv
        clear sw hnd hu hh
        gi_wp2
        refine ⟨trivial, fun h => (by cases h), (callsIn_wide.2 cg).mono ?_⟩
        rintro e w1 ⟨rfl, k1⟩
        have hJ2 := HJ.out _ _ _ _ HS.out.1 ((k1.alloc (.cells #[encU na, encU nb, encU nc, encU nd, encU ne, encU nf] 54)).kept _)
        have R2 : Aside _ := HS.out.2.kept ((k1.alloc (.cells #[encU na, encU nb, encU nc, encU nd, encU ne, encU nf] 54)).kept (fun _ => False)) (fun _ _ h => h)
        have S2 : Aside _ := (HJS.out _ _ _ hJ2).1
        have J2 : Aside _ := hJ2
        have HBX : Aside ((w1.alloc (.cells #[encU na, encU nb, encU nc, encU nd, encU ne, encU nf] 54)).heap[w1.heap.size]? = some (.cells #[encU na, encU nb, encU nc, encU nd, encU ne, encU nf] 54)) := World.alloc_heap_new _ _
        have hk1 := k1.size
        have c3 := S2.out.c3
        by_cases hm : h ∈ m
        · have ca := add_old S2.out.mp ND.out.2.2 hm
          have HM : Aside (h ∈ m) := hm
          clear cg k1 hJ2 hm
          gi_wp2
          refine ⟨trivial, fun h => (by cases h), (callsIn_wide.2 ca).mono ?_⟩
          rintro e w2 ⟨rfl, k2⟩
          obtain ⟨fn, tmps, assign, body, hy, hR⟩ := HY.out ⟨h, st, m, g⟩ #[.agg #[.int .u64 0, .int .u64 0, .int .u64 0, .int .u64 0, .int .u64 0, .int .u64 0, .int .u64 0], .int .i64 8] M w2 (.inr ⟨ND.out.2.1, .inr HM.out, rfl⟩) (HJ.out _ _ _ _ J2.out (k2.kept _))
          clear ca k2
          gi_wp2
          refine ⟨fun h => (by cases h), hR.mono ?_⟩
          rintro e w3 (⟨rfl, s', M', haf, _⟩ | ⟨rfl, M', hx3, k3, g3⟩)
          · exact absurd haf.1 ND.out.2.1
          · clear hy hR
            gi_wp2
            refine bodyPost_ret (results_none rfl _ _ _) rfl ?_
            exact ⟨⟨_, rfl⟩, .inr ⟨M', hx3⟩⟩
        · have hml : m.length ≤ 65536 := Nat.le_trans (nodup_len S2.out.mp.nd S2.out.sub) S2.out.few
          have ca := add_new S2.out.mp ND.out.2.2 hm (by simp only; omega)
          have HM : Aside (h ∉ m) := hm
          clear cg k1 hJ2 hm hml
          gi_wp2
          refine ⟨trivial, fun h => (by cases h), (callsIn_wide.2 ca).mono ?_⟩
          rintro e w2 ⟨rfl, h2⟩
          have hJ3 := HJM.out _ _ _ ⟨nc, (h, ⟨na, nb, nc, nd, ne, nf⟩) :: st, h :: m, g⟩ w2 J2.out ⟨ND.out.2.1, _, ND.out.1, HM.out, rfl, h2.out.2, h2.out.1⟩
          have S3 : Aside _ := (HJS.out _ _ _ hJ3).1
          have J3 : Aside _ := hJ3
          have hNs : N ≤ wr.heap.size := by rw [HMB.out.2]; exact (HJS.out _ _ _ HS.out.1).2
          have hszV : w1.heap.size + 1 ≤ w2.heap.size := by
            have := h2.out.2.size
            simpa using this
          have R3 : Aside (RowP N (.slice a n cap) st M w2) := R2.out.kept h2.out.2 (fun b hb e => by
            have e : b = mb := e
            have := (R2.out.lt hb).1
            have := HMB.out.1
            omega)
          have hbx3 := h2.out.2.block HBX.out (show ¬ w1.heap.size = mb by have := HMB.out.1; omega)
          have HB3 : Aside _ := hbx3
          obtain ⟨d0, d1, d2, d3, d4, d5⟩ := six hbx3
          have hlen3 : n ≤ 65536 := by
            have h1 := S2.out.high
            have h2 := Nat.le_trans (nodup_len S2.out.mp.nd S2.out.sub) S2.out.few
            simp only at h1 h2
            have := HN.out
            omega
          obtain ⟨ip, hip, hs7, hb56, zp, hzp, hz7⟩ := info_place
          have HU : Aside (Tryz.prog.info? 71 = some ip ∧ ip.zero = some zp ∧ ip.size = 7 ∧ ip.bytes = 56 ∧ zp.cells.size = 7) := ⟨hip, hzp, hs7, hb56, hz7⟩
          have FIN : Aside (∀ (v' : Value) (W6 : World), W6.ownsRow N 71 7 v' (n + 1) (plVals st ++ [encU h, encU na, encU nb, encU nc, encU nd, encU ne, encU nf]) → (w2.alloc (.cells #[encU h, encU na, encU nb, encU nc, encU nd, encU ne, encU nf] 71)).grownBy W6 (Value.slice a n cap).ownBlock → (v'.ownBlock = (Value.slice a n cap).ownBlock ∨ v'.ownBlock = some (w2.alloc (.cells #[encU h, encU na, encU nb, encU nc, encU nd, encU ne, encU nf] 71)).heap.size) →
              J ⟨nc, (h, ⟨na, nb, nc, nd, ne, nf⟩) :: st, h :: m, g⟩ M W6 ∧ RowP N v' ((h, ⟨na, nb, nc, nd, ne, nf⟩) :: st) M W6 ∧ W6.cell? ⟨w1.heap.size, 2, none⟩ = some (encU nc)) := fun v' W6 hown hgrow hat => by
            have hgs := hgrow.size
            simp only [World.size_alloc] at hgs
            have kk : Kept (Off W0.heap.size M) w2 W6 := ⟨hgrow.os, hgrow.tape, hgrow.output, by omega, fun j hj hn => by
              have hne : some j ≠ (Value.slice a n cap).ownBlock := fun e => hn ⟨by rw [← HMB.out.2]; exact (R3.out.lt e).1, R3.out.off j e⟩
              rw [hgrow.block j (by simp only [World.size_alloc]; omega) hne, Below.heap_alloc w2 _ j hj]⟩
            refine ⟨HJ.out _ _ _ _ J3.out kk, ⟨?_, fun b hb hM => ?_⟩, ?_⟩
            · rw [show ((h, (⟨na, nb, nc, nd, ne, nf⟩ : Nv)) :: st).length = n + 1 by simp [HN.out]]
              exact hown
            · rcases hat with e | e
              · exact R3.out.off b (by rw [← e]; exact hb) hM
              · rw [e] at hb
                have := S3.out.lt b hM
                have e2 := Option.some.inj hb
                simp only [World.size_alloc] at e2
                omega
            · have hne : some w1.heap.size ≠ (Value.slice a n cap).ownBlock := fun e => by
                have := (HS.out.2.lt e).2
                omega
              have hb6 : W6.heap[w1.heap.size]? = some (.cells #[encU na, encU nb, encU nc, encU nd, encU ne, encU nf] 54) := by
                rw [hgrow.block _ (by simp only [World.size_alloc]; omega) hne, Below.heap_alloc w2 _ _ (by omega)]
                exact HB3.out
              exact (six hb6).2.2.1
          have hNs2 : N ≤ w2.heap.size := by omega
          clear ca hip hs7 hb56 hzp hz7 hbx3 hJ3 hNs hszV h2
          gi_wp2_with (
            gi_at_builtin
            refine wpListIn_append_own_at _ rfl _ _ 107 rfl N 71 ip zp 7 56 Tryz.underlying107 HU.out.1 HU.out.2.1 HU.out.2.2.1 HU.out.2.2.2.1 HU.out.2.2.2.2 (by decide) (.slice a n cap) n (plVals st) rfl (by have := R3.out.own; rw [HN.out] at this; exact this.alloc _) ⟨w2.heap.size, 0, none⟩ 1 1 [encU h, encU na, encU nb, encU nc, encU nd, encU ne, encU nf] rfl rfl (Hd.src_one w2 #[encU h, encU na, encU nb, encU nc, encU nd, encU ne, encU nf] 71) (by simp [Value.oneCell']) (by unfold maxLen; omega) (by omega) (by simp only [World.size_alloc]; omega) ?_
            intro v' W6 hown hgrow _ hat
            obtain ⟨g6, cap6, hv6⟩ := Hd.own_form hown
            subst hv6
            obtain ⟨J6, R6, q2⟩ := FIN.out _ _ hown hgrow hat
            have J6A : Aside _ := J6
            have R6A : Aside _ := R6
            clear hown hgrow hat J6 R6 FIN)
          gi_roundg (2 * (65536 - (h :: m).length) + (n + 1))
          case measure =>
            have := HGH.out
            have := Nat.le_trans (nodup_len S3.out.mp.nd S3.out.sub) S3.out.few
            simp only [List.length_cons] at this ⊢
            omega
          case rel => exact ⟨⟨nc, (h, ⟨na, nb, nc, nd, ne, nf⟩) :: st, h :: m, g⟩, M, some ⟨g6, 0, none⟩, cap6, by simp [HN.out], rfl, by simp [HN.out], J6A.out, by simp only [List.length_cons, HN.out]; exact R6A.out⟩

end Wa
end Go.Proofs.YtbbjfebdihepnaaGreatDoor
