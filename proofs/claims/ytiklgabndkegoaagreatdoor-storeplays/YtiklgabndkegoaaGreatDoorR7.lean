/-
  Put and Get on the store, then on its reference; what All tells. No walk.
-/
import Derived.Test.YtiklgabndkegoaaGreatDoorR6
import Derived.Test.YtiklgabndkegoaaGreatDoorH7
import Derived.Test.YtiklgabndkegoaaGreatDoorE7
import Derived.Test.YtiklgabndkegoaaGreatDoorU1
import Derived.Deep.RegionHeld3
import Derived.Test.YtiklgabndkegoaaGreatDoorE2
namespace Go.Proofs.YtiklgabndkegoaaGreatDoor
open Go.RowKit Go.Maps
namespace Rs
open Hp (Pg Wl Kept K No allocL freeL slideL dropL findB Nb entsR liveL mem_liveL RowE)
open Hd (U64 findL openL closeR moveL atL cls RowR)
open Go.Proofs.YtiklgabndkegoaaGreatDoor.Bb (Ho)
open Go.Proofs.YtiklgabndkegoaaGreatDoor.So (Ad Sb Sw Stp Rn Rec sp wE gV pW lE lN)
open Go.Proofs.YtiklgabndkegoaaGreatDoor.Nd (ho_slot wdA_len)
variable {u0 : World × Nat} {w0 w w' w1 w2 : World} {br n : Nat} {A : Ad} {T R : List Hd.Sl} {W : Int → Int} {C : List Rc} {L : List Pg} {E : List Hp.Re} {q m z x : Int}

theorem wordOk_of {y : Int} (h0 : 0 ≤ y) (h1 : y ≤ 18446744073709551615) : Sl.WordOk y := by
  unfold Sl.WordOk
  have e1 : IntKind.u64.min = 0 := rfl
  have e2 : IntKind.u64.max = 18446744073709551615 := rfl
  simp only [Lit.wf, Bool.and_eq_true, decide_eq_true_eq]
  omega
theorem gtR_of {i k : Nat} {r : Rc} (hf : fdR C x = (i : Int)) (hi : C[i]? = some r) (hk : k < r.ws.length) : gtR C x (k : Int) = (r.ws.getD k 0, 0) := by
  rcases fdR_cases C x with ⟨_, h2⟩ | ⟨i', c', h1, h2, h3, _⟩
  · omega
  · obtain rfl : i' = i := by omega
    have e3 : C.getD i' ⟨0, .bool false, []⟩ = r := by rw [List.getD_eq_getElem?_getD, hi]; rfl
    unfold gtR
    rw [h1]
    simp only [e3]
    rw [if_pos ⟨by omega, by omega⟩, Int.toNat_natCast]

/-- The store's three rows, read. -/
def Vw (w : World) (m z : Int) (E : List Hp.Re) (R : List Hd.Sl) (C : List Rc) (a1 : Option Addr) (c1 : Nat) (a2 : Option Addr) (c2 : Nat) (a3 : Option Addr) (c3 : Nat) : Prop :=
  ∃ g1 g2 g3, RowE w g1 a1 c1 E ∧ RowR w g2 a2 c2 R ∧ Row w g3 a3 c3 C ∧ Hp.Eo E ∧ Hd.Wf m z (cls R) ∧ C.length ≤ 65536
theorem Vw.keep {a1 a2 a3 : Option Addr} {c1 c2 c3 : Nat} (h : Vw w m z E R C a1 c1 a2 c2 a3 c3) (k : K w w') : Vw w' m z E R C a1 c1 a2 c2 a3 c3 := by
  obtain ⟨g1, g2, g3, h1, h2, h3, h4⟩ := h
  exact ⟨g1, g2, g3, h1.keep k, h2.keep k, h3.keep k, h4⟩
theorem Sr.view (h : Sr u0 w br q m z E R C) : ∃ a1 c1 a2 c2 a3 c3, w.heap[br]? = some (.cells #[.int .i64 q, .slice a1 E.length c1, .int .i64 m, .int .u32 z, .slice a2 R.length c2, .slice a3 C.length c3] 37) ∧ Vw w m z E R C a1 c1 a2 c2 a3 c3 := by
  obtain ⟨a1, c1, v2, a3, c3, h1, h2, h3⟩ := h.ex
  obtain ⟨g3, hr, _⟩ := row_of h3 h.ws
  obtain ⟨g1, he, _⟩ := h1.form
  obtain ⟨g2, a2, c2, rfl, h2r, _⟩ := h2.src
  exact ⟨a1, c1, a2, c2, a3, c3, h1.s0, g1, g2, g3, he, h2r, hr, h.eo, h2.wf, h.few⟩

/-- The reference's Get, of the struct by value. -/
abbrev Gw (br : Nat) (x k a er : Int) (V : World) : Prop := ∃ x0 x1 x2 x3 x4 x5, V.heap[br]? = some (.cells #[x0, x1, x2, x3, x4, x5] 37) ∧ ∀ V', K V V' → Calls Tryz.prog 20 #[.agg #[x0, x1, x2, x3, x4, x5], .int .u64 x, .int .i64 k] V' fun e w' => e = .returned (.tuple #[.int .u64 a, .int .i64 er]) ∧ K V' w'

theorem Pl.get (h : Pl w0 w A br n) {x : Int} (hx : U64 x) (k : Int) :
    Calls Tryz.prog 10 #[sp A.st, .int .u64 x, .int .i64 k] w fun e w1 => ∃ a er, e = .returned (.tuple #[.int .u64 a, .int .i64 er]) ∧ K w w1 ∧ Aside (∀ V, K w1 V → Gw br x k a er V) := by
  obtain ⟨pg, W, L, v, T, E, R, C, P, hl⟩ := h
  have g := P.rl.get P.m.rn.s.r x k
  refine (So.get_any P.m.rn.s x k hx).mono ?_
  rintro e w1 ⟨rfl, k1⟩
  refine ⟨_, _, rfl, k1, fun V k2 => ?_⟩
  obtain ⟨a1, c1, a2, c2, a3, c3, hb, g1, g2, g3, _, _, hr, _⟩ := Sr.view (P.m.sr.keep (k1.trans k2))
  refine ⟨_, _, _, _, _, _, hb, fun V' k' => ?_⟩
  have := rGet_any (x0 := .int .i64 A.q) (x1 := .slice a1 E.length c1) (x2 := .int .i64 A.m) (x3 := .int .u32 A.z) (x4 := .slice a2 R.length c2) (hr.keep k') P.m.sr.few x k
  rw [g] at this
  exact this

theorem Pl.put (h : Pl w0 w A br n) (z0 : 0 < w0.heap.size) {x : Int} (hx : U64 x) (k y : Int) (hy : 0 ≤ y ∧ y ≤ 18446744073709551615) :
    Calls Tryz.prog 12 #[sp A.st, .int .u64 x, .int .i64 k, .int .u64 y] w fun e w1 => ∃ er, e = .returned (.int .i64 er) ∧ Aside (K w0 w1 ∧ Kd w w1 ∧ Nx 19 #[rp br, .int .u64 x, .int .i64 k, .int .u64 y] (.int .i64 er) w0 A br n w1) := by
  obtain ⟨pg, W, L, v, T, E, R, C, P, hl⟩ := h
  have he := P.e
  have g := P.rl.get P.m.rn.s.r x k
  refine (P.m.rn.put x k y _ hx (wordOk_of hy.1 hy.2) rfl).mono ?_
  rintro e w1 ⟨rfl, rn, st⟩
  obtain ⟨P1, kd1⟩ := P.m.store rn st
  refine ⟨_, rfl, P1.rn.k, kd1, fun V k2 => ?_⟩
  have PV := P1.keep k2
  by_cases h0 : wE T W x k = 0
  · cases hf : findL T x with
    | none => simp [wE, hf] at h0
    | some i =>
      obtain ⟨j, c, hj, hc, hfd, ho⟩ := P.rl.find_some hf
      obtain ⟨i2, s, hi, hs, so, hw⟩ := ho_slot ho
      obtain rfl := Option.some.inj (hf.symm.trans hi)
      obtain ⟨_, n0, n1, _⟩ := P.m.rn.s.r.nm i s hs so
      have ea : Hd.addrAt T i = s.a := by simp [Hd.addrAt, hs]
      have hlen : (c.ws.length : Int) = W (s.a + 1) := by rw [← hw, wdA_len]; omega
      have hk : 0 ≤ k ∧ k < W (s.a + 1) := by
        by_cases h : 0 ≤ k ∧ k < W (s.a + 1)
        · exact h
        · simp only [wE, hf, ea] at h0
          rw [if_neg h] at h0
          omega
      obtain ⟨kn, rfl⟩ : ∃ kn : Nat, k = (kn : Int) := ⟨k.toNat, by omega⟩
      have hkn : kn < c.ws.length := by omega
      rw [h0]
      refine (rPut_ok PV.sr x y hfd hj (gtR_of hfd hj hkn) hkn hy (by omega)).mono ?_
      rintro e w2 ⟨rfl, v', s2⟩
      obtain ⟨P2, kd2⟩ := PV.ref z0 s2
      subst hc
      exact ⟨rfl, kd2, _, _, _, _, _, _, _, _, ⟨P2, he, P.nb, Rl.put P.rl P.m.rn.s.r P.m.rn.s.b.wl P.m.rn.s.b.tl hj hkn y v', P.q4⟩, by simp; omega⟩
  · have hp : pW T W x k y = W := by unfold pW; rw [if_neg h0]
    rw [hp] at PV
    refine (rPut_no PV.sr x k y g h0).mono ?_
    rintro e w2 ⟨rfl, s2⟩
    obtain ⟨P2, kd2⟩ := PV.ref z0 s2
    exact ⟨rfl, kd2, _, _, _, _, _, _, _, _, ⟨P2, he, P.nb, P.rl, P.q4⟩, hl⟩

theorem filter_one {c : Rc} : ∀ {C : List Rc}, C.Pairwise (fun c d => c.h ≠ d.h) → c ∈ C → C.filter (fun d => d.h == c.h) = [c]
  | [], _, h => absurd h List.not_mem_nil
  | d :: C, hp, h => by
    have hp' := List.pairwise_cons.1 hp
    rcases List.mem_cons.1 h with rfl | h
    · rw [List.filter_cons_of_pos (by simp), List.filter_eq_nil_iff.2 (fun e he => by simpa using (hp'.1 e he).symm)]
    · rw [List.filter_cons_of_neg (by simpa using hp'.1 c h), filter_one hp'.2 h]

/-- Under the address of a block lies one record. -/
theorem Rl.live (h : Rl T W R C) (r : Rec L W T) (hl : T.length ≤ 65536) {a : Int} (ha : a ∈ liveL L) : (C.filter fun c => (atL R c.h).1 == a).map Rc.h = [W a] := by
  obtain ⟨i, s, hi, so, rfl⟩ := r.bl a (mem_liveL.1 ha)
  have li := (List.getElem?_eq_some_iff.1 hi).1
  have hf : findL T (W s.a) = some i := by rw [(r.nm i s hi so).1]; exact Hd.findL_of hi so (by omega)
  obtain ⟨c, hc, e⟩ := h.a (W s.a) (by rw [hf]; rfl)
  have key : C.filter (fun d => (atL R d.h).1 == s.a) = C.filter (fun d => d.h == c.h) := List.filter_congr fun d hd => by
    have hat : atL R d.h = atL T d.h := by rw [← Hd.atL_cls, h.t]
    have hfd := (h.r d hd).1
    cases hf2 : findL T d.h with
    | none => rw [hf2] at hfd; cases hfd
    | some i2 =>
      obtain ⟨s2, hs2, so2, e1, e2⟩ := Hd.findL_some hf2
      have hwd : W s2.a = d.h := by
        rw [(r.nm i2 s2 hs2 so2).1]
        unfold Hd.nm
        omega
      rw [hat, Hd.atL_some hf2 hs2, e]
      show (s2.a == s.a) = (d.h == W s.a)
      by_cases e3 : s2.a = s.a
      · rw [e3] at hwd
        rw [e3, hwd]
        simp
      · have : d.h ≠ W s.a := fun e4 => by
          rw [e4, hf] at hf2
          obtain rfl := Option.some.inj hf2
          rw [hi] at hs2
          exact e3 (by rw [Option.some.inj hs2])
        rw [show (s2.a == s.a) = false by simpa using e3, show (d.h == W s.a) = false by simpa using this]
  rw [key, filter_one h.nd hc, List.map_singleton, e]

end Rs
end Go.Proofs.YtiklgabndkegoaaGreatDoor

/-
  loftref06: All.
-/
namespace Go.Proofs.YtiklgabndkegoaaGreatDoor
open Go.RowKit Go.Maps
attribute [local go_sem ↓] Go.wp_at_zero Go.wp_at_succ
namespace Rs
open Hp (Kept K No entsR liveL RowE encI)
open Hd (U64 atL cls RowR encU info_handle own_at own_lt src_one one_u run_ixi)
variable {w w' : World} {E : List Hp.Re} {R : List Hd.Sl} {C : List Rc} {q m z : Int} {a1 a2 a3 : Option Addr} {c1 c2 c3 : Nat}

/-- What an append onto one's own row leaves. -/
theorem K.onRow {W wr w4 : World} {o : Obj} {B n : Nat} {t : TypeId} {v : Value} {xs : List Value} (hk : K W wr) (hrow : wr.ownsRow B t 1 v n xs) (hB : W.heap.size ≤ B) (hgrow : (wr.alloc o).grownBy w4 v.ownBlock) : K W w4 := by
  have kg : Kept (fun k => some k = v.ownBlock) wr w4 := by
    have hs4 := hgrow.size
    simp at hs4
    exact ⟨hgrow.os, hgrow.tape, hgrow.output, by omega, fun k hk hn => by
      rw [hgrow.block k (by simp; omega) hn]
      exact Below.heap_alloc wr _ k hk⟩
  exact ⟨kg.os.trans hk.os, kg.tape.trans hk.tape, kg.output.trans hk.output, Nat.le_trans (Kept.size hk) kg.size, fun j hj hn => (kg.same j (Nat.lt_of_lt_of_le hj (Kept.size hk)) (fun e => by have := (own_lt hrow e).1; omega)).trans (Kept.same hk j hj hn)⟩

theorem live31 (L : List Hp.Pg) : (liveL L).length ≤ 31 * L.length := So.live_le L

set_option maxRecDepth 100000 in
set_option maxHeartbeats 4000000 in
theorem rAll_any (h : Vw w m z E R C a1 c1 a2 c2 a3 c3) (f : Int → Int) (hU : ∀ a ∈ liveL (entsR E), (C.filter fun c => (atL R c.h).1 == a).map Rc.h = [f a]) :
    Calls Tryz.prog 27 #[.agg #[.int .i64 q, .slice a1 E.length c1, .int .i64 m, .int .u32 z, .slice a2 R.length c2, .slice a3 C.length c3]] w fun e w' => ∃ v', e = .returned v' ∧ w'.ownsRow w.heap.size 48 1 v' (liveL (entsR E)).length (((liveL (entsR E)).map f).map encU) ∧ K w w' := by
  have hk0 : K w (w.alloc (.cells #[.int .i64 q, .slice a1 E.length c1, .int .i64 m, .int .u32 z, .slice a2 R.length c2, .slice a3 C.length c3] 37)) := (K.refl _).alloc _
  have hb : (w.alloc (.cells #[.int .i64 q, .slice a1 E.length c1, .int .i64 m, .int .u32 z, .slice a2 R.length c2, .slice a3 C.length c3] 37)).heap[w.heap.size]? = some (.cells #[.int .i64 q, .slice a1 E.length c1, .int .i64 m, .int .u32 z, .slice a2 R.length c2, .slice a3 C.length c3] 37) := World.alloc_heap_new _ _
  have hWs : Aside ((w.alloc (.cells #[.int .i64 q, .slice a1 E.length c1, .int .i64 m, .int .u32 z, .slice a2 R.length c2, .slice a3 C.length c3] 37)).heap.size = w.heap.size + 1) := by show _ = _; simp
  obtain ⟨g1, g2, g3, r1, r2, r3, hE, wf, few⟩ := h
  have HR2 : Aside _ := r2.keep hk0
  have HR3 : Aside _ := r3.keep hk0
  have WF : Aside _ := wf
  have HE31 : (liveL (entsR E)).length ≤ 2000 := by
    have h1 := live31 (entsR E)
    have h2 := hE.len
    have h3 : (entsR E).length = E.length := by simp [entsR]
    omega
  have cl := Hp.rLive_any (q := q) (r1.keep hk0) hE
  obtain ⟨i0, hi, hsz, hby, zz, hz, hzs⟩ := info_handle
  have HI : Aside (Tryz.prog.info? 48 = some i0 ∧ i0.size = 1 ∧ i0.bytes = 8 ∧ i0.zero = some zz ∧ zz.cells.size = 1) := ⟨hi, hsz, hby, hz, hzs⟩
  have FU : Aside (∀ i a, (liveL (entsR E))[i]? = some a → (C.filter fun c => (atL R c.h).1 == a).map Rc.h = [f a]) := fun i a h => hU a (List.mem_of_getElem? h)
  obtain ⟨d0, d1, _, _, _, _⟩ := six hb
  have SIX : Aside (∀ V, K (w.alloc (.cells #[.int .i64 q, .slice a1 E.length c1, .int .i64 m, .int .u32 z, .slice a2 R.length c2, .slice a3 C.length c3] 37)) V → (V.cell? ⟨w.heap.size, 2, none⟩ = some (.int .i64 m) ∧ V.cell? ⟨w.heap.size, 3, none⟩ = some (.int .u32 z) ∧ V.cell? ⟨w.heap.size, 4, none⟩ = some (.slice a2 R.length c2) ∧ V.cell? ⟨w.heap.size, 5, none⟩ = some (.slice a3 C.length c3)) ∧ w.heap.size + 1 ≤ V.heap.size) := fun V k => ⟨(six (k.block hb)).2.2, (Array.getElem?_eq_some_iff.1 (k.block hb)).1⟩
  generalize hlv : liveL (entsR E) = lv at *
  have K0 : Aside _ := hk0
  clear r1 r2 r3 hE wf hU hi hsz hby hz hzs hk0 hb
  go_enter Tryz.func27, Tryz.ntmps27
  go_wp2_with fail
  refine cl.mono ?_
  rintro e w1 ⟨vl, rfl, hl, k1⟩
  obtain ⟨al, cl1, rfl⟩ : ∃ al cl1, vl = .slice al lv.length cl1 := by
    rcases hl.2 with ⟨e, h0⟩ | ⟨g, cap, cur, e, _⟩
    · exact ⟨none, 0, by rw [e, h0]⟩
    · exact ⟨_, cap, e⟩
  have HL : Aside _ := hl
  have K1 : Aside _ := k1
  clear cl hl k1 d0 d1
  generalize w.alloc (.cells #[.int .i64 q, .slice a1 E.length c1, .int .i64 m, .int .u32 z, .slice a2 R.length c2, .slice a3 C.length c3] 37) = W0 at *
  go_wp2_with fail
  go_loopg [3, 5] lv.length (fun gh t3 t5 wx => ∃ i : Nat, i + gh = lv.length ∧ t5 = .int .i64 i ∧ Aside (wx.ownsRow w1.heap.size 48 1 t3 i (((lv.take i).map f).map encU)) ∧ Aside (K w1 wx))
  case atStart => exact ⟨0, by omega, rfl, World.ownsRow_nil _ _ _ _, K.refl _⟩
  case round =>
    obtain ⟨i, hig, rfl, HO, HK⟩ := hrel
    by_cases hlt : i < lv.length
    · obtain ⟨a, ha⟩ : ∃ a, lv[i]? = some a := ⟨_, List.getElem?_eq_getElem hlt⟩
      have HA : Aside _ := ha
      obtain ⟨gl, cpl, hal, _⟩ := own_at HL.out (i := i) (x := encI a) (by rw [List.getElem?_map, ha]; rfl)
      obtain ⟨rfl, rfl⟩ : al = some ⟨gl, 0, none⟩ ∧ cl1 = cpl := by injection hal with h1 h2 h3; exact ⟨h1, h3⟩
      have AC : Aside (∀ V, K w1 V → V.cell? ⟨gl, i, none⟩ = some (.int .i64 a)) := fun V k => by
        obtain ⟨g, c, e, _, hc, _⟩ := own_at HL.out (i := i) (x := encI a) (by rw [List.getElem?_map, HA.out]; rfl)
        injection e with h1 h2 h3
        injection h1 with h1
        injection h1 with h1
        subst h1
        exact k.cell hc
      have ixl := fun w' => run_ixi gl lv.length cl1 i hlt w'
      clear hal ha
      go_wp2_with fail
      go_loopg [3, 6] C.length (fun gh t3 t6 wx => ∃ (k n : Nat), k + gh = C.length ∧ t6 = .int .i64 k ∧ n ≤ i + k ∧ Aside (n = i + ((C.take k).filter fun c => (atL R c.h).1 == a).length) ∧ Aside (wx.ownsRow w1.heap.size 48 1 t3 n (((lv.take i).map f ++ ((C.take k).filter fun c => (atL R c.h).1 == a).map Rc.h).map encU)) ∧ Aside (K w1 wx))
      case atStart => exact ⟨0, i, by omega, rfl, by omega, (show _ = _ by simp), (show World.ownsRow _ _ _ _ _ _ _ by simpa using HO.out), HK⟩
      case round =>
        obtain ⟨k, n, hkg, rfl, hnk, HN, HO2, HK2⟩ := hrel
        clear HO HK
        obtain ⟨⟨b2, b3, b4, b5⟩, bl⟩ := SIX.out wr (K1.out.trans HK2.out)
        by_cases hlt2 : k < C.length
        · obtain ⟨c, hc⟩ : ∃ c, C[k]? = some c := ⟨_, List.getElem?_eq_getElem hlt2⟩
          have hixc := HR3.out.ix k hlt2
          have e0 := (HR3.out.keep (K1.out.trans HK2.out)).c0 k c hc
          have CAT : Calls Tryz.prog 50 #[.agg #[.int .i64 m, .int .u32 z, .slice a2 R.length c2], .int .u64 c.h] wr.drew fun e w' => e = .returned (.tuple #[.int .i64 (atL R c.h).1, .int .i64 (atL R c.h).2]) ∧ (w'.cell? ⟨w.heap.size, 2, none⟩ = some (.int .i64 m) ∧ w'.cell? ⟨w.heap.size, 3, none⟩ = some (.int .u32 z) ∧ w'.cell? ⟨w.heap.size, 4, none⟩ = some (.slice a2 R.length c2) ∧ w'.cell? ⟨w.heap.size, 5, none⟩ = some (.slice a3 C.length c3) ∧ w'.cell? ⟨g3, k * 2, none⟩ = some (.int .u64 c.h)) ∧ Aside (K wr w' ∧ w'.cell? ⟨gl, i, none⟩ = some (.int .i64 a)) := by
            refine (Hd.rAt_any (HR2.out.keep (K1.out.trans (K.drew HK2.out))) WF.out c.h).mono ?_
            rintro e w' ⟨rfl, k'⟩
            have k2 := Hp.K.trans (K.drew HK2.out) k'
            obtain ⟨⟨f2, f3, f4, f5⟩, _⟩ := SIX.out w' (K1.out.trans k2)
            exact ⟨rfl, ⟨f2, f3, f4, f5, (HR3.out.keep (K1.out.trans k2)).c0 k c hc⟩, K.trans (K.drew (K.refl wr)) k', AC.out _ k2⟩
          have STEP : Aside ((C.take (k + 1)).filter (fun c => (atL R c.h).1 == a) = (C.take k).filter (fun c => (atL R c.h).1 == a) ++ if (atL R c.h).1 == a then [c] else []) := by
            show _ = _
            obtain ⟨hi, h2⟩ := List.getElem?_eq_some_iff.1 hc
            rw [List.take_succ_eq_append_getElem hi, h2, List.filter_append, List.filter_cons, List.filter_nil]
          clear hc
          obtain ⟨ad, hadv⟩ : ∃ ad, ad = (atL R c.h).1 := ⟨_, rfl⟩
          obtain ⟨er, herv⟩ : ∃ er, er = (atL R c.h).2 := ⟨_, rfl⟩
          rw [← hadv, ← herv] at CAT
          rw [← hadv] at STEP
          clear hadv herv
          go_wp2_with fail
          go_region_held3 (fun V => V.cell? ⟨w.heap.size, 2, none⟩ = some (.int .i64 m) ∧ V.cell? ⟨w.heap.size, 3, none⟩ = some (.int .u32 z) ∧ V.cell? ⟨w.heap.size, 4, none⟩ = some (.slice a2 R.length c2) ∧ V.cell? ⟨w.heap.size, 5, none⟩ = some (.slice a3 C.length c3) ∧ V.cell? ⟨g3, k * 2, none⟩ = some (.int .u64 c.h))
            (first | exact ⟨b2, b3, b4, b5, e0⟩ | exact y1)
            (first | (go_at_call 50; refine CAT.mono ?_; rintro e w5 ⟨rfl, y1, HX⟩))
          obtain ⟨f2, f3, f4, f5, f6⟩ := y1
          have fa := HX.out.2
          have K5 : K w1 w5 := Hp.K.trans HK2.out HX.out.1
          have hrow := Hd.ownsRow_kept (O := No) HO2.out HX.out.1 (fun _ _ x => x)
          have hsz5 := Kept.size K5
          have K5A : Aside _ := K5
          clear HX CAT K5 b2 b3 b4 b5 e0 HK2 HO2
          by_cases he : ad = a
          · subst he
            go_wp2_with (at_builtin
                         refine wpList_append_own_at _ rfl _ _ 40 rfl w1.heap.size 48 i0 zz 1 8 Tryz.underlying40 HI.out.1 HI.out.2.2.2.1 HI.out.2.1 HI.out.2.2.1 HI.out.2.2.2.2 (by decide) _ n _ rfl (hrow.alloc _) ⟨w5.heap.size, 0, none⟩ 1 1 [encU c.h] rfl rfl (src_one w5 #[.int .u64 c.h] 48) (one_u _) (by unfold maxLen; omega) (by omega) (by simp; omega) ?_
                         intro v4 w4 hown hgrow _ hat
                         have K4 : Aside (K w1 w4) := K.onRow K5A.out hrow (Nat.le_refl _) hgrow
                         clear hgrow hat hrow)
            go_roundg (C.length - (k + 1))
            case measure => omega
            case rel =>
              refine ⟨k + 1, n + 1, by omega, by go_num, by omega, ?_, ?_, K4⟩
              · show _ = _
                have := HN.out
                rw [STEP.out, if_pos (by simp), List.length_append]
                simp
                omega
              · show World.ownsRow _ _ _ _ _ _ _
                rw [STEP.out, if_pos (by simp)]
                simpa only [List.map_append, List.append_assoc, List.map_cons, List.map_nil] using hown
          · have he2 : (ad == a) = false := by simpa using he
            go_wp2_with fail
            go_roundg (C.length - (k + 1))
            case measure => omega
            case rel =>
              refine ⟨k + 1, n, by omega, by go_num, by omega, ?_, ?_, K5A⟩
              · show _ = _
                have := HN.out
                rw [STEP.out, he2, if_neg (by simp), List.append_nil]
                exact this
              · show World.ownsRow _ _ _ _ _ _ _
                rw [STEP.out, he2, if_neg (by simp), List.append_nil]
                exact hrow
        · obtain rfl : k = C.length := by omega
          have FIN : Aside (n = i + 1 ∧ wr.ownsRow w1.heap.size 48 1 u3 (i + 1) (((lv.take (i + 1)).map f).map encU)) := by
            have hfu := FU.out i a HA.out
            have hn := HN.out
            have ho := HO2.out
            rw [List.take_length] at hn ho
            have hl : (C.filter fun c => (atL R c.h).1 == a).length = 1 := by
              have := congrArg List.length hfu
              simpa using this
            rw [hl] at hn
            subst hn
            refine ⟨rfl, ?_⟩
            rw [hfu] at ho
            obtain ⟨hi, h2⟩ := List.getElem?_eq_some_iff.1 HA.out
            rw [List.take_succ_eq_append_getElem hi, h2, List.map_append]
            exact ho
          clear HN HO2
          go_wp2_with fail
          go_roundg (lv.length - (i + 1))
          case measure => omega
          case rel => exact ⟨i + 1, by omega, by go_num, FIN.out.2, HK2⟩
    · obtain rfl : i = lv.length := by omega
      have FIN : Aside (wr.ownsRow w.heap.size 48 1 u3 lv.length ((lv.map f).map encU) ∧ K w wr) := by
        have ho := HO.out
        rw [List.take_length] at ho
        have k01 : K w w1 := Hp.K.trans K0.out K1.out
        refine ⟨⟨ho.1, ?_⟩, Hp.K.trans k01 HK.out⟩
        rcases ho.2 with h3 | ⟨g, cap, cur, e, hb, rest⟩
        · exact .inl h3
        · exact .inr ⟨g, cap, cur, e, Nat.le_trans (Kept.size k01) hb, rest⟩
      clear HO HK
      go_wp2_with fail
      go_ret
      exact ⟨_, rfl, FIN.out⟩

end Rs
end Go.Proofs.YtiklgabndkegoaaGreatDoor

/-
  StorePlays: is all to be seen the same?
-/
namespace Go.Proofs.YtiklgabndkegoaaGreatDoor
open Go.RowKit Go.Maps
attribute [local go_sem ↓] Go.wp_at_zero Go.wp_at_succ
namespace Rs
open Hp (Pg Kept K No entsR liveL granted)
open Hd (U64 encU findL)
open Go.Proofs.YtiklgabndkegoaaGreatDoor.So (Ad sp lN lE)
open Go.Proofs.YtiklgabndkegoaaGreatDoor.Nd (ho_slot wdA_len)
variable {w0 w w' : World} {br n : Nat} {A : Ad} {pg : List (Int × Nat)} {W : Int → Int} {L : List Pg} {v : Value} {T R : List Hd.Sl} {C : List Rc} {E : List Hp.Re} {a1 a2 a3 : Option Addr} {c1 c2 c3 : Nat} {x : Int}

/-- What all calls that turn nothing tell. -/
structure Tells (W0 : World) (A : Ad) (C : List Rc) (E : List Hp.Re) (R : List Hd.Sl) (ls : List Int) (gr : Int) (a1 : Option Addr) (c1 : Nat) (a2 : Option Addr) (c2 : Nat) (a3 : Option Addr) (c3 : Nat) : Prop where
  all : ∀ V, K W0 V → Calls Tryz.prog 26 #[sp A.st] V fun e w' => ∃ u, e = .returned u ∧ w'.ownsRow V.heap.size 48 1 u ls.length (ls.map encU) ∧ K V w'
  rall : ∀ V, K W0 V → Calls Tryz.prog 27 #[.agg #[.int .i64 A.q, .slice a1 E.length c1, .int .i64 A.m, .int .u32 A.z, .slice a2 R.length c2, .slice a3 C.length c3]] V fun e w' => ∃ u, e = .returned u ∧ w'.ownsRow V.heap.size 48 1 u ls.length (ls.map encU) ∧ K V w'
  words : ∀ V, K W0 V → Calls Tryz.prog 13 #[sp A.st] V fun e w' => e = .returned (.int .i64 (64 * gr)) ∧ K V w'
  rgr : ∀ V, K W0 V → Calls Tryz.prog 28 #[.agg #[.int .i64 A.q, .slice a1 E.length c1]] V fun e w' => e = .returned (.int .i64 gr) ∧ K V w'
  audit : ∀ V, K W0 V → Calls Tryz.prog 29 #[sp A.st] V fun e w' => e = .returned (.int .i64 0) ∧ K V w'
  g0 : 0 ≤ gr
  g1 : gr ≤ 62
  few : ls.length ≤ 65536

theorem Pr.tells (P : Pr w0 w A br pg W L v T E R C) (vw : Vw w A.m A.z E R C a1 c1 a2 c2 a3 c3) : Tells w A C E R ((liveL L).map W) (granted L) a1 c1 a2 c2 a3 c3 := by
  have hg := P.m.full P.q4
  have hl := P.m.rn.s.b.hp.len
  have he := P.e
  refine ⟨fun V k => ?_, fun V k => ?_, fun V k => ?_, fun V k => ?_, fun V k => ?_, by omega, by omega, ?_⟩
  · refine (So.all_any (P.keep k).m.rn.s.b).mono ?_
    rintro e w' ⟨u, rfl, h, k'⟩
    refine ⟨u, rfl, ?_, k'⟩
    rw [List.length_map, List.map_map]
    exact h
  · refine (rAll_any (q := A.q) (vw.keep k) W (fun a ha => ?_)).mono ?_
    · rw [he] at ha
      exact P.rl.live P.m.rn.s.r P.m.rn.s.b.tl ha
    · rintro e w' ⟨u, rfl, h, k'⟩
      rw [he] at h
      refine ⟨u, rfl, ?_, k'⟩
      rw [List.length_map]
      exact h
  · exact So.words_any (P.keep k).m.rn.s.b
  · obtain ⟨g1, g2, g3, h1, h2, h3, hE, _⟩ := vw.keep k
    have := Hp.rGranted_any (q := A.q) h1 hE
    rw [he] at this
    exact this
  · exact So.audit_ok (P.keep k).m.rn.s
  · have h1 := live31 (entsR E)
    have h2 := P.m.sr.eo.len
    have h3 : (entsR E).length = E.length := by simp [entsR]
    rw [List.length_map, ← he]
    omega

set_option maxRecDepth 100000 in
set_option maxHeartbeats 4000000 in
theorem same_any (P : Pr w0 w A br pg W L v T E R C) (vw : Vw w A.m A.z E R C a1 c1 a2 c2 a3 c3) (hx : U64 x) :
    Calls Tryz.prog 8 #[sp A.st, .agg #[.int .i64 A.q, .slice a1 E.length c1, .int .i64 A.m, .int .u32 A.z, .slice a2 R.length c2, .slice a3 C.length c3], .int .u64 x] w fun e w' => e = .returned (.bool true) ∧ K w w' := by
  have hk0 : K w (w.alloc (.cells #[.int .i64 A.q, .slice a1 E.length c1, .int .i64 A.m, .int .u32 A.z, .slice a2 R.length c2, .slice a3 C.length c3] 37)) := (K.refl _).alloc _
  have hb : (w.alloc (.cells #[.int .i64 A.q, .slice a1 E.length c1, .int .i64 A.m, .int .u32 A.z, .slice a2 R.length c2, .slice a3 C.length c3] 37)).heap[w.heap.size]? = some (.cells #[.int .i64 A.q, .slice a1 E.length c1, .int .i64 A.m, .int .u32 A.z, .slice a2 R.length c2, .slice a3 C.length c3] 37) := World.alloc_heap_new _ _
  have ln := So.len_any (P.keep hk0).m.rn.s x hx
  obtain ⟨g1, g2, g3, r1, r2, r3, hE, wf, few⟩ := vw
  have CF : Aside (∀ V, K w V → Calls Tryz.prog 24 #[.agg #[.int .i64 A.q, .slice a1 E.length c1, .int .i64 A.m, .int .u32 A.z, .slice a2 R.length c2, .slice a3 C.length c3], .int .u64 x] V fun e w' => e = .returned (.int .i64 (fdR C x)) ∧ K V w') := fun V k => rFind_any (r3.keep k) few x
  have TL : Aside _ := Pr.tells (P.keep hk0) (show Vw (w.alloc (.cells #[.int .i64 A.q, .slice a1 E.length c1, .int .i64 A.m, .int .u32 A.z, .slice a2 R.length c2, .slice a3 C.length c3] 37)) A.m A.z E R C a1 c1 a2 c2 a3 c3 from ⟨g1, g2, g3, r1.keep hk0, r2.keep hk0, r3.keep hk0, hE, wf, few⟩)
  have CS : Aside (∀ (wx : World) (B1 B2 : Nat) (v1 v2 : Value), wx.ownsRow B1 48 1 v1 ((liveL L).map W).length (((liveL L).map W).map encU) → wx.ownsRow B2 48 1 v2 ((liveL L).map W).length (((liveL L).map W).map encU) → Calls Tryz.prog 25 #[v1, v2] wx fun e w' => e = .returned (.bool true) ∧ K wx w') := fun wx B1 B2 v1 v2 o1 o2 => Hd.rSame_any o1 o2 rfl TL.out.few
  have SIX : Aside (∀ V, K (w.alloc (.cells #[.int .i64 A.q, .slice a1 E.length c1, .int .i64 A.m, .int .u32 A.z, .slice a2 R.length c2, .slice a3 C.length c3] 37)) V → V.cell? ⟨w.heap.size, 0, none⟩ = some (.int .i64 A.q) ∧ V.cell? ⟨w.heap.size, 1, none⟩ = some (.slice a1 E.length c1) ∧ V.cell? ⟨w.heap.size, 2, none⟩ = some (.int .i64 A.m) ∧ V.cell? ⟨w.heap.size, 3, none⟩ = some (.int .u32 A.z) ∧ V.cell? ⟨w.heap.size, 4, none⟩ = some (.slice a2 R.length c2) ∧ V.cell? ⟨w.heap.size, 5, none⟩ = some (.slice a3 C.length c3)) := fun V k => six (k.block hb)
  have HR3 : Aside _ := r3.keep hk0
  have K0 : Aside _ := hk0
  have hgr0 := TL.out.g0
  have hgr1 := TL.out.g1
  generalize hls : (liveL L).map W = ls at *
  generalize hgr : granted L = gr at *
  have hw64 : IntKind.i64.wrap (64 * gr) = 64 * gr := IntWalk.i64_in _ (by omega)
  have hbe : ((64 * gr) == IntKind.i64.wrap (64 * gr)) = true := by rw [hw64]; simp
  clear hw64
  have CASE : Aside ((lN T W x = 0 ∧ lE T x = 7 ∧ fdR C x = -1) ∨ ∃ (j : Nat) (c : Rc), C[j]? = some c ∧ fdR C x = (j : Int) ∧ lE T x = 0 ∧ lN T W x = (c.ws.length : Int)) := by
    show _ ∨ _
    cases hf : findL T x with
    | none => exact .inl ⟨by simp [lN, hf], by simp [lE, hf], P.rl.find_none hf⟩
    | some i =>
      obtain ⟨j, c, hj, hc, hfd, ho⟩ := P.rl.find_some hf
      obtain ⟨i2, s, hi, hs, so, hw⟩ := ho_slot ho
      obtain rfl := Option.some.inj (hf.symm.trans hi)
      obtain ⟨_, n0, n1, _⟩ := P.m.rn.s.r.nm i s hs so
      have ea : Hd.addrAt T i = s.a := by simp [Hd.addrAt, hs]
      refine .inr ⟨j, c, hj, hfd, by simp [lE, hf], ?_⟩
      have hlen : (c.ws.length : Int) = W (s.a + 1) := by rw [← hw, wdA_len]; omega
      simp only [lN, hf, ea]
      omega
  generalize lN T W x = nn at *
  generalize lE T x = ne at *
  obtain ⟨d0, d1, d2, d3, d4, d5⟩ := six hb
  clear P r1 r2 r3 hE wf hb hls hgr hk0 hx
  go_enter Tryz.func8, Tryz.ntmps8
  go_wp2_with fail
  refine ln.mono ?_
  rintro e w1 ⟨rfl, k1⟩
  have K1 : Aside _ := k1
  obtain ⟨d0, d1, d2, d3, d4, d5⟩ := SIX.out _ k1
  clear ln k1
  go_wp2_with fail
  refine (CF.out _ (Hp.K.trans K0.out K1.out)).mono ?_
  rintro e w2 ⟨rfl, k2⟩
  have K2 : Aside _ := Hp.K.trans K1.out k2
  clear d0 d1 d2 d3 d4 d5 CF k2
  obtain ⟨d0, d1, d2, d3, d4, d5⟩ := SIX.out _ K2.out
  have KD : Aside _ := Hp.K.drew K2.out
  rcases CASE.out with ⟨h1, h2, h3⟩ | ⟨j, c, hj, h3, h2, h1⟩
  · rw [h1, h2, h3]
    clear h1 h2 h3 CASE
    go_wp2_with fail
    go_region_held3 (fun V => V.cell? ⟨w.heap.size, 0, none⟩ = some (.int .i64 A.q) ∧ V.cell? ⟨w.heap.size, 1, none⟩ = some (.slice a1 E.length c1) ∧ V.cell? ⟨w.heap.size, 2, none⟩ = some (.int .i64 A.m) ∧ V.cell? ⟨w.heap.size, 3, none⟩ = some (.int .u32 A.z) ∧ V.cell? ⟨w.heap.size, 4, none⟩ = some (.slice a2 R.length c2) ∧ V.cell? ⟨w.heap.size, 5, none⟩ = some (.slice a3 C.length c3))
      (first | exact HC | go_keep)
      (first
        | (go_at_call 26; refine (TL.out.all _ KD.out).mono ?_; rintro e w5 ⟨u5, rfl, O5, k5⟩; have K5 := Hp.K.trans KD.out k5; have HC := SIX.out _ K5)
        | (go_at_call 27; refine (TL.out.rall _ K5).mono ?_; rintro e w6 ⟨u6, rfl, O6, k6⟩; have K6 := Hp.K.trans K5 k6; have O56 := Hd.ownsRow_kept (O := No) O5 k6 (fun _ _ x => x); have HC := SIX.out _ K6)
        | (go_at_call 25; refine (CS.out _ _ _ _ _ O56 O6).mono ?_; rintro e w7 ⟨rfl, k7⟩; have K7 := Hp.K.trans K6 k7; have HC := SIX.out _ K7)
        | (go_at_call 13; refine (TL.out.words _ K7).mono ?_; rintro e w8 ⟨rfl, k8⟩; have K8 := Hp.K.trans K7 k8; have HC := SIX.out _ K8)
        | (go_at_call 28; refine (TL.out.rgr _ K8).mono ?_; rintro e w9 ⟨rfl, k9⟩; have K9 := Hp.K.trans K8 k9; have HC := SIX.out _ K9)
        | (go_at_call 29; refine (TL.out.audit _ K9).mono ?_; rintro e w10 ⟨rfl, k10⟩; have K10 := Hp.K.trans K9 k10; have HC := SIX.out _ K10))
    have KF : Aside _ := Hp.K.trans K0.out K10
    go_wp2
    go_ret
    exact ⟨rfl, KF.out⟩
  · rw [h1, h2, h3]
    have hlt := (List.getElem?_eq_some_iff.1 hj).1
    have hixc := HR3.out.ix j hlt
    have e1 := (HR3.out.keep K2.out).c1 j c hj
    obtain ⟨ad, b, cc, hv, _⟩ := HR3.out.ws j c hj
    rw [hv] at e1
    have hdj : decide ((j : Int) < 0) = false := decide_eq_false (by omega)
    have hdj2 : decide ((0 : Int) ≤ j) = true := decide_eq_true (by omega)
    have hcn : ((c.ws.length : Int) != (c.ws.length : Int)) = false := by simp
    clear h1 h2 h3 CASE hv hj
    generalize c.ws.length = cn at *
    go_wp2_with fail
    go_region_held3 (fun V => V.cell? ⟨w.heap.size, 0, none⟩ = some (.int .i64 A.q) ∧ V.cell? ⟨w.heap.size, 1, none⟩ = some (.slice a1 E.length c1) ∧ V.cell? ⟨w.heap.size, 2, none⟩ = some (.int .i64 A.m) ∧ V.cell? ⟨w.heap.size, 3, none⟩ = some (.int .u32 A.z) ∧ V.cell? ⟨w.heap.size, 4, none⟩ = some (.slice a2 R.length c2) ∧ V.cell? ⟨w.heap.size, 5, none⟩ = some (.slice a3 C.length c3))
      (first | exact HC | go_keep)
      (first
        | (go_at_call 26; refine (TL.out.all _ KD.out).mono ?_; rintro e w5 ⟨u5, rfl, O5, k5⟩; have K5 := Hp.K.trans KD.out k5; have HC := SIX.out _ K5)
        | (go_at_call 27; refine (TL.out.rall _ K5).mono ?_; rintro e w6 ⟨u6, rfl, O6, k6⟩; have K6 := Hp.K.trans K5 k6; have O56 := Hd.ownsRow_kept (O := No) O5 k6 (fun _ _ x => x); have HC := SIX.out _ K6)
        | (go_at_call 25; refine (CS.out _ _ _ _ _ O56 O6).mono ?_; rintro e w7 ⟨rfl, k7⟩; have K7 := Hp.K.trans K6 k7; have HC := SIX.out _ K7)
        | (go_at_call 13; refine (TL.out.words _ K7).mono ?_; rintro e w8 ⟨rfl, k8⟩; have K8 := Hp.K.trans K7 k8; have HC := SIX.out _ K8)
        | (go_at_call 28; refine (TL.out.rgr _ K8).mono ?_; rintro e w9 ⟨rfl, k9⟩; have K9 := Hp.K.trans K8 k9; have HC := SIX.out _ K9)
        | (go_at_call 29; refine (TL.out.audit _ K9).mono ?_; rintro e w10 ⟨rfl, k10⟩; have K10 := Hp.K.trans K9 k10; have HC := SIX.out _ K10))
    have KF : Aside _ := Hp.K.trans K0.out K10
    go_wp2
    go_ret
    exact ⟨rfl, KF.out⟩

end Rs
end Go.Proofs.YtiklgabndkegoaaGreatDoor
