/-
  Put and Get on the store, then on its reference; what All tells. No walk.
-/
import Derived.Test.YtlmfojkhfipdnaaGreatDoorR6
import Derived.Test.YtlmfojkhfipdnaaGreatDoorH7
import Derived.Test.YtlmfojkhfipdnaaGreatDoorE7
namespace Go.Proofs.YtlmfojkhfipdnaaGreatDoor
open Go.RowKit Go.Maps
namespace Rs
open Hp (Pg Wl Kept K No allocL freeL slideL dropL findB Nb entsR liveL mem_liveL RowE)
open Hd (U64 findL openL closeR moveL atL cls RowR)
open Go.Proofs.YtlmfojkhfipdnaaGreatDoor.Bb (Ho)
open Go.Proofs.YtlmfojkhfipdnaaGreatDoor.So (Ad Sb Sw Stp Rn Rec sp wE gV pW lE lN)
open Go.Proofs.YtlmfojkhfipdnaaGreatDoor.Nd (ho_slot wdA_len)
variable {u0 : World × Nat} {w0 w w' w1 w2 : World} {br n : Nat} {A : Ad} {T R : List Hd.Sl} {W : Int → Int} {C : List Rc} {L : List Pg} {E : List Hp.Re} {q m z x : Int}

theorem wordOk_of {y : Int} (h0 : 0 ≤ y) (h1 : y ≤ 18446744073709551615) : Sl.WordOk y := by
  unfold Sl.WordOk
  have e1 : IntKind.u64.min = 0 := rfl
  have e2 : IntKind.u64.max = 18446744073709551615 := rfl
  simp only [Lit.wf, Bool.and_eq_true, decide_eq_true_eq]
  omega
theorem gtR_of {i k : Nat} {r : Rc} (hf : fdR C x = (i : Int)) (hi : C[i]? = some r) (hk : k < r.ws.length) : gtR C x (k : Int) = (r.ws.getD k 0, 0) := by
  rcases fdR_cases C x with ⟨_, h2⟩ | ⟨i', c', h1, h2, h3, _⟩
  · omega
  · obtain rfl : i' = i := by omega
    have e3 : C.getD i' ⟨0, .bool false, []⟩ = r := by rw [List.getD_eq_getElem?_getD, hi]; rfl
    unfold gtR
    rw [h1]
    simp only [e3]
    rw [if_pos ⟨by omega, by omega⟩, Int.toNat_natCast]

/-- The store's three rows, read. -/
def Vw (w : World) (m z : Int) (E : List Hp.Re) (R : List Hd.Sl) (C : List Rc) (a1 : Option Addr) (c1 : Nat) (a2 : Option Addr) (c2 : Nat) (a3 : Option Addr) (c3 : Nat) : Prop :=
  ∃ g1 g2 g3, RowE w g1 a1 c1 E ∧ RowR w g2 a2 c2 R ∧ Row w g3 a3 c3 C ∧ Hp.Eo E ∧ Hd.Wf m z (cls R) ∧ C.length ≤ 65536
theorem Vw.keep {a1 a2 a3 : Option Addr} {c1 c2 c3 : Nat} (h : Vw w m z E R C a1 c1 a2 c2 a3 c3) (k : K w w') : Vw w' m z E R C a1 c1 a2 c2 a3 c3 := by
  obtain ⟨g1, g2, g3, h1, h2, h3, h4⟩ := h
  exact ⟨g1, g2, g3, h1.keep k, h2.keep k, h3.keep k, h4⟩
theorem Sr.view (h : Sr u0 w br q m z E R C) : ∃ a1 c1 a2 c2 a3 c3, w.heap[br]? = some (.cells #[.int .i64 q, .slice a1 E.length c1, .int .i64 m, .int .u32 z, .slice a2 R.length c2, .slice a3 C.length c3] 37) ∧ Vw w m z E R C a1 c1 a2 c2 a3 c3 := by
  obtain ⟨a1, c1, v2, a3, c3, h1, h2, h3⟩ := h.ex
  obtain ⟨g3, hr, _⟩ := row_of h3 h.ws
  obtain ⟨g1, he, _⟩ := h1.form
  obtain ⟨g2, a2, c2, rfl, h2r, _⟩ := h2.src
  exact ⟨a1, c1, a2, c2, a3, c3, h1.s0, g1, g2, g3, he, h2r, hr, h.eo, h2.wf, h.few⟩

/-- The reference's Get, of the struct by value. -/
abbrev Gw (br : Nat) (x k a er : Int) (V : World) : Prop := ∃ x0 x1 x2 x3 x4 x5, V.heap[br]? = some (.cells #[x0, x1, x2, x3, x4, x5] 37) ∧ ∀ V', K V V' → Calls Tryz.prog 57 #[.agg #[x0, x1, x2, x3, x4, x5], .int .u64 x, .int .i64 k] V' fun e w' => e = .returned (.tuple #[.int .u64 a, .int .i64 er]) ∧ K V' w'

theorem Pl.get (h : Pl w0 w A br n) {x : Int} (hx : U64 x) (k : Int) :
    Calls Tryz.prog 78 #[sp A.st, .int .u64 x, .int .i64 k] w fun e w1 => ∃ a er, e = .returned (.tuple #[.int .u64 a, .int .i64 er]) ∧ K w w1 ∧ Aside (∀ V, K w1 V → Gw br x k a er V) := by
  obtain ⟨pg, W, L, v, T, E, R, C, P, hl⟩ := h
  have g := P.rl.get P.m.rn.s.r x k
  refine (So.get_any P.m.rn.s x k hx).mono ?_
  rintro e w1 ⟨rfl, k1⟩
  refine ⟨_, _, rfl, k1, fun V k2 => ?_⟩
  obtain ⟨a1, c1, a2, c2, a3, c3, hb, g1, g2, g3, _, _, hr, _⟩ := Sr.view (P.m.sr.keep (k1.trans k2))
  refine ⟨_, _, _, _, _, _, hb, fun V' k' => ?_⟩
  have := rGet_any (x0 := .int .i64 A.q) (x1 := .slice a1 E.length c1) (x2 := .int .i64 A.m) (x3 := .int .u32 A.z) (x4 := .slice a2 R.length c2) (hr.keep k') P.m.sr.few x k
  rw [g] at this
  exact this

theorem Pl.put (h : Pl w0 w A br n) (z0 : 0 < w0.heap.size) {x : Int} (hx : U64 x) (k y : Int) (hy : 0 ≤ y ∧ y ≤ 18446744073709551615) :
    Calls Tryz.prog 22 #[sp A.st, .int .u64 x, .int .i64 k, .int .u64 y] w fun e w1 => ∃ er, e = .returned (.int .i64 er) ∧ Aside (K w0 w1 ∧ Kd w w1 ∧ Nx 23 #[rp br, .int .u64 x, .int .i64 k, .int .u64 y] (.int .i64 er) w0 A br n w1) := by
  obtain ⟨pg, W, L, v, T, E, R, C, P, hl⟩ := h
  have he := P.e
  have g := P.rl.get P.m.rn.s.r x k
  refine (P.m.rn.put x k y _ hx (wordOk_of hy.1 hy.2) rfl).mono ?_
  rintro e w1 ⟨rfl, rn, st⟩
  obtain ⟨P1, kd1⟩ := P.m.store rn st
  refine ⟨_, rfl, P1.rn.k, kd1, fun V k2 => ?_⟩
  have PV := P1.keep k2
  by_cases h0 : wE T W x k = 0
  · cases hf : findL T x with
    | none => simp [wE, hf] at h0
    | some i =>
      obtain ⟨j, c, hj, hc, hfd, ho⟩ := P.rl.find_some hf
      obtain ⟨i2, s, hi, hs, so, hw⟩ := ho_slot ho
      obtain rfl := Option.some.inj (hf.symm.trans hi)
      obtain ⟨_, n0, n1, _⟩ := P.m.rn.s.r.nm i s hs so
      have ea : Hd.addrAt T i = s.a := by simp [Hd.addrAt, hs]
      have hlen : (c.ws.length : Int) = W (s.a + 1) := by rw [← hw, wdA_len]; omega
      have hk : 0 ≤ k ∧ k < W (s.a + 1) := by
        by_cases h : 0 ≤ k ∧ k < W (s.a + 1)
        · exact h
        · simp only [wE, hf, ea] at h0
          rw [if_neg h] at h0
          omega
      obtain ⟨kn, rfl⟩ : ∃ kn : Nat, k = (kn : Int) := ⟨k.toNat, by omega⟩
      have hkn : kn < c.ws.length := by omega
      rw [h0]
      refine (rPut_ok PV.sr x y hfd hj (gtR_of hfd hj hkn) hkn hy (by omega)).mono ?_
      rintro e w2 ⟨rfl, v', s2⟩
      obtain ⟨P2, kd2⟩ := PV.ref z0 s2
      subst hc
      exact ⟨rfl, kd2, _, _, _, _, _, _, _, _, ⟨P2, he, P.nb, Rl.put P.rl P.m.rn.s.r P.m.rn.s.b.wl P.m.rn.s.b.tl hj hkn y v', P.q4⟩, by simp; omega⟩
  · have hp : pW T W x k y = W := by unfold pW; rw [if_neg h0]
    rw [hp] at PV
    refine (rPut_no PV.sr x k y g h0).mono ?_
    rintro e w2 ⟨rfl, s2⟩
    obtain ⟨P2, kd2⟩ := PV.ref z0 s2
    exact ⟨rfl, kd2, _, _, _, _, _, _, _, _, ⟨P2, he, P.nb, P.rl, P.q4⟩, hl⟩

theorem filter_one {c : Rc} : ∀ {C : List Rc}, C.Pairwise (fun c d => c.h ≠ d.h) → c ∈ C → C.filter (fun d => d.h == c.h) = [c]
  | [], _, h => absurd h List.not_mem_nil
  | d :: C, hp, h => by
    have hp' := List.pairwise_cons.1 hp
    rcases List.mem_cons.1 h with rfl | h
    · rw [List.filter_cons_of_pos (by simp), List.filter_eq_nil_iff.2 (fun e he => by simpa using (hp'.1 e he).symm)]
    · rw [List.filter_cons_of_neg (by simpa using hp'.1 c h), filter_one hp'.2 h]

/-- Under the address of a block lies one record. -/
theorem Rl.live (h : Rl T W R C) (r : Rec L W T) (hl : T.length ≤ 65536) {a : Int} (ha : a ∈ liveL L) : (C.filter fun c => (atL R c.h).1 == a).map Rc.h = [W a] := by
  obtain ⟨i, s, hi, so, rfl⟩ := r.bl a (mem_liveL.1 ha)
  have li := (List.getElem?_eq_some_iff.1 hi).1
  have hf : findL T (W s.a) = some i := by rw [(r.nm i s hi so).1]; exact Hd.findL_of hi so (by omega)
  obtain ⟨c, hc, e⟩ := h.a (W s.a) (by rw [hf]; rfl)
  have key : C.filter (fun d => (atL R d.h).1 == s.a) = C.filter (fun d => d.h == c.h) := List.filter_congr fun d hd => by
    have hat : atL R d.h = atL T d.h := by rw [← Hd.atL_cls, h.t]
    have hfd := (h.r d hd).1
    cases hf2 : findL T d.h with
    | none => rw [hf2] at hfd; cases hfd
    | some i2 =>
      obtain ⟨s2, hs2, so2, e1, e2⟩ := Hd.findL_some hf2
      have hwd : W s2.a = d.h := by
        rw [(r.nm i2 s2 hs2 so2).1]
        unfold Hd.nm
        omega
      rw [hat, Hd.atL_some hf2 hs2, e]
      show (s2.a == s.a) = (d.h == W s.a)
      by_cases e3 : s2.a = s.a
      · rw [e3] at hwd
        rw [e3, hwd]
        simp
      · have : d.h ≠ W s.a := fun e4 => by
          rw [e4, hf] at hf2
          obtain rfl := Option.some.inj hf2
          rw [hi] at hs2
          exact e3 (by rw [Option.some.inj hs2])
        rw [show (s2.a == s.a) = false by simpa using e3, show (d.h == W s.a) = false by simpa using this]
  rw [key, filter_one h.nd hc, List.map_singleton, e]

end Rs
end Go.Proofs.YtlmfojkhfipdnaaGreatDoor
