/-
  How many nodes a store has room for: the entries behind i Makes. No walk.
-/
import Derived.Test.YtlalmdckdejggaaGreatDoorN3
import Derived.Test.YtlalmdckdejggaaGreatDoorE7
namespace Go.Proofs.YtlalmdckdejggaaGreatDoor
open Go.RowKit Go.Maps
namespace Nd
open Hp (Kept K No Pg Wl granted allocL freeB liveL)
open Hd (U64 findL openL)
open Go.Proofs.YtlalmdckdejggaaGreatDoor.Bb (Ho)
open Go.Proofs.YtlalmdckdejggaaGreatDoor.So (Ad Rn sp cl fullB)
variable {w0 w w' : World} {A : Ad} {q m : Int} {i : Nat}

def seqL : Nat → List Pg
  | 0 => []
  | i + 1 => (allocL 640 (seqL i) (2 + 6)).2.2
def chk : Nat → Nat → List Pg → Bool
  | 0, i, L => (granted L == ((i + 5) / 6 : Nat)) && ((freeB L (Cl.clsI (2 + 6))).isSome == (i % 6 != 0))
  | f + 1, i, L => (granted L == ((i + 5) / 6 : Nat)) && ((freeB L (Cl.clsI (2 + 6))).isSome == (i % 6 != 0)) && chk f (i + 1) (allocL 640 L (2 + 6)).2.2
theorem chk_60 : chk 60 0 [] = true := by decide +kernel
theorem chk_at : ∀ (f i : Nat), chk f i (seqL i) = true → ∀ j, i ≤ j → j ≤ i + f → granted (seqL j) = ((j + 5) / 6 : Nat) ∧ (freeB (seqL j) (Cl.clsI (2 + 6))).isSome = (j % 6 != 0)
  | 0, i, h, j, h1, h2 => by
    obtain rfl : j = i := by omega
    unfold chk at h
    simp only [Bool.and_eq_true, beq_iff_eq] at h
    exact h
  | f + 1, i, h, j, h1, h2 => by
    unfold chk at h
    simp only [Bool.and_eq_true, beq_iff_eq] at h
    by_cases e : j = i
    · subst e
      exact h.1
    · exact chk_at f (i + 1) h.2 j (by omega) (by omega)
theorem seq_at {j : Nat} (h : j ≤ 60) : granted (seqL j) = ((j + 5) / 6 : Nat) ∧ (freeB (seqL j) (Cl.clsI (2 + 6))).isSome = (j % 6 != 0) := chk_at 60 0 chk_60 j (by omega) (by omega)

theorem seq_ok (hi : i < 60) (hq : ((i / 6 : Nat) + 1) * 64 ≤ q) : ∃ a, allocL q (seqL i) (2 + 6) = (a, 0, seqL (i + 1)) := by
  obtain ⟨hg, hf⟩ := seq_at (j := i) (by omega)
  have e : allocL q (seqL i) (2 + 6) = allocL 640 (seqL i) (2 + 6) ∧ (allocL 640 (seqL i) (2 + 6)).2.1 = 0 := by
    have hx : (1 : Int) ≤ 2 + 6 ∧ (2 + 6 : Int) ≤ 4000 := by decide
    have hs : Cl.smaI (2 + 6) = true := by decide
    unfold allocL
    simp only [if_pos hx, if_pos hs]
    cases h : freeB (seqL i) (Cl.clsI (2 + 6)) with
    | some ps => exact ⟨rfl, rfl⟩
    | none =>
      rw [h] at hf
      have h6 : i % 6 = 0 := by simpa using hf.symm
      have h1 : (granted (seqL i) + 1) * 64 ≤ q := by rw [hg]; omega
      have h2 : (granted (seqL i) + 1) * 64 ≤ 640 := by rw [hg]; omega
      rw [if_pos h1, if_pos h2]
      exact ⟨rfl, rfl⟩
  exact ⟨(allocL 640 (seqL i) (2 + 6)).1, by rw [e.1]; exact Prod.ext rfl (Prod.ext e.2 rfl)⟩
theorem seq_no (hi : i ≤ 60) (h6 : i % 6 = 0) (hq : q < ((i / 6 : Nat) + 1) * 64) : ∃ a, allocL q (seqL i) (2 + 6) = (a, 3, seqL i) := by
  obtain ⟨hg, hf⟩ := seq_at (j := i) hi
  have hx : (1 : Int) ≤ 2 + 6 ∧ (2 + 6 : Int) ≤ 4000 := by decide
  have hs : Cl.smaI (2 + 6) = true := by decide
  unfold allocL
  simp only [if_pos hx, if_pos hs]
  cases h : freeB (seqL i) (Cl.clsI (2 + 6)) with
  | some ps =>
    rw [h, h6] at hf
    cases hf
  | none =>
    have h1 : ¬ (granted (seqL i) + 1) * 64 ≤ q := by rw [hg]; omega
    simp only [if_neg h1]
    exact ⟨_, rfl⟩

/-- Behind i Makes. -/
structure Rm (w0 w : World) (A : Ad) (q m : Int) (i : Nat) : Prop where
  ex : ∃ pg W v T, Rn w0 w A pg W (seqL i) v T ∧ T.length = i ∧ cl T = 0
  q : A.q = q
  m : A.m = m
theorem Rm.k (h : Rm w0 w A q m i) : K w0 w := by
  obtain ⟨_, _, _, _, rn, _⟩ := h.ex
  exact rn.k
theorem Rm.keep (h : Rm w0 w A q m i) (k : K w w') : Rm w0 w' A q m i := by
  obtain ⟨pg, W, v, T, rn, h1, h2⟩ := h.ex
  exact ⟨⟨pg, W, v, T, rn.keep k, h1, h2⟩, h.q, h.m⟩
theorem Rm.make (h : Rm w0 w A q m i) (hi : i < 60) (hq : ((i / 6 : Nat) + 1) * 64 ≤ q) (hm : (i : Int) < m) (n : Nv) (hn : n.Ok) :
    Calls Tryz.prog 13 #[sp A.st, n.v] w fun e w' => ∃ x, e = .returned (.tuple #[.int .u64 x, .int .i64 0]) ∧ Aside (Rm w0 w' A q m (i + 1) ∧ ∀ V, K w' V → Calls Tryz.prog 14 #[sp A.st, .int .u64 x] V fun e w'' => e = .returned (.tuple #[n.v, .int .i64 0]) ∧ K V w'') := by
  obtain ⟨pg, W, v, T, rn, hl, hc⟩ := h.ex
  obtain ⟨a, ea⟩ := seq_ok hi hq
  refine (make_any rn.s rn.k.size n hn).mono ?_
  rintro e w2 (⟨a2, L2, x, T2, ea2, eo, a0, hx, x0, rfl, hh⟩ | ⟨er, her, hcc, rfl, _⟩)
  · rw [h.q, ea] at ea2
    simp only [Prod.mk.injEq] at ea2
    obtain ⟨rfl, _, rfl⟩ := ea2
    obtain ⟨pg2, W2, v2, sw, ho, _, st⟩ := hh.out
    have eo2 := So.open_next (z := A.z) hc (by rw [h.m, hl]; exact hm : (T.length : Int) < A.m) a0
    rw [eo] at eo2
    simp only [Prod.mk.injEq] at eo2
    obtain ⟨_, _, rfl⟩ := eo2
    refine ⟨x, rfl, ⟨⟨pg2, W2, v2, _, ⟨sw, rn.kst st⟩, by simp [hl], by simpa [cl] using hc⟩, h.q, h.m⟩, fun V k => get_node (sw.keep k) hx ho⟩
  · exfalso
    rcases hcc with ⟨a2, e2, hne⟩ | ⟨_, hf, _⟩
    · rw [h.q, ea] at e2
      simp only [Prod.mk.injEq] at e2
      exact hne e2.2.1.symm
    · unfold fullB at hf
      rw [decide_eq_false (by rw [h.m, hl]; omega)] at hf
      cases hf

/-- One more is refused. -/
theorem Rm.last (h : Rm w0 w A q m i) (hi : i ≤ 60) (n : Nv) (hn : n.Ok) {er : Int} (he : (er = 3 ∧ i % 6 = 0 ∧ q < ((i / 6 : Nat) + 1) * 64) ∨ (er = 10 ∧ i < 60 ∧ ((i / 6 : Nat) + 1) * 64 ≤ q ∧ m ≤ i)) :
    Calls Tryz.prog 13 #[sp A.st, n.v] w fun e w' => e = .returned (.tuple #[.int .u64 0, .int .i64 er]) ∧ Aside (Rm w0 w' A q m i) := by
  obtain ⟨pg, W, v, T, rn, hl, hc⟩ := h.ex
  refine (make_any rn.s rn.k.size n hn).mono ?_
  rintro e w2 (⟨a2, L2, x, T2, ea2, eo, a0, hx, x0, rfl, hh⟩ | ⟨er2, her, hcc, rfl, hh⟩)
  · exfalso
    rcases he with ⟨_, h6, hq⟩ | ⟨_, h60, hq, hm⟩
    · obtain ⟨a, ea⟩ := seq_no hi h6 hq
      rw [h.q, ea] at ea2
      simp at ea2
    · have hf := So.full_of (m := A.m) (z := A.z) hc (by rw [h.m, hl]; exact hm)
      rcases So.full_open a0 eo with ⟨h1, _⟩ | ⟨_, h1, _⟩
      · rw [hf] at h1; cases h1
      · cases h1
  · obtain ⟨pg2, W2, v2, sw, _, st⟩ := hh.out
    have e : er2 = er := by
      rcases he with ⟨rfl, h6, hq⟩ | ⟨rfl, h60, hq, hm⟩
      · obtain ⟨a, ea⟩ := seq_no hi h6 hq
        rcases hcc with ⟨a2, e2, _⟩ | ⟨_, _, a2, L2, e2⟩
        · rw [h.q, ea] at e2
          simp only [Prod.mk.injEq] at e2
          exact e2.2.1.symm
        · rw [h.q, ea] at e2
          simp at e2
      · obtain ⟨a, ea⟩ := seq_ok h60 hq
        rcases hcc with ⟨a2, e2, hne⟩ | ⟨h10, _⟩
        · rw [h.q, ea] at e2
          simp only [Prod.mk.injEq] at e2
          exact absurd e2.2.1.symm hne
        · exact h10
    subst e
    exact ⟨rfl, ⟨pg2, W2, v2, T, ⟨sw, rn.kst st⟩, hl, hc⟩, h.q, h.m⟩

/-- All of them are told. -/
theorem Rm.all (h : Rm w0 w A q m i) : Calls Tryz.prog 22 #[sp A.st] w fun e w' => (∃ a c, e = .returned (.slice a i c)) ∧ K w w' := by
  obtain ⟨pg, W, v, T, rn, hl, hc⟩ := h.ex
  refine (So.all_any rn.s.b).mono ?_
  rintro e w2 ⟨u, rfl, hu, k⟩
  have e1 := So.Rec.len rn.s.r rn.s.b.wl rn.s.b.tl
  have e2 := So.cl_opens T
  have e3 : (liveL (seqL i)).length = i := by omega
  rw [e3] at hu
  rcases hu.2 with ⟨hv, h0⟩ | ⟨g, c, cur, hv, _⟩
  · exact ⟨⟨none, 0, by rw [hv, h0]⟩, k⟩
  · exact ⟨⟨_, _, by rw [hv]⟩, k⟩

end Nd
end Go.Proofs.YtlalmdckdejggaaGreatDoor
