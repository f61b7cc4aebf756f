/-
  Where a run of pages is granted, told of the entries; and what the calls make of the entries. No program.
-/
import Derived.Test.YtlpdgomoepinjaaDoorHLay
import Derived.Test.YtlpdgomoepinjaaDoorSWrite
namespace Go.Proofs.YtlpdgomoepinjaaDoor
namespace Hp

/-- The least page from f on behind which m pages are of no entry. -/
def fit (m : Int) : Int → List Pg → Int
  | f, [] => f
  | f, p :: r => if f + m ≤ p.n then f else fit m (p.n + p.span) r

theorem fit_spec {m : Int} (hm : 1 ≤ m) : ∀ (L : List Pg) (b : Int), Srt L → (∀ p ∈ L, 1 ≤ p.span) → (∀ p ∈ L, b ≤ p.n) →
    b ≤ fit m b L ∧ (∀ k, fit m b L ≤ k → k < fit m b L + m → ¬ In L k) ∧ (∀ g, b ≤ g → g < fit m b L → ∃ k, g ≤ k ∧ k < g + m ∧ In L k)
  | [], b, _, _, _ => ⟨Int.le_refl _, fun k _ _ ⟨_, h, _⟩ => (by cases h), fun g h1 h2 => (by simp only [fit] at h2; omega)⟩
  | p :: L, b, hs, h1, hb => by
    obtain ⟨a1, a2⟩ := List.pairwise_cons.1 hs
    have hp := h1 p (by simp)
    have hbp := hb p (by simp)
    unfold fit
    by_cases h : b + m ≤ p.n
    · rw [if_pos h]
      refine ⟨Int.le_refl _, fun k hk1 hk2 ⟨r, hr, h2, h3⟩ => ?_, fun g h2 h3 => (by omega)⟩
      rcases List.mem_cons.1 hr with rfl | hr
      · omega
      · have := a1 r hr
        omega
    · rw [if_neg h]
      obtain ⟨i1, i2, i3⟩ := fit_spec hm L (p.n + p.span) a2 (fun r hr => h1 r (List.mem_cons_of_mem _ hr)) (fun r hr => a1 r hr)
      refine ⟨by omega, fun k hk1 hk2 ⟨r, hr, h2, h3⟩ => ?_, fun g h2 h3 => ?_⟩
      · rcases List.mem_cons.1 hr with rfl | hr
        · omega
        · exact i2 k hk1 hk2 ⟨r, hr, h2, h3⟩
      · by_cases hg : p.n + p.span ≤ g
        · obtain ⟨k, k1, k2, r, hr, k3, k4⟩ := i3 g hg h3
          exact ⟨k, k1, k2, r, List.mem_cons_of_mem _ hr, k3, k4⟩
        · by_cases hg2 : p.n ≤ g
          · exact ⟨g, by omega, by omega, p, by simp, hg2, by omega⟩
          · exact ⟨p.n, by omega, by omega, p, by simp, by omega, by omega⟩

section
variable {pg : List (Int × Nat)} {W : Int → Int} {L : List Pg}

theorem Lay.none_iff (l : Lay pg W L) (k : Int) : Sl.blk pg k = none ↔ ¬ In L k := by
  rw [← l.cov k]
  cases Sl.blk pg k <;> simp

/-- The run that is granted is the first that fits. -/
theorem Lay.fit (l : Lay pg W L) (hr : ∀ p ∈ pg, 0 ≤ p.1 ∧ p.1 ≤ 1048575) {m r : Int} (hm : 1 ≤ m) (h : Sl.Least pg m r) : r = fit m 0 L := by
  obtain ⟨i1, i2, i3⟩ := fit_spec hm L 0 l.srt (fun p hp => (l.ent p hp).span.1) (fun p hp => by have := (l.ent p hp).span; have := l.range hr hp 0 (by omega) (by omega); omega)
  rcases Int.lt_trichotomy r (Hp.fit m 0 L) with h1 | h1 | h1
  · obtain ⟨k, k1, k2, k3⟩ := i3 r h.lo h1
    exact absurd k3 ((l.none_iff k).1 (h.run k k1 k2))
  · exact h1
  · exact absurd (fun j h2 h3 => (l.none_iff j).2 (i2 j h2 h3)) (h.least _ i1 h1)

theorem eq_of_rise : ∀ (l m : List Int), l.Pairwise (fun x y => x < y) → m.Pairwise (fun x y => x < y) → (∀ k, k ∈ l ↔ k ∈ m) → l = m
  | [], [], _, _, _ => rfl
  | [], y :: m, _, _, h => by have := (h y).2 (by simp); cases this
  | x :: l, [], _, _, h => by have := (h x).1 (by simp); cases this
  | x :: l, y :: m, h1, h2, h => by
    obtain ⟨a1, a2⟩ := List.pairwise_cons.1 h1
    obtain ⟨b1, b2⟩ := List.pairwise_cons.1 h2
    have e : x = y := by
      rcases List.mem_cons.1 ((h x).1 (by simp)) with e | e
      · exact e
      · have h3 := b1 x e
        rcases List.mem_cons.1 ((h y).2 (by simp)) with e2 | e2
        · exact e2.symm
        · have := a1 y e2
          omega
    subst e
    congr 1
    refine eq_of_rise l m a2 b2 fun k => ?_
    constructor
    · intro hk
      rcases List.mem_cons.1 ((h k).1 (List.mem_cons_of_mem _ hk)) with e | e
      · have := a1 k hk
        omega
      · exact e
    · intro hk
      rcases List.mem_cons.1 ((h k).2 (List.mem_cons_of_mem _ hk)) with e | e
      · have := b1 k hk
        omega
      · exact e

/-- The pages of the entries. -/
def pagesL (L : List Pg) : List Int := L.flatMap fun p => (List.range p.span.toNat).map fun (i : Nat) => p.n + (i : Int)
def granted (L : List Pg) : Int := (L.map fun p => p.span).sum

theorem mem_pagesL {L : List Pg} {k : Int} : k ∈ pagesL L ↔ In L k := by
  unfold pagesL In
  simp only [List.mem_flatMap, List.mem_map, List.mem_range]
  constructor
  · rintro ⟨p, hp, i, hi, rfl⟩
    exact ⟨p, hp, by omega, by omega⟩
  · rintro ⟨p, hp, h1, h2⟩
    exact ⟨p, hp, (k - p.n).toNat, by omega, by omega⟩
theorem pagesL_rise : ∀ {L : List Pg}, Srt L → (∀ p ∈ L, 1 ≤ p.span) → (pagesL L).Pairwise (fun x y => x < y)
  | [], _, _ => List.Pairwise.nil
  | p :: L, hs, h1 => by
    obtain ⟨a1, a2⟩ := List.pairwise_cons.1 hs
    show ((List.range p.span.toNat).map (fun (i : Nat) => p.n + (i : Int)) ++ pagesL L).Pairwise _
    rw [List.pairwise_append]
    refine ⟨?_, pagesL_rise a2 (fun r hr => h1 r (List.mem_cons_of_mem _ hr)), fun x hx y hy => ?_⟩
    · rw [List.pairwise_map]
      exact List.pairwise_lt_range.imp fun h => by omega
    · obtain ⟨i, hi, rfl⟩ := List.mem_map.1 hx
      have hi := List.mem_range.1 hi
      obtain ⟨r, hr, h2, h3⟩ := mem_pagesL.1 hy
      have := a1 r hr
      omega
theorem pagesL_len : ∀ {L : List Pg}, (∀ p ∈ L, 1 ≤ p.span) → ((pagesL L).length : Int) = granted L
  | [], _ => rfl
  | p :: L, h1 => by
    have ih := pagesL_len (L := L) (fun r hr => h1 r (List.mem_cons_of_mem _ hr))
    have hp := h1 p (by simp)
    unfold pagesL granted at *
    simp only [List.flatMap_cons, List.length_append, List.length_map, List.length_range, List.map_cons, List.sum_cons]
    omega

theorem Lay.keys (l : Lay pg W L) (hs : Sl.Rising pg) : pg.map (fun p => p.1) = pagesL L := by
  refine eq_of_rise _ _ ?_ (pagesL_rise l.srt (fun p hp => (l.ent p hp).span.1)) (fun k => ?_)
  · rw [List.pairwise_map]
    exact hs
  · rw [mem_keys, mem_pagesL]
    exact l.cov k
theorem Lay.len (l : Lay pg W L) (hs : Sl.Rising pg) : (pg.length : Int) = granted L := by
  have := congrArg List.length (l.keys hs)
  rw [List.length_map] at this
  rw [this]
  exact pagesL_len (fun p hp => (l.ent p hp).span.1)
end

/-- A new page of small places, its first slot taken; a large block. -/
def smallPg (n c : Int) : Pg := ⟨n, 1, c, 1, 0, 1⟩
def largePg (n x : Int) : Pg := ⟨n, 2, 0, 0, x, Cl.pagI x⟩

theorem ent_smallPg {c : Int} (n : Int) (h0 : 0 ≤ c) (h1 : c ≤ 7) : Ent (smallPg n c) := by
  refine .inl ⟨rfl, h0, h1, show (1 : Int) ≠ 0 by decide, show (0 : Int) ≤ 1 ∧ (1 : Int) ≤ 18446744073709551615 by decide, ?_, rfl, rfl⟩
  show Bt.cutI (Cl.sloI c) 1 = 1
  rcases Cl.siz_cases c with ⟨_, _, _, a⟩ | ⟨_, _, _, a⟩ | ⟨_, _, _, a⟩ | ⟨_, _, _, a⟩ | ⟨_, _, _, a⟩ | ⟨_, _, _, a⟩ | ⟨_, _, _, a⟩ | ⟨_, _, _, a⟩ | ⟨a, _, _, _⟩
  case inr.inr.inr.inr.inr.inr.inr.inr => exact absurd ⟨h0, h1⟩ a
  all_goals rw [a]; decide
theorem ent_largePg {x : Int} (n : Int) (h0 : 1 ≤ x) (h1 : x ≤ 4000) (hs : Cl.smaI x = false) : Ent (largePg n x) := .inr ⟨rfl, rfl, rfl, h0, h1, hs, rfl⟩

end Hp
end Go.Proofs.YtlpdgomoepinjaaDoor
