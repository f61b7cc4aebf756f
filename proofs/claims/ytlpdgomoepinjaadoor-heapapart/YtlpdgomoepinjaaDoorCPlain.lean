/-
  The classes and the pages of blocks, with no program: what Size, Slots, Place, Of and Pages tell.
-/
import Derived.Below
namespace Go.Proofs.YtlpdgomoepinjaaDoor
namespace Cl

/-- The classes, each with its size. -/
def szs : List (Int × Int) := [(0, 2), (1, 3), (2, 4), (3, 6), (4, 9), (5, 13), (6, 19), (7, 28)]

/-- The first one of the classes of which f tells yes. -/
def hit (f : Int × Int → Bool) (l : List (Int × Int)) : Option (Int × Int) := l.find? f

theorem hit_on {f : Int × Int → Bool} {pre : List (Int × Int)} {x : Int × Int} (h : hit f pre = none) (hx : f x = true) : hit f (pre ++ [x]) = some x := by
  unfold hit at *
  rw [List.find?_append, h]
  simp [hx]
theorem hit_off {f : Int × Int → Bool} {pre : List (Int × Int)} {x : Int × Int} (h : hit f pre = none) (hx : f x = false) : hit f (pre ++ [x]) = none := by
  unfold hit at *
  rw [List.find?_append, h]
  simp [hx]
theorem hit_all {f : Int × Int → Bool} {pre : List (Int × Int)} {x : Int × Int} (hp : pre <+: szs) (h : hit f pre = some x) : hit f szs = some x := by
  obtain ⟨t, ht⟩ := hp
  unfold hit at *
  rw [← ht, List.find?_append, h]
  rfl

def isC (c : Int) (p : Int × Int) : Bool := p.1 == c
def fits (n : Int) (p : Int × Int) : Bool := decide (n ≤ p.2)

/-- A class. -/
def C (c : Int) : Prop := 0 ≤ c ∧ c ≤ 7

def sizI (c : Int) : Int := ((hit (isC c) szs).getD (0, 0)).2
def errC (c : Int) : Int := if (hit (isC c) szs).isSome then 0 else 2
def sloI (c : Int) : Int := if (hit (isC c) szs).isSome then 62 / sizI c else 0

/-- Words that a block may have. -/
def Wd (n : Int) : Prop := 1 ≤ n ∧ n ≤ 4000
def clsI (n : Int) : Int := if 1 ≤ n ∧ n ≤ 4000 then ((hit (fits n) szs).getD (0, 0)).1 else 0
def smaI (n : Int) : Bool := decide (1 ≤ n) && decide (n ≤ 4000) && (hit (fits n) szs).isSome
def errW (n : Int) : Int := if 1 ≤ n ∧ n ≤ 4000 then 0 else 2
def pagI (n : Int) : Int := if 1 ≤ n ∧ n ≤ 4000 then (n + 65) / 64 else 0

theorem siz_cases (c : Int) : (c = 0 ∧ sizI c = 2 ∧ errC c = 0 ∧ sloI c = 31) ∨ (c = 1 ∧ sizI c = 3 ∧ errC c = 0 ∧ sloI c = 20) ∨ (c = 2 ∧ sizI c = 4 ∧ errC c = 0 ∧ sloI c = 15) ∨ (c = 3 ∧ sizI c = 6 ∧ errC c = 0 ∧ sloI c = 10) ∨ (c = 4 ∧ sizI c = 9 ∧ errC c = 0 ∧ sloI c = 6) ∨ (c = 5 ∧ sizI c = 13 ∧ errC c = 0 ∧ sloI c = 4) ∨ (c = 6 ∧ sizI c = 19 ∧ errC c = 0 ∧ sloI c = 3) ∨ (c = 7 ∧ sizI c = 28 ∧ errC c = 0 ∧ sloI c = 2) ∨ (¬ C c ∧ sizI c = 0 ∧ errC c = 2 ∧ sloI c = 0) := by
  by_cases h : C c
  · have h0 := h.1
    have h1 := h.2
    have : c = 0 ∨ c = 1 ∨ c = 2 ∨ c = 3 ∨ c = 4 ∨ c = 5 ∨ c = 6 ∨ c = 7 := by omega
    rcases this with rfl | rfl | rfl | rfl | rfl | rfl | rfl | rfl <;> (unfold C; decide)
  · have hh : hit (isC c) szs = none := by
      unfold hit
      rw [List.find?_eq_none]
      intro p hp
      simp only [szs, List.mem_cons, List.not_mem_nil, or_false] at hp
      unfold C at h
      unfold isC
      rcases hp with rfl | rfl | rfl | rfl | rfl | rfl | rfl | rfl <;> simp only [beq_iff_eq] <;> omega
    refine .inr (.inr (.inr (.inr (.inr (.inr (.inr (.inr ⟨h, ?_, ?_, ?_⟩)))))))
    · unfold sizI
      rw [hh]
      rfl
    · unfold errC
      rw [hh]
      rfl
    · unfold sloI
      rw [hh]
      rfl

theorem find_cons_no {n c s : Int} {l : List (Int × Int)} (h : s < n) : hit (fits n) ((c, s) :: l) = hit (fits n) l := by
  unfold hit
  rw [List.find?_cons_of_neg]
  simp [fits]
  omega
theorem find_cons_yes {n c s : Int} {l : List (Int × Int)} (h : n ≤ s) : hit (fits n) ((c, s) :: l) = some (c, s) := by
  unfold hit
  rw [List.find?_cons_of_pos]
  simp [fits]
  omega

theorem of_small {n c s : Int} (h : Wd n) (hh : hit (fits n) szs = some (c, s)) : clsI n = c ∧ smaI n = true := by
  constructor
  · unfold clsI
    rw [if_pos (show 1 ≤ n ∧ n ≤ 4000 from h), hh]
    rfl
  · unfold smaI
    rw [hh, decide_eq_true h.1, decide_eq_true h.2]
    rfl
theorem of_large {n : Int} (hh : hit (fits n) szs = none) : clsI n = 0 ∧ smaI n = false := by
  constructor
  · unfold clsI
    rw [hh]
    split <;> rfl
  · unfold smaI
    rw [hh]
    simp

theorem errW_in {n : Int} (h : Wd n) : errW n = 0 := if_pos h
theorem errW_out {n : Int} (h : ¬ Wd n) : errW n = 2 := if_neg h
theorem pagI_in {n : Int} (h : Wd n) : pagI n = (n + 65) / 64 := if_pos h
theorem pagI_out {n : Int} (h : ¬ Wd n) : pagI n = 0 := if_neg h
theorem clsI_out {n : Int} (h : ¬ Wd n) : clsI n = 0 := if_neg h
theorem smaI_out {n : Int} (h : ¬ Wd n) : smaI n = false := by
  unfold smaI
  unfold Wd at h
  by_cases h0 : 1 ≤ n
  · have : ¬ n ≤ 4000 := by omega
    simp [this]
  · simp [h0]

/-- What Of tells of words that a block may have. -/
theorem of_cases (n : Int) (h : Wd n) : (n ≤ 2 ∧ clsI n = 0 ∧ smaI n = true) ∨ (2 < n ∧ n ≤ 3 ∧ clsI n = 1 ∧ smaI n = true) ∨ (3 < n ∧ n ≤ 4 ∧ clsI n = 2 ∧ smaI n = true) ∨ (4 < n ∧ n ≤ 6 ∧ clsI n = 3 ∧ smaI n = true) ∨ (6 < n ∧ n ≤ 9 ∧ clsI n = 4 ∧ smaI n = true) ∨ (9 < n ∧ n ≤ 13 ∧ clsI n = 5 ∧ smaI n = true) ∨ (13 < n ∧ n ≤ 19 ∧ clsI n = 6 ∧ smaI n = true) ∨ (19 < n ∧ n ≤ 28 ∧ clsI n = 7 ∧ smaI n = true) ∨ (28 < n ∧ clsI n = 0 ∧ smaI n = false) := by
  by_cases h0 : n ≤ 2
  · exact .inl ⟨h0, of_small h (find_cons_yes h0)⟩
  refine .inr ?_
  by_cases h1 : n ≤ 3
  · exact .inl ⟨by omega, h1, of_small h (s := 3) (by unfold szs; rw [find_cons_no (by omega), find_cons_yes (by omega)])⟩
  refine .inr ?_
  by_cases h2 : n ≤ 4
  · exact .inl ⟨by omega, h2, of_small h (s := 4) (by unfold szs; rw [find_cons_no (by omega), find_cons_no (by omega), find_cons_yes (by omega)])⟩
  refine .inr ?_
  by_cases h3 : n ≤ 6
  · exact .inl ⟨by omega, h3, of_small h (s := 6) (by unfold szs; rw [find_cons_no (by omega), find_cons_no (by omega), find_cons_no (by omega), find_cons_yes (by omega)])⟩
  refine .inr ?_
  by_cases h4 : n ≤ 9
  · exact .inl ⟨by omega, h4, of_small h (s := 9) (by unfold szs; rw [find_cons_no (by omega), find_cons_no (by omega), find_cons_no (by omega), find_cons_no (by omega), find_cons_yes (by omega)])⟩
  refine .inr ?_
  by_cases h5 : n ≤ 13
  · exact .inl ⟨by omega, h5, of_small h (s := 13) (by unfold szs; rw [find_cons_no (by omega), find_cons_no (by omega), find_cons_no (by omega), find_cons_no (by omega), find_cons_no (by omega), find_cons_yes (by omega)])⟩
  refine .inr ?_
  by_cases h6 : n ≤ 19
  · exact .inl ⟨by omega, h6, of_small h (s := 19) (by unfold szs; rw [find_cons_no (by omega), find_cons_no (by omega), find_cons_no (by omega), find_cons_no (by omega), find_cons_no (by omega), find_cons_no (by omega), find_cons_yes (by omega)])⟩
  refine .inr ?_
  by_cases h7 : n ≤ 28
  · exact .inl ⟨by omega, h7, of_small h (s := 28) (by unfold szs; rw [find_cons_no (by omega), find_cons_no (by omega), find_cons_no (by omega), find_cons_no (by omega), find_cons_no (by omega), find_cons_no (by omega), find_cons_no (by omega), find_cons_yes (by omega)])⟩
  · exact .inr ⟨by omega, of_large (by unfold szs; rw [find_cons_no (by omega), find_cons_no (by omega), find_cons_no (by omega), find_cons_no (by omega), find_cons_no (by omega), find_cons_no (by omega), find_cons_no (by omega), find_cons_no (by omega)]; rfl)⟩

end Cl
end Go.Proofs.YtlpdgomoepinjaaDoor
