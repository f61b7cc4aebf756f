/-
  Slots of a page, and what the calls make of the entries. No program is walked.
-/
import Derived.Test.YtlpdgomoepinjaaDoorHFit
import Derived.Test.YtlpdgomoepinjaaDoorHTake
namespace Go.Proofs.YtlpdgomoepinjaaDoor
namespace Hp

theorem has_set {t s k : Int} (hs : Bt.N s) (hk : Bt.N k) : Bt.hasI (Bt.setI t s) k = (Bt.hasI t k || decide (k = s)) := by
  have s0 := hs.1
  have k0 := hk.1
  rw [Bt.hasI_N hk, Bt.hasI_N hk, Bt.set_bit]
  congr 1
  by_cases e : k = s
  · subst e; simp
  · rw [decide_eq_false e, decide_eq_false (by omega)]
theorem has_clr {t s k : Int} (hs : Bt.N s) (hk : Bt.N k) : Bt.hasI (Bt.clrI t s) k = (Bt.hasI t k && !decide (k = s)) := by
  have s0 := hs.1
  have k0 := hk.1
  have k1 := hk.2
  rw [Bt.hasI_N hk, Bt.hasI_N hk, Bt.clr_bit hs (by omega)]
  congr 2
  by_cases e : k = s
  · subst e; simp
  · rw [decide_eq_false e, decide_eq_false (by omega)]

theorem N_of {n k : Int} (h0 : 0 ≤ k) (h1 : k < n) (h2 : n ≤ 31) : Bt.N k := ⟨h0, by omega⟩

/-- All of a word's bits are below n. -/
theorem cut_iff {t n : Int} (hU : Bt.U t) (h0 : 0 ≤ n) (h1 : n ≤ 31) : Bt.cutI n t = t ↔ ∀ j : Nat, (n : Int) ≤ j → j < 64 → t.toNat.testBit j = false := by
  have hm := Bt.mN_of n h0 (by omega)
  constructor
  · intro h j hj _
    have := Bt.cut_bit n t j
    rw [h] at this
    rw [this, decide_eq_false (by omega)]
    rfl
  · intro h
    refine Bt.ext (Bt.cutI_U n hU) hU fun j hj => ?_
    rw [Bt.cut_bit]
    by_cases hl : j < Bt.mN n
    · simp [hl]
    · rw [decide_eq_false hl, h j (by omega) hj]
      rfl

theorem cut_set {t n s : Int} (hU : Bt.U t) (h0 : 0 ≤ n) (h1 : n ≤ 31) (hc : Bt.cutI n t = t) (s0 : 0 ≤ s) (s1 : s < n) : Bt.cutI n (Bt.setI t s) = Bt.setI t s := by
  have hN : Bt.N s := N_of s0 s1 h1
  rw [cut_iff (Bt.setI_U hU hN) h0 h1]
  intro j hj hj2
  rw [Bt.set_bit, (cut_iff hU h0 h1).1 hc j hj hj2, decide_eq_false (by omega)]
  rfl
theorem cut_clr {t n s : Int} (hU : Bt.U t) (h0 : 0 ≤ n) (h1 : n ≤ 31) (hc : Bt.cutI n t = t) (s0 : 0 ≤ s) (s1 : s < n) : Bt.cutI n (Bt.clrI t s) = Bt.clrI t s := by
  have hN : Bt.N s := N_of s0 s1 h1
  rw [cut_iff (Bt.clrI_U hU) h0 h1]
  intro j hj hj2
  rw [Bt.clr_bit hN hj2, (cut_iff hU h0 h1).1 hc j hj hj2]
  rfl
theorem set_ne (t s : Int) : Bt.setI t s ≠ 0 := fun h => by
  have := Bt.set_bit t s s.toNat
  rw [h] at this
  simp at this

/-- A word below n is 0 just where no slot is taken. -/
theorem zero_iff {t n : Int} (hU : Bt.U t) (h0 : 0 ≤ n) (h1 : n ≤ 31) (hc : Bt.cutI n t = t) : t = 0 ↔ ∀ k, 0 ≤ k → k < n → Bt.hasI t k = false := by
  constructor
  · rintro rfl k h2 h3
    rw [Bt.hasI_N (N_of h2 h3 h1)]
    simp
  · intro h
    refine Bt.ext hU ⟨by omega, by omega⟩ fun j hj => ?_
    by_cases hl : (j : Int) < n
    · have := h j (by omega) hl
      rw [Bt.hasI_N (N_of (by omega) hl h1)] at this
      simpa using this
    · rw [(cut_iff hU h0 h1).1 hc j (by omega) hj]
      simp

theorem free_cases {t n : Int} (h0 : 0 ≤ n) (h1 : n ≤ 31) : (Bt.freI t n = -1 ∧ ∀ k, 0 ≤ k → k < n → Bt.hasI t k = true) ∨ (0 ≤ Bt.freI t n ∧ Bt.freI t n < n ∧ Bt.hasI t (Bt.freI t n) = false ∧ ∀ k, 0 ≤ k → k < Bt.freI t n → Bt.hasI t k = true) := by
  have hm := Bt.mN_of n h0 (by omega)
  unfold Bt.freI
  rcases Bt.fre_cases t.toNat (Bt.mN n) with ⟨a, b⟩ | ⟨k, a, b, c, d⟩
  · refine .inl ⟨a, fun k h2 h3 => ?_⟩
    rw [Bt.hasI_N (N_of h2 h3 h1)]
    exact b k.toNat (by omega)
  · rw [b]
    refine .inr ⟨by omega, by omega, ?_, fun j h2 h3 => ?_⟩
    · rw [Bt.hasI_N ⟨by omega, by omega⟩]
      simpa using c
    · rw [Bt.hasI_N ⟨by omega, by omega⟩]
      exact d j.toNat (by omega)

theorem mem_slots {p : Pg} {k : Int} : k ∈ slotsOf p ↔ (p.kind = 2 ∧ k = 0) ∨ (p.kind = 1 ∧ 0 ≤ k ∧ k < Cl.sloI p.cls ∧ Bt.hasI p.taken k = true) := by
  have hr := slo_range p.cls
  unfold slotsOf
  by_cases h2 : p.kind = 2
  · rw [if_pos h2]
    simp [h2]
  · rw [if_neg h2]
    by_cases h1 : p.kind = 1
    · rw [if_pos h1]
      unfold takenTo
      simp only [List.mem_filter, List.mem_map, List.mem_range]
      constructor
      · rintro ⟨⟨i, hi, rfl⟩, hh⟩
        exact .inr ⟨h1, by omega, by omega, hh⟩
      · rintro (⟨h, _⟩ | ⟨_, h3, h4, h5⟩)
        · exact absurd h h2
        · exact ⟨⟨k.toNat, by omega, by omega⟩, h5⟩
    · rw [if_neg h1]
      simp [h1, h2]

/-- The place of a slot of a right entry: within its pages, behind the head. -/
theorem place_in {p : Pg} (he : Ent p) {s : Int} (hs : p.kind = 1 → 0 ≤ s ∧ s < Cl.sloI p.cls) : 2 ≤ atI p s ∧ 1 ≤ roomI p ∧ roomI p ≤ 4000 ∧ atI p s + roomI p ≤ 64 * p.span := by
  unfold atI roomI
  rcases he with ⟨h1, h2, h3, _, _, _, _, h8⟩ | ⟨h1, _, _, h4, h5, _, h7⟩
  · rw [if_neg (by omega), if_neg (by omega), h8]
    have ec := errC_in h2 h3
    have hsl : Cl.Sl p.cls s := hs h1
    have := Cl.slot_fits ec hsl
    have := (Cl.siz_in ec).1
    have := (Cl.siz_in ec).2.1
    rw [Cl.plaI_in hsl]
    omega
  · rw [if_pos h1, if_pos h1, h7, Cl.pagI_in (show Cl.Wd p.words from ⟨h4, h5⟩)]
    omega

/-- Two slots of a page are apart. -/
theorem slots_apart {p : Pg} (he : Ent p) (h1 : p.kind = 1) {s r : Int} (hs : 0 ≤ s ∧ s < Cl.sloI p.cls) (hr : 0 ≤ r ∧ r < Cl.sloI p.cls) (hne : s ≠ r) : atI p s + roomI p ≤ atI p r ∨ atI p r + roomI p ≤ atI p s := by
  unfold atI roomI
  rw [if_neg (by omega), if_neg (by omega), if_neg (by omega), Cl.plaI_in hs, Cl.plaI_in hr]
  have hc : 0 ≤ p.cls ∧ p.cls ≤ 7 := by
    rcases he with ⟨_, h2, h3, _⟩ | ⟨h, _⟩
    · exact ⟨h2, h3⟩
    · omega
  have := (Cl.siz_in (errC_in hc.1 hc.2)).1
  rcases Int.lt_or_gt_of_ne hne with h | h
  · left
    have : (s + 1) * Cl.sizI p.cls ≤ r * Cl.sizI p.cls := Int.mul_le_mul_of_nonneg_right (by omega) (by omega)
    rw [Int.add_mul] at this
    omega
  · right
    have : (r + 1) * Cl.sizI p.cls ≤ s * Cl.sizI p.cls := Int.mul_le_mul_of_nonneg_right (by omega) (by omega)
    rw [Int.add_mul] at this
    omega

/-- A word of a block. -/
def Word (L : List Pg) (x : Int) : Prop := ∃ p ∈ L, ∃ s ∈ slotsOf p, ∃ i, 0 ≤ i ∧ i < roomI p ∧ x = addrI p s + i
/-- The words of the blocks stay. -/
def Same (L : List Pg) (W W' : Int → Int) : Prop := ∀ p ∈ L, ∀ s ∈ slotsOf p, ∀ i, 0 ≤ i → i < roomI p → W' (addrI p s + i) = W (addrI p s + i)

theorem slot_ok {p : Pg} {s : Int} (h : s ∈ slotsOf p) : p.kind = 1 → 0 ≤ s ∧ s < Cl.sloI p.cls := fun h1 => by
  rcases mem_slots.1 h with ⟨h2, _⟩ | ⟨_, h3, h4, _⟩
  · omega
  · exact ⟨h3, h4⟩

/-- A block's words are on its pages, behind the first one's head. -/
theorem word_page {p : Pg} (he : Ent p) {s i : Int} (hs : p.kind = 1 → 0 ≤ s ∧ s < Cl.sloI p.cls) (i0 : 0 ≤ i) (i1 : i < roomI p) : 64 * p.n + 2 ≤ addrI p s + i ∧ addrI p s + i < 64 * (p.n + p.span) := by
  have := place_in he hs
  unfold addrI
  omega

end Hp
end Go.Proofs.YtlpdgomoepinjaaDoor
