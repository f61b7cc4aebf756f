/-
  Plain facts on the arena of package slab: pages, quotas, spans, as numbers and lists. No Go text is named here.
-/
import Derived.KernelRfl
namespace Go.Proofs.YtlpdgomoepinjaaDoor
namespace Sl

def isCountB (n : Int) : Bool := decide (1 ≤ n ∧ n ≤ 4096)
def isPageB (n : Int) : Bool := decide (0 ≤ n ∧ n ≤ 1048575)
def isSpanB (a n : Int) : Bool := decide (0 ≤ a ∧ a < 67108864 ∧ 0 ≤ n ∧ n ≤ 262144 ∧ a + n ≤ 67108864)

/-- The block of a page, if it is granted. -/
def blk (pg : List (Int × Nat)) (k : Int) : Option Nat := (pg.find? fun p => p.1 == k).map fun p => p.2
def del (k : Int) (pg : List (Int × Nat)) : List (Int × Nat) := pg.filter fun p => !(p.1 == k)
def ins (k : Int) (b : Nat) : List (Int × Nat) → List (Int × Nat)
  | [] => [(k, b)]
  | p :: r => if k < p.1 then (k, b) :: p :: r else p :: ins k b r
def Rising (pg : List (Int × Nat)) : Prop := pg.Pairwise fun p q => p.1 < q.1

theorem blk_nil (k : Int) : blk [] k = none := rfl
theorem blk_cons (p : Int × Nat) (r : List (Int × Nat)) (k : Int) : blk (p :: r) k = if p.1 = k then some p.2 else blk r k := by
  unfold blk
  rw [List.find?_cons]
  by_cases h : p.1 = k
  · simp [h]
  · have h' : (p.1 == k) = false := by simpa using h
    simp [h', h]

theorem blk_none_iff {pg : List (Int × Nat)} {k : Int} : blk pg k = none ↔ ∀ p ∈ pg, p.1 ≠ k := by
  induction pg with
  | nil => simp [blk_nil]
  | cons p r ih =>
    rw [blk_cons]
    by_cases h : p.1 = k
    · simp [h]
    · simp [h, ih]

theorem blk_mem {pg : List (Int × Nat)} {k : Int} {b : Nat} (h : blk pg k = some b) : (k, b) ∈ pg := by
  induction pg with
  | nil => simp [blk_nil] at h
  | cons p r ih =>
    rw [blk_cons] at h
    by_cases e : p.1 = k
    · simp [e] at h
      subst h; subst e
      simp
    · simp [e] at h
      exact List.mem_cons_of_mem _ (ih h)

theorem blk_of_mem {pg : List (Int × Nat)} (hs : Rising pg) {k : Int} {b : Nat} (h : (k, b) ∈ pg) : blk pg k = some b := by
  induction pg with
  | nil => simp at h
  | cons p r ih =>
    obtain ⟨h1, h2⟩ := List.pairwise_cons.1 hs
    rw [blk_cons]
    rcases List.mem_cons.1 h with rfl | h'
    · simp
    · have := h1 _ h'
      rw [if_neg (by intro e; simp at this; omega)]
      exact ih h2 h'

theorem del_none {pg : List (Int × Nat)} {k : Int} (h : blk pg k = none) : del k pg = pg := by
  unfold del
  rw [List.filter_eq_self]
  intro p hp
  have := blk_none_iff.1 h p hp
  simpa using this

theorem mem_ins {k : Int} {b : Nat} {pg : List (Int × Nat)} {p : Int × Nat} : p ∈ ins k b pg ↔ p = (k, b) ∨ p ∈ pg := by
  induction pg with
  | nil => simp [ins]
  | cons q r ih =>
    unfold ins
    split
    · simp
    · simp only [List.mem_cons, ih]
      constructor
      · rintro (h | h | h)
        · exact Or.inr (Or.inl h)
        · exact Or.inl h
        · exact Or.inr (Or.inr h)
      · rintro (h | h | h)
        · exact Or.inr (Or.inl h)
        · exact Or.inl h
        · exact Or.inr (Or.inr h)

theorem ins_length (k : Int) (b : Nat) (pg : List (Int × Nat)) : (ins k b pg).length = pg.length + 1 := by
  induction pg with
  | nil => rfl
  | cons q r ih =>
    unfold ins
    split
    · rfl
    · simp [ih]

theorem ins_rising {k : Int} {b : Nat} {pg : List (Int × Nat)} (hs : Rising pg) (hn : blk pg k = none) : Rising (ins k b pg) := by
  induction pg with
  | nil => simp [ins, Rising]
  | cons q r ih =>
    obtain ⟨h1, h2⟩ := List.pairwise_cons.1 hs
    have hn' := blk_none_iff.1 hn
    have hq : q.1 ≠ k := hn' q (by simp)
    have hr : blk r k = none := blk_none_iff.2 fun p hp => hn' p (List.mem_cons_of_mem _ hp)
    unfold ins
    split
    · rename_i hlt
      refine List.pairwise_cons.2 ⟨fun p hp => ?_, hs⟩
      rcases List.mem_cons.1 hp with rfl | hp
      · exact hlt
      · have := h1 p hp
        show k < p.1
        omega
    · rename_i hlt
      refine List.pairwise_cons.2 ⟨fun p hp => ?_, ih h2 hr⟩
      rcases mem_ins.1 hp with rfl | hp
      · show q.1 < k
        omega
      · exact h1 p hp

theorem blk_ins {k j : Int} {b : Nat} {pg : List (Int × Nat)} (hs : Rising pg) (hn : blk pg k = none) : blk (ins k b pg) j = if j = k then some b else blk pg j := by
  have hr := ins_rising (b := b) hs hn
  by_cases e : j = k
  · subst e
    rw [if_pos rfl]
    exact blk_of_mem hr (mem_ins.2 (Or.inl rfl))
  · rw [if_neg e]
    cases hb : blk pg j with
    | none =>
      refine blk_none_iff.2 fun p hp => ?_
      rcases mem_ins.1 hp with rfl | hp
      · exact fun h => e h.symm
      · exact blk_none_iff.1 hb p hp
    | some c => exact blk_of_mem hr (mem_ins.2 (Or.inr (blk_mem hb)))

theorem del_rising {k : Int} {pg : List (Int × Nat)} (hs : Rising pg) : Rising (del k pg) := hs.filter _
theorem mem_del {k : Int} {pg : List (Int × Nat)} {p : Int × Nat} : p ∈ del k pg ↔ p ∈ pg ∧ p.1 ≠ k := by simp [del]

theorem blk_del {k j : Int} {pg : List (Int × Nat)} (hs : Rising pg) : blk (del k pg) j = if j = k then none else blk pg j := by
  by_cases e : j = k
  · subst e
    rw [if_pos rfl]
    exact blk_none_iff.2 fun p hp => (mem_del.1 hp).2
  · rw [if_neg e]
    cases hb : blk pg j with
    | none => exact blk_none_iff.2 fun p hp => blk_none_iff.1 hb p (mem_del.1 hp).1
    | some c => exact blk_of_mem (del_rising hs) (mem_del.2 ⟨blk_mem hb, e⟩)

theorem del_length {k : Int} {b : Nat} {pg : List (Int × Nat)} (hs : Rising pg) (h : blk pg k = some b) : (del k pg).length + 1 = pg.length := by
  induction pg with
  | nil => simp [blk_nil] at h
  | cons q r ih =>
    obtain ⟨h1, h2⟩ := List.pairwise_cons.1 hs
    by_cases e : q.1 = k
    · have hr : blk r k = none := blk_none_iff.2 fun p hp => by have := h1 p hp; omega
      have : del k (q :: r) = r := by
        have h0 := del_none hr
        simp [del, e] at h0 ⊢
        exact h0
      rw [this]
      rfl
    · rw [blk_cons, if_neg e] at h
      have := ih h2 h
      have hd : del k (q :: r) = q :: del k r := by simp [del, e]
      rw [hd]
      simp
      omega

/-- Are n pages from one on all granted? -/
def allIn (pg : List (Int × Nat)) (f : Int) (n : Nat) : Bool := (List.range n).all fun i => (blk pg (f + (i : Int))).isSome

theorem allIn_iff {pg : List (Int × Nat)} {f : Int} {n : Nat} : allIn pg f n = true ↔ ∀ i : Nat, i < n → (blk pg (f + (i : Int))).isSome = true := by
  simp [allIn]
theorem allIn_zero (pg : List (Int × Nat)) (f : Int) : allIn pg f 0 = true := rfl
theorem allIn_succ {pg : List (Int × Nat)} {f : Int} {k : Nat} (h : allIn pg f k = true) (hb : (blk pg (f + (k : Int))).isSome = true) : allIn pg f (k + 1) = true := by
  rw [allIn_iff] at h ⊢
  intro i hi
  rcases Nat.lt_or_eq_of_le (Nat.le_of_lt_succ hi) with h' | h'
  · exact h i h'
  · rw [h']; exact hb
theorem allIn_not {pg : List (Int × Nat)} {f : Int} {k n : Nat} (hk : k < n) (hb : (blk pg (f + (k : Int))).isSome = false) : allIn pg f n = false := by
  cases h : allIn pg f n with
  | false => rfl
  | true => have := allIn_iff.1 h k hk; rw [hb] at this; cases this

theorem nd_inj {pg : List (Int × Nat)} (h : (pg.map fun p => p.2).Nodup) {p r : Int × Nat} (hp : p ∈ pg) (hr : r ∈ pg) (e : p.2 = r.2) : p = r := by
  induction pg with
  | nil => simp at hp
  | cons x l ih =>
    have h3 : (x.2 ∉ l.map fun p => p.2) ∧ (l.map fun p => p.2).Nodup := List.nodup_cons.1 (by simpa using h)
    rcases List.mem_cons.1 hp with rfl | hp'
    · rcases List.mem_cons.1 hr with rfl | hr'
      · rfl
      · exact absurd (List.mem_map.2 ⟨r, hr', e.symm⟩) h3.1
    · rcases List.mem_cons.1 hr with rfl | hr'
      · exact absurd (List.mem_map.2 ⟨p, hp', e⟩) h3.1
      · exact ih h3.2 hp' hr'

theorem nd_del {pg : List (Int × Nat)} (h : (pg.map fun p => p.2).Nodup) (k : Int) : ((del k pg).map fun p => p.2).Nodup := by
  unfold del
  exact h.sublist (List.filter_sublist.map _)

end Sl
end Go.Proofs.YtlpdgomoepinjaaDoor
