/-
  Texts as the program holds them against each other; what ranks do.
-/
import Derived.Test.YtbbjfebdihepnaaGreatDoorWJ
import Derived.Laws.Cover1
namespace Go.Proofs.YtbbjfebdihepnaaGreatDoor
open Go.RowKit Go.Maps
namespace Wa
open Go.Lib (compareBytes)

theorem less_cmp : ∀ a b : List UInt8, Op.bytesLess a b = decide (compareBytes a b < 0)
  | [], [] => by simp [Op.bytesLess, compareBytes]
  | _ :: _, [] => by simp [Op.bytesLess, compareBytes]
  | [], _ :: _ => by simp [Op.bytesLess, compareBytes]
  | a :: x, b :: y => by
    rw [Op.bytesLess, less_cmp x y, Tx.cmp_cons]
    by_cases h1 : a.toNat < b.toNat
    · have h2 : a < b := UInt8.lt_iff_toNat_lt.2 h1
      rw [if_pos h1]
      simp [h2]
    · have h2 : ¬ a < b := fun h => h1 (UInt8.lt_iff_toNat_lt.1 h)
      rw [if_neg h1]
      by_cases h3 : b.toNat < a.toNat
      · have h4 : (a == b) = false := by
          simp only [beq_eq_false_iff_ne, ne_eq]
          rintro rfl
          omega
        rw [if_pos h3, h4]
        simp [h2]
      · have h4 : a = b := UInt8.toNat_inj.1 (by omega)
        rw [if_neg h3, h4]
        simp
theorem lss_cmp (a b : ByteArray) : Op.bytesLess a.toList b.toList = decide (cmp a b < 0) := by
  rw [less_cmp, Lib.toList_data, Lib.toList_data]
  rfl
theorem eql_cmp (a b : ByteArray) : (a.toList == b.toList) = decide (cmp a b = 0) := by
  rw [Lib.toList_data, Lib.toList_data]
  by_cases h : cmp a b = 0
  · obtain rfl := cmp_eq h
    simp [h]
  · rw [decide_eq_false h]
    simp only [beq_eq_false_iff_ne, ne_eq]
    intro e
    refine h ?_
    unfold cmp
    rw [e]
    exact Tx.cmp_self _
theorem lss_of {a b : ByteArray} {p : Bool} (h : decide (cmp a b < 0) = p) : Op.bytesLess a.toList b.toList = p := by rw [lss_cmp, h]
theorem eql_of {a b : ByteArray} {p : Bool} (h : decide (cmp a b = 0) = p) : (a.toList == b.toList) = p := by rw [eql_cmp, h]

theorem rank_mono {P : List Pr} {a b : ByteArray} (h : cmp a b ≤ 0) : rankP P a ≤ rankP P b := by
  unfold rankP
  refine List.countP_mono_left fun p _ hp => ?_
  simp only [decide_eq_true_eq] at hp ⊢
  exact (Tx.cmp_trans _ _ _ (Int.le_of_lt hp) h).2 hp

theorem cmp_snoc : ∀ x a : List UInt8, compareBytes x (a ++ [0]) < 0 ↔ compareBytes x a ≤ 0
  | [], [] => by simp [compareBytes]
  | [], b :: y => by simp [compareBytes]
  | a :: x, [] => by
    have h0 : ¬ a.toNat < (0 : UInt8).toNat := by simp
    have h1 : 0 ≤ compareBytes x [] := by cases x <;> simp [compareBytes]
    rw [List.nil_append, Tx.cmp_cons, if_neg h0]
    have h2 : compareBytes (a :: x) [] = 1 := by simp [compareBytes]
    rw [h2]
    split <;> omega
  | a :: x, b :: y => by
    rw [List.cons_append, Tx.cmp_cons, Tx.cmp_cons]
    split
    · omega
    · split
      · omega
      · exact cmp_snoc x y
theorem cmp_behind (x a : ByteArray) : cmp x (a ++ ⟨#[0]⟩) < 0 ↔ cmp x a ≤ 0 := by
  have e : (a ++ ⟨#[0]⟩ : ByteArray).data.toList = a.data.toList ++ [0] := by simp
  unfold cmp
  rw [e]
  exact cmp_snoc _ _

/-- A key that is there ranks one below what is just behind it. -/
theorem rank_snoc {P : List Pr} (hu : upP P) {key z : ByteArray} (hz : ∀ x, cmp x z < 0 ↔ cmp x key ≤ 0) : rankP P z = rankP P key + (if 0 ≤ findP P key then 1 else 0) := by
  obtain ⟨s1, s2⟩ := rank_split (key := key) hu
  obtain ⟨_, u2, _⟩ := up_take hu (rankP P key)
  have hr := rankP_le P key
  have fc := find_cases P key
  obtain ⟨r, er⟩ : ∃ r, rankP P key = r := ⟨_, rfl⟩
  rw [er] at s1 s2 u2 hr fc ⊢
  have e0 : rankP P z = rankP (P.take r) z + rankP (P.drop r) z := by
    unfold rankP
    rw [← List.countP_append, List.take_append_drop]
  have e1 : rankP (P.take r) z = r := by
    have e : rankP (P.take r) z = (P.take r).length := by
      unfold rankP
      refine List.countP_eq_length.2 fun p hp => ?_
      have := s1 p hp
      simp only [decide_eq_true_eq]
      exact (hz p.k).2 (by omega)
    rw [e, List.length_take]
    omega
  have none : ∀ l : List Pr, (∀ p ∈ l, 0 < cmp p.k key) → rankP l z = 0 := fun l hl => by
    unfold rankP
    refine List.countP_eq_zero.2 fun p hp => ?_
    have h1 := hl p hp
    simp only [decide_eq_true_eq]
    intro h
    have := (hz p.k).1 h
    omega
  have beh : ∀ {q : Pr} {l : List Pr}, upP (q :: l) → 0 ≤ cmp q.k key → ∀ p ∈ l, 0 < cmp p.k key := fun {q l} hl hq p hp => by
    have h1 := (List.pairwise_cons.1 hl).1 p hp
    have h2 : cmp key q.k ≤ 0 := by rw [cmp_sw]; omega
    have h3 : cmp key p.k ≤ 0 := (Tx.cmp_trans _ _ _ h2 (Int.le_of_lt h1)).1
    by_cases e : cmp key p.k = 0
    · have h4 := cmp_eq e
      rw [← h4] at h1
      omega
    · have h4 : cmp p.k key = -cmp key p.k := cmp_sw _ _
      omega
  rcases fc with ⟨q, hq, hk, e⟩ | ⟨hn, e⟩
  · have hd : P.drop r = q :: P.drop (r + 1) := by
      obtain ⟨hlt, hv⟩ := List.getElem?_eq_some_iff.1 hq
      rw [List.drop_eq_getElem_cons hlt, hv]
    have h0 : cmp q.k key = 0 := by rw [hk, cmp_same]
    have e3 : rankP (q :: P.drop (r + 1)) z = rankP (P.drop (r + 1)) z + 1 := by
      unfold rankP
      rw [List.countP_cons_of_pos]
      simp only [decide_eq_true_eq]
      exact (hz q.k).2 (by omega)
    rw [hd] at u2
    rw [e0, e1, hd, e3, none _ (beh u2 (by omega)), e, if_pos (by omega)]
  · rw [e0, e1, e, if_neg (by omega)]
    cases hd : P.drop r with
    | nil => rfl
    | cons q l =>
      have hq : P[r]? = some q := by
        have := congrArg (fun l => l[0]?) hd
        simpa using this
      rw [hd] at u2 s2
      have h0 := s2 q (by simp)
      have h1 : cmp q.k key ≠ 0 := fun h => hn q hq (cmp_eq h)
      rw [none _ fun p hp => ?_]
      rcases List.mem_cons.1 hp with rfl | hp
      · omega
      · exact beh u2 h0 p hp

end Wa
end Go.Proofs.YtbbjfebdihepnaaGreatDoor
