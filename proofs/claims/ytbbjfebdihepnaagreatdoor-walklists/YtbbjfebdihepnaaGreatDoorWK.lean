/-
  Texts as the program holds them against each other; what ranks do.
-/
import Derived.Test.YtbbjfebdihepnaaGreatDoorWJ
import Derived.Laws.Cover1
namespace Go.Proofs.YtbbjfebdihepnaaGreatDoor
open Go.RowKit Go.Maps
namespace Wa
open Go.Lib (compareBytes)

/-- What a tree has ranks where it stands. -/
theorem rank_self {P : List Pr} (hu : upP P) {i : Nat} {q : Pr} (hq : P[i]? = some q) : rankP P q.k = i := by
  obtain ⟨hlt, hv⟩ := List.getElem?_eq_some_iff.1 hq
  have hu2 := hu
  have hd : P = P.take i ++ q :: P.drop (i + 1) := by rw [← hv, ← List.drop_eq_getElem_cons hlt, List.take_append_drop]
  unfold upP at hu2
  rw [hd] at hu2
  obtain ⟨_, h2, h3⟩ := List.pairwise_append.1 hu2
  have e : rankP P q.k = rankP (P.take i) q.k + rankP (q :: P.drop (i + 1)) q.k := by
    unfold rankP
    rw [← List.countP_append, ← hd]
  have e1 : rankP (P.take i) q.k = i := by
    have e : rankP (P.take i) q.k = (P.take i).length := by
      unfold rankP
      refine List.countP_eq_length.2 fun p hp => ?_
      simpa using h3 p hp q (by simp)
    rw [e, List.length_take]
    omega
  have e2 : rankP (q :: P.drop (i + 1)) q.k = 0 := by
    unfold rankP
    refine List.countP_eq_zero.2 fun p hp => ?_
    simp only [decide_eq_true_eq]
    rcases List.mem_cons.1 hp with rfl | hp
    · rw [cmp_same]; omega
    · have := (List.pairwise_cons.1 h2).1 p hp
      rw [cmp_sw]; omega
  omega
theorem find_self {P : List Pr} (hu : upP P) {i : Nat} {q : Pr} (hq : P[i]? = some q) : findP P q.k = i := by
  have e := rank_self hu hq
  rcases find_cases P q.k with ⟨_, _, _, h⟩ | ⟨hn, _⟩
  · rw [h, e]
  · exact absurd rfl (hn q (by rw [e]; exact hq))

end Wa
end Go.Proofs.YtbbjfebdihepnaaGreatDoor
