/-
  The reference's arena in memory: a quota and a rising row of pages with their words.
-/
import Derived.Test.YtclbaepgodeoiaaAnswer
import Derived.Maps.AppendAt
import Derived.Deep.MidRow
namespace Go.Proofs.Ytclbaepgodeoiaa
open Go.RowKit Go.Maps
namespace Sl

/-- A page as the reference lays it: its number, then its 64 words. -/
def pageArr (W : Int → Int) (N : Int) : Array Value := #[.int .i64 N] ++ words W N

theorem pageArr_size (W : Int → Int) (N : Int) : (pageArr W N).size = 65 := by simp [pageArr, words_size]
theorem pageArr_zero (W : Int → Int) (N : Int) : (pageArr W N)[0]? = some (.int .i64 N) := by
  unfold pageArr
  rw [Array.getElem?_append_left (by simp)]
  simp
theorem pageArr_word (W : Int → Int) (N : Int) (j : Nat) (h : j < 64) : (pageArr W N)[1 + j]? = some (.int .u64 (W (64 * N + j))) := by
  unfold pageArr
  rw [Array.getElem?_append_right (by simp), show 1 + j - #[Value.int IntKind.i64 N].size = j from by simp, words_get _ _ _ h]

def flat (W : Int → Int) (K : List Int) : List Value := K.flatMap fun N => (pageArr W N).toList

theorem flat_nil (W : Int → Int) : flat W [] = [] := rfl
theorem flat_cons (W : Int → Int) (N : Int) (K : List Int) : flat W (N :: K) = (pageArr W N).toList ++ flat W K := rfl
theorem flat_append (W : Int → Int) (K L : List Int) : flat W (K ++ L) = flat W K ++ flat W L := by simp [flat]
theorem flat_one (W : Int → Int) (N : Int) : flat W [N] = (pageArr W N).toList := by simp [flat]
theorem flat_length (W : Int → Int) (K : List Int) : (flat W K).length = K.length * 65 := by
  induction K with
  | nil => rfl
  | cons N K ih =>
    rw [flat_cons, List.length_append, ih, Array.length_toList, pageArr_size]
    simp
    omega

theorem flat_get (W : Int → Int) (K : List Int) (i : Nat) (N : Int) (j : Nat) (h : K[i]? = some N) (hj : j < 65) : (flat W K)[i * 65 + j]? = (pageArr W N)[j]? := by
  induction K generalizing i with
  | nil => simp at h
  | cons M K ih =>
    have hl : (pageArr W M).toList.length = 65 := by rw [Array.length_toList, pageArr_size]
    rw [flat_cons]
    cases i with
    | zero =>
      simp at h
      subst h
      rw [List.getElem?_append_left (by omega)]
      simp
    | succ i =>
      rw [List.getElem?_append_right (by omega), hl, show (i + 1) * 65 + j - 65 = i * 65 + j from by omega]
      exact ih i (by simpa using h)

theorem flat_take (W : Int → Int) (K : List Int) (k : Nat) (h : k ≤ K.length) : (flat W K).take (k * 65) = flat W (K.take k) := by
  have e : flat W K = flat W (K.take k) ++ flat W (K.drop k) := by rw [← flat_append, List.take_append_drop]
  have hl : (flat W (K.take k)).length = k * 65 := by rw [flat_length, List.length_take, Nat.min_eq_left h]
  rw [e, ← hl, List.take_left']
  rfl

theorem flat_drop (W : Int → Int) (K : List Int) (k : Nat) (h : k ≤ K.length) : (flat W K).drop (k * 65) = flat W (K.drop k) := by
  have e : flat W K = flat W (K.take k) ++ flat W (K.drop k) := by rw [← flat_append, List.take_append_drop]
  have hl : (flat W (K.take k)).length = k * 65 := by rw [flat_length, List.length_take, Nat.min_eq_left h]
  rw [e, ← hl, List.drop_left']
  rfl

theorem flat_oneCell (W : Int → Int) (K : List Int) : ∀ u ∈ flat W K, u.oneCell' = true := by
  intro u hu
  simp only [flat, List.mem_flatMap] at hu
  obtain ⟨N, _, hu⟩ := hu
  simp [pageArr, words] at hu
  rcases hu with rfl | ⟨j, _, rfl⟩ <;> rfl

theorem flat_congr {W W' : Int → Int} {K : List Int} (h : ∀ N ∈ K, ∀ j : Nat, j < 64 → W (64 * N + j) = W' (64 * N + j)) : flat W K = flat W' K := by
  unfold flat
  rw [List.flatMap_def, List.flatMap_def]
  congr 1
  apply List.map_congr_left
  intro N hN
  unfold pageArr words
  congr 2
  apply Array.map_congr_left
  intro j hj
  rw [h N hN j (by simpa using hj)]

/-- The pages' row, at block g. -/
structure RowAt (w : World) (g : Nat) (a : Option Addr) (cap : Nat) (K : List Int) (W : Int → Int) : Prop where
  ix : ∀ i : Nat, i < K.length → ∀ w', (Instr.indexAt 28 (.slice a K.length cap) (.int .i64 (i : Int))).run Try.prog w' = .ok (.pointer (some ⟨g, i * 65, none⟩)) w'
  lt : 0 < K.length → g < w.heap.size
  num : ∀ (i : Nat) (N : Int), K[i]? = some N → w.cell? ⟨g, i * 65, none⟩ = some (.int .i64 N)
  word : ∀ (i : Nat) (N : Int) (j : Nat), K[i]? = some N → j < 64 → w.cell? ⟨g, i * 65 + 1 + j, none⟩ = some (.int .u64 (W (64 * N + j)))

theorem RowAt.stays {w w' : World} {g : Nat} {a : Option Addr} {cap : Nat} {K : List Int} {W : Int → Int} (h : RowAt w g a cap K W) {B : Nat} (hb : Below B w w') (hlt : 0 < K.length → g < B) : RowAt w' g a cap K W := by
  have key : ∀ (i : Nat) (N : Int), K[i]? = some N → g < B := fun i N hi => hlt (by have := (List.getElem?_eq_some_iff.1 hi).1; omega)
  exact ⟨h.ix, fun h0 => Nat.lt_of_lt_of_le (h.lt h0) hb.size, fun i N hi => (hb.cell (p := ⟨g, i * 65, none⟩) (key i N hi)).trans (h.num i N hi), fun i N j hi hj => (hb.cell (p := ⟨g, i * 65 + 1 + j, none⟩) (key i N hi)).trans (h.word i N j hi hj)⟩

theorem run_ixp (g len cap : Nat) (i : Nat) (hi : i < len) (w' : World) : (Instr.indexAt 28 (.slice (some ⟨g, 0, none⟩) len cap) (.int .i64 (i : Int))).run Try.prog w' = .ok (.pointer (some ⟨g, i * 65, none⟩)) w' := by
  have hel : Try.prog.elem 28 = 49 := by kernel_rfl
  have hsz : (sizeOf 49).run Try.prog w' = .ok 65 w' := by kernel_rfl
  have hu : Try.prog.underlying 28 = some (.slice (Try.prog.elem 28)) := by kernel_rfl
  rw [run_indexAt_slice w' 28 _ len cap .i64 i hu, if_pos (by omega), hel, hsz]
  simp only [Result.andThen_ok, Int.toNat_natCast]
  rw [Go.WideShapes.add_plain, Nat.zero_add]

theorem row_at {w : World} {B : Nat} {a : Option Addr} {cap : Nat} {K : List Int} {W : Int → Int} (h : w.ownsRow B 49 65 (.slice a K.length cap) K.length (flat W K)) : ∃ g, RowAt w g a cap K W ∧ (a = some ⟨g, 0, none⟩ ∨ (a = none ∧ K = [] ∧ cap = 0)) := by
  rcases h.2 with ⟨h1, h0⟩ | ⟨g, cap', cur, h1, hbase, hbk, h2, h3, h4, h5⟩
  · have hK : K = [] := List.eq_nil_of_length_eq_zero h0
    subst hK
    simp at h1
    exact ⟨0, ⟨fun i hi => by simp at hi, fun h => by simp at h, fun i N hi => by simp at hi, fun i N j hi => by simp at hi⟩, Or.inr ⟨h1.1, rfl, h1.2⟩⟩
  · simp at h1
    obtain ⟨rfl, rfl⟩ := h1
    have cell : ∀ (i : Nat) (N : Int) (j : Nat), K[i]? = some N → j < 65 → w.cell? ⟨g, i * 65 + j, none⟩ = (pageArr W N)[j]? := fun i N j hi hj => by
      have hil : i < K.length := (List.getElem?_eq_some_iff.1 hi).1
      have e : (cur.toList.take (K.length * 65))[i * 65 + j]? = (pageArr W N)[j]? := by
        rw [h5]
        exact flat_get W K i N j hi hj
      rw [List.getElem?_take_of_lt (by omega)] at e
      simp only [World.cell?, hbk]
      simpa using e
    refine ⟨g, ⟨fun i hi w' => run_ixp g _ _ i hi w', fun _ => lt_of_get hbk, fun i N hi => ?_, fun i N j hi hj => ?_⟩, Or.inl rfl⟩
    · have := cell i N 0 hi (by omega)
      rw [pageArr_zero] at this
      simpa using this
    · have := cell i N (1 + j) hi (by omega)
      rw [pageArr_word _ _ _ hj] at this
      rw [Nat.add_assoc]
      exact this

end Sl
end Go.Proofs.Ytclbaepgodeoiaa
