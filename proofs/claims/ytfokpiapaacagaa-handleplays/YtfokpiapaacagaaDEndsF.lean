/-
  HandleEnds, over the slots alone: opening and closing again and again, decided for each of the 36 sizes.
-/
import Derived.Test.YtfokpiapaacagaaDPlain
namespace Go.Proofs.Ytfokpiapaacagaa
namespace Hd

/-- The slots behind n openings, each closed again; whether all were answered OK. -/
def endsAt (q z : Int) : Nat → List Sl × Bool
  | 0 => ([], true)
  | n + 1 =>
    let p := endsAt q z n
    let r := openL q z p.1 n
    let c := closeL r.2.2 r.1
    (c.2, p.2 && r.2.1 == 0 && c.1 == 0)

def endsOk (q z : Nat) : Bool :=
  let p := endsAt q z (q * z)
  p.2 && (openL q z p.1 7).1 == 0 && (openL q z p.1 7).2.1 == 10 && (openL q z p.1 7).2.2.length == q && (liveL (openL q z p.1 7).2.2).length == 0

theorem ends_all : ∀ q, q < 7 → 1 ≤ q → ∀ z, z < 7 → 1 ≤ z → endsOk q z = true := by decide +kernel

theorem ends_mono {q z : Int} : ∀ {n m : Nat}, n ≤ m → (endsAt q z m).2 = true → (endsAt q z n).2 = true
  | n, 0, h, hm => by
    obtain rfl : n = 0 := by omega
    exact hm
  | n, m + 1, h, hm => by
    by_cases e : n = m + 1
    · subst e
      exact hm
    · have : (endsAt q z m).2 = true := by
        simp only [endsAt, Bool.and_eq_true] at hm
        exact hm.1.1
      exact ends_mono (by omega) this

theorem ends_step {q z : Int} {n : Nat} (h : (endsAt q z (n + 1)).2 = true) : ∃ x, openL q z (endsAt q z n).1 n = (x, 0, (openL q z (endsAt q z n).1 n).2.2) ∧ closeL (openL q z (endsAt q z n).1 n).2.2 x = (0, (endsAt q z (n + 1)).1) := by
  simp only [endsAt, Bool.and_eq_true, beq_iff_eq] at h
  refine ⟨(openL q z (endsAt q z n).1 n).1, ?_, ?_⟩
  · rw [← h.1.2]
  · rw [← h.2]
    rfl

theorem ends_done {q z : Int} (q0 : 1 ≤ q) (q1 : q ≤ 6) (z0 : 1 ≤ z) (z1 : z ≤ 6) : ∃ t : Nat, (t : Int) = q * z ∧ t ≤ 36 ∧ (endsAt q z t).2 = true ∧ ∃ L, openL q z (endsAt q z t).1 7 = (0, 10, L) ∧ (L.length : Int) = q ∧ (liveL L).length = 0 := by
  obtain ⟨a, rfl⟩ : ∃ a : Nat, q = a := ⟨q.toNat, by omega⟩
  obtain ⟨b, rfl⟩ : ∃ b : Nat, z = b := ⟨z.toNat, by omega⟩
  have h := ends_all a (by omega) (by omega) b (by omega) (by omega)
  simp only [endsOk, Bool.and_eq_true, beq_iff_eq] at h
  obtain ⟨⟨⟨⟨h1, h2⟩, h3⟩, h4⟩, h5⟩ := h
  refine ⟨a * b, by simp, ?_, h1, (openL a b (endsAt a b (a * b)).1 7).2.2, ?_, by omega, h5⟩
  · have := Nat.mul_le_mul (show a ≤ 6 by omega) (show b ≤ 6 by omega)
    omega
  · rw [← h2, ← h3]

theorem openL_u64 {q z : Int} {L : List Sl} (h : Wf q z L) (a : Int) : 0 ≤ (openL q z L a).1 ∧ (openL q z L a).1 ≤ 18446744073709551615 := by
  have hq := h.q1
  have hz := h.z1
  have hl := h.len
  unfold openL
  split
  · simp
  · split
    · next i hi =>
      obtain ⟨s, hs, hf, _⟩ := freeAt_some hi
      have hk := h.get hs
      have h1 := hk.lo
      have h2 := hk.hi
      have hil := (List.getElem?_eq_some_iff.1 hs).1
      have hne : s.g ≠ z := by
        simp [fr] at hf
        exact hf.2
      rw [getD_of hs]
      simp only [nm]
      omega
    · split
      · simp only [nm]
        omega
      · simp

end Hd
end Go.Proofs.Ytfokpiapaacagaa
