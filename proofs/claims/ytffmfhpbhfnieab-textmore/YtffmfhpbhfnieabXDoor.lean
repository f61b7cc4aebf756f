/-
  Arguments that came in: rows of words, read cell by cell.
-/
import Derived.Test.YtffmfhpbhfnieabXSame
import Derived.ProofKit
import Derived.OpenShut
import Derived.ShutString
import Derived.ChangeOld
import Derived.Below
import Derived.Deep.Slices
namespace Go.Proofs.Ytffmfhpbhfnieab
open Go.RowKit Go.Maps Go.Deep Go.ChangeShapes Go.WideShapes Go.ChangeAt
namespace Tx
open Hp (Kept K No)

theorem i64_of_wf {a : Int} (h : (Lit.int .i64 a).wf = true) : -9223372036854775808 ≤ a ∧ a ≤ 9223372036854775807 := by
  simp only [Lit.wf, IntKind.min, IntKind.max, IntKind.signed, IntKind.bits, Bool.and_eq_true] at h
  simp at h
  omega
theorem u64_of_wf {a : Int} (h : (Lit.int .u64 a).wf = true) : 0 ≤ a ∧ a ≤ 18446744073709551615 := by
  simp only [Lit.wf, IntKind.min, IntKind.max, IntKind.signed, IntKind.bits, Bool.and_eq_true] at h
  simp at h
  omega
theorem ownK : ownKnob Try.prog.godebug = none := by kernel_rfl
theorem laidOut : laidOutB Try.prog = true := by kernel_rfl

/-- A slice that came in, its elements of m cells. -/
theorem rows_of {α : Type} {H : Type} {enc : TypeId × Value → H} {W : World} {base : Nat} {sp : Nat → Bool} {held : Bool} {fuel : Nat} {a : Option Addr} {len cap m : Nat} {t e : TypeId} {x : DataW H × List MemPlace} (hu : Try.prog.underlying t = some (.slice e)) (ce : Try.prog.cellsOf e = m) (At : Nat → Nat → α → Prop) (Q : α → Prop) (d : α) (hd : Q d)
    (el : ∀ (ad : Addr) (cs : List Value) (n : Nat) (y : DataW H × List MemPlace), W.cells? base ad m = some cs → DataW.trod enc Try.prog W base sp held n e cs = some y → ∃ b off o, ad = ⟨b, off, none⟩ ∧ At b off o ∧ Q o)
    (h : DataW.trod enc Try.prog W base sp held fuel t [.slice a len cap] = some x) : len ≤ maxLen ∧ ∃ (b off : Nat) (z : Nat → α), (0 < len → a = some ⟨b, off, none⟩) ∧ (∀ j, j < len → At b (off + j * m) (z j)) ∧ ∀ j, Q (z j) := by
  rcases open_slice hu h with ⟨hcs, _⟩ | ⟨ad, l, c, k, n, D, Pl, hcs, _, hl, hm, hmm, _, hx⟩
  · simp at hcs
    obtain ⟨rfl, rfl, rfl⟩ := hcs
    exact ⟨Nat.zero_le _, 0, 0, fun _ => d, fun h => by omega, fun j hj => by omega, fun _ => hd⟩
  · simp at hcs
    obtain ⟨rfl, rfl, rfl⟩ := hcs
    refine ⟨Nat.le_trans hl hm, ?_⟩
    have hlm : len ≤ k := by rw [hmm]; split <;> omega
    by_cases h0 : len = 0
    · subst h0
      exact ⟨0, 0, fun _ => d, fun h => by omega, fun j hj => by omega, fun _ => hd⟩
    · rw [ce] at hx
      have each : ∀ i, i < k → ∃ (b off : Nat) (o : α), ad.add (i * m) = ⟨b, off, none⟩ ∧ At b off o ∧ Q o := fun i hi => by
        obtain ⟨cs', h1, h2⟩ := hx i hi
        exact el _ _ _ _ h1 h2
      obtain ⟨b0, off0, o0, e0, p0, _⟩ := each 0 (by omega)
      have had : ad = ⟨b0, off0, none⟩ := by simpa [Addr.add] using e0
      subst had
      have each2 : ∀ i, i < k → ∃ o : α, At b0 (off0 + i * m) o ∧ Q o := fun i hi => by
        obtain ⟨b, off, o, e, p, k⟩ := each i hi
        rw [Go.WideShapes.add_plain] at e
        cases e
        exact ⟨o, p, k⟩
      have hI : Inhabited α := ⟨d⟩
      obtain ⟨z, hz⟩ := choose_lt each2
      refine ⟨b0, off0, fun i => if i < k then z i else d, fun _ => rfl, fun j hj => ?_, fun j => ?_⟩
      · show At b0 (off0 + j * m) (if j < k then z j else d)
        rw [if_pos (by omega)]
        exact (hz j (by omega)).1
      · show Q (if j < k then z j else d)
        by_cases hj : j < k
        · rw [if_pos hj]
          exact (hz j hj).2
        · rw [if_neg hj]
          exact hd

theorem words_of {H : Type} {enc : TypeId × Value → H} {W : World} {base : Nat} {sp : Nat → Bool} {held : Bool} {fuel : Nat} {a : Option Addr} {len cap : Nat} {x : DataW H × List MemPlace} (h : DataW.trod enc Try.prog W base sp held fuel 23 [.slice a len cap] = some x) :
    ∃ b off L, L.length = len ∧ Src W a b off cap L := by
  have el : ∀ (ad : Addr) (cs : List Value) (n : Nat) (y : DataW H × List MemPlace), W.cells? base ad 1 = some cs → DataW.trod enc Try.prog W base sp held n 22 cs = some y → ∃ b off o, ad = ⟨b, off, none⟩ ∧ W.cell? ⟨b, off, none⟩ = some (.int .u64 o) ∧ (0 ≤ o ∧ o ≤ 18446744073709551615) := fun ad cs n y hc ht => by
    obtain ⟨_, hlen, hcell⟩ := World.cells?_some hc
    obtain ⟨z0, e0, _, k0⟩ := DataW.trod_int Try.underlying22 ht
    subst e0
    have r0 := hcell 0 (by omega)
    obtain ⟨b, off, spot⟩ := ad
    have hspot : spot = none := by simpa [Addr.add] using World.cell?_spot r0
    subst hspot
    rw [Go.WideShapes.add_plain] at r0
    exact ⟨b, off, z0, rfl, by simpa using r0, u64_of_wf k0⟩
  obtain ⟨hm, b, off, z, h1, h2, h3⟩ := rows_of Try.underlying23 (m := 1) (by kernel_rfl) (fun b off o => W.cell? ⟨b, off, none⟩ = some (.int .u64 o)) (fun o => 0 ≤ o ∧ o ≤ 18446744073709551615) 0 ⟨by decide, by decide⟩ el h
  refine ⟨b, off, (List.range len).map z, by simp, ⟨fun i hi w' => ?_, fun j x hj => ?_, fun x hx => ?_, by simpa using hm⟩⟩
  · rw [List.length_map, List.length_range] at hi ⊢
    rw [h1 (by omega)]
    exact ixW b off len cap i hi w'
  · have hjl := (List.getElem?_eq_some_iff.1 hj).1
    rw [List.length_map, List.length_range] at hjl
    have e : x = z j := by simpa [hjl] using hj.symm
    subst e
    simpa using h2 j hjl
  · obtain ⟨i, _, rfl⟩ := List.mem_map.1 hx
    exact h3 i

end Tx
end Go.Proofs.Ytffmfhpbhfnieab
