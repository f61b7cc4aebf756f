/-
  What the rows' condition on math/bits' table gives the walks, and that the program's own start meets it.
-/
import Derived.Test.YtbbjfebdihepnaaGreatDoorRows
import Derived.Test.YtbbjfebdihepnaaGreatDoorH5
import Derived.Lib.LaidTab
import Derived.LaidMore
import Derived.ProofKit
import Derived.OpenShut
import Derived.Stop.Joined
import Derived.WalkKit
import Derived.ShutString
import Derived.ChangeOld
import Derived.Below
namespace Go.Proofs.YtbbjfebdihepnaaGreatDoor
open Go.ChangeShapes Go.WideShapes Go.ChangeAt Go.RowKit
namespace Hp

theorem own : ownKnob Tryz.prog.godebug = none := by kernel_rfl
theorem gTab : Tryz.prog.globalNamed "math/bits.deBruijn64tab" = some 1 := by kernel_rfl
theorem tTab : (Tryz.prog.globals[1]?).map (·.type) = some 243 := by kernel_rfl
theorem cellsTab : Tryz.prog.cellsOf 243 = 64 := by kernel_rfl
theorem cellsU8 : Tryz.prog.cellsOf 5 = 1 := by kernel_rfl

abbrev laid1 : List (String × DataW Unit) := [("math/bits.deBruijn64tab", Rows.laid_math_bits_deBruijn64tab)]
def zs : List Int := Lib.deBruijn64tab.map fun (n : Nat) => (n : Int)

theorem door_met (os : Os) (args : Array Value) : laidMetH Tryz.prog laid1 ((World.doorLaid Tryz.prog 400 os).forCall (fun _ _ => 0) ⟨#[], args, []⟩).memory :=
  laidMetH_of_parts3 (fuel := 8) (laidMet_of_run' 8 (by kernel_rfl) (by kernel_rfl)) (by kernel_rfl) (by kernel_rfl)

theorem zs_at : ∀ j : Fin 64, zs.getD j.val 0 = ((Lib.deBruijn64tab.getD j.val 0 : Nat) : Int) := by decide +kernel

theorem tab_of_laid {W : World} (h : laidMetH Tryz.prog laid1 W) : Bt.Tab W := by
  rw [MakeChecks.laidMetH_plain _ _ _ (by kernel_rfl)] at h
  have e : (Rows.laid_math_bits_deBruijn64tab : DataW Unit) = Lib.tabData .u8 zs := by kernel_rfl
  have h2 : laidMet Tryz.prog [("math/bits.deBruijn64tab", Lib.tabData .u8 zs)] W := by
    rw [← e]
    exact h
  have hT := Lib.tabIs_of_head gTab tTab Tryz.underlying243 Tryz.underlying5 cellsU8 cellsTab h2
  intro j hj
  rw [hT.cell gTab j hj]
  exact congrArg (fun z => some (Value.int IntKind.u8 z)) (zs_at ⟨j, hj⟩)

end Hp
end Go.Proofs.YtbbjfebdihepnaaGreatDoor

/-
  Arguments that came in, read cell by cell: rows of ints, of calls.
-/
namespace Go.Proofs.YtbbjfebdihepnaaGreatDoor
open Go.RowKit Go.Maps Go.Deep Go.ChangeShapes Go.WideShapes Go.ChangeAt
namespace So
open Hp (Kept K No)

def In64 (a : Int) : Prop := -9223372036854775808 ≤ a ∧ a ≤ 9223372036854775807
theorem In64.of_wf {a : Int} (h : (Lit.int .i64 a).wf = true) : In64 a := by
  simp only [Lit.wf, IntKind.min, IntKind.max, IntKind.signed, IntKind.bits, Bool.and_eq_true] at h
  unfold In64
  simp at h
  omega
theorem u64_of_wf {a : Int} (h : (Lit.int .u64 a).wf = true) : 0 ≤ a ∧ a ≤ 18446744073709551615 := by
  simp only [Lit.wf, IntKind.min, IntKind.max, IntKind.signed, IntKind.bits, Bool.and_eq_true] at h
  simp at h
  omega

theorem laidOut : laidOutB Tryz.prog = true := by kernel_rfl

/-- A slice that came in, its elements of m cells. -/
theorem rows_of {α : Type} {H : Type} {enc : TypeId × Value → H} {W : World} {base : Nat} {sp : Nat → Bool} {held : Bool} {fuel : Nat} {a : Option Addr} {len cap m : Nat} {t e : TypeId} {x : DataW H × List MemPlace} (hu : Tryz.prog.underlying t = some (.slice e)) (ce : Tryz.prog.cellsOf e = m) (At : Nat → Nat → α → Prop) (Q : α → Prop) (d : α) (hd : Q d)
    (el : ∀ (ad : Addr) (cs : List Value) (n : Nat) (y : DataW H × List MemPlace), W.cells? base ad m = some cs → DataW.trod enc Tryz.prog W base sp held n e cs = some y → ∃ b off o, ad = ⟨b, off, none⟩ ∧ At b off o ∧ Q o)
    (h : DataW.trod enc Tryz.prog W base sp held fuel t [.slice a len cap] = some x) : len ≤ maxLen ∧ ∃ (b off : Nat) (z : Nat → α), (0 < len → a = some ⟨b, off, none⟩) ∧ (∀ j, j < len → At b (off + j * m) (z j)) ∧ ∀ j, Q (z j) := by
  rcases open_slice hu h with ⟨hcs, _⟩ | ⟨ad, l, c, k, n, D, Pl, hcs, _, hl, hm, hmm, _, hx⟩
  · simp at hcs
    obtain ⟨rfl, rfl, rfl⟩ := hcs
    exact ⟨Nat.zero_le _, 0, 0, fun _ => d, fun h => by omega, fun j hj => by omega, fun _ => hd⟩
  · simp at hcs
    obtain ⟨rfl, rfl, rfl⟩ := hcs
    refine ⟨Nat.le_trans hl hm, ?_⟩
    have hlm : len ≤ k := by rw [hmm]; split <;> omega
    by_cases h0 : len = 0
    · subst h0
      exact ⟨0, 0, fun _ => d, fun h => by omega, fun j hj => by omega, fun _ => hd⟩
    · rw [ce] at hx
      have each : ∀ i, i < k → ∃ (b off : Nat) (o : α), ad.add (i * m) = ⟨b, off, none⟩ ∧ At b off o ∧ Q o := fun i hi => by
        obtain ⟨cs', h1, h2⟩ := hx i hi
        exact el _ _ _ _ h1 h2
      obtain ⟨b0, off0, o0, e0, p0, _⟩ := each 0 (by omega)
      have had : ad = ⟨b0, off0, none⟩ := by simpa [Addr.add] using e0
      subst had
      have each2 : ∀ i, i < k → ∃ o : α, At b0 (off0 + i * m) o ∧ Q o := fun i hi => by
        obtain ⟨b, off, o, e, p, k⟩ := each i hi
        rw [Go.WideShapes.add_plain] at e
        cases e
        exact ⟨o, p, k⟩
      have hI : Inhabited α := ⟨d⟩
      obtain ⟨z, hz⟩ := choose_lt each2
      refine ⟨b0, off0, fun i => if i < k then z i else d, fun _ => rfl, fun j hj => ?_, fun j => ?_⟩
      · show At b0 (off0 + j * m) (if j < k then z j else d)
        rw [if_pos (by omega)]
        exact (hz j (by omega)).1
      · show Q (if j < k then z j else d)
        by_cases hj : j < k
        · rw [if_pos hj]
          exact (hz j hj).2
        · rw [if_neg hj]
          exact hd

theorem run_ixg {t e : TypeId} {m : Nat} (hu : Tryz.prog.underlying t = some (.slice e)) (hel : Tryz.prog.elem t = e) (hsz : ∀ w, (sizeOf e).run Tryz.prog w = .ok m w) (b off len cap : Nat) (i : Nat) (hi : i < len) (w' : World) : (Instr.indexAt t (.slice (some ⟨b, off, none⟩) len cap) (.int .i64 (i : Int))).run Tryz.prog w' = .ok (.pointer (some ⟨b, off + i * m, none⟩)) w' := by
  rw [run_indexAt_slice w' t _ len cap .i64 i (by rw [hel]; exact hu), if_pos (by omega), hel, hsz]
  simp only [Result.andThen_ok, Int.toNat_natCast]
  rw [Go.WideShapes.add_plain]

theorem field_at {H : Type} {enc : TypeId × Value → H} {W : World} {base : Nat} {sp : Nat → Bool} {held : Bool} {fs : Array Field} {cs : List Value} {xs : List (DataW H × List MemPlace)} {k : Nat}
    (hf : ∀ (i : Nat) (f : Field), fs[i]? = some f → DataW.trod enc Tryz.prog W base sp held k f.type ((cs.drop f.offset).take (Tryz.prog.cellsOf f.type)) = xs[i]?) (i : Nat) (t : TypeId) (o : Nat) (h : (fs[i]?).map (fun f => (f.type, f.offset)) = some (t, o)) (hc : Tryz.prog.cellsOf t = 1) (hi : i < xs.length) :
    DataW.trod enc Tryz.prog W base sp held k t ((cs.drop o).take 1) = some xs[i] := by
  obtain ⟨f, h1, h2⟩ := Option.map_eq_some_iff.1 h
  have := hf i f h1
  cases h2
  rw [hc, List.getElem?_eq_getElem hi] at this
  exact this

/-- A call of a script. -/
structure Opv where
  d : Int
  n : Int
  a : Int
  h : Int
structure OpOk (o : Opv) : Prop where
  d : In64 o.d
  n : In64 o.n
  a : In64 o.a
  h : 0 ≤ o.h ∧ o.h ≤ 18446744073709551615
structure OpAt (w : World) (b off : Nat) (o : Opv) : Prop where
  c0 : w.cell? ⟨b, off, none⟩ = some (.int .i64 o.d)
  c1 : w.cell? ⟨b, off + 1, none⟩ = some (.int .i64 o.n)
  c2 : w.cell? ⟨b, off + 2, none⟩ = some (.int .i64 o.a)
  c3 : w.cell? ⟨b, off + 3, none⟩ = some (.int .u64 o.h)
theorem OpAt.keep {w w' : World} {b off : Nat} {o : Opv} (h : OpAt w b off o) (k : K w w') : OpAt w' b off o := ⟨k.cell h.c0, k.cell h.c1, k.cell h.c2, k.cell h.c3⟩
theorem four {α : Type} {l : List α} (h : l.length = 4) : ∃ a b c d, l = [a, b, c, d] := by
  obtain _ | ⟨a, l⟩ := l
  · cases h
  obtain _ | ⟨b, l⟩ := l
  · cases h
  obtain _ | ⟨c, l⟩ := l
  · cases h
  obtain _ | ⟨d, l⟩ := l
  · cases h
  obtain _ | ⟨e, l⟩ := l
  · exact ⟨a, b, c, d, rfl⟩
  · simp at h

/-- A row of ints. -/
structure Nums (w : World) (a : Option Addr) (b off len cap : Nat) (z : Nat → Int) : Prop where
  ix : ∀ i : Nat, i < len → ∀ w', (Instr.indexAt 23 (.slice a len cap) (.int .i64 (i : Int))).run Tryz.prog w' = .ok (.pointer (some ⟨b, off + i, none⟩)) w'
  cell : ∀ j, j < len → w.cell? ⟨b, off + j, none⟩ = some (.int .i64 (z j))
  ok : ∀ j, In64 (z j)

theorem nums_of {H : Type} {enc : TypeId × Value → H} {W : World} {base : Nat} {sp : Nat → Bool} {held : Bool} {fuel : Nat} {a : Option Addr} {len cap : Nat} {x : DataW H × List MemPlace} (h : DataW.trod enc Tryz.prog W base sp held fuel 23 [.slice a len cap] = some x) :
    len ≤ maxLen ∧ ∃ b off z, Nums W a b off len cap z := by
  have el : ∀ (ad : Addr) (cs : List Value) (n : Nat) (y : DataW H × List MemPlace), W.cells? base ad 1 = some cs → DataW.trod enc Tryz.prog W base sp held n 3 cs = some y → ∃ b off o, ad = ⟨b, off, none⟩ ∧ W.cell? ⟨b, off, none⟩ = some (.int .i64 o) ∧ In64 o := fun ad cs n y hc ht => by
    obtain ⟨_, hlen, hcell⟩ := World.cells?_some hc
    obtain ⟨z0, e0, _, k0⟩ := DataW.trod_int Tryz.underlying3 ht
    subst e0
    have r0 := hcell 0 (by omega)
    obtain ⟨b, off, spot⟩ := ad
    have hspot : spot = none := by simpa [Addr.add] using World.cell?_spot r0
    subst hspot
    rw [Go.WideShapes.add_plain] at r0
    exact ⟨b, off, z0, rfl, by simpa using r0, In64.of_wf k0⟩
  obtain ⟨hm, b, off, z, h1, h2, h3⟩ := rows_of Tryz.underlying23 (m := 1) (by kernel_rfl) (fun b off o => W.cell? ⟨b, off, none⟩ = some (.int .i64 o)) In64 0 ⟨by decide, by decide⟩ el h
  refine ⟨hm, b, off, z, fun i hi w' => ?_, fun j hj => by simpa using h2 j hj, h3⟩
  rw [h1 (by omega)]
  have := run_ixg Tryz.underlying23 (m := 1) (by kernel_rfl) (fun w => by kernel_rfl) b off len cap i hi w'
  rw [Nat.mul_one] at this
  exact this

end So
end Go.Proofs.YtbbjfebdihepnaaGreatDoor
