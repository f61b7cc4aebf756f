/-
  Walks of the smallest functions: place, Many, the closure that puts a byte, restOf, isText, Compare.
-/
import Derived.Test.YtiklgabndkegoaaGreatDoorProg
import Derived.Test.YtiklgabndkegoaaGreatDoorX1
import Derived.Test.YtiklgabndkegoaaGreatDoorH1
import Derived.Lib.Walk
import Derived.WalkKit
import Derived.Handy
import Derived.WalkSpells
import Derived.Laws.OwnMore
import Derived.Maps.AppendAt
import Derived.OneCell
import Derived.OwnWalk
import Derived.Deep.LoopGhost
import Derived.BigQuiet
import Derived.Laws.BytesString
import Derived.Laws.Cells
namespace Go.Proofs.YtiklgabndkegoaaGreatDoor
open Go.RowKit
namespace Tx
open Hp (Kept K No)

def encU (x : Int) : Value := .int .u64 x
/-- A row of words of one's own, at block g. -/
abbrev Row (w : World) (base g cap : Nat) (L : List Int) : Prop := w.ownsRow base 44 1 (.slice (some ⟨g, 0, none⟩) L.length cap) L.length (L.map encU)
theorem Row.cell {w : World} {base g cap : Nat} {L : List Int} (h : Row w base g cap L) {i : Nat} {x : Int} (hx : L[i]? = some x) : w.cell? ⟨g, i, none⟩ = some (.int .u64 x) := by
  have hi := (List.getElem?_eq_some_iff.1 hx).1
  rw [World.ownsRow.cellAt h i (by omega), List.getElem?_map, hx]
  rfl
theorem Row.free {w : World} {base g cap : Nat} {L : List Int} (h : Row w base g cap L) (i : Nat) : w.frozen? ⟨g, i, none⟩ = false := World.ownsRow.frozenAt h i
theorem Row.lt {w : World} {base g cap : Nat} {L : List Int} (h : Row w base g cap L) : base ≤ g ∧ g < w.heap.size := World.ownsRow.lt h g rfl
theorem Row.put {w : World} {base g cap : Nat} {L : List Int} (h : Row w base g cap L) (i : Nat) (x : Int) : Row (w.setCell ⟨g, i, none⟩ (.int .u64 x)) base g cap (L.set i x) := by
  have := (World.ownsRow.stored h i (.int .u64 x)).1
  show World.ownsRow _ _ _ _ (.slice _ (L.set i x).length _) (L.set i x).length _
  rw [List.length_set, List.map_set]
  exact this

theorem run_ixg {t e : TypeId} {m : Nat} (hu : Tryz.prog.underlying t = some (.slice e)) (hel : Tryz.prog.elem t = e) (hsz : ∀ w, (sizeOf e).run Tryz.prog w = .ok m w) (b off len cap : Nat) (i : Nat) (hi : i < len) (w' : World) : (Instr.indexAt t (.slice (some ⟨b, off, none⟩) len cap) (.int .i64 (i : Int))).run Tryz.prog w' = .ok (.pointer (some ⟨b, off + i * m, none⟩)) w' := by
  rw [run_indexAt_slice w' t _ len cap .i64 i (by rw [hel]; exact hu), if_pos (by omega), hel, hsz]
  simp only [Result.andThen_ok, Int.toNat_natCast]
  rw [Go.WideShapes.add_plain]
theorem ixW (b off len cap : Nat) (i : Nat) (hi : i < len) (w' : World) : (Instr.indexAt 50 (.slice (some ⟨b, off, none⟩) len cap) (.int .i64 (i : Int))).run Tryz.prog w' = .ok (.pointer (some ⟨b, off + i, none⟩)) w' := by
  have := run_ixg (m := 1) Tryz.underlying50 (by kernel_rfl) (fun w => by kernel_rfl) b off len cap i hi w'
  rwa [Nat.mul_one] at this
theorem ixW0 (b len cap : Nat) (i : Nat) (hi : i < len) (w' : World) : (Instr.indexAt 50 (.slice (some ⟨b, 0, none⟩) len cap) (.int .i64 (i : Int))).run Tryz.prog w' = .ok (.pointer (some ⟨b, i, none⟩)) w' := by
  have := ixW b 0 len cap i hi w'
  rwa [Nat.zero_add] at this

theorem or_key (x b : Int) (x0 : 0 ≤ x) (x1 : x ≤ 18446744073709551615) (b0 : 0 ≤ b) (b1 : b ≤ 255) (r : Nat) (hm : x % (256 * pw r) = 0) : bits BinOp.or IntKind.u64 x (IntKind.u64.wrap (b * 2 ^ ((7 - r) * 8))) = x + b * pw r := by
  have hor := or_add x b x0 r hm b0 b1
  have hp : 0 < pw r := pw_pos r
  have hle : pw r ≤ 72057594037927936 := by
    have h : 2 ^ ((7 - r) * 8) ≤ 2 ^ 56 := Nat.pow_le_pow_right (by decide) (by omega)
    have e : pw r = ((2 ^ ((7 - r) * 8) : Nat) : Int) := by unfold pw; simp
    rw [e]
    omega
  have h1 : 0 ≤ b * pw r := Int.mul_nonneg b0 (by omega)
  have h2 : b * pw r ≤ 255 * 72057594037927936 := Int.le_trans (Int.mul_le_mul_of_nonneg_right b1 (by omega)) (Int.mul_le_mul_of_nonneg_left hle (by decide))
  have hw : IntKind.u64.wrap (b * 2 ^ ((7 - r) * 8)) = b * pw r := by
    show IntKind.u64.wrap (b * pw r) = _
    rw [IntKind.wrap_u64]
    omega
  rw [hw]
  generalize b * pw r = y at *
  obtain ⟨m, rfl⟩ := Int.eq_ofNat_of_zero_le x0
  obtain ⟨n, rfl⟩ := Int.eq_ofNat_of_zero_le h1
  rw [← hor]
  simp only [Int.toNat_natCast]
  rw [bits_or_u64_nat m n (by omega) (by omega)]

/-- A slice that holds these words. -/
structure Src (w : World) (a : Option Addr) (b off cap : Nat) (L : List Int) : Prop where
  ix : ∀ i : Nat, i < L.length → ∀ w', (Instr.indexAt 50 (.slice a L.length cap) (.int .i64 (i : Int))).run Tryz.prog w' = .ok (.pointer (some ⟨b, off + i, none⟩)) w'
  cell : ∀ i x, L[i]? = some x → w.cell? ⟨b, off + i, none⟩ = some (.int .u64 x)
  us : Us L
  max : L.length ≤ maxLen
theorem Src.keep {w w' : World} {a : Option Addr} {b off cap : Nat} {L : List Int} (h : Src w a b off cap L) (k : K w w') : Src w' a b off cap L := ⟨h.ix, fun i x hx => k.cell (h.cell i x hx), h.us, h.max⟩
theorem Row.src {w : World} {base g cap : Nat} {L : List Int} (h : Row w base g cap L) (hu : Us L) (hm : L.length ≤ maxLen) : Src w (some ⟨g, 0, none⟩) g 0 cap L :=
  ⟨fun i hi w' => ixW g 0 L.length cap i hi w', fun i x hx => by rw [Nat.zero_add]; exact h.cell hx, hu, hm⟩
theorem Src.at {w : World} {a : Option Addr} {b off cap : Nat} {L : List Int} (h : Src w a b off cap L) {i : Nat} (hi : i < L.length) : w.cell? ⟨b, off + i, none⟩ = some (.int .u64 (L.getD i 0)) := h.cell i _ (getD_at hi)

theorem and_key (x : Int) (x0 : 0 ≤ x) (x1 : x ≤ 18446744073709551615) (s : Nat) (hs : s ≤ 56) : bits BinOp.and IntKind.u64 x (IntKind.u64.wrap (IntKind.u64.wrap (2 ^ s) - 1)) = x % 2 ^ s := by
  have h : 2 ^ s ≤ 2 ^ 56 := Nat.pow_le_pow_right (by decide) hs
  have hp := Nat.two_pow_pos s
  have e : (2 : Int) ^ s = ((2 ^ s : Nat) : Int) := by simp
  have e2 : IntKind.u64.wrap (IntKind.u64.wrap (2 ^ s) - 1) = ((2 ^ s - 1 : Nat) : Int) := by
    rw [e]
    generalize 2 ^ s = p at h hp
    rw [IntKind.wrap_u64, IntKind.wrap_u64]
    omega
  rw [e2, e]
  obtain ⟨m, rfl⟩ := Int.eq_ofNat_of_zero_le x0
  rw [bits_and_u64_nat m _ (by omega) (by omega), Nat.and_two_pow_sub_one_eq_mod]
  simp

end Tx
end Go.Proofs.YtiklgabndkegoaaGreatDoor

/-
  Walks of isText, Words and Of, each for any arguments.
-/
namespace Go.Proofs.YtiklgabndkegoaaGreatDoor
open Go.RowKit
namespace Tx
open Hp (Kept K No)
variable {w w' : World} {a : Option Addr} {b off cap : Nat} {L : List Int}

end Tx
end Go.Proofs.YtiklgabndkegoaaGreatDoor

/-
  Words, for any text.
-/
namespace Go.Proofs.YtiklgabndkegoaaGreatDoor
open Go.RowKit
namespace Tx
open Hp (Kept K No)
variable {w w' : World}

abbrev bs (s : ByteArray) : List UInt8 := s.data.toList
theorem info_u64 : ∃ i0, Tryz.prog.info? 44 = some i0 ∧ i0.size = 1 ∧ i0.bytes = 8 ∧ i0.zero = some (.int .u64 0) := by
  have hi : (Tryz.prog.info? 44).map (fun i => (i.zero, i.size, i.bytes)) = some (some (.int .u64 0), 1, 8) := by kernel_rfl
  obtain ⟨i0, h1, h2⟩ := Option.map_eq_some_iff.1 hi
  simp only [Prod.mk.injEq] at h2
  exact ⟨i0, h1, h2.2.1, h2.2.2, h2.1⟩
theorem K.grown {w a b : World} {row : Option Nat} (h : K w a) (hg : a.grownBy b row) (hr : ∀ g, some g = row → w.heap.size ≤ g) : K w b :=
  ⟨hg.os.trans h.os, hg.tape.trans h.tape, hg.output.trans h.output, Nat.le_trans h.size hg.size, fun j hj hn => by
    have hjw := Nat.lt_of_lt_of_le hj h.size
    rw [hg.block j hjw (fun e => by have := hr j e; omega)]
    exact h.same j hj hn⟩
theorem made_row (n : Nat) : (madeCells (Value.int .u64 0).cells (n * 1)).toList = (List.replicate n (0 : Int)).map encU := by
  show (madeCells #[.int .u64 0] (n * 1)).toList = _
  rw [toList_madeCells_one, Nat.mul_one, List.map_replicate]
  rfl
theorem Row.of {w : World} {base g cap n : Nat} {L : List Int} (h : w.ownsRow base 44 1 (.slice (some ⟨g, 0, none⟩) n cap) n (L.map encU)) (hl : L.length = n) : Row w base g cap L := by
  subst hl
  exact h

theorem K.row {w a b : World} {g cap : Nat} {L : List Int} (h : Row a w.heap.size g cap L) (k : K a b) : Row b w.heap.size g cap L := by
  refine World.ownsRow.kept h (row := none) ⟨k.os, k.tape, k.output, k.size, fun j hj _ => k.same j hj (fun x => x)⟩ (.inr (by simp [Value.ownBlock]))

end Tx
end Go.Proofs.YtiklgabndkegoaaGreatDoor
