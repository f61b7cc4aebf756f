/-
  Walks of the smallest functions: place, Many, the closure that puts a byte, restOf, isText, Compare.
-/
import Derived.Test.YtffmfhpbhfnieabProg
import Derived.Test.YtffmfhpbhfnieabXPlain
import Derived.Test.YtffmfhpbhfnieabHRange
import Derived.Lib.Walk
import Derived.WalkKit
import Derived.Handy
import Derived.WalkSpells
import Derived.Laws.OwnMore
import Derived.Maps.AppendAt
import Derived.OneCell
namespace Go.Proofs.Ytffmfhpbhfnieab
open Go.RowKit
namespace Tx
open Hp (Kept K No)

theorem place_ok (k : Nat) (hk : k < 1000) (w : World) : Calls Try.prog 12 #[.int .i64 (k : Int)] w fun e w' => e = .returned (.tuple #[.int .i64 ((1 + k / 8 : Nat) : Int), .int .i64 (((7 - k % 8) * 8 : Nat) : Int)]) ∧ w = w' := by
  have e1 : 1 + (k : Int) / 8 = ((1 + k / 8 : Nat) : Int) := by omega
  have e2 : (7 - (k : Int) % 8) * 8 = (((7 - k % 8) * 8 : Nat) : Int) := by omega
  rw [← e1, ← e2]
  clear e1 e2
  go_enter Try.func12, Try.ntmps12
  go_wp2
  go_ret2
  exact ⟨rfl, rfl⟩

theorem many_any (n : Int) (w : World) : Calls Try.prog 7 #[.int .i64 n] w fun e w' => e = .returned (.int .i64 (mn n)) ∧ w = w' := by
  by_cases h0 : n < 0
  · rw [mn_out (by omega)]
    go_enter Try.func7, Try.ntmps7
    go_wp2
    go_ret
    exact ⟨rfl, rfl⟩
  · by_cases h1 : 1000 < n
    · rw [mn_out (by omega)]
      go_enter Try.func7, Try.ntmps7
      go_wp2
      go_ret
      exact ⟨rfl, rfl⟩
    · rw [mn_in (by omega) (by omega), show 1 + (n + 7) / 8 = 1 + (n + 8 - 1) / 8 by omega]
      go_enter Try.func7, Try.ntmps7
      go_wp2
      go_ret
      exact ⟨rfl, rfl⟩

theorem cmp_ext (a b : ByteArray) (w : World) : Calls Try.prog 16 #[.string a, .string b] w fun e w' => e = .returned (.int .i64 (Lib.compareBytes a.data.toList b.data.toList)) ∧ w = w' := by
  go_enter Try.func16, Try.ntmps16
  go_wp2
  rw [run_callFunc_extern Try.func17 (by kernel_rfl) (by kernel_rfl) (by kernel_rfl) (e := Extern.BytealgCompare.compare) (by kernel_rfl), Lib.run_compareString]
  simp only [Result.andThen]
  rw [Oper.upon_value]
  go_wp2
  go_ret
  exact ⟨rfl, rfl⟩
theorem strCompare_any (a b : ByteArray) (w : World) : Calls Try.prog 14 #[.string a, .string b] w fun e w' => e = .returned (.int .i64 (Lib.compareBytes a.data.toList b.data.toList)) ∧ w = w' := by
  go_enter Try.func14, Try.ntmps14
  go_wp2_with (go_at_call 16; refine (cmp_ext _ _ _).mono ?_; rintro e w' ⟨rfl, rfl⟩)
  go_ret
  exact ⟨rfl, rfl⟩
/-- Compare: -1, 0 or 1 as the bytes are ordered. -/
theorem compare_any (a b : ByteArray) (w : World) : Calls Try.prog 10 #[.string a, .string b] w fun e w' => e = .returned (.int .i64 (Lib.compareBytes a.data.toList b.data.toList)) ∧ w = w' := by
  go_enter Try.func10, Try.ntmps10
  go_wp2_with (go_at_call 14; refine (strCompare_any _ _ _).mono ?_; rintro e w' ⟨rfl, rfl⟩)
  go_ret
  exact ⟨rfl, rfl⟩

/-- What putter answers. -/
def putF (b : Nat) : Value := .func (.func 13) #[] #[.pointer (some ⟨b, 0, none⟩)]
theorem putter_any (v : Value) (a : Option Addr) (len cap : Nat) (hv : v = .slice a len cap) (w : World) : Calls Try.prog 8 #[v] w fun e w' => e = .returned (putF w.heap.size) ∧ w' = w.alloc (.cells #[v] 23) := by
  subst hv
  go_enter Try.func8, Try.ntmps8
  go_wp2
  go_ret
  exact ⟨rfl, rfl⟩

def encU (x : Int) : Value := .int .u64 x
/-- A row of words of one's own, at block g. -/
abbrev Row (w : World) (base g cap : Nat) (L : List Int) : Prop := w.ownsRow base 22 1 (.slice (some ⟨g, 0, none⟩) L.length cap) L.length (L.map encU)
theorem Row.cell {w : World} {base g cap : Nat} {L : List Int} (h : Row w base g cap L) {i : Nat} {x : Int} (hx : L[i]? = some x) : w.cell? ⟨g, i, none⟩ = some (.int .u64 x) := by
  have hi := (List.getElem?_eq_some_iff.1 hx).1
  rw [World.ownsRow.cellAt h i (by omega), List.getElem?_map, hx]
  rfl
theorem Row.free {w : World} {base g cap : Nat} {L : List Int} (h : Row w base g cap L) (i : Nat) : w.frozen? ⟨g, i, none⟩ = false := World.ownsRow.frozenAt h i
theorem Row.lt {w : World} {base g cap : Nat} {L : List Int} (h : Row w base g cap L) : base ≤ g ∧ g < w.heap.size := World.ownsRow.lt h g rfl
theorem Row.put {w : World} {base g cap : Nat} {L : List Int} (h : Row w base g cap L) (i : Nat) (x : Int) : Row (w.setCell ⟨g, i, none⟩ (.int .u64 x)) base g cap (L.set i x) := by
  have := (World.ownsRow.stored h i (.int .u64 x)).1
  show World.ownsRow _ _ _ _ (.slice _ (L.set i x).length _) (L.set i x).length _
  rw [List.length_set, List.map_set]
  exact this

theorem run_ixg {t e : TypeId} {m : Nat} (hu : Try.prog.underlying t = some (.slice e)) (hel : Try.prog.elem t = e) (hsz : ∀ w, (sizeOf e).run Try.prog w = .ok m w) (b off len cap : Nat) (i : Nat) (hi : i < len) (w' : World) : (Instr.indexAt t (.slice (some ⟨b, off, none⟩) len cap) (.int .i64 (i : Int))).run Try.prog w' = .ok (.pointer (some ⟨b, off + i * m, none⟩)) w' := by
  rw [run_indexAt_slice w' t _ len cap .i64 i (by rw [hel]; exact hu), if_pos (by omega), hel, hsz]
  simp only [Result.andThen_ok, Int.toNat_natCast]
  rw [Go.WideShapes.add_plain]
theorem ixW (b off len cap : Nat) (i : Nat) (hi : i < len) (w' : World) : (Instr.indexAt 23 (.slice (some ⟨b, off, none⟩) len cap) (.int .i64 (i : Int))).run Try.prog w' = .ok (.pointer (some ⟨b, off + i, none⟩)) w' := by
  have := run_ixg (m := 1) Try.underlying23 (by kernel_rfl) (fun w => by kernel_rfl) b off len cap i hi w'
  rwa [Nat.mul_one] at this
theorem ixW0 (b len cap : Nat) (i : Nat) (hi : i < len) (w' : World) : (Instr.indexAt 23 (.slice (some ⟨b, 0, none⟩) len cap) (.int .i64 (i : Int))).run Try.prog w' = .ok (.pointer (some ⟨b, i, none⟩)) w' := by
  have := ixW b 0 len cap i hi w'
  rwa [Nat.zero_add] at this

theorem or_key (x b : Int) (x0 : 0 ≤ x) (x1 : x ≤ 18446744073709551615) (b0 : 0 ≤ b) (b1 : b ≤ 255) (r : Nat) (hm : x % (256 * pw r) = 0) : bits BinOp.or IntKind.u64 x (IntKind.u64.wrap (b * 2 ^ ((7 - r) * 8))) = x + b * pw r := by
  have hor := or_add x b x0 r hm b0 b1
  have hp : 0 < pw r := pw_pos r
  have hle : pw r ≤ 72057594037927936 := by
    have h : 2 ^ ((7 - r) * 8) ≤ 2 ^ 56 := Nat.pow_le_pow_right (by decide) (by omega)
    have e : pw r = ((2 ^ ((7 - r) * 8) : Nat) : Int) := by unfold pw; simp
    rw [e]
    omega
  have h1 : 0 ≤ b * pw r := Int.mul_nonneg b0 (by omega)
  have h2 : b * pw r ≤ 255 * 72057594037927936 := Int.le_trans (Int.mul_le_mul_of_nonneg_right b1 (by omega)) (Int.mul_le_mul_of_nonneg_left hle (by decide))
  have hw : IntKind.u64.wrap (b * 2 ^ ((7 - r) * 8)) = b * pw r := by
    show IntKind.u64.wrap (b * pw r) = _
    rw [IntKind.wrap_u64]
    omega
  rw [hw]
  generalize b * pw r = y at *
  obtain ⟨m, rfl⟩ := Int.eq_ofNat_of_zero_le x0
  obtain ⟨n, rfl⟩ := Int.eq_ofNat_of_zero_le h1
  rw [← hor]
  simp only [Int.toNat_natCast]
  rw [bits_or_u64_nat m n (by omega) (by omega)]

set_option maxRecDepth 100000 in
set_option maxHeartbeats 2000000 in
theorem put_any (c g n cap k : Nat) (b x : Int) (w : World) (hk : k < 1000) (b0 : 0 ≤ b) (b1 : b ≤ 255) (hn : 1 + k / 8 < n) (hc : w.cell? ⟨c, 0, none⟩ = some (.slice (some ⟨g, 0, none⟩) n cap)) (hx : w.cell? ⟨g, 1 + k / 8, none⟩ = some (.int .u64 x)) (hf : w.frozen? ⟨g, 1 + k / 8, none⟩ = false) (x0 : 0 ≤ x) (hx1 : x ≤ 18446744073709551615) (hm : x % (256 * pw (k % 8)) = 0) :
    Calls Try.prog 13 #[.int .i64 (k : Int), .int .u8 b, .pointer (some ⟨c, 0, none⟩)] w fun e w' => (∃ v, e = .returned v) ∧ w' = (w.setCell ⟨g, 1 + k / 8, none⟩ (.int .u64 (x + b * pw (k % 8)))).drew := by
  have hor := or_add x b x0 (k % 8) hm b0 b1
  have hix := ixW0 g n cap (1 + k / 8) hn
  have hpl := place_ok k hk
  have hs56 : (7 - k % 8) * 8 ≤ 56 := by omega
  have hk2 : x ≤ 18446744073709551615 := hx1
  have key := or_key x b x0 hx1 b0 b1 (k % 8) hm
  rw [← key]
  clear hm hor key hx1 hk2
  generalize 1 + k / 8 = i at *
  generalize (7 - k % 8) * 8 = s at *
  go_enter Try.func13, Try.ntmps13
  go_wp2_with (go_at_call 12; refine (hpl _).mono ?_; rintro e w2 ⟨rfl, rfl⟩)
  go_region
  go_wp2_with fail
  go_end0
  exact ⟨⟨_, rfl⟩, rfl⟩

/-- A slice that holds these words. -/
structure Src (w : World) (a : Option Addr) (b off cap : Nat) (L : List Int) : Prop where
  ix : ∀ i : Nat, i < L.length → ∀ w', (Instr.indexAt 23 (.slice a L.length cap) (.int .i64 (i : Int))).run Try.prog w' = .ok (.pointer (some ⟨b, off + i, none⟩)) w'
  cell : ∀ i x, L[i]? = some x → w.cell? ⟨b, off + i, none⟩ = some (.int .u64 x)
  us : Us L
  max : L.length ≤ maxLen
theorem Src.keep {w w' : World} {a : Option Addr} {b off cap : Nat} {L : List Int} (h : Src w a b off cap L) (k : K w w') : Src w' a b off cap L := ⟨h.ix, fun i x hx => k.cell (h.cell i x hx), h.us, h.max⟩
theorem Row.src {w : World} {base g cap : Nat} {L : List Int} (h : Row w base g cap L) (hu : Us L) (hm : L.length ≤ maxLen) : Src w (some ⟨g, 0, none⟩) g 0 cap L :=
  ⟨fun i hi w' => ixW g 0 L.length cap i hi w', fun i x hx => by rw [Nat.zero_add]; exact h.cell hx, hu, hm⟩
theorem Src.at {w : World} {a : Option Addr} {b off cap : Nat} {L : List Int} (h : Src w a b off cap L) {i : Nat} (hi : i < L.length) : w.cell? ⟨b, off + i, none⟩ = some (.int .u64 (L.getD i 0)) := h.cell i _ (getD_at hi)

theorem Src.ix0 {w : World} {a : Option Addr} {b off cap : Nat} {L : List Int} (h : Src w a b off cap L) (h0 : 0 < L.length) : ∀ w', (Instr.indexAt 23 (.slice a L.length cap) (.int .i64 0)).run Try.prog w' = .ok (.pointer (some ⟨b, off, none⟩)) w' := h.ix 0 h0

theorem and_key (x : Int) (x0 : 0 ≤ x) (x1 : x ≤ 18446744073709551615) (s : Nat) (hs : s ≤ 56) : bits BinOp.and IntKind.u64 x (IntKind.u64.wrap (IntKind.u64.wrap (2 ^ s) - 1)) = x % 2 ^ s := by
  have h : 2 ^ s ≤ 2 ^ 56 := Nat.pow_le_pow_right (by decide) hs
  have hp := Nat.two_pow_pos s
  have e : (2 : Int) ^ s = ((2 ^ s : Nat) : Int) := by simp
  have e2 : IntKind.u64.wrap (IntKind.u64.wrap (2 ^ s) - 1) = ((2 ^ s - 1 : Nat) : Int) := by
    rw [e]
    generalize 2 ^ s = p at h hp
    rw [IntKind.wrap_u64, IntKind.wrap_u64]
    omega
  rw [e2, e]
  obtain ⟨m, rfl⟩ := Int.eq_ofNat_of_zero_le x0
  rw [bits_and_u64_nat m _ (by omega) (by omega), Nat.and_two_pow_sub_one_eq_mod]
  simp

set_option maxRecDepth 100000 in
set_option maxHeartbeats 2000000 in
theorem restOf_ok {w : World} {a : Option Addr} {b off cap : Nat} {L : List Int} (h : Src w a b off cap L) (n : Nat) (hn : n ≤ 1000) (hlen : (L.length : Int) = 1 + ((n : Int) + 7) / 8) :
    Calls Try.prog 15 #[.slice a L.length cap, .int .i64 (n : Int)] w fun e w' => e = .returned (.int .u64 (rest L n)) ∧ K w w' := by
  obtain ⟨i, hi⟩ : ∃ i, L.length = i + 1 := ⟨L.length - 1, by omega⟩
  have hx := h.at (i := i) (by omega)
  have hix := h.ix i (by omega)
  obtain ⟨x0, x1⟩ := h.us.at i
  unfold rest
  rw [hi, Nat.add_sub_cancel]
  obtain ⟨t, ht⟩ : ∃ t, t = i * 8 - n := ⟨_, rfl⟩
  have key := and_key (L.getD i 0) x0 x1 (t * 8) (by omega)
  rw [← ht, ← key]
  have e1 : (i : Int) * 8 - n = (t : Int) := by omega
  have ht7 : t ≤ 7 := by omega
  have hi125 : i ≤ 125 := by omega
  rw [hi] at hix
  clear hlen h ht key hi
  generalize L.getD i 0 = x at *
  have k0 := K.refl w
  go_enter Try.func15, Try.ntmps15
  go_wp2
  go_region
  go_wp2_with fail
  go_ret
  exact ⟨rfl, k0.drew⟩

end Tx
end Go.Proofs.Ytffmfhpbhfnieab
