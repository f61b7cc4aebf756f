/-
  The order of texts, with no program: it is total, turns where texts are turned, and goes on; and texts of one length rise as their words do.
-/
import Derived.Test.YtbbjfebdihepnaaGreatDoorX1
import Derived.Test.YtbbjfebdihepnaaGreatDoorProg
import Derived.Test.YtbbjfebdihepnaaGreatDoorH1
import Derived.Lib.Walk
import Derived.WalkKit
import Derived.Handy
import Derived.WalkSpells
import Derived.Laws.OwnMore
import Derived.Maps.AppendAt
import Derived.OneCell
import Derived.OwnWalk
import Derived.Deep.LoopGhost
import Derived.BigQuiet
import Derived.Laws.BytesString
import Derived.Laws.Cells
namespace Go.Proofs.YtbbjfebdihepnaaGreatDoor
namespace Tx
open Go.Lib (compareBytes)

theorem cmp_cons (a b : UInt8) (x y : List UInt8) : compareBytes (a :: x) (b :: y) = if a.toNat < b.toNat then -1 else if b.toNat < a.toNat then 1 else compareBytes x y := by
  rw [compareBytes]
  simp only [UInt8.lt_iff_toNat_lt]
theorem cmp_rng : ∀ a b : List UInt8, -1 ≤ compareBytes a b ∧ compareBytes a b ≤ 1
  | [], [] => by simp [compareBytes]
  | [], _ :: _ => by simp [compareBytes]
  | _ :: _, [] => by simp [compareBytes]
  | a :: x, b :: y => by
    have := cmp_rng x y
    rw [cmp_cons]
    split
    · omega
    · split <;> omega
theorem cmp_self : ∀ a : List UInt8, compareBytes a a = 0
  | [] => rfl
  | a :: x => by rw [cmp_cons, if_neg (by omega), if_neg (by omega), cmp_self x]
theorem cmp_zero : ∀ {a b : List UInt8}, compareBytes a b = 0 → a = b
  | [], [], _ => rfl
  | [], _ :: _, h => by simp [compareBytes] at h
  | _ :: _, [], h => by simp [compareBytes] at h
  | a :: x, b :: y, h => by
    rw [cmp_cons] at h
    split at h
    · omega
    · split at h
      · omega
      · have e : a = b := UInt8.toNat_inj.1 (by omega)
        rw [e, cmp_zero h]
theorem cmp_swap : ∀ a b : List UInt8, compareBytes b a = -compareBytes a b
  | [], [] => rfl
  | [], _ :: _ => rfl
  | _ :: _, [] => rfl
  | a :: x, b :: y => by
    rw [cmp_cons, cmp_cons, cmp_swap x y]
    split
    · rw [if_neg (by omega)]
    · split <;> rfl
theorem cmp_trans : ∀ a b c : List UInt8, compareBytes a b ≤ 0 → compareBytes b c ≤ 0 → compareBytes a c ≤ 0 ∧ (compareBytes a b < 0 → compareBytes a c < 0)
  | [], [], [], _, _ => by simp [compareBytes]
  | [], [], _ :: _, _, _ => by simp [compareBytes]
  | [], _ :: _, [], _, h => by simp [compareBytes] at h
  | [], _ :: _, _ :: _, _, _ => by simp [compareBytes]
  | _ :: _, [], _, h, _ => by simp [compareBytes] at h
  | _ :: _, _ :: _, [], _, h => by simp [compareBytes] at h
  | a :: x, b :: y, c :: z, h1, h2 => by
    have ih := cmp_trans x y z
    rw [cmp_cons] at h1 h2 ⊢
    rw [cmp_cons]
    by_cases hab : a.toNat < b.toNat
    · by_cases hbc : b.toNat < c.toNat
      · rw [if_pos (show a.toNat < c.toNat by omega)]
        omega
      · rw [if_neg hbc] at h2
        by_cases hcb : c.toNat < b.toNat
        · rw [if_pos hcb] at h2
          omega
        · rw [if_pos (show a.toNat < c.toNat by omega)]
          omega
    · rw [if_neg hab] at h1 ⊢
      by_cases hba : b.toNat < a.toNat
      · rw [if_pos hba] at h1
        omega
      · rw [if_neg hba] at h1 ⊢
        by_cases hbc : b.toNat < c.toNat
        · rw [if_pos (show a.toNat < c.toNat by omega)]
          omega
        · rw [if_neg hbc] at h2
          by_cases hcb : c.toNat < b.toNat
          · rw [if_pos hcb] at h2
            omega
          · rw [if_neg hcb] at h2
            rw [if_neg (show ¬ a.toNat < c.toNat by omega), if_neg (show ¬ c.toNat < a.toNat by omega)]
            exact ih h1 h2

/-- Two texts that are the same up to k, and not at k. -/
theorem cmp_at : ∀ {a b : List UInt8} (k : Nat), k < a.length → k < b.length → (∀ j, j < k → bt a j = bt b j) → compareBytes a b = if bt a k < bt b k then -1 else if bt b k < bt a k then 1 else compareBytes (a.drop (k + 1)) (b.drop (k + 1))
  | [], _, k, h, _, _ => by simp at h
  | _ :: _, [], k, _, h, _ => by simp at h
  | a :: x, b :: y, 0, _, _, _ => by
    rw [cmp_cons]
    simp [bt]
  | a :: x, b :: y, k + 1, h1, h2, h => by
    have h0 := h 0 (by omega)
    simp only [bt, List.getD_cons_zero] at h0
    rw [cmp_cons, if_neg (by omega), if_neg (by omega), cmp_at (a := x) (b := y) k (by simpa using h1) (by simpa using h2) (fun j hj => by
      have := h (j + 1) (by omega)
      simpa [bt] using this)]
    simp [bt]

end Tx
end Go.Proofs.YtbbjfebdihepnaaGreatDoor

/-
  Walks of the smallest functions: place, Many, the closure that puts a byte, restOf, isText, Compare.
-/
namespace Go.Proofs.YtbbjfebdihepnaaGreatDoor
open Go.RowKit
namespace Tx
open Hp (Kept K No)

theorem place_ok (k : Nat) (hk : k < 1000) (w : World) : Calls Tryz.prog 114 #[.int .i64 (k : Int)] w fun e w' => e = .returned (.tuple #[.int .i64 ((1 + k / 8 : Nat) : Int), .int .i64 (((7 - k % 8) * 8 : Nat) : Int)]) ∧ w = w' := by
  have e1 : 1 + (k : Int) / 8 = ((1 + k / 8 : Nat) : Int) := by omega
  have e2 : (7 - (k : Int) % 8) * 8 = (((7 - k % 8) * 8 : Nat) : Int) := by omega
  rw [← e1, ← e2]
  clear e1 e2
  go_enter Tryz.func114, Tryz.ntmps114
  go_wp2
  go_ret2
  exact ⟨rfl, rfl⟩

theorem many_any (n : Int) (w : World) : Calls Tryz.prog 82 #[.int .i64 n] w fun e w' => e = .returned (.int .i64 (mn n)) ∧ w = w' := by
  by_cases h0 : n < 0
  · rw [mn_out (by omega)]
    go_enter Tryz.func82, Tryz.ntmps82
    go_wp2
    go_ret
    exact ⟨rfl, rfl⟩
  · by_cases h1 : 1000 < n
    · rw [mn_out (by omega)]
      go_enter Tryz.func82, Tryz.ntmps82
      go_wp2
      go_ret
      exact ⟨rfl, rfl⟩
    · rw [mn_in (by omega) (by omega), show 1 + (n + 7) / 8 = 1 + (n + 8 - 1) / 8 by omega]
      go_enter Tryz.func82, Tryz.ntmps82
      go_wp2
      go_ret
      exact ⟨rfl, rfl⟩

set_option maxRecDepth 100000 in
theorem cmp_ext (a b : ByteArray) (w : World) : Calls Tryz.prog 81 #[.string a, .string b] w fun e w' => e = .returned (.int .i64 (Lib.compareBytes a.data.toList b.data.toList)) ∧ w = w' := by
  go_enter Tryz.func81, Tryz.ntmps81
  go_wp2
  rw [run_callFunc_extern Tryz.func115 (by kernel_rfl) (by kernel_rfl) (by kernel_rfl) (e := Extern.BytealgCompare.compare) (by kernel_rfl), Lib.run_compareString]
  simp only [Result.andThen]
  rw [Oper.upon_value]
  go_wp2
  go_ret
  exact ⟨rfl, rfl⟩
theorem strCompare_any (a b : ByteArray) (w : World) : Calls Tryz.prog 55 #[.string a, .string b] w fun e w' => e = .returned (.int .i64 (Lib.compareBytes a.data.toList b.data.toList)) ∧ w = w' := by
  go_enter Tryz.func55, Tryz.ntmps55
  go_wp2_with (go_at_call 81; refine (cmp_ext _ _ _).mono ?_; rintro e w' ⟨rfl, rfl⟩)
  go_ret
  exact ⟨rfl, rfl⟩
/-- Compare: -1, 0 or 1 as the bytes are ordered. -/
theorem compare_any (a b : ByteArray) (w : World) : Calls Tryz.prog 34 #[.string a, .string b] w fun e w' => e = .returned (.int .i64 (Lib.compareBytes a.data.toList b.data.toList)) ∧ w = w' := by
  go_enter Tryz.func34, Tryz.ntmps34
  go_wp2_with (go_at_call 55; refine (strCompare_any _ _ _).mono ?_; rintro e w' ⟨rfl, rfl⟩)
  go_ret
  exact ⟨rfl, rfl⟩

/-- What putter answers. -/
def putF (b : Nat) : Value := .func (.func 116) #[] #[.pointer (some ⟨b, 0, none⟩)]
theorem putter_any (v : Value) (a : Option Addr) (len cap : Nat) (hv : v = .slice a len cap) (w : World) : Calls Tryz.prog 83 #[v] w fun e w' => e = .returned (putF w.heap.size) ∧ w' = w.alloc (.cells #[v] 112) := by
  subst hv
  go_enter Tryz.func83, Tryz.ntmps83
  go_wp2
  go_ret
  exact ⟨rfl, rfl⟩

def encU (x : Int) : Value := .int .u64 x
/-- A row of words of one's own, at block g. -/
abbrev Row (w : World) (base g cap : Nat) (L : List Int) : Prop := w.ownsRow base 27 1 (.slice (some ⟨g, 0, none⟩) L.length cap) L.length (L.map encU)
theorem Row.cell {w : World} {base g cap : Nat} {L : List Int} (h : Row w base g cap L) {i : Nat} {x : Int} (hx : L[i]? = some x) : w.cell? ⟨g, i, none⟩ = some (.int .u64 x) := by
  have hi := (List.getElem?_eq_some_iff.1 hx).1
  rw [World.ownsRow.cellAt h i (by omega), List.getElem?_map, hx]
  rfl
theorem Row.free {w : World} {base g cap : Nat} {L : List Int} (h : Row w base g cap L) (i : Nat) : w.frozen? ⟨g, i, none⟩ = false := World.ownsRow.frozenAt h i
theorem Row.lt {w : World} {base g cap : Nat} {L : List Int} (h : Row w base g cap L) : base ≤ g ∧ g < w.heap.size := World.ownsRow.lt h g rfl
theorem Row.put {w : World} {base g cap : Nat} {L : List Int} (h : Row w base g cap L) (i : Nat) (x : Int) : Row (w.setCell ⟨g, i, none⟩ (.int .u64 x)) base g cap (L.set i x) := by
  have := (World.ownsRow.stored h i (.int .u64 x)).1
  show World.ownsRow _ _ _ _ (.slice _ (L.set i x).length _) (L.set i x).length _
  rw [List.length_set, List.map_set]
  exact this

theorem run_ixg {t e : TypeId} {m : Nat} (hu : Tryz.prog.underlying t = some (.slice e)) (hel : Tryz.prog.elem t = e) (hsz : ∀ w, (sizeOf e).run Tryz.prog w = .ok m w) (b off len cap : Nat) (i : Nat) (hi : i < len) (w' : World) : (Instr.indexAt t (.slice (some ⟨b, off, none⟩) len cap) (.int .i64 (i : Int))).run Tryz.prog w' = .ok (.pointer (some ⟨b, off + i * m, none⟩)) w' := by
  rw [run_indexAt_slice w' t _ len cap .i64 i (by rw [hel]; exact hu), if_pos (by omega), hel, hsz]
  simp only [Result.andThen_ok, Int.toNat_natCast]
  rw [Go.WideShapes.add_plain]
theorem ixW (b off len cap : Nat) (i : Nat) (hi : i < len) (w' : World) : (Instr.indexAt 112 (.slice (some ⟨b, off, none⟩) len cap) (.int .i64 (i : Int))).run Tryz.prog w' = .ok (.pointer (some ⟨b, off + i, none⟩)) w' := by
  have := run_ixg (m := 1) Tryz.underlying112 (by kernel_rfl) (fun w => by kernel_rfl) b off len cap i hi w'
  rwa [Nat.mul_one] at this
theorem ixW0 (b len cap : Nat) (i : Nat) (hi : i < len) (w' : World) : (Instr.indexAt 112 (.slice (some ⟨b, 0, none⟩) len cap) (.int .i64 (i : Int))).run Tryz.prog w' = .ok (.pointer (some ⟨b, i, none⟩)) w' := by
  have := ixW b 0 len cap i hi w'
  rwa [Nat.zero_add] at this

theorem or_key (x b : Int) (x0 : 0 ≤ x) (x1 : x ≤ 18446744073709551615) (b0 : 0 ≤ b) (b1 : b ≤ 255) (r : Nat) (hm : x % (256 * pw r) = 0) : bits BinOp.or IntKind.u64 x (IntKind.u64.wrap (b * 2 ^ ((7 - r) * 8))) = x + b * pw r := by
  have hor := or_add x b x0 r hm b0 b1
  have hp : 0 < pw r := pw_pos r
  have hle : pw r ≤ 72057594037927936 := by
    have h : 2 ^ ((7 - r) * 8) ≤ 2 ^ 56 := Nat.pow_le_pow_right (by decide) (by omega)
    have e : pw r = ((2 ^ ((7 - r) * 8) : Nat) : Int) := by unfold pw; simp
    rw [e]
    omega
  have h1 : 0 ≤ b * pw r := Int.mul_nonneg b0 (by omega)
  have h2 : b * pw r ≤ 255 * 72057594037927936 := Int.le_trans (Int.mul_le_mul_of_nonneg_right b1 (by omega)) (Int.mul_le_mul_of_nonneg_left hle (by decide))
  have hw : IntKind.u64.wrap (b * 2 ^ ((7 - r) * 8)) = b * pw r := by
    show IntKind.u64.wrap (b * pw r) = _
    rw [IntKind.wrap_u64]
    omega
  rw [hw]
  generalize b * pw r = y at *
  obtain ⟨m, rfl⟩ := Int.eq_ofNat_of_zero_le x0
  obtain ⟨n, rfl⟩ := Int.eq_ofNat_of_zero_le h1
  rw [← hor]
  simp only [Int.toNat_natCast]
  rw [bits_or_u64_nat m n (by omega) (by omega)]

set_option maxRecDepth 100000 in
set_option maxHeartbeats 2000000 in
theorem put_any (c g n cap k : Nat) (b x : Int) (w : World) (hk : k < 1000) (b0 : 0 ≤ b) (b1 : b ≤ 255) (hn : 1 + k / 8 < n) (hc : w.cell? ⟨c, 0, none⟩ = some (.slice (some ⟨g, 0, none⟩) n cap)) (hx : w.cell? ⟨g, 1 + k / 8, none⟩ = some (.int .u64 x)) (hf : w.frozen? ⟨g, 1 + k / 8, none⟩ = false) (x0 : 0 ≤ x) (hx1 : x ≤ 18446744073709551615) (hm : x % (256 * pw (k % 8)) = 0) :
    Calls Tryz.prog 116 #[.int .i64 (k : Int), .int .u8 b, .pointer (some ⟨c, 0, none⟩)] w fun e w' => (∃ v, e = .returned v) ∧ w' = (w.setCell ⟨g, 1 + k / 8, none⟩ (.int .u64 (x + b * pw (k % 8)))).drew := by
  have hor := or_add x b x0 (k % 8) hm b0 b1
  have hix := ixW0 g n cap (1 + k / 8) hn
  have hpl := place_ok k hk
  have hs56 : (7 - k % 8) * 8 ≤ 56 := by omega
  have hk2 : x ≤ 18446744073709551615 := hx1
  have key := or_key x b x0 hx1 b0 b1 (k % 8) hm
  rw [← key]
  clear hm hor key hx1 hk2
  generalize 1 + k / 8 = i at *
  generalize (7 - k % 8) * 8 = s at *
  go_enter Tryz.func116, Tryz.ntmps116
  go_wp2_with (go_at_call 114; refine (hpl _).mono ?_; rintro e w2 ⟨rfl, rfl⟩)
  go_region
  go_wp2_with fail
  go_end0
  exact ⟨⟨_, rfl⟩, rfl⟩

/-- A slice that holds these words. -/
structure Src (w : World) (a : Option Addr) (b off cap : Nat) (L : List Int) : Prop where
  ix : ∀ i : Nat, i < L.length → ∀ w', (Instr.indexAt 112 (.slice a L.length cap) (.int .i64 (i : Int))).run Tryz.prog w' = .ok (.pointer (some ⟨b, off + i, none⟩)) w'
  cell : ∀ i x, L[i]? = some x → w.cell? ⟨b, off + i, none⟩ = some (.int .u64 x)
  us : Us L
  max : L.length ≤ maxLen
theorem Src.keep {w w' : World} {a : Option Addr} {b off cap : Nat} {L : List Int} (h : Src w a b off cap L) (k : K w w') : Src w' a b off cap L := ⟨h.ix, fun i x hx => k.cell (h.cell i x hx), h.us, h.max⟩
theorem Row.src {w : World} {base g cap : Nat} {L : List Int} (h : Row w base g cap L) (hu : Us L) (hm : L.length ≤ maxLen) : Src w (some ⟨g, 0, none⟩) g 0 cap L :=
  ⟨fun i hi w' => ixW g 0 L.length cap i hi w', fun i x hx => by rw [Nat.zero_add]; exact h.cell hx, hu, hm⟩
theorem Src.at {w : World} {a : Option Addr} {b off cap : Nat} {L : List Int} (h : Src w a b off cap L) {i : Nat} (hi : i < L.length) : w.cell? ⟨b, off + i, none⟩ = some (.int .u64 (L.getD i 0)) := h.cell i _ (getD_at hi)

theorem Src.ix0 {w : World} {a : Option Addr} {b off cap : Nat} {L : List Int} (h : Src w a b off cap L) (h0 : 0 < L.length) : ∀ w', (Instr.indexAt 112 (.slice a L.length cap) (.int .i64 0)).run Tryz.prog w' = .ok (.pointer (some ⟨b, off, none⟩)) w' := h.ix 0 h0

theorem and_key (x : Int) (x0 : 0 ≤ x) (x1 : x ≤ 18446744073709551615) (s : Nat) (hs : s ≤ 56) : bits BinOp.and IntKind.u64 x (IntKind.u64.wrap (IntKind.u64.wrap (2 ^ s) - 1)) = x % 2 ^ s := by
  have h : 2 ^ s ≤ 2 ^ 56 := Nat.pow_le_pow_right (by decide) hs
  have hp := Nat.two_pow_pos s
  have e : (2 : Int) ^ s = ((2 ^ s : Nat) : Int) := by simp
  have e2 : IntKind.u64.wrap (IntKind.u64.wrap (2 ^ s) - 1) = ((2 ^ s - 1 : Nat) : Int) := by
    rw [e]
    generalize 2 ^ s = p at h hp
    rw [IntKind.wrap_u64, IntKind.wrap_u64]
    omega
  rw [e2, e]
  obtain ⟨m, rfl⟩ := Int.eq_ofNat_of_zero_le x0
  rw [bits_and_u64_nat m _ (by omega) (by omega), Nat.and_two_pow_sub_one_eq_mod]
  simp

set_option maxRecDepth 100000 in
set_option maxHeartbeats 2000000 in
theorem restOf_ok {w : World} {a : Option Addr} {b off cap : Nat} {L : List Int} (h : Src w a b off cap L) (n : Nat) (hn : n ≤ 1000) (hlen : (L.length : Int) = 1 + ((n : Int) + 7) / 8) :
    Calls Tryz.prog 149 #[.slice a L.length cap, .int .i64 (n : Int)] w fun e w' => e = .returned (.int .u64 (rest L n)) ∧ K w w' := by
  obtain ⟨i, hi⟩ : ∃ i, L.length = i + 1 := ⟨L.length - 1, by omega⟩
  have hx := h.at (i := i) (by omega)
  have hix := h.ix i (by omega)
  obtain ⟨x0, x1⟩ := h.us.at i
  unfold rest
  rw [hi, Nat.add_sub_cancel]
  obtain ⟨t, ht⟩ : ∃ t, t = i * 8 - n := ⟨_, rfl⟩
  have key := and_key (L.getD i 0) x0 x1 (t * 8) (by omega)
  rw [← ht, ← key]
  have e1 : (i : Int) * 8 - n = (t : Int) := by omega
  have ht7 : t ≤ 7 := by omega
  have hi125 : i ≤ 125 := by omega
  rw [hi] at hix
  clear hlen h ht key hi
  generalize L.getD i 0 = x at *
  have k0 := K.refl w
  go_enter Tryz.func149, Tryz.ntmps149
  go_wp2
  go_region
  go_wp2_with fail
  go_ret
  exact ⟨rfl, k0.drew⟩

end Tx
end Go.Proofs.YtbbjfebdihepnaaGreatDoor

/-
  Walks of isText, Words and Of, each for any arguments.
-/
namespace Go.Proofs.YtbbjfebdihepnaaGreatDoor
open Go.RowKit
namespace Tx
open Hp (Kept K No)
variable {w w' : World} {a : Option Addr} {b off cap : Nat} {L : List Int}

set_option maxRecDepth 100000 in
set_option maxHeartbeats 1000000 in
theorem isText_yes (h : Src w a b off cap L) (hi : Is L) : Calls Tryz.prog 113 #[.slice a L.length cap] w fun e w' => e = .returned (.bool true) ∧ K w w' := by
  have h0 := hi.ne
  have hx := h.at h0
  have hix := h.ix0 h0
  have hq0 : ((L.length : Int) == 0) = false := by rw [beq_eq_false_iff_ne]; omega
  rw [Nat.add_zero] at hx
  obtain ⟨n, hn⟩ : ∃ n : Nat, L.getD 0 0 = (n : Int) := ⟨(L.getD 0 0).toNat, by have := h.us.at 0; omega⟩
  have hle := hi.le
  have hlen := hi.len
  have hre := hi.rest
  rw [hn] at hx hle hlen hre
  rw [Int.toNat_natCast] at hre
  have cr := restOf_ok h n (by omega) hlen
  rw [hre] at cr
  have cm := many_any (n : Int)
  rw [mn_in (by omega) (by omega), ← hlen] at cm
  have hu : n ≤ 1000 := by omega
  clear hre hlen hle hi h hn
  generalize L.length = q at *
  go_enter Tryz.func113, Tryz.ntmps113
  go_wp2_with (first
    | (go_at_call 82; refine (cm _).mono ?_; rintro e w2 ⟨rfl, rfl⟩)
    | (go_at_call 149; refine cr.mono ?_; rintro e w2 ⟨rfl, k2⟩))
  go_ret
  exact ⟨rfl, k2⟩

set_option maxRecDepth 100000 in
set_option maxHeartbeats 1000000 in
theorem isText_no (h : Src w a b off cap L) (hi : ¬ Is L) : Calls Tryz.prog 113 #[.slice a L.length cap] w fun e w' => e = .returned (.bool false) ∧ K w w' := by
  have k0 := K.refl w
  by_cases h0 : 0 < L.length
  case neg =>
    have hz : L.length = 0 := by omega
    rw [hz]
    clear h hi h0 hz
    go_enter Tryz.func113, Tryz.ntmps113
    go_wp2
    go_ret
    exact ⟨rfl, k0⟩
  have hx := h.at h0
  have hix := h.ix0 h0
  have hq0 : ((L.length : Int) == 0) = false := by rw [beq_eq_false_iff_ne]; omega
  rw [Nat.add_zero] at hx
  obtain ⟨u0, u1⟩ := h.us.at 0
  obtain ⟨n, hn⟩ : ∃ n : Nat, L.getD 0 0 = (n : Int) := ⟨(L.getD 0 0).toNat, by omega⟩
  have hmax := h.max
  unfold maxLen at hmax
  by_cases hle : n ≤ 1000
  case neg =>
    rw [hn] at hx u1
    clear h hi hn u0
    have hbig : 1000 < n := by omega
    clear hle
    generalize L.length = q at *
    go_enter Tryz.func113, Tryz.ntmps113
    go_wp2
    go_ret
    exact ⟨rfl, k0⟩
  by_cases hlen : (L.length : Int) = 1 + ((n : Int) + 7) / 8
  · have hre : (rest L n == 0) = false := by
      rw [beq_eq_false_iff_ne]
      intro e
      exact hi ⟨h0, by omega, by rw [hn]; exact hlen, by rw [hn, Int.toNat_natCast]; exact e⟩
    have cr := restOf_ok h n hle hlen
    have cm := many_any (n : Int)
    rw [mn_in (by omega) (by omega), ← hlen] at cm
    rw [hn] at hx
    clear hlen hi h hn u0 u1
    generalize rest L n = re at *
    generalize L.length = q at *
    go_enter Tryz.func113, Tryz.ntmps113
    go_wp2_with (first
      | (go_at_call 82; refine (cm _).mono ?_; rintro e w2 ⟨rfl, rfl⟩)
      | (go_at_call 149; refine cr.mono ?_; rintro e w2 ⟨rfl, k2⟩))
    go_ret
    exact ⟨rfl, k2⟩
  · have cm := many_any (n : Int)
    rw [mn_in (by omega) (by omega)] at cm
    generalize 1 + ((n : Int) + 7) / 8 = m at *
    have hne : ((L.length : Int) == m) = false := by rw [beq_eq_false_iff_ne]; exact hlen
    rw [hn] at hx
    clear hlen hi h hn u0 u1
    generalize L.length = q at *
    go_enter Tryz.func113, Tryz.ntmps113
    go_wp2_with (go_at_call 82; refine (cm _).mono ?_; rintro e w2 ⟨rfl, rfl⟩)
    go_ret
    exact ⟨rfl, k0⟩

end Tx
end Go.Proofs.YtbbjfebdihepnaaGreatDoor

/-
  Words, for any text.
-/
namespace Go.Proofs.YtbbjfebdihepnaaGreatDoor
open Go.RowKit
namespace Tx
open Hp (Kept K No)
variable {w w' : World}

abbrev bs (s : ByteArray) : List UInt8 := s.data.toList
theorem bs_len (s : ByteArray) : (bs s).length = s.size := by
  show s.data.toList.length = s.data.size
  simp
theorem str_ix (s : ByteArray) (k : Nat) (hk : k < (bs s).length) (w : World) : (Instr.index 9 (.string s) (.int .i64 (k : Int))).run Tryz.prog w = .ok (.int .u8 (bt (bs s) k)) w := by
  have hk2 := hk
  rw [bs_len] at hk2
  rw [run_index_string w 9 s .i64 k Tryz.underlying9, dif_pos (by omega)]
  rw [bt_in hk]
  rfl

theorem info_u64 : ∃ i0, Tryz.prog.info? 27 = some i0 ∧ i0.size = 1 ∧ i0.bytes = 8 ∧ i0.zero = some (.int .u64 0) := by
  have hi : (Tryz.prog.info? 27).map (fun i => (i.zero, i.size, i.bytes)) = some (some (.int .u64 0), 1, 8) := by kernel_rfl
  obtain ⟨i0, h1, h2⟩ := Option.map_eq_some_iff.1 hi
  simp only [Prod.mk.injEq] at h2
  exact ⟨i0, h1, h2.2.1, h2.2.2, h2.1⟩
theorem info_u8 : ∃ i0, Tryz.prog.info? 5 = some i0 ∧ i0.size = 1 ∧ i0.bytes = 1 ∧ i0.zero = some (.int .u8 0) := by
  have hi : (Tryz.prog.info? 5).map (fun i => (i.zero, i.size, i.bytes)) = some (some (.int .u8 0), 1, 1) := by kernel_rfl
  obtain ⟨i0, h1, h2⟩ := Option.map_eq_some_iff.1 hi
  simp only [Prod.mk.injEq] at h2
  exact ⟨i0, h1, h2.2.1, h2.2.2, h2.1⟩

theorem K.grown {w a b : World} {row : Option Nat} (h : K w a) (hg : a.grownBy b row) (hr : ∀ g, some g = row → w.heap.size ≤ g) : K w b :=
  ⟨hg.os.trans h.os, hg.tape.trans h.tape, hg.output.trans h.output, Nat.le_trans h.size hg.size, fun j hj hn => by
    have hjw := Nat.lt_of_lt_of_le hj h.size
    rw [hg.block j hjw (fun e => by have := hr j e; omega)]
    exact h.same j hj hn⟩
theorem made_row (n : Nat) : (madeCells (Value.int .u64 0).cells (n * 1)).toList = (List.replicate n (0 : Int)).map encU := by
  show (madeCells #[.int .u64 0] (n * 1)).toList = _
  rw [toList_madeCells_one, Nat.mul_one, List.map_replicate]
  rfl
theorem Row.of {w : World} {base g cap n : Nat} {L : List Int} (h : w.ownsRow base 27 1 (.slice (some ⟨g, 0, none⟩) n cap) n (L.map encU)) (hl : L.length = n) : Row w base g cap L := by
  subst hl
  exact h

theorem K.row {w a b : World} {g cap : Nat} {L : List Int} (h : Row a w.heap.size g cap L) (k : K a b) : Row b w.heap.size g cap L := by
  refine World.ownsRow.kept h (row := none) ⟨k.os, k.tape, k.output, k.size, fun j hj _ => k.same j hj (fun x => x)⟩ (.inr (by simp [Value.ownBlock]))

set_option maxRecDepth 100000 in
set_option maxHeartbeats 2000000 in
theorem words_ok (s : ByteArray) (hs : s.size ≤ 1000) (w : World) : Calls Tryz.prog 57 #[.string s] w fun e w' => ∃ g cap, e = .returned (.tuple #[.slice (some ⟨g, 0, none⟩) (wds (bs s)).length cap, .int .i64 0]) ∧ Aside (Row w' w.heap.size g cap (wds (bs s))) ∧ K w w' := by
  obtain ⟨iu, hiu, hs1, hs2, hz⟩ := info_u64
  have HU : Aside (Tryz.prog.info? 27 = some iu ∧ iu.zero = some (.int .u64 0) ∧ iu.size = 1 ∧ iu.bytes = 8) := ⟨hiu, hz, hs1, hs2⟩
  clear hiu hs1 hs2 hz
  have hl : Aside ((bs s).length = s.size) := bs_len s
  have hsx : Aside (∀ k, k < s.size → ∀ w, (Instr.index 9 (.string s) (.int .i64 (k : Int))).run Tryz.prog w = .ok (.int .u8 (bt (bs s) k)) w) := fun k hk w => str_ix s k (by rw [hl.out]; exact hk) w
  obtain ⟨n, hn⟩ : ∃ n, n = s.size := ⟨_, rfl⟩
  have cm := many_any (n : Int)
  rw [mn_in (by omega) (by omega)] at cm
  obtain ⟨N, hN⟩ : ∃ N : Nat, N = 1 + (n + 7) / 8 := ⟨_, rfl⟩
  have hNe : 1 + ((n : Int) + 7) / 8 = (N : Int) := by omega
  rw [hNe] at cm
  have HN : Aside (N = 1 + (n + 7) / 8) := hN
  have HW0 : Aside (∀ k, (wdsK (bs s) k).length = N) := fun k => by show _ = _; rw [wdsK_len, hl.out, ← hn, hN]
  have HWz : Aside ((List.replicate N (0 : Int)).set 0 (n : Int) = wdsK (bs s) 0) := by
    show _ = _
    rw [wdsK_zero, hl.out, ← hn, hN, Nat.add_comm 1, List.replicate_succ, List.set_cons_zero]
  have hsize : s.size = n := hn.symm
  have hn0 : 0 < N := by omega
  have hN0 : N ≤ 126 := by omega
  clear hn hN hNe
  go_enter Tryz.func57, Tryz.ntmps57
  go_wp2_with fail
  refine (cm _).mono ?_
  rintro e w2 ⟨rfl, rfl⟩
  clear cm
  go_wp2_with (
    at_make
    refine wpList_make_full _ rfl _ _ 112 rfl w.heap.size 27 iu (.int .u64 0) 1 Tryz.underlying112 HU.out.1 HU.out.2.1 HU.out.2.2.1 .i64 .i64 N N N rfl rfl rfl rfl (by rw [HU.out.2.2.2]; omega) (by unfold maxLen; omega) (Nat.le_refl _) ?_
    intro w5 hown5 hgrow5
    rw [made_row] at hown5
    have k5 : Aside (K w w5) := K.grown (K.refl w) hgrow5 (fun g hg => by cases hg)
    have R5 : Aside (Row w5 w.heap.size w.heap.size N (List.replicate N (0 : Int))) := Row.of hown5 (by simp)
    clear hown5 hgrow5
    have c0 : w5.cell? ⟨w.heap.size, 0, none⟩ = some (.int .u64 0) := R5.out.cell (by rw [List.getElem?_replicate, if_pos hn0])
    have f0 : w5.frozen? ⟨w.heap.size, 0, none⟩ = false := R5.out.free 0
    generalize hg : w.heap.size = g at *)
  have R6 := R5.out.put 0 (n : Int)
  rw [HWz.out] at R6
  have k6 : K w (w5.setCell ⟨g, 0, none⟩ (.int .u64 (n : Int))) := Hp.K.setCell k5.out _ (by rw [hg]; exact Nat.le_refl _)
  clear R5 k5 c0 f0 HWz
  generalize w5.setCell ⟨g, 0, none⟩ (.int .u64 (n : Int)) = w6 at *
  refine (putter_any _ _ N N rfl w6).mono ?_
  rintro e w7 ⟨rfl, hw7⟩
  have k7 : Aside (K w w7) := by rw [hw7]; exact k6.alloc _
  have hcs : g < w6.heap.size := R6.lt.2
  have hcg : w6.heap.size ≠ g := by omega
  have R7 : Aside (Row w7 w.heap.size g N (wdsK (bs s) 0)) := by
    rw [hw7, hg]
    exact World.ownsRow.alloc R6 _
  have c7 : w7.cell? ⟨w6.heap.size, 0, none⟩ = some (.slice (some ⟨g, 0, none⟩) N N) := by
    rw [hw7]
    exact World.cell?_alloc_at _ _ _ _ rfl
  clear hw7 R6 k6
  unfold putF
  generalize w6.heap.size = c at *
  go_wp2
  go_loopw [23] (fun t wr => ∃ k : Nat, t = .int .i64 k ∧ k ≤ n ∧ Aside (Row wr w.heap.size g N (wdsK (bs s) k)) ∧ Aside (wr.cell? ⟨c, 0, none⟩ = some (.slice (some ⟨g, 0, none⟩) N N)) ∧ Aside (K w wr)) (fun t _ => n - (intOf t).toNat)
  case atStart => exact ⟨0, rfl, by omega, R7, c7, k7⟩
  case round =>
    obtain ⟨k, rfl, hk, Rk, Ck, Kk⟩ := hrel
    clear R7 c7 k7
    by_cases hlt : k < n
    · have hix := hsx.out k (by rw [hsize]; exact hlt)
      obtain ⟨b0, b1⟩ := bt_rng (bs s) k
      obtain ⟨o1, o2⟩ := wv_one (bs s) k
      have hkl : k / 8 < ((bs s).length + 7) / 8 := by rw [hl.out, hsize]; omega
      have hcell := Rk.out.cell (wdsK_at (bs s) k (k / 8) hkl)
      have hfro := Rk.out.free (1 + k / 8)
      obtain ⟨v0, v1⟩ := wv_rng ((bs s).take k) (k / 8)
      have hN2 : 1 + k / 8 < N := by rw [HN.out]; omega
      have cput := put_any c g N N k (bt (bs s) k) (wv ((bs s).take k) (k / 8)) wr (by omega) b0 b1 hN2 Ck.out hcell hfro v0 v1 o2
      have Rn := Rk.out.put (1 + k / 8) (wv ((bs s).take k) (k / 8) + bt (bs s) k * pw (k % 8))
      rw [← wdsK_succ] at Rn
      have Kn := Hp.K.setCell Kk.out (p := ⟨g, 1 + k / 8, none⟩) (.int .u64 (wv ((bs s).take k) (k / 8) + bt (bs s) k * pw (k % 8))) (by rw [hg]; exact Nat.le_refl _)
      have Cn : (wr.setCell ⟨g, 1 + k / 8, none⟩ (.int .u64 (wv ((bs s).take k) (k / 8) + bt (bs s) k * pw (k % 8)))).cell? ⟨c, 0, none⟩ = some (.slice (some ⟨g, 0, none⟩) N N) := (World.cell?_setCell_other (a := ⟨g, 1 + k / 8, none⟩) (b := ⟨c, 0, none⟩) wr _ (fun e => hcg (by injection e with e1 _; exact e1.symm))).trans Ck.out
      clear o1 o2 hkl hcell hfro v0 v1 hN2 Rk Ck Kk
      generalize wr.setCell ⟨g, 1 + k / 8, none⟩ (.int .u64 (wv ((bs s).take k) (k / 8) + bt (bs s) k * pw (k % 8))) = w9 at *
      generalize bt (bs s) k = b at *
      have Rn' : Aside _ := Rn
      have Kn' : Aside _ := Kn
      have Cn' : Aside _ := Cn
      clear Rn Kn Cn
      go_wp2_with (go_at_call 116; refine cput.mono ?_; rintro e w10 ⟨⟨_, rfl⟩, rfl⟩)
      go_roundw
      case measure => simp [intOf]; omega
      case rel => exact ⟨k + 1, by go_num, by omega, Rn'.out, Cn'.out, Kn'.out.drew⟩
    · obtain rfl : k = n := by omega
      go_wp2
      go_ret2
      have e1 : wds (bs s) = wdsK (bs s) k := by unfold wds; rw [hl.out, hsize]
      have e2 := HW0.out k
      refine ⟨g, N, ?_, ?_, Kk.out⟩
      · rw [e1, e2]
        rfl
      · rw [e1]
        exact Rk

end Tx
end Go.Proofs.YtbbjfebdihepnaaGreatDoor
