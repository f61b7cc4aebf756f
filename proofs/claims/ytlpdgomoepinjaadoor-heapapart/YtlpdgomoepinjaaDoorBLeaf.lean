/-
  Walks of the smallest functions: isNumber, only, cutter and what it answers, and math/bits' trailing zeros.
-/
import Derived.Test.YtlpdgomoepinjaaDoorBWords
import Derived.Test.YtlpdgomoepinjaaDoorProg
import Derived.WalkKit
import Derived.Handy
import Derived.WalkSpells
import Derived.Below
import Derived.Laws.Bits64b
namespace Go.Proofs.YtlpdgomoepinjaaDoor
open Go.RowKit
namespace Bt

/-- Nothing that was there has turned. -/
structure K (w w' : World) : Prop where
  bel : Below w.heap.size w w'

theorem K.refl (w : World) : K w w := ⟨Below.refl _ _⟩
theorem K.trans {w w' w'' : World} (h : K w w') (k : K w' w'') : K w w'' := ⟨h.bel.trans (k.bel.mono h.bel.size)⟩
theorem K.drew {w w' : World} (h : K w w') : K w w'.drew := ⟨h.bel.drew⟩
theorem K.alloc {w w' : World} (h : K w w') (o : Obj) : K w (w'.alloc o) := ⟨h.bel.alloc h.bel.size o⟩

/-- The table of math/bits in its variable. -/
def Tab (w : World) : Prop := ∀ j, j < 64 → w.cell? ⟨0, j, none⟩ = some (.int .u8 (Lib.deBruijn64tab.getD j 0 : Nat))

theorem lt_of_cell {w : World} {p : Addr} {v : Value} (h : w.cell? p = some v) : p.block < w.heap.size := by
  apply Nat.lt_of_not_le
  intro hle
  have : w.heap[p.block]? = none := Array.getElem?_eq_none hle
  simp [World.cell?, this] at h

theorem K.cell {w w' : World} (h : K w w') {p : Addr} {v : Value} (hc : w.cell? p = some v) : w'.cell? p = some v := by
  rw [h.bel.cell (lt_of_cell hc)]
  exact hc

theorem Tab.keep {w w' : World} (T : Tab w) (h : K w w') : Tab w' := fun j hj => h.cell (T j hj)

theorem isNumber_in (k : Int) (h : N k) (w : World) : Calls Tryd.prog 59 #[.int .i64 k] w fun e w' => e = .returned (.bool true) ∧ w = w' := by
  have h0 := h.1
  have h1 : k < 64 := by have := h.2; omega
  go_enter Tryd.func59, Tryd.ntmps59
  go_wp2
  go_ret
  exact ⟨rfl, rfl⟩

theorem isNumber_out (k : Int) (h : ¬ N k) (w : World) : Calls Tryd.prog 59 #[.int .i64 k] w fun e w' => e = .returned (.bool false) ∧ w = w' := by
  by_cases h0 : 0 ≤ k
  · have h1 : ¬ k < 64 := by unfold N at h; omega
    go_enter Tryd.func59, Tryd.ntmps59
    go_wp2
    go_ret
    exact ⟨rfl, rfl⟩
  · go_enter Tryd.func59, Tryd.ntmps59
    go_wp2
    go_ret
    exact ⟨rfl, rfl⟩

theorem wrap_U {a : Int} (h : U a) : IntKind.u64.wrap a = a := by
  have := h.1
  have := h.2
  rw [IntKind.wrap_u64]
  omega

theorem only_ok (k : Int) (h : N k) (w : World) : Calls Tryd.prog 60 #[.int .i64 k] w fun e w' => e = .returned (.int .u64 (oneI k)) ∧ w = w' := by
  have h0 := h.1
  have h1 := h.2
  have key : IntKind.u64.wrap (2 ^ k.toNat) = oneI k := by
    have : (2 : Int) ^ k.toNat = oneI k := by unfold oneI; simp
    rw [this, wrap_U (oneI_U h)]
  go_enter Tryd.func60, Tryd.ntmps60
  go_wp2
  go_ret
  exact ⟨rfl, rfl⟩

/-- What cutter answers. -/
def cutF (b : Nat) : Value := .func (.func 79) #[] #[.pointer (some ⟨b, 0, none⟩)]
def cutCell (n : Int) : Obj := .cells #[.int .i64 (64 - (mN n : Int))] 3

theorem cutter_any (n : Int) (w : World) : Calls Tryd.prog 72 #[.int .i64 n] w fun e w' => e = .returned (cutF w.heap.size) ∧ w' = w.alloc (cutCell n) := by
  by_cases h0 : n < 0
  · have hm : (mN n : Int) = 0 := by unfold mN; omega
    go_enter Tryd.func72, Tryd.ntmps72
    go_wp2
    go_ret
    exact ⟨rfl, by unfold cutCell; rw [hm]; rfl⟩
  · by_cases h1 : 64 < n
    · have hm : (mN n : Int) = 64 := by unfold mN; omega
      go_enter Tryd.func72, Tryd.ntmps72
      go_wp2
      go_ret
      exact ⟨rfl, by unfold cutCell; rw [hm]; rfl⟩
    · have hm : (mN n : Int) = n := mN_of n (by omega) (by omega)
      go_enter Tryd.func72, Tryd.ntmps72
      go_wp2
      go_ret
      exact ⟨rfl, by unfold cutCell; rw [hm]⟩

theorem cut_key {a n b : Int} (h : U a) (hb : b = 64 - (mN n : Int)) : IntKind.u64.wrap (a * 2 ^ b.toNat) / 2 ^ b.toNat = cutI n a := by
  have h0 := h.1
  obtain ⟨x, rfl⟩ := Int.eq_ofNat_of_zero_le h0
  have hm := mN_le n
  have hbn : b.toNat = 64 - mN n := by omega
  rw [hbn, IntKind.wrap_u64]
  unfold cutI
  rw [Int.toNat_natCast]
  have e1 : ((x : Int) * 2 ^ (64 - mN n)) % 18446744073709551616 / 2 ^ (64 - mN n) = ((x * 2 ^ (64 - mN n) % 18446744073709551616 / 2 ^ (64 - mN n) : Nat) : Int) := by simp
  rw [e1]
  congr 1
  have e2 : 18446744073709551616 = 2 ^ mN n * 2 ^ (64 - mN n) := by
    rw [← Nat.pow_add, show mN n + (64 - mN n) = 64 by omega]
  have hp : 0 < 2 ^ (64 - mN n) := Nat.two_pow_pos _
  rw [e2, Nat.mul_mod_mul_right, Nat.mul_div_cancel _ hp]

theorem cut_any (a n : Int) (h : U a) (w : World) (p : Addr) (hp : w.cell? p = some (.int .i64 (64 - (mN n : Int)))) : Calls Tryd.prog 79 #[.int .u64 a, .pointer (some p)] w fun e w' => e = .returned (.int .u64 (cutI n a)) ∧ K w w' := by
  have u0 := h.1
  have u1 := h.2
  have hm := mN_le n
  generalize hb : 64 - (mN n : Int) = b at hp
  have h0 : 0 ≤ b := by omega
  have h1 : b ≤ 64 := by omega
  have key := cut_key h hb.symm
  clear hm hb
  go_enter Tryd.func79, Tryd.ntmps79
  go_wp2
  go_region
  go_wp2_with fail
  go_ret
  exact ⟨rfl, (K.refl w).drew⟩

theorem tz_key (x a : Nat) (hx : x < 18446744073709551616) (hx0 : x ≠ 0) (hlow : x &&& (18446744073709551616 - x) = a) :
    IntKind.u64.wrap (bits BinOp.and IntKind.u64 (x : Int) (IntKind.u64.wrap (-(x : Int))) * 285870213051353865) / 288230376151711744 = ((a * 285870213051353865 % 18446744073709551616 / 288230376151711744 : Nat) : Int) := by
  have e1 : IntKind.u64.wrap (-(x : Int)) = ((18446744073709551616 - x : Nat) : Int) := by rw [IntKind.wrap_u64]; omega
  rw [e1, bits_and_u64_nat x _ hx (by omega), hlow, IntKind.wrap_u64]
  omega

theorem tz_core (a : Int) (k idx : Nat) (w : World) (ha0 : a ≠ 0)
    (key : IntKind.u64.wrap (bits BinOp.and IntKind.u64 a (IntKind.u64.wrap (-a)) * 285870213051353865) / 288230376151711744 = (idx : Int))
    (hi : idx < 64) (hk : k < 64) (hcell : w.cell? ⟨0, idx, none⟩ = some (.int .u8 k)) :
    Calls Tryd.prog 73 #[.int .u64 a] w fun e w' => e = .returned (.int .i64 k) ∧ w = w' := by
  go_enter Tryd.func73, Tryd.ntmps73
  go_wp2_with (simp only [key])
  go_ret
  exact ⟨rfl, rfl⟩

theorem tz_ok (a : Int) (h : U a) (ha0 : a ≠ 0) (w : World) (T : Tab w) : Calls Tryd.prog 73 #[.int .u64 a] w fun e w' => e = .returned (.int .i64 (Lib.ctz 64 a.toNat)) ∧ w = w' := by
  have h0 := h.1
  have h1 := h.2
  obtain ⟨x, rfl⟩ := Int.eq_ofNat_of_zero_le h0
  rw [Int.toNat_natCast]
  have hx0 : x ≠ 0 := by omega
  have hx : x < 18446744073709551616 := by omega
  obtain ⟨hlow, hk⟩ := Lib.lowest_bit 64 x hx0 hx
  obtain ⟨hi, htab⟩ := Lib.deBruijn64_at _ hk
  have hcell := T _ hi
  rw [htab] at hcell
  exact tz_core x _ _ w ha0 (tz_key x _ hx hx0 hlow) hi hk hcell

end Bt
end Go.Proofs.YtlpdgomoepinjaaDoor
