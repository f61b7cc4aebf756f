/-
  Walks of math/bits' count of ones and its length.
-/
import Derived.Test.YtlpdgomoepinjaaDoorBLeaf
import Derived.Laws.Bits128
namespace Go.Proofs.YtlpdgomoepinjaaDoor
open Go.RowKit
namespace Bt

theorem k7_ok (r : Nat) (h : r < 9223372036854775808) : bits BinOp.and IntKind.i64 (wrap64 (r : Int)) 127 = ((r % 128 : Nat) : Int) := by
  have e : wrap64 (r : Int) = r := by unfold wrap64; omega
  rw [e, i64_and127]
  omega

theorem wrap_nat (n : Nat) (h : n < 18446744073709551616) : IntKind.u64.wrap (n : Int) = (n : Int) := by
  rw [IntKind.wrap_u64]
  omega

theorem and_nat (x d m : Nat) (hx : x < 18446744073709551616) (hm : m < 18446744073709551616) : bits BinOp.and IntKind.u64 ((x : Int) / (d : Int)) (m : Int) = ((x / d &&& m : Nat) : Int) := by
  have h : x / d ≤ x := Nat.div_le_self _ _
  rw [show (x : Int) / (d : Int) = ((x / d : Nat) : Int) by simp]
  exact bits_and_u64_nat _ _ (by omega) hm

theorem tab_at (i : Nat) (h : i < Lib.len8tab.size) : ((Lib.len8tab[i]'h).toNat : Int) = (Lib.bitLen i : Nat) := by
  have h2 : i < 256 := by rw [Lib.len8tab_size] at h; exact h
  have e := Lib.len8_eq ⟨i, h2⟩
  simp only [Lib.len8, Int.toNat_natCast] at e
  rw [getElem?_pos Lib.len8tab i h] at e
  exact e

theorem len_fin {a y : Int} (d : Nat) (hd : d ≤ 56) (h : Lib.bitLen a.toNat = d + Lib.bitLen y.toNat) (h0 : 0 ≤ y) (h1 : y ≤ 255) : wrap64 ((d : Int) + wrap64 (Lib.bitLen y.toNat : Nat)) = (Lib.bitLen a.toNat : Nat) := by
  have := Lib.bitLen_le8' y h0 h1
  rw [h]
  unfold wrap64
  omega

set_option maxRecDepth 100000 in
theorem len_0 (a : Int) (h : U a) (w : World) (_h1 : a < 4294967296) (_h2 : a < 65536) (h3 : a < 256) : Calls Tryd.prog 93 #[.int .u64 a] w fun e w' => e = .returned (.int .i64 (Lib.bitLen a.toNat : Nat)) ∧ w = w' := by
  have u0 := h.1
  have u1 := h.2
  have hsz : (Lib.len8tab.size : Int) = 256 := by rw [Lib.len8tab_size]; rfl
  have fin : ∀ hi, wrap64 (wrap64 ((Lib.len8tab[(a).toNat]'hi).toNat : Nat)) = (Lib.bitLen a.toNat : Nat) := fun hi => by
    have s : Lib.bitLen a.toNat = 0 + Lib.bitLen (a).toNat := (Nat.zero_add _).symm
    rw [tab_at]
    exact (by have h5 := len_fin (y := a) 0 (by decide) s (by omega) (by omega); rw [show ((0 : Nat) : Int) + wrap64 (Lib.bitLen a.toNat : Nat) = wrap64 (Lib.bitLen a.toNat : Nat) from by omega] at h5; exact h5)
  clear h
  go_enter Tryd.func93, Tryd.ntmps93
  go_wp2
  go_ret
  exact ⟨congrArg (fun z => Ending.returned (Value.int IntKind.i64 z)) (fin _), rfl⟩

set_option maxRecDepth 100000 in
theorem len_8 (a : Int) (h : U a) (w : World) (_h1 : a < 4294967296) (h2 : a < 65536) (h3 : 256 ≤ a) : Calls Tryd.prog 93 #[.int .u64 a] w fun e w' => e = .returned (.int .i64 (Lib.bitLen a.toNat : Nat)) ∧ w = w' := by
  have u0 := h.1
  have u1 := h.2
  have hsz : (Lib.len8tab.size : Int) = 256 := by rw [Lib.len8tab_size]; rfl
  have fin : ∀ hi, wrap64 (((8 : Nat) : Int) + wrap64 ((Lib.len8tab[(a / 256).toNat]'hi).toNat : Nat)) = (Lib.bitLen a.toNat : Nat) := fun hi => by
    have s : Lib.bitLen a.toNat = 8 + Lib.bitLen (a / 256).toNat := by
      have s := Lib.bitLen_shift8 a.toNat (by omega) (by omega)
      rw [show (a / 256).toNat = a.toNat / 256 by omega]
      exact s
    rw [tab_at]
    exact len_fin (y := a / 256) 8 (by decide) s (by omega) (by omega)
  clear h
  go_enter Tryd.func93, Tryd.ntmps93
  go_wp2
  go_ret
  exact ⟨congrArg (fun z => Ending.returned (Value.int IntKind.i64 z)) (fin _), rfl⟩

set_option maxRecDepth 100000 in
theorem len_16 (a : Int) (h : U a) (w : World) (h1 : a < 4294967296) (h2 : 65536 ≤ a) (h3 : a / 65536 < 256) : Calls Tryd.prog 93 #[.int .u64 a] w fun e w' => e = .returned (.int .i64 (Lib.bitLen a.toNat : Nat)) ∧ w = w' := by
  have u0 := h.1
  have u1 := h.2
  have hsz : (Lib.len8tab.size : Int) = 256 := by rw [Lib.len8tab_size]; rfl
  have fin : ∀ hi, wrap64 (((16 : Nat) : Int) + wrap64 ((Lib.len8tab[(a / 65536).toNat]'hi).toNat : Nat)) = (Lib.bitLen a.toNat : Nat) := fun hi => by
    have s : Lib.bitLen a.toNat = 16 + Lib.bitLen (a / 65536).toNat := by
      have s := Lib.bitLen_shift16 a.toNat (by omega) (by omega)
      rw [show (a / 65536).toNat = a.toNat / 65536 by omega]
      exact s
    rw [tab_at]
    exact len_fin (y := a / 65536) 16 (by decide) s (by omega) (by omega)
  clear h
  go_enter Tryd.func93, Tryd.ntmps93
  go_wp2
  go_ret
  exact ⟨congrArg (fun z => Ending.returned (Value.int IntKind.i64 z)) (fin _), rfl⟩

set_option maxRecDepth 100000 in
theorem len_24 (a : Int) (h : U a) (w : World) (h1 : a < 4294967296) (h2 : 65536 ≤ a) (h3 : 256 ≤ a / 65536) : Calls Tryd.prog 93 #[.int .u64 a] w fun e w' => e = .returned (.int .i64 (Lib.bitLen a.toNat : Nat)) ∧ w = w' := by
  have u0 := h.1
  have u1 := h.2
  have hsz : (Lib.len8tab.size : Int) = 256 := by rw [Lib.len8tab_size]; rfl
  have fin : ∀ hi, wrap64 (((24 : Nat) : Int) + wrap64 ((Lib.len8tab[(a / 65536 / 256).toNat]'hi).toNat : Nat)) = (Lib.bitLen a.toNat : Nat) := fun hi => by
    have s : Lib.bitLen a.toNat = 24 + Lib.bitLen (a / 65536 / 256).toNat := by
      have s := Lib.bitLen_shift24 a.toNat (by omega) (by omega)
      rw [show (a / 65536 / 256).toNat = a.toNat / 16777216 by omega]
      exact s
    rw [tab_at]
    exact len_fin (y := a / 65536 / 256) 24 (by decide) s (by omega) (by omega)
  clear h
  go_enter Tryd.func93, Tryd.ntmps93
  go_wp2
  go_ret
  exact ⟨congrArg (fun z => Ending.returned (Value.int IntKind.i64 z)) (fin _), rfl⟩

set_option maxRecDepth 100000 in
theorem len_32 (a : Int) (h : U a) (w : World) (h1 : 4294967296 ≤ a) (_h2 : a / 4294967296 < 65536) (h3 : a / 4294967296 < 256) : Calls Tryd.prog 93 #[.int .u64 a] w fun e w' => e = .returned (.int .i64 (Lib.bitLen a.toNat : Nat)) ∧ w = w' := by
  have u0 := h.1
  have u1 := h.2
  have hsz : (Lib.len8tab.size : Int) = 256 := by rw [Lib.len8tab_size]; rfl
  have fin : ∀ hi, wrap64 (((32 : Nat) : Int) + wrap64 ((Lib.len8tab[(a / 4294967296).toNat]'hi).toNat : Nat)) = (Lib.bitLen a.toNat : Nat) := fun hi => by
    have s : Lib.bitLen a.toNat = 32 + Lib.bitLen (a / 4294967296).toNat := by
      have s := Lib.bitLen_shift32 a.toNat (by omega) (by omega)
      rw [show (a / 4294967296).toNat = a.toNat / 4294967296 by omega]
      exact s
    rw [tab_at]
    exact len_fin (y := a / 4294967296) 32 (by decide) s (by omega) (by omega)
  clear h
  go_enter Tryd.func93, Tryd.ntmps93
  go_wp2
  go_ret
  exact ⟨congrArg (fun z => Ending.returned (Value.int IntKind.i64 z)) (fin _), rfl⟩

set_option maxRecDepth 100000 in
theorem len_40 (a : Int) (h : U a) (w : World) (h1 : 4294967296 ≤ a) (h2 : a / 4294967296 < 65536) (h3 : 256 ≤ a / 4294967296) : Calls Tryd.prog 93 #[.int .u64 a] w fun e w' => e = .returned (.int .i64 (Lib.bitLen a.toNat : Nat)) ∧ w = w' := by
  have u0 := h.1
  have u1 := h.2
  have hsz : (Lib.len8tab.size : Int) = 256 := by rw [Lib.len8tab_size]; rfl
  have fin : ∀ hi, wrap64 (((40 : Nat) : Int) + wrap64 ((Lib.len8tab[(a / 4294967296 / 256).toNat]'hi).toNat : Nat)) = (Lib.bitLen a.toNat : Nat) := fun hi => by
    have s : Lib.bitLen a.toNat = 40 + Lib.bitLen (a / 4294967296 / 256).toNat := by
      have s := Lib.bitLen_shift40 a.toNat (by omega) (by omega)
      rw [show (a / 4294967296 / 256).toNat = a.toNat / 1099511627776 by omega]
      exact s
    rw [tab_at]
    exact len_fin (y := a / 4294967296 / 256) 40 (by decide) s (by omega) (by omega)
  clear h
  go_enter Tryd.func93, Tryd.ntmps93
  go_wp2
  go_ret
  exact ⟨congrArg (fun z => Ending.returned (Value.int IntKind.i64 z)) (fin _), rfl⟩

set_option maxRecDepth 100000 in
theorem len_48 (a : Int) (h : U a) (w : World) (h1 : 4294967296 ≤ a) (h2 : 65536 ≤ a / 4294967296) (h3 : a / 4294967296 / 65536 < 256) : Calls Tryd.prog 93 #[.int .u64 a] w fun e w' => e = .returned (.int .i64 (Lib.bitLen a.toNat : Nat)) ∧ w = w' := by
  have u0 := h.1
  have u1 := h.2
  have hsz : (Lib.len8tab.size : Int) = 256 := by rw [Lib.len8tab_size]; rfl
  have fin : ∀ hi, wrap64 (((48 : Nat) : Int) + wrap64 ((Lib.len8tab[(a / 4294967296 / 65536).toNat]'hi).toNat : Nat)) = (Lib.bitLen a.toNat : Nat) := fun hi => by
    have s : Lib.bitLen a.toNat = 48 + Lib.bitLen (a / 4294967296 / 65536).toNat := by
      have s := Lib.bitLen_shift48 a.toNat (by omega) (by omega)
      rw [show (a / 4294967296 / 65536).toNat = a.toNat / 281474976710656 by omega]
      exact s
    rw [tab_at]
    exact len_fin (y := a / 4294967296 / 65536) 48 (by decide) s (by omega) (by omega)
  clear h
  go_enter Tryd.func93, Tryd.ntmps93
  go_wp2
  go_ret
  exact ⟨congrArg (fun z => Ending.returned (Value.int IntKind.i64 z)) (fin _), rfl⟩

set_option maxRecDepth 100000 in
theorem len_56 (a : Int) (h : U a) (w : World) (h1 : 4294967296 ≤ a) (h2 : 65536 ≤ a / 4294967296) (h3 : 256 ≤ a / 4294967296 / 65536) : Calls Tryd.prog 93 #[.int .u64 a] w fun e w' => e = .returned (.int .i64 (Lib.bitLen a.toNat : Nat)) ∧ w = w' := by
  have u0 := h.1
  have u1 := h.2
  have hsz : (Lib.len8tab.size : Int) = 256 := by rw [Lib.len8tab_size]; rfl
  have fin : ∀ hi, wrap64 (((56 : Nat) : Int) + wrap64 ((Lib.len8tab[(a / 4294967296 / 65536 / 256).toNat]'hi).toNat : Nat)) = (Lib.bitLen a.toNat : Nat) := fun hi => by
    have s : Lib.bitLen a.toNat = 56 + Lib.bitLen (a / 4294967296 / 65536 / 256).toNat := by
      have s := Lib.bitLen_shift56 a.toNat (by omega) (by omega)
      rw [show (a / 4294967296 / 65536 / 256).toNat = a.toNat / 72057594037927936 by omega]
      exact s
    rw [tab_at]
    exact len_fin (y := a / 4294967296 / 65536 / 256) 56 (by decide) s (by omega) (by omega)
  clear h
  go_enter Tryd.func93, Tryd.ntmps93
  go_wp2
  go_ret
  exact ⟨congrArg (fun z => Ending.returned (Value.int IntKind.i64 z)) (fin _), rfl⟩

theorem len_ok (a : Int) (h : U a) (w : World) : Calls Tryd.prog 93 #[.int .u64 a] w fun e w' => e = .returned (.int .i64 (Lib.bitLen a.toNat : Nat)) ∧ w = w' := by
  by_cases h1 : 4294967296 ≤ a
  · by_cases h2 : 65536 ≤ a / 4294967296
    · by_cases h3 : 256 ≤ a / 4294967296 / 65536
      · exact len_56 a h w h1 h2 h3
      · exact len_48 a h w h1 h2 (by omega)
    · by_cases h3 : 256 ≤ a / 4294967296
      · exact len_40 a h w h1 (by omega) h3
      · exact len_32 a h w h1 (by omega) (by omega)
  · by_cases h2 : 65536 ≤ a
    · by_cases h3 : 256 ≤ a / 65536
      · exact len_24 a h w (by omega) h2 h3
      · exact len_16 a h w (by omega) h2 (by omega)
    · by_cases h3 : 256 ≤ a
      · exact len_8 a h w (by omega) (by omega) h3
      · exact len_0 a h w (by omega) (by omega) (by omega)

end Bt
end Go.Proofs.YtlpdgomoepinjaaDoor
