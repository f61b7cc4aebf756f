/-
  Walks of isText, Words and Of, each for any arguments.
-/
import Derived.Test.YtffmfhpbhfnieabXLeaf
import Derived.OwnWalk
import Derived.Deep.LoopGhost
import Derived.BigQuiet
import Derived.Laws.BytesString
import Derived.Laws.Cells
namespace Go.Proofs.Ytffmfhpbhfnieab
open Go.RowKit
namespace Tx
open Hp (Kept K No)
variable {w w' : World} {a : Option Addr} {b off cap : Nat} {L : List Int}

set_option maxRecDepth 100000 in
set_option maxHeartbeats 1000000 in
theorem isText_yes (h : Src w a b off cap L) (hi : Is L) : Calls Try.prog 11 #[.slice a L.length cap] w fun e w' => e = .returned (.bool true) ∧ K w w' := by
  have h0 := hi.ne
  have hx := h.at h0
  have hix := h.ix0 h0
  have hq0 : ((L.length : Int) == 0) = false := by rw [beq_eq_false_iff_ne]; omega
  rw [Nat.add_zero] at hx
  obtain ⟨n, hn⟩ : ∃ n : Nat, L.getD 0 0 = (n : Int) := ⟨(L.getD 0 0).toNat, by have := h.us.at 0; omega⟩
  have hle := hi.le
  have hlen := hi.len
  have hre := hi.rest
  rw [hn] at hx hle hlen hre
  rw [Int.toNat_natCast] at hre
  have cr := restOf_ok h n (by omega) hlen
  rw [hre] at cr
  have cm := many_any (n : Int)
  rw [mn_in (by omega) (by omega), ← hlen] at cm
  have hu : n ≤ 1000 := by omega
  clear hre hlen hle hi h hn
  generalize L.length = q at *
  go_enter Try.func11, Try.ntmps11
  go_wp2_with (first
    | (go_at_call 7; refine (cm _).mono ?_; rintro e w2 ⟨rfl, rfl⟩)
    | (go_at_call 15; refine cr.mono ?_; rintro e w2 ⟨rfl, k2⟩))
  go_ret
  exact ⟨rfl, k2⟩

set_option maxRecDepth 100000 in
set_option maxHeartbeats 1000000 in
theorem isText_no (h : Src w a b off cap L) (hi : ¬ Is L) : Calls Try.prog 11 #[.slice a L.length cap] w fun e w' => e = .returned (.bool false) ∧ K w w' := by
  have k0 := K.refl w
  by_cases h0 : 0 < L.length
  case neg =>
    have hz : L.length = 0 := by omega
    rw [hz]
    clear h hi h0 hz
    go_enter Try.func11, Try.ntmps11
    go_wp2
    go_ret
    exact ⟨rfl, k0⟩
  have hx := h.at h0
  have hix := h.ix0 h0
  have hq0 : ((L.length : Int) == 0) = false := by rw [beq_eq_false_iff_ne]; omega
  rw [Nat.add_zero] at hx
  obtain ⟨u0, u1⟩ := h.us.at 0
  obtain ⟨n, hn⟩ : ∃ n : Nat, L.getD 0 0 = (n : Int) := ⟨(L.getD 0 0).toNat, by omega⟩
  have hmax := h.max
  unfold maxLen at hmax
  by_cases hle : n ≤ 1000
  case neg =>
    rw [hn] at hx u1
    clear h hi hn u0
    have hbig : 1000 < n := by omega
    clear hle
    generalize L.length = q at *
    go_enter Try.func11, Try.ntmps11
    go_wp2
    go_ret
    exact ⟨rfl, k0⟩
  by_cases hlen : (L.length : Int) = 1 + ((n : Int) + 7) / 8
  · have hre : (rest L n == 0) = false := by
      rw [beq_eq_false_iff_ne]
      intro e
      exact hi ⟨h0, by omega, by rw [hn]; exact hlen, by rw [hn, Int.toNat_natCast]; exact e⟩
    have cr := restOf_ok h n hle hlen
    have cm := many_any (n : Int)
    rw [mn_in (by omega) (by omega), ← hlen] at cm
    rw [hn] at hx
    clear hlen hi h hn u0 u1
    generalize rest L n = re at *
    generalize L.length = q at *
    go_enter Try.func11, Try.ntmps11
    go_wp2_with (first
      | (go_at_call 7; refine (cm _).mono ?_; rintro e w2 ⟨rfl, rfl⟩)
      | (go_at_call 15; refine cr.mono ?_; rintro e w2 ⟨rfl, k2⟩))
    go_ret
    exact ⟨rfl, k2⟩
  · have cm := many_any (n : Int)
    rw [mn_in (by omega) (by omega)] at cm
    generalize 1 + ((n : Int) + 7) / 8 = m at *
    have hne : ((L.length : Int) == m) = false := by rw [beq_eq_false_iff_ne]; exact hlen
    rw [hn] at hx
    clear hlen hi h hn u0 u1
    generalize L.length = q at *
    go_enter Try.func11, Try.ntmps11
    go_wp2_with (go_at_call 7; refine (cm _).mono ?_; rintro e w2 ⟨rfl, rfl⟩)
    go_ret
    exact ⟨rfl, k0⟩

end Tx
end Go.Proofs.Ytffmfhpbhfnieab
