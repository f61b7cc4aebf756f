/-
  Texts as the program holds them against each other; what ranks do.
-/
import Derived.Test.YtbbjfebdihepnaaGreatDoorWJ
import Derived.Laws.Cover1
namespace Go.Proofs.YtbbjfebdihepnaaGreatDoor
open Go.RowKit Go.Maps
namespace Wa
open Go.Lib (compareBytes)

theorem less_cmp : ∀ a b : List UInt8, Op.bytesLess a b = decide (compareBytes a b < 0)
  | [], [] => by simp [Op.bytesLess, compareBytes]
  | _ :: _, [] => by simp [Op.bytesLess, compareBytes]
  | [], _ :: _ => by simp [Op.bytesLess, compareBytes]
  | a :: x, b :: y => by
    rw [Op.bytesLess, less_cmp x y, Tx.cmp_cons]
    by_cases h1 : a.toNat < b.toNat
    · have h2 : a < b := UInt8.lt_iff_toNat_lt.2 h1
      rw [if_pos h1]
      simp [h2]
    · have h2 : ¬ a < b := fun h => h1 (UInt8.lt_iff_toNat_lt.1 h)
      rw [if_neg h1]
      by_cases h3 : b.toNat < a.toNat
      · have h4 : (a == b) = false := by
          simp only [beq_eq_false_iff_ne, ne_eq]
          rintro rfl
          omega
        rw [if_pos h3, h4]
        simp [h2]
      · have h4 : a = b := UInt8.toNat_inj.1 (by omega)
        rw [if_neg h3, h4]
        simp
theorem lss_cmp (a b : ByteArray) : Op.bytesLess a.toList b.toList = decide (cmp a b < 0) := by
  rw [less_cmp, Lib.toList_data, Lib.toList_data]
  rfl
theorem eql_cmp (a b : ByteArray) : (a.toList == b.toList) = decide (cmp a b = 0) := by
  rw [Lib.toList_data, Lib.toList_data]
  by_cases h : cmp a b = 0
  · obtain rfl := cmp_eq h
    simp [h]
  · rw [decide_eq_false h]
    simp only [beq_eq_false_iff_ne, ne_eq]
    intro e
    refine h ?_
    unfold cmp
    rw [e]
    exact Tx.cmp_self _
theorem lss_of {a b : ByteArray} {p : Bool} (h : decide (cmp a b < 0) = p) : Op.bytesLess a.toList b.toList = p := by rw [lss_cmp, h]
theorem eql_of {a b : ByteArray} {p : Bool} (h : decide (cmp a b = 0) = p) : (a.toList == b.toList) = p := by rw [eql_cmp, h]

end Wa
end Go.Proofs.YtbbjfebdihepnaaGreatDoor
