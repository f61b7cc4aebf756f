/-
  The walk of TextBack.
-/
import Derived.Test.YtffmfhpbhfnieabXDoor
namespace Go.Proofs.Ytffmfhpbhfnieab
open Go.RowKit
namespace Tx
open Hp (Kept K No)
variable {w w' : World}

theorem bs_mk (l : List UInt8) : bs ⟨l.toArray⟩ = l := rfl
theorem mk_bs (s : ByteArray) : (⟨(bs s).toArray⟩ : ByteArray) = s := by
  obtain ⟨⟨x⟩⟩ := s
  rfl
theorem words_eq (s : ByteArray) (L : List Int) (hL : wds (bs s) = L) (hs : s.size ≤ 1000) (w : World) : Calls Try.prog 4 #[.string s] w fun e w' => ∃ g cap, e = .returned (.tuple #[.slice (some ⟨g, 0, none⟩) L.length cap, .int .i64 0]) ∧ Aside (Row w' w.heap.size g cap L) ∧ K w w' := by
  subst hL
  exact words_ok s hs w
theorem of_text (s : ByteArray) {a : Option Addr} {b off cap : Nat} (hs : s.size ≤ 1000) (h : Src w a b off cap (wds (bs s))) : Calls Try.prog 6 #[.slice a (wds (bs s)).length cap] w fun e w' => e = .returned (.tuple #[.string s, .int .i64 0]) ∧ K w w' := by
  have := of_yes h (is_wds (by rw [bs_len]; exact hs))
  rw [ofT_wds, mk_bs] at this
  exact this

/-- What the second half needs of the row that came in. -/
theorem row_len_wds {s : ByteArray} (hs : s.size ≤ 1000) : ((wds (bs s)).length : Int) = mn s.size := by
  rw [wds_mn (by rw [bs_len]; exact hs), bs_len]
theorem wds_us' {s : ByteArray} (hs : s.size ≤ 1000) : Us (wds (bs s)) := wds_us (by rw [bs_len]; exact hs)
theorem wds_max {s : ByteArray} (hs : s.size ≤ 1000) : (wds (bs s)).length ≤ maxLen := by
  rw [wds_len, bs_len]
  unfold maxLen
  omega

theorem of_textX (s : ByteArray) {X : List Int} (hX : wds (bs s) = X) {x : Nat} (hx : X.length = x) (hs : s.size ≤ 1000) {base g c1 : Nat} (R : Row w base g c1 X) : Calls Try.prog 6 #[.slice (some ⟨g, 0, none⟩) x c1] w fun e w' => e = .returned (.tuple #[.string s, .int .i64 0]) ∧ K w w' := by
  subst hX hx
  exact of_text s hs (R.src (wds_us' hs) (wds_max hs))
theorem of_yesX {w : World} {a : Option Addr} {b off cap : Nat} {L : List Int} {q : Nat} (h : Src w a b off cap L) (hi : Is L) (hq : L.length = q) : Calls Try.prog 6 #[.slice a q cap] w fun e w' => e = .returned (.tuple #[.string ⟨(ofT L).toArray⟩, .int .i64 0]) ∧ K w w' := by
  subst hq
  exact of_yes h hi
theorem of_noX {w : World} {a : Option Addr} {b off cap : Nat} {L : List Int} {q : Nat} (h : Src w a b off cap L) (hi : ¬ Is L) (hq : L.length = q) : Calls Try.prog 6 #[.slice a q cap] w fun e w' => e = .returned (.tuple #[.string ⟨#[]⟩, .int .i64 8]) ∧ K w w' := by
  subst hq
  exact of_no h hi
theorem same_X {a a' : Option Addr} {b off cap b' off' cap' p q : Nat} {L M : List Int} (h : Src w a b off cap L) (h' : Src w a' b' off' cap' M) (hp : L.length = p) (hq : M.length = q) : Calls Try.prog 9 #[.slice a p cap, .slice a' q cap'] w fun e w' => e = .returned (.bool (decide (L = M))) ∧ K w w' := by
  subst hp hq
  exact same_any h h'
theorem words_X (s : ByteArray) {L : List Int} {q : Nat} (hL : wds (bs s) = L) (hq : L.length = q) (hs : s.size ≤ 1000) (w : World) : Calls Try.prog 4 #[.string s] w fun e w' => ∃ g cap, e = .returned (.tuple #[.slice (some ⟨g, 0, none⟩) q cap, .int .i64 0]) ∧ Aside (Row w' w.heap.size g cap L) ∧ K w w' := by
  subst hL hq
  exact words_ok s hs w

variable {a : Option Addr} {b off cap : Nat} {L : List Int}

end Tx
end Go.Proofs.Ytffmfhpbhfnieab
