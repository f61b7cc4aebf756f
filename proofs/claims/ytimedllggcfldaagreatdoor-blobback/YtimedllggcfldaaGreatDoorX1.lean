/-
  Texts as rows of words, with no program: what the words of a text are, which words are a text's, and which text.
-/
import Derived.Lib.Bytealg
import Derived.Test.YtimedllggcfldaaGreatDoorProg
import Derived.Test.YtimedllggcfldaaGreatDoorH1
import Derived.Lib.Walk
import Derived.WalkKit
import Derived.Handy
import Derived.WalkSpells
import Derived.Laws.OwnMore
import Derived.Maps.AppendAt
import Derived.OneCell
import Derived.OwnWalk
import Derived.Deep.LoopGhost
import Derived.BigQuiet
import Derived.Laws.BytesString
import Derived.Laws.Cells
namespace Go.Proofs.YtimedllggcfldaaGreatDoor
namespace Tx

/-- A text's byte k; 0 where there is none. -/
def bt (l : List UInt8) (k : Nat) : Int := ((l.getD k 0).toNat : Int)
theorem bt_rng (l : List UInt8) (k : Nat) : 0 ≤ bt l k ∧ bt l k ≤ 255 := by
  have := (l.getD k 0).toNat_lt
  unfold bt
  omega
theorem bt_out {l : List UInt8} {k : Nat} (h : l.length ≤ k) : bt l k = 0 := by
  unfold bt
  rw [List.getD_eq_getElem?_getD, List.getElem?_eq_none h]
  rfl
theorem bt_in {l : List UInt8} {k : Nat} (h : k < l.length) : bt l k = (l[k].toNat : Int) := by
  unfold bt
  rw [List.getD_eq_getElem?_getD, List.getElem?_eq_getElem h]
  rfl
theorem bt_take (l : List UInt8) (k j : Nat) : bt (l.take k) j = if j < k then bt l j else 0 := by
  unfold bt
  simp only [List.getD_eq_getElem?_getD, List.getElem?_take]
  split <;> rfl

/-- j bytes from p on as one number, the first one the highest. -/
def hor (l : List UInt8) (p : Nat) : Nat → Int
  | 0 => 0
  | j + 1 => hor l p j * 256 + bt l (p + j)
/-- The word of the eight bytes from 8 i on. -/
def wv (l : List UInt8) (i : Nat) : Int := hor l (8 * i) 8
theorem wv_eq (l : List UInt8) (i : Nat) : wv l i = bt l (8 * i) * 72057594037927936 + bt l (8 * i + 1) * 281474976710656 + bt l (8 * i + 2) * 1099511627776 + bt l (8 * i + 3) * 4294967296 + bt l (8 * i + 4) * 16777216 + bt l (8 * i + 5) * 65536 + bt l (8 * i + 6) * 256 + bt l (8 * i + 7) := by
  unfold wv
  simp only [hor, Nat.add_zero]
  omega
theorem wv_rng (l : List UInt8) (i : Nat) : 0 ≤ wv l i ∧ wv l i ≤ 18446744073709551615 := by
  have h0 := bt_rng l (8 * i); have h1 := bt_rng l (8 * i + 1); have h2 := bt_rng l (8 * i + 2); have h3 := bt_rng l (8 * i + 3)
  have h4 := bt_rng l (8 * i + 4); have h5 := bt_rng l (8 * i + 5); have h6 := bt_rng l (8 * i + 6); have h7 := bt_rng l (8 * i + 7)
  rw [wv_eq]
  omega
theorem wv_nil (i : Nat) : wv [] i = 0 := by
  rw [wv_eq]
  simp [bt]

/-- How far byte r of a word is shifted, and what that is times. -/
def pw (r : Nat) : Int := (2 : Int) ^ ((7 - r) * 8)
theorem pw_vals : pw 0 = 72057594037927936 ∧ pw 1 = 281474976710656 ∧ pw 2 = 1099511627776 ∧ pw 3 = 4294967296 ∧ pw 4 = 16777216 ∧ pw 5 = 65536 ∧ pw 6 = 256 ∧ pw 7 = 1 := by
  unfold pw
  decide

theorem eight {r : Nat} (h : r < 8) : r = 0 ∨ r = 1 ∨ r = 2 ∨ r = 3 ∨ r = 4 ∨ r = 5 ∨ r = 6 ∨ r = 7 := by omega

/-- A byte out of its word. -/
theorem byte_of (l : List UInt8) (k : Nat) : wv l (k / 8) / pw (k % 8) % 256 = bt l k := by
  obtain ⟨q, r, hr, rfl⟩ : ∃ q r, r < 8 ∧ k = 8 * q + r := ⟨k / 8, k % 8, by omega, by omega⟩
  rw [show (8 * q + r) / 8 = q by omega, show (8 * q + r) % 8 = r by omega, wv_eq]
  have h0 := bt_rng l (8 * q); have h1 := bt_rng l (8 * q + 1); have h2 := bt_rng l (8 * q + 2); have h3 := bt_rng l (8 * q + 3)
  have h4 := bt_rng l (8 * q + 4); have h5 := bt_rng l (8 * q + 5); have h6 := bt_rng l (8 * q + 6); have h7 := bt_rng l (8 * q + 7)
  obtain ⟨p0, p1, p2, p3, p4, p5, p6, p7⟩ := pw_vals
  rcases eight hr with rfl | rfl | rfl | rfl | rfl | rfl | rfl | rfl
  all_goals first | (rw [p0]; rw [Nat.add_zero (8 * q)]) | rw [p1] | rw [p2] | rw [p3] | rw [p4] | rw [p5] | rw [p6] | rw [p7]
  all_goals omega

/-- One byte more: only its own word turns. -/
theorem wv_other {l : List UInt8} {k i : Nat} (h : i ≠ k / 8) : wv (l.take (k + 1)) i = wv (l.take k) i := by
  have e : ∀ t, t < 8 → bt (l.take (k + 1)) (8 * i + t) = bt (l.take k) (8 * i + t) := fun t ht => by
    rw [bt_take, bt_take]
    by_cases h1 : 8 * i + t < k
    · rw [if_pos h1, if_pos (by omega)]
    · rw [if_neg h1, if_neg (by omega)]
  have e0 := e 0 (by omega)
  rw [Nat.add_zero (8 * i)] at e0
  rw [wv_eq, wv_eq, e0, e 1 (by omega), e 2 (by omega), e 3 (by omega), e 4 (by omega), e 5 (by omega), e 6 (by omega), e 7 (by omega)]
theorem wv_one (l : List UInt8) (k : Nat) : wv (l.take (k + 1)) (k / 8) = wv (l.take k) (k / 8) + bt l k * pw (k % 8) ∧ wv (l.take k) (k / 8) % (256 * pw (k % 8)) = 0 := by
  obtain ⟨q, r, hr, rfl⟩ : ∃ q r, r < 8 ∧ k = 8 * q + r := ⟨k / 8, k % 8, by omega, by omega⟩
  rw [show (8 * q + r) / 8 = q by omega, show (8 * q + r) % 8 = r by omega, wv_eq, wv_eq]
  have e : ∀ n t, bt (l.take (8 * q + n)) (8 * q + t) = if t < n then bt l (8 * q + t) else 0 := fun n t => by
    rw [bt_take]
    by_cases h : t < n
    · rw [if_pos h, if_pos (by omega)]
    · rw [if_neg h, if_neg (by omega)]
  have e0 : ∀ n, bt (l.take (8 * q + n)) (8 * q) = if 0 < n then bt l (8 * q) else 0 := fun n => by have := e n 0; rwa [Nat.add_zero (8 * q)] at this
  rw [Nat.add_assoc (8 * q) r 1]
  simp only [e, e0]
  obtain ⟨p0, p1, p2, p3, p4, p5, p6, p7⟩ := pw_vals
  rcases eight hr with rfl | rfl | rfl | rfl | rfl | rfl | rfl | rfl
  · rw [p0]; simp <;> omega
  · rw [p1]; simp <;> omega
  · rw [p2]; simp <;> omega
  · rw [p3]; simp <;> omega
  · rw [p4]; simp <;> omega
  · rw [p5]; simp <;> omega
  · rw [p6]; simp <;> omega
  · rw [p7]; simp <;> omega

theorem or_add (x b : Int) (hx : 0 ≤ x) (r : Nat) (hm : x % (256 * pw r) = 0) (b0 : 0 ≤ b) (b1 : b ≤ 255) : ((x.toNat ||| (b * pw r).toNat : Nat) : Int) = x + b * pw r := by
  unfold pw at *
  generalize (7 - r) * 8 = s at *
  obtain ⟨y, rfl⟩ := Int.eq_ofNat_of_zero_le b0
  have e1 : (256 : Int) * 2 ^ s = ((2 ^ (8 + s) : Nat) : Int) := by rw [Nat.pow_add]; simp
  rw [e1] at hm
  obtain ⟨z, rfl⟩ := Int.eq_ofNat_of_zero_le hx
  have hz : z % 2 ^ (8 + s) = 0 := by exact_mod_cast hm
  have e2 : ((y : Int) * 2 ^ s).toNat = y * 2 ^ s := by rw [show (y : Int) * 2 ^ s = ((y * 2 ^ s : Nat) : Int) by simp]; exact Int.toNat_natCast _
  rw [e2, Int.toNat_natCast]
  have hlt : y * 2 ^ s < 2 ^ (8 + s) := by
    rw [Nat.pow_add]
    exact Nat.mul_lt_mul_of_pos_right (by omega) (Nat.two_pow_pos s)
  have e3 : z = 2 ^ (8 + s) * (z / 2 ^ (8 + s)) := by have := Nat.div_add_mod z (2 ^ (8 + s)); omega
  have e4 := Nat.two_pow_add_eq_or_of_lt hlt (z / 2 ^ (8 + s))
  rw [← e3] at e4
  rw [← e4]
  simp

/-- How many words a text of n bytes has. -/
def mn (n : Int) : Int := if 0 ≤ n ∧ n ≤ 1000 then 1 + (n + 7) / 8 else 0
theorem mn_in {n : Int} (h0 : 0 ≤ n) (h1 : n ≤ 1000) : mn n = 1 + (n + 7) / 8 := if_pos ⟨h0, h1⟩
theorem mn_out {n : Int} (h : ¬ (0 ≤ n ∧ n ≤ 1000)) : mn n = 0 := if_neg h

/-- The words of the first k bytes of a text, in the row that all of it has. -/
def wdsK (l : List UInt8) (k : Nat) : List Int := (l.length : Int) :: (List.range ((l.length + 7) / 8)).map (wv (l.take k))
/-- A text's words. -/
def wds (l : List UInt8) : List Int := wdsK l l.length
theorem wdsK_len (l : List UInt8) (k : Nat) : (wdsK l k).length = 1 + (l.length + 7) / 8 := by simp [wdsK]; omega
theorem wds_len (l : List UInt8) : (wds l).length = 1 + (l.length + 7) / 8 := wdsK_len l _
theorem wds_mn {l : List UInt8} (h : l.length ≤ 1000) : ((wds l).length : Int) = mn l.length := by
  rw [mn_in (by omega) (by omega), wds_len]
  omega
theorem wdsK_at (l : List UInt8) (k i : Nat) (h : i < (l.length + 7) / 8) : (wdsK l k)[1 + i]? = some (wv (l.take k) i) := by
  rw [Nat.add_comm]
  simp [wdsK, h]
theorem wds_at (l : List UInt8) (i : Nat) (h : i < (l.length + 7) / 8) : (wds l)[1 + i]? = some (wv l i) := by
  have := wdsK_at l l.length i h
  rwa [List.take_length] at this
theorem wdsK_zero (l : List UInt8) : wdsK l 0 = (l.length : Int) :: List.replicate ((l.length + 7) / 8) 0 := by
  unfold wdsK
  congr 1
  rw [List.take_zero]
  apply List.ext_getElem
  · simp
  · intro i h1 h2
    simp [wv_nil]
/-- One byte more. -/
theorem wdsK_succ (l : List UInt8) (k : Nat) : wdsK l (k + 1) = (wdsK l k).set (1 + k / 8) (wv (l.take k) (k / 8) + bt l k * pw (k % 8)) := by
  unfold wdsK
  rw [Nat.add_comm 1, List.set_cons_succ]
  congr 1
  apply List.ext_getElem
  · simp
  · intro i h1 h2
    simp only [List.getElem_map, List.getElem_range, List.getElem_set]
    split
    · next e => subst e; exact (wv_one l k).1
    · next e => exact wv_other (Ne.symm e)

/-- Is the row a text's? -/
def rest (L : List Int) (n : Nat) : Int := L.getD (L.length - 1) 0 % 2 ^ (((L.length - 1) * 8 - n) * 8)
structure Is (L : List Int) : Prop where
  ne : 0 < L.length
  le : L.getD 0 0 ≤ 1000
  len : (L.length : Int) = 1 + (L.getD 0 0 + 7) / 8
  rest : rest L (L.getD 0 0).toNat = 0
def Us (L : List Int) : Prop := ∀ x ∈ L, 0 ≤ x ∧ x ≤ 18446744073709551615
theorem Us.at {L : List Int} (h : Us L) (i : Nat) : 0 ≤ L.getD i 0 ∧ L.getD i 0 ≤ 18446744073709551615 := by
  rw [List.getD_eq_getElem?_getD]
  cases hx : L[i]? with
  | none => simp
  | some x => exact h x (List.mem_of_getElem? hx)

/-- Byte k of a row of words. -/
def ob (L : List Int) (k : Nat) : Int := L.getD (1 + k / 8) 0 / pw (k % 8) % 256
theorem pw_pos (r : Nat) : 0 < pw r := Int.pow_pos (by decide)
theorem ob_rng (L : List Int) (k : Nat) : 0 ≤ ob L k ∧ ob L k ≤ 255 := by
  unfold ob
  omega
/-- The text of a row of words. -/
def ofT (L : List Int) : List UInt8 := (List.range (L.getD 0 0).toNat).map fun k => UInt8.ofNat (ob L k).toNat
theorem ofT_len (L : List Int) : (ofT L).length = (L.getD 0 0).toNat := by simp [ofT]
theorem ofT_bt (L : List Int) {k : Nat} (h : k < (L.getD 0 0).toNat) : bt (ofT L) k = ob L k := by
  rw [bt_in (by rw [ofT_len]; exact h)]
  obtain ⟨u0, u1⟩ := ob_rng L k
  have e : (ob L k).toNat < UInt8.size := by
    show _ < 256
    omega
  simp only [ofT, List.getElem_map, List.getElem_range]
  rw [UInt8.toNat_ofNat_of_lt' e]
  omega

theorem wds_us {l : List UInt8} (h : l.length ≤ 1000) : Us (wds l) := by
  intro x hx
  rcases List.mem_cons.1 hx with rfl | hx
  · omega
  · obtain ⟨i, _, rfl⟩ := List.mem_map.1 hx
    exact wv_rng _ _
theorem wds_zero (l : List UInt8) : (wds l).getD 0 0 = l.length := rfl
theorem wds_getD (l : List UInt8) (i : Nat) (h : i < (l.length + 7) / 8) : (wds l).getD (1 + i) 0 = wv l i := by
  rw [List.getD_eq_getElem?_getD, wds_at l i h]
  rfl

theorem ext_bt {a b : List UInt8} (hl : a.length = b.length) (h : ∀ k, k < a.length → bt a k = bt b k) : a = b := by
  apply List.ext_getElem hl
  intro k h1 h2
  have := h k h1
  rw [bt_in h1, bt_in h2] at this
  exact UInt8.toNat_inj.1 (by omega)

/-- Of the words of a text the text. -/
theorem ofT_wds (l : List UInt8) : ofT (wds l) = l := by
  have hz : ((wds l).getD 0 0).toNat = l.length := by rw [wds_zero]; omega
  refine ext_bt (by rw [ofT_len, hz]) fun k hk => ?_
  rw [ofT_len, hz] at hk
  rw [ofT_bt _ (show k < ((wds l).getD 0 0).toNat by omega)]
  unfold ob
  rw [wds_getD l _ (by omega), byte_of]

/-- What of a word's value lies behind its byte t. -/
theorem low_of (l : List UInt8) (i t : Nat) (ht : t ≤ 8) : (wv l i % 2 ^ ((8 - t) * 8) = 0) ↔ ∀ j, t ≤ j → j < 8 → bt l (8 * i + j) = 0 := by
  rw [wv_eq]
  have h0 := bt_rng l (8 * i); have h1 := bt_rng l (8 * i + 1); have h2 := bt_rng l (8 * i + 2); have h3 := bt_rng l (8 * i + 3)
  have h4 := bt_rng l (8 * i + 4); have h5 := bt_rng l (8 * i + 5); have h6 := bt_rng l (8 * i + 6); have h7 := bt_rng l (8 * i + 7)
  constructor
  · intro h j h8 h9
    have hc : t = 0 ∨ t = 1 ∨ t = 2 ∨ t = 3 ∨ t = 4 ∨ t = 5 ∨ t = 6 ∨ t = 7 ∨ t = 8 := by omega
    rcases eight h9 with rfl | rfl | rfl | rfl | rfl | rfl | rfl | rfl <;> rcases hc with rfl | rfl | rfl | rfl | rfl | rfl | rfl | rfl | rfl <;> first | omega | (simp only [Nat.reduceSub, Nat.reduceMul, Int.reducePow, Nat.add_zero] at h ⊢; omega)
  · intro h
    have hc : t = 0 ∨ t = 1 ∨ t = 2 ∨ t = 3 ∨ t = 4 ∨ t = 5 ∨ t = 6 ∨ t = 7 ∨ t = 8 := by omega
    have g0 := h 0; have g1 := h 1; have g2 := h 2; have g3 := h 3; have g4 := h 4; have g5 := h 5; have g6 := h 6; have g7 := h 7
    rw [Nat.add_zero] at g0
    clear h
    rcases hc with rfl | rfl | rfl | rfl | rfl | rfl | rfl | rfl | rfl <;> simp only [Nat.reduceSub, Nat.reduceMul, Int.reducePow] <;> omega


theorem getD_at {L : List Int} {i : Nat} (h : i < L.length) : L[i]? = some (L.getD i 0) := by
  rw [List.getD_eq_getElem?_getD, List.getElem?_eq_getElem h]
  rfl

/-- A word of its eight bytes. -/
theorem word_of (x : Int) (h0 : 0 ≤ x) (h1 : x ≤ 18446744073709551615) : x = (x / 72057594037927936 % 256) * 72057594037927936 + (x / 281474976710656 % 256) * 281474976710656 + (x / 1099511627776 % 256) * 1099511627776 + (x / 4294967296 % 256) * 4294967296 + (x / 16777216 % 256) * 16777216 + (x / 65536 % 256) * 65536 + (x / 256 % 256) * 256 + x % 256 := by
  omega

/-- The bytes of words 1, 2, .. of a row, all of them. -/
def allB (L : List Int) : List UInt8 := (List.range ((L.length - 1) * 8)).map fun k => UInt8.ofNat (ob L k).toNat
theorem allB_len (L : List Int) : (allB L).length = (L.length - 1) * 8 := by simp [allB]
theorem allB_bt (L : List Int) {k : Nat} (h : k < (L.length - 1) * 8) : bt (allB L) k = ob L k := by
  rw [bt_in (by rw [allB_len]; exact h)]
  obtain ⟨u0, u1⟩ := ob_rng L k
  have e : (ob L k).toNat < UInt8.size := by
    show _ < 256
    omega
  simp only [allB, List.getElem_map, List.getElem_range]
  rw [UInt8.toNat_ofNat_of_lt' e]
  omega
theorem allB_wv {L : List Int} (hu : Us L) {i : Nat} (h : 1 + i < L.length) : wv (allB L) i = L.getD (1 + i) 0 := by
  obtain ⟨h0, h1⟩ := hu.at (1 + i)
  have e : ∀ t, t < 8 → bt (allB L) (8 * i + t) = L.getD (1 + i) 0 / pw t % 256 := fun t ht => by
    rw [allB_bt L (by omega)]
    unfold ob
    rw [show (8 * i + t) / 8 = i by omega, show (8 * i + t) % 8 = t by omega]
  have e0 := e 0 (by omega)
  rw [Nat.add_zero (8 * i)] at e0
  obtain ⟨p0, p1, p2, p3, p4, p5, p6, p7⟩ := pw_vals
  rw [wv_eq, e0, e 1 (by omega), e 2 (by omega), e 3 (by omega), e 4 (by omega), e 5 (by omega), e 6 (by omega), e 7 (by omega), p0, p1, p2, p3, p4, p5, p6, p7]
  generalize L.getD (1 + i) 0 = x at *
  have := word_of x h0 h1
  omega

theorem bt_ofT {L : List Int} (k : Nat) : bt (ofT L) k = if k < (L.getD 0 0).toNat then ob L k else 0 := by
  split
  · next h => exact ofT_bt L h
  · next h => exact bt_out (by rw [ofT_len]; omega)

/-- What the rest of the last word says: behind the text's bytes all are 0. -/
theorem rest_iff {L : List Int} (hu : Us L) (hne : 0 < L.length) {n : Nat} (hlen : (L.length : Int) = 1 + ((n : Int) + 7) / 8) : rest L n = 0 ↔ ∀ k, n ≤ k → k < (L.length - 1) * 8 → ob L k = 0 := by
  unfold rest
  by_cases h1 : L.length = 1
  · have hn : n = 0 := by omega
    subst hn
    rw [h1]
    simp
  · obtain ⟨m, hm⟩ : ∃ m, L.length = m + 2 := ⟨L.length - 2, by omega⟩
    have hw : L.getD (L.length - 1) 0 = wv (allB L) m := by rw [allB_wv hu (by omega), show L.length - 1 = 1 + m by omega]
    have ht : (L.length - 1) * 8 - n = 8 - (n - 8 * m) := by omega
    rw [hw, ht, low_of _ _ _ (by omega)]
    constructor
    · intro h k h2 h3
      have := h (k - 8 * m) (by omega) (by omega)
      rw [show 8 * m + (k - 8 * m) = k by omega, allB_bt L h3] at this
      exact this
    · intro h j h2 h3
      rw [allB_bt L (by omega)]
      exact h _ (by omega) (by omega)

/-- A text's words are a text's, of that text alone. -/
theorem is_wds {l : List UInt8} (h : l.length ≤ 1000) : Is (wds l) := by
  have hl := wds_len l
  have hz : ((wds l).getD 0 0) = (l.length : Int) := wds_zero l
  refine ⟨by omega, by rw [hz]; omega, by rw [hz]; omega, ?_⟩
  rw [hz, Int.toNat_natCast]
  refine (rest_iff (wds_us h) (by omega) (by omega)).2 fun k h1 h2 => ?_
  unfold ob
  rw [wds_getD l _ (by omega), byte_of]
  exact bt_out h1
theorem wds_ofT {L : List Int} (hu : Us L) (h : Is L) : wds (ofT L) = L ∧ (ofT L).length ≤ 1000 := by
  have h0 := hu.at 0
  have hle := h.le
  have hlen := h.len
  have hne := h.ne
  obtain ⟨n, hn⟩ : ∃ n : Nat, L.getD 0 0 = (n : Int) := ⟨(L.getD 0 0).toNat, by omega⟩
  have hr := h.rest
  rw [hn] at hle hlen hr
  rw [Int.toNat_natCast] at hr
  have hz := (rest_iff hu hne hlen).1 hr
  have hl : (ofT L).length = n := by rw [ofT_len, hn]; omega
  refine ⟨?_, by omega⟩
  have he : ∀ k, bt (ofT L) k = bt (allB L) k := fun k => by
    rw [bt_ofT, hn, Int.toNat_natCast]
    by_cases h1 : k < n
    · rw [if_pos h1, allB_bt L (by omega)]
    · rw [if_neg h1]
      by_cases h2 : k < (L.length - 1) * 8
      · rw [allB_bt L h2, hz k (by omega) h2]
      · exact (bt_out (by rw [allB_len]; omega)).symm
  have hw : ∀ i, wv (ofT L) i = wv (allB L) i := fun i => by
    rw [wv_eq, wv_eq]
    simp only [he]
  apply List.ext_getElem?
  intro i
  rcases Nat.eq_zero_or_pos i with rfl | hi
  · rw [getD_at hne, hn]
    show some (((ofT L).length : Nat) : Int) = _
    rw [hl]
  · obtain ⟨j, rfl⟩ : ∃ j, i = 1 + j := ⟨i - 1, by omega⟩
    by_cases h1 : 1 + j < L.length
    · rw [wds_at _ _ (by omega), hw, allB_wv hu h1, getD_at h1]
    · have hq := wds_len (ofT L)
      rw [List.getElem?_eq_none (show (wds (ofT L)).length ≤ 1 + j by omega), List.getElem?_eq_none (by omega)]

end Tx
end Go.Proofs.YtimedllggcfldaaGreatDoor

/-
  Walks of the smallest functions: place, Many, the closure that puts a byte, restOf, isText, Compare.
-/
namespace Go.Proofs.YtimedllggcfldaaGreatDoor
open Go.RowKit
namespace Tx
open Hp (Kept K No)

theorem place_ok (k : Nat) (hk : k < 1000) (w : World) : Calls Tryz.prog 92 #[.int .i64 (k : Int)] w fun e w' => e = .returned (.tuple #[.int .i64 ((1 + k / 8 : Nat) : Int), .int .i64 (((7 - k % 8) * 8 : Nat) : Int)]) ∧ w = w' := by
  have e1 : 1 + (k : Int) / 8 = ((1 + k / 8 : Nat) : Int) := by omega
  have e2 : (7 - (k : Int) % 8) * 8 = (((7 - k % 8) * 8 : Nat) : Int) := by omega
  rw [← e1, ← e2]
  clear e1 e2
  go_enter Tryz.func92, Tryz.ntmps92
  go_wp2
  go_ret2
  exact ⟨rfl, rfl⟩

theorem many_any (n : Int) (w : World) : Calls Tryz.prog 45 #[.int .i64 n] w fun e w' => e = .returned (.int .i64 (mn n)) ∧ w = w' := by
  by_cases h0 : n < 0
  · rw [mn_out (by omega)]
    go_enter Tryz.func45, Tryz.ntmps45
    go_wp2
    go_ret
    exact ⟨rfl, rfl⟩
  · by_cases h1 : 1000 < n
    · rw [mn_out (by omega)]
      go_enter Tryz.func45, Tryz.ntmps45
      go_wp2
      go_ret
      exact ⟨rfl, rfl⟩
    · rw [mn_in (by omega) (by omega), show 1 + (n + 7) / 8 = 1 + (n + 8 - 1) / 8 by omega]
      go_enter Tryz.func45, Tryz.ntmps45
      go_wp2
      go_ret
      exact ⟨rfl, rfl⟩

/-- What putter answers. -/
def putF (b : Nat) : Value := .func (.func 136) #[] #[.pointer (some ⟨b, 0, none⟩)]
theorem putter_any (v : Value) (a : Option Addr) (len cap : Nat) (hv : v = .slice a len cap) (w : World) : Calls Tryz.prog 89 #[v] w fun e w' => e = .returned (putF w.heap.size) ∧ w' = w.alloc (.cells #[v] 101) := by
  subst hv
  go_enter Tryz.func89, Tryz.ntmps89
  go_wp2
  go_ret
  exact ⟨rfl, rfl⟩

def encU (x : Int) : Value := .int .u64 x
/-- A row of words of one's own, at block g. -/
abbrev Row (w : World) (base g cap : Nat) (L : List Int) : Prop := w.ownsRow base 41 1 (.slice (some ⟨g, 0, none⟩) L.length cap) L.length (L.map encU)
theorem Row.cell {w : World} {base g cap : Nat} {L : List Int} (h : Row w base g cap L) {i : Nat} {x : Int} (hx : L[i]? = some x) : w.cell? ⟨g, i, none⟩ = some (.int .u64 x) := by
  have hi := (List.getElem?_eq_some_iff.1 hx).1
  rw [World.ownsRow.cellAt h i (by omega), List.getElem?_map, hx]
  rfl
theorem Row.free {w : World} {base g cap : Nat} {L : List Int} (h : Row w base g cap L) (i : Nat) : w.frozen? ⟨g, i, none⟩ = false := World.ownsRow.frozenAt h i
theorem Row.lt {w : World} {base g cap : Nat} {L : List Int} (h : Row w base g cap L) : base ≤ g ∧ g < w.heap.size := World.ownsRow.lt h g rfl
theorem Row.put {w : World} {base g cap : Nat} {L : List Int} (h : Row w base g cap L) (i : Nat) (x : Int) : Row (w.setCell ⟨g, i, none⟩ (.int .u64 x)) base g cap (L.set i x) := by
  have := (World.ownsRow.stored h i (.int .u64 x)).1
  show World.ownsRow _ _ _ _ (.slice _ (L.set i x).length _) (L.set i x).length _
  rw [List.length_set, List.map_set]
  exact this

theorem run_ixg {t e : TypeId} {m : Nat} (hu : Tryz.prog.underlying t = some (.slice e)) (hel : Tryz.prog.elem t = e) (hsz : ∀ w, (sizeOf e).run Tryz.prog w = .ok m w) (b off len cap : Nat) (i : Nat) (hi : i < len) (w' : World) : (Instr.indexAt t (.slice (some ⟨b, off, none⟩) len cap) (.int .i64 (i : Int))).run Tryz.prog w' = .ok (.pointer (some ⟨b, off + i * m, none⟩)) w' := by
  rw [run_indexAt_slice w' t _ len cap .i64 i (by rw [hel]; exact hu), if_pos (by omega), hel, hsz]
  simp only [Result.andThen_ok, Int.toNat_natCast]
  rw [Go.WideShapes.add_plain]
theorem ixW (b off len cap : Nat) (i : Nat) (hi : i < len) (w' : World) : (Instr.indexAt 101 (.slice (some ⟨b, off, none⟩) len cap) (.int .i64 (i : Int))).run Tryz.prog w' = .ok (.pointer (some ⟨b, off + i, none⟩)) w' := by
  have := run_ixg (m := 1) Tryz.underlying101 (by kernel_rfl) (fun w => by kernel_rfl) b off len cap i hi w'
  rwa [Nat.mul_one] at this
theorem ixW0 (b len cap : Nat) (i : Nat) (hi : i < len) (w' : World) : (Instr.indexAt 101 (.slice (some ⟨b, 0, none⟩) len cap) (.int .i64 (i : Int))).run Tryz.prog w' = .ok (.pointer (some ⟨b, i, none⟩)) w' := by
  have := ixW b 0 len cap i hi w'
  rwa [Nat.zero_add] at this

theorem or_key (x b : Int) (x0 : 0 ≤ x) (x1 : x ≤ 18446744073709551615) (b0 : 0 ≤ b) (b1 : b ≤ 255) (r : Nat) (hm : x % (256 * pw r) = 0) : bits BinOp.or IntKind.u64 x (IntKind.u64.wrap (b * 2 ^ ((7 - r) * 8))) = x + b * pw r := by
  have hor := or_add x b x0 r hm b0 b1
  have hp : 0 < pw r := pw_pos r
  have hle : pw r ≤ 72057594037927936 := by
    have h : 2 ^ ((7 - r) * 8) ≤ 2 ^ 56 := Nat.pow_le_pow_right (by decide) (by omega)
    have e : pw r = ((2 ^ ((7 - r) * 8) : Nat) : Int) := by unfold pw; simp
    rw [e]
    omega
  have h1 : 0 ≤ b * pw r := Int.mul_nonneg b0 (by omega)
  have h2 : b * pw r ≤ 255 * 72057594037927936 := Int.le_trans (Int.mul_le_mul_of_nonneg_right b1 (by omega)) (Int.mul_le_mul_of_nonneg_left hle (by decide))
  have hw : IntKind.u64.wrap (b * 2 ^ ((7 - r) * 8)) = b * pw r := by
    show IntKind.u64.wrap (b * pw r) = _
    rw [IntKind.wrap_u64]
    omega
  rw [hw]
  generalize b * pw r = y at *
  obtain ⟨m, rfl⟩ := Int.eq_ofNat_of_zero_le x0
  obtain ⟨n, rfl⟩ := Int.eq_ofNat_of_zero_le h1
  rw [← hor]
  simp only [Int.toNat_natCast]
  rw [bits_or_u64_nat m n (by omega) (by omega)]

set_option maxRecDepth 100000 in
set_option maxHeartbeats 2000000 in
theorem put_any (c g n cap k : Nat) (b x : Int) (w : World) (hk : k < 1000) (b0 : 0 ≤ b) (b1 : b ≤ 255) (hn : 1 + k / 8 < n) (hc : w.cell? ⟨c, 0, none⟩ = some (.slice (some ⟨g, 0, none⟩) n cap)) (hx : w.cell? ⟨g, 1 + k / 8, none⟩ = some (.int .u64 x)) (hf : w.frozen? ⟨g, 1 + k / 8, none⟩ = false) (x0 : 0 ≤ x) (hx1 : x ≤ 18446744073709551615) (hm : x % (256 * pw (k % 8)) = 0) :
    Calls Tryz.prog 136 #[.int .i64 (k : Int), .int .u8 b, .pointer (some ⟨c, 0, none⟩)] w fun e w' => (∃ v, e = .returned v) ∧ w' = (w.setCell ⟨g, 1 + k / 8, none⟩ (.int .u64 (x + b * pw (k % 8)))).drew := by
  have hor := or_add x b x0 (k % 8) hm b0 b1
  have hix := ixW0 g n cap (1 + k / 8) hn
  have hpl := place_ok k hk
  have hs56 : (7 - k % 8) * 8 ≤ 56 := by omega
  have hk2 : x ≤ 18446744073709551615 := hx1
  have key := or_key x b x0 hx1 b0 b1 (k % 8) hm
  rw [← key]
  clear hm hor key hx1 hk2
  generalize 1 + k / 8 = i at *
  generalize (7 - k % 8) * 8 = s at *
  go_enter Tryz.func136, Tryz.ntmps136
  go_wp2_with (go_at_call 92; refine (hpl _).mono ?_; rintro e w2 ⟨rfl, rfl⟩)
  go_region
  go_wp2_with fail
  go_end0
  exact ⟨⟨_, rfl⟩, rfl⟩

/-- A slice that holds these words. -/
structure Src (w : World) (a : Option Addr) (b off cap : Nat) (L : List Int) : Prop where
  ix : ∀ i : Nat, i < L.length → ∀ w', (Instr.indexAt 101 (.slice a L.length cap) (.int .i64 (i : Int))).run Tryz.prog w' = .ok (.pointer (some ⟨b, off + i, none⟩)) w'
  cell : ∀ i x, L[i]? = some x → w.cell? ⟨b, off + i, none⟩ = some (.int .u64 x)
  us : Us L
  max : L.length ≤ maxLen
theorem Src.keep {w w' : World} {a : Option Addr} {b off cap : Nat} {L : List Int} (h : Src w a b off cap L) (k : K w w') : Src w' a b off cap L := ⟨h.ix, fun i x hx => k.cell (h.cell i x hx), h.us, h.max⟩
theorem Row.src {w : World} {base g cap : Nat} {L : List Int} (h : Row w base g cap L) (hu : Us L) (hm : L.length ≤ maxLen) : Src w (some ⟨g, 0, none⟩) g 0 cap L :=
  ⟨fun i hi w' => ixW g 0 L.length cap i hi w', fun i x hx => by rw [Nat.zero_add]; exact h.cell hx, hu, hm⟩
theorem Src.at {w : World} {a : Option Addr} {b off cap : Nat} {L : List Int} (h : Src w a b off cap L) {i : Nat} (hi : i < L.length) : w.cell? ⟨b, off + i, none⟩ = some (.int .u64 (L.getD i 0)) := h.cell i _ (getD_at hi)

theorem Src.ix0 {w : World} {a : Option Addr} {b off cap : Nat} {L : List Int} (h : Src w a b off cap L) (h0 : 0 < L.length) : ∀ w', (Instr.indexAt 101 (.slice a L.length cap) (.int .i64 0)).run Tryz.prog w' = .ok (.pointer (some ⟨b, off, none⟩)) w' := h.ix 0 h0

theorem and_key (x : Int) (x0 : 0 ≤ x) (x1 : x ≤ 18446744073709551615) (s : Nat) (hs : s ≤ 56) : bits BinOp.and IntKind.u64 x (IntKind.u64.wrap (IntKind.u64.wrap (2 ^ s) - 1)) = x % 2 ^ s := by
  have h : 2 ^ s ≤ 2 ^ 56 := Nat.pow_le_pow_right (by decide) hs
  have hp := Nat.two_pow_pos s
  have e : (2 : Int) ^ s = ((2 ^ s : Nat) : Int) := by simp
  have e2 : IntKind.u64.wrap (IntKind.u64.wrap (2 ^ s) - 1) = ((2 ^ s - 1 : Nat) : Int) := by
    rw [e]
    generalize 2 ^ s = p at h hp
    rw [IntKind.wrap_u64, IntKind.wrap_u64]
    omega
  rw [e2, e]
  obtain ⟨m, rfl⟩ := Int.eq_ofNat_of_zero_le x0
  rw [bits_and_u64_nat m _ (by omega) (by omega), Nat.and_two_pow_sub_one_eq_mod]
  simp

set_option maxRecDepth 100000 in
set_option maxHeartbeats 2000000 in
theorem restOf_ok {w : World} {a : Option Addr} {b off cap : Nat} {L : List Int} (h : Src w a b off cap L) (n : Nat) (hn : n ≤ 1000) (hlen : (L.length : Int) = 1 + ((n : Int) + 7) / 8) :
    Calls Tryz.prog 137 #[.slice a L.length cap, .int .i64 (n : Int)] w fun e w' => e = .returned (.int .u64 (rest L n)) ∧ K w w' := by
  obtain ⟨i, hi⟩ : ∃ i, L.length = i + 1 := ⟨L.length - 1, by omega⟩
  have hx := h.at (i := i) (by omega)
  have hix := h.ix i (by omega)
  obtain ⟨x0, x1⟩ := h.us.at i
  unfold rest
  rw [hi, Nat.add_sub_cancel]
  obtain ⟨t, ht⟩ : ∃ t, t = i * 8 - n := ⟨_, rfl⟩
  have key := and_key (L.getD i 0) x0 x1 (t * 8) (by omega)
  rw [← ht, ← key]
  have e1 : (i : Int) * 8 - n = (t : Int) := by omega
  have ht7 : t ≤ 7 := by omega
  have hi125 : i ≤ 125 := by omega
  rw [hi] at hix
  clear hlen h ht key hi
  generalize L.getD i 0 = x at *
  have k0 := K.refl w
  go_enter Tryz.func137, Tryz.ntmps137
  go_wp2
  go_region
  go_wp2_with fail
  go_ret
  exact ⟨rfl, k0.drew⟩

end Tx
end Go.Proofs.YtimedllggcfldaaGreatDoor

/-
  Walks of isText, Words and Of, each for any arguments.
-/
namespace Go.Proofs.YtimedllggcfldaaGreatDoor
open Go.RowKit
namespace Tx
open Hp (Kept K No)
variable {w w' : World} {a : Option Addr} {b off cap : Nat} {L : List Int}

set_option maxRecDepth 100000 in
set_option maxHeartbeats 1000000 in
theorem isText_yes (h : Src w a b off cap L) (hi : Is L) : Calls Tryz.prog 91 #[.slice a L.length cap] w fun e w' => e = .returned (.bool true) ∧ K w w' := by
  have h0 := hi.ne
  have hx := h.at h0
  have hix := h.ix0 h0
  have hq0 : ((L.length : Int) == 0) = false := by rw [beq_eq_false_iff_ne]; omega
  rw [Nat.add_zero] at hx
  obtain ⟨n, hn⟩ : ∃ n : Nat, L.getD 0 0 = (n : Int) := ⟨(L.getD 0 0).toNat, by have := h.us.at 0; omega⟩
  have hle := hi.le
  have hlen := hi.len
  have hre := hi.rest
  rw [hn] at hx hle hlen hre
  rw [Int.toNat_natCast] at hre
  have cr := restOf_ok h n (by omega) hlen
  rw [hre] at cr
  have cm := many_any (n : Int)
  rw [mn_in (by omega) (by omega), ← hlen] at cm
  have hu : n ≤ 1000 := by omega
  clear hre hlen hle hi h hn
  generalize L.length = q at *
  go_enter Tryz.func91, Tryz.ntmps91
  go_wp2_with (first
    | (go_at_call 45; refine (cm _).mono ?_; rintro e w2 ⟨rfl, rfl⟩)
    | (go_at_call 137; refine cr.mono ?_; rintro e w2 ⟨rfl, k2⟩))
  go_ret
  exact ⟨rfl, k2⟩

set_option maxRecDepth 100000 in
set_option maxHeartbeats 1000000 in
theorem isText_no (h : Src w a b off cap L) (hi : ¬ Is L) : Calls Tryz.prog 91 #[.slice a L.length cap] w fun e w' => e = .returned (.bool false) ∧ K w w' := by
  have k0 := K.refl w
  by_cases h0 : 0 < L.length
  case neg =>
    have hz : L.length = 0 := by omega
    rw [hz]
    clear h hi h0 hz
    go_enter Tryz.func91, Tryz.ntmps91
    go_wp2
    go_ret
    exact ⟨rfl, k0⟩
  have hx := h.at h0
  have hix := h.ix0 h0
  have hq0 : ((L.length : Int) == 0) = false := by rw [beq_eq_false_iff_ne]; omega
  rw [Nat.add_zero] at hx
  obtain ⟨u0, u1⟩ := h.us.at 0
  obtain ⟨n, hn⟩ : ∃ n : Nat, L.getD 0 0 = (n : Int) := ⟨(L.getD 0 0).toNat, by omega⟩
  have hmax := h.max
  unfold maxLen at hmax
  by_cases hle : n ≤ 1000
  case neg =>
    rw [hn] at hx u1
    clear h hi hn u0
    have hbig : 1000 < n := by omega
    clear hle
    generalize L.length = q at *
    go_enter Tryz.func91, Tryz.ntmps91
    go_wp2
    go_ret
    exact ⟨rfl, k0⟩
  by_cases hlen : (L.length : Int) = 1 + ((n : Int) + 7) / 8
  · have hre : (rest L n == 0) = false := by
      rw [beq_eq_false_iff_ne]
      intro e
      exact hi ⟨h0, by omega, by rw [hn]; exact hlen, by rw [hn, Int.toNat_natCast]; exact e⟩
    have cr := restOf_ok h n hle hlen
    have cm := many_any (n : Int)
    rw [mn_in (by omega) (by omega), ← hlen] at cm
    rw [hn] at hx
    clear hlen hi h hn u0 u1
    generalize rest L n = re at *
    generalize L.length = q at *
    go_enter Tryz.func91, Tryz.ntmps91
    go_wp2_with (first
      | (go_at_call 45; refine (cm _).mono ?_; rintro e w2 ⟨rfl, rfl⟩)
      | (go_at_call 137; refine cr.mono ?_; rintro e w2 ⟨rfl, k2⟩))
    go_ret
    exact ⟨rfl, k2⟩
  · have cm := many_any (n : Int)
    rw [mn_in (by omega) (by omega)] at cm
    generalize 1 + ((n : Int) + 7) / 8 = m at *
    have hne : ((L.length : Int) == m) = false := by rw [beq_eq_false_iff_ne]; exact hlen
    rw [hn] at hx
    clear hlen hi h hn u0 u1
    generalize L.length = q at *
    go_enter Tryz.func91, Tryz.ntmps91
    go_wp2_with (go_at_call 45; refine (cm _).mono ?_; rintro e w2 ⟨rfl, rfl⟩)
    go_ret
    exact ⟨rfl, k0⟩

end Tx
end Go.Proofs.YtimedllggcfldaaGreatDoor

/-
  Words, for any text.
-/
namespace Go.Proofs.YtimedllggcfldaaGreatDoor
open Go.RowKit
namespace Tx
open Hp (Kept K No)
variable {w w' : World}

abbrev bs (s : ByteArray) : List UInt8 := s.data.toList
theorem bs_len (s : ByteArray) : (bs s).length = s.size := by
  show s.data.toList.length = s.data.size
  simp
theorem str_ix (s : ByteArray) (k : Nat) (hk : k < (bs s).length) (w : World) : (Instr.index 9 (.string s) (.int .i64 (k : Int))).run Tryz.prog w = .ok (.int .u8 (bt (bs s) k)) w := by
  have hk2 := hk
  rw [bs_len] at hk2
  rw [run_index_string w 9 s .i64 k Tryz.underlying9, dif_pos (by omega)]
  rw [bt_in hk]
  rfl

theorem info_u64 : ∃ i0, Tryz.prog.info? 41 = some i0 ∧ i0.size = 1 ∧ i0.bytes = 8 ∧ i0.zero = some (.int .u64 0) := by
  have hi : (Tryz.prog.info? 41).map (fun i => (i.zero, i.size, i.bytes)) = some (some (.int .u64 0), 1, 8) := by kernel_rfl
  obtain ⟨i0, h1, h2⟩ := Option.map_eq_some_iff.1 hi
  simp only [Prod.mk.injEq] at h2
  exact ⟨i0, h1, h2.2.1, h2.2.2, h2.1⟩
theorem info_u8 : ∃ i0, Tryz.prog.info? 5 = some i0 ∧ i0.size = 1 ∧ i0.bytes = 1 ∧ i0.zero = some (.int .u8 0) := by
  have hi : (Tryz.prog.info? 5).map (fun i => (i.zero, i.size, i.bytes)) = some (some (.int .u8 0), 1, 1) := by kernel_rfl
  obtain ⟨i0, h1, h2⟩ := Option.map_eq_some_iff.1 hi
  simp only [Prod.mk.injEq] at h2
  exact ⟨i0, h1, h2.2.1, h2.2.2, h2.1⟩

theorem K.grown {w a b : World} {row : Option Nat} (h : K w a) (hg : a.grownBy b row) (hr : ∀ g, some g = row → w.heap.size ≤ g) : K w b :=
  ⟨hg.os.trans h.os, hg.tape.trans h.tape, hg.output.trans h.output, Nat.le_trans h.size hg.size, fun j hj hn => by
    have hjw := Nat.lt_of_lt_of_le hj h.size
    rw [hg.block j hjw (fun e => by have := hr j e; omega)]
    exact h.same j hj hn⟩
theorem made_row (n : Nat) : (madeCells (Value.int .u64 0).cells (n * 1)).toList = (List.replicate n (0 : Int)).map encU := by
  show (madeCells #[.int .u64 0] (n * 1)).toList = _
  rw [toList_madeCells_one, Nat.mul_one, List.map_replicate]
  rfl
theorem Row.of {w : World} {base g cap n : Nat} {L : List Int} (h : w.ownsRow base 41 1 (.slice (some ⟨g, 0, none⟩) n cap) n (L.map encU)) (hl : L.length = n) : Row w base g cap L := by
  subst hl
  exact h

theorem long_no (s : ByteArray) (hs : 1000 < s.size) (w : World) : Calls Tryz.prog 42 #[.string s] w fun e w' => e = .returned (.tuple #[.slice none 0 0, .int .i64 4]) ∧ K w w' := by
  have k0 := K.refl w
  go_enter Tryz.func42, Tryz.ntmps42
  go_wp2
  go_ret2
  exact ⟨rfl, k0⟩

theorem K.row {w a b : World} {g cap : Nat} {L : List Int} (h : Row a w.heap.size g cap L) (k : K a b) : Row b w.heap.size g cap L := by
  refine World.ownsRow.kept h (row := none) ⟨k.os, k.tape, k.output, k.size, fun j hj _ => k.same j hj (fun x => x)⟩ (.inr (by simp [Value.ownBlock]))

set_option maxRecDepth 100000 in
set_option maxHeartbeats 2000000 in
theorem words_ok (s : ByteArray) (hs : s.size ≤ 1000) (w : World) : Calls Tryz.prog 42 #[.string s] w fun e w' => ∃ g cap, e = .returned (.tuple #[.slice (some ⟨g, 0, none⟩) (wds (bs s)).length cap, .int .i64 0]) ∧ Aside (Row w' w.heap.size g cap (wds (bs s))) ∧ K w w' := by
  obtain ⟨iu, hiu, hs1, hs2, hz⟩ := info_u64
  have HU : Aside (Tryz.prog.info? 41 = some iu ∧ iu.zero = some (.int .u64 0) ∧ iu.size = 1 ∧ iu.bytes = 8) := ⟨hiu, hz, hs1, hs2⟩
  clear hiu hs1 hs2 hz
  have hl : Aside ((bs s).length = s.size) := bs_len s
  have hsx : Aside (∀ k, k < s.size → ∀ w, (Instr.index 9 (.string s) (.int .i64 (k : Int))).run Tryz.prog w = .ok (.int .u8 (bt (bs s) k)) w) := fun k hk w => str_ix s k (by rw [hl.out]; exact hk) w
  obtain ⟨n, hn⟩ : ∃ n, n = s.size := ⟨_, rfl⟩
  have cm := many_any (n : Int)
  rw [mn_in (by omega) (by omega)] at cm
  obtain ⟨N, hN⟩ : ∃ N : Nat, N = 1 + (n + 7) / 8 := ⟨_, rfl⟩
  have hNe : 1 + ((n : Int) + 7) / 8 = (N : Int) := by omega
  rw [hNe] at cm
  have HN : Aside (N = 1 + (n + 7) / 8) := hN
  have HW0 : Aside (∀ k, (wdsK (bs s) k).length = N) := fun k => by show _ = _; rw [wdsK_len, hl.out, ← hn, hN]
  have HWz : Aside ((List.replicate N (0 : Int)).set 0 (n : Int) = wdsK (bs s) 0) := by
    show _ = _
    rw [wdsK_zero, hl.out, ← hn, hN, Nat.add_comm 1, List.replicate_succ, List.set_cons_zero]
  have hsize : s.size = n := hn.symm
  have hn0 : 0 < N := by omega
  have hN0 : N ≤ 126 := by omega
  clear hn hN hNe
  go_enter Tryz.func42, Tryz.ntmps42
  go_wp2_with fail
  refine (cm _).mono ?_
  rintro e w2 ⟨rfl, rfl⟩
  clear cm
  go_wp2_with (
    at_make
    refine wpList_make_full _ rfl _ _ 101 rfl w.heap.size 41 iu (.int .u64 0) 1 Tryz.underlying101 HU.out.1 HU.out.2.1 HU.out.2.2.1 .i64 .i64 N N N rfl rfl rfl rfl (by rw [HU.out.2.2.2]; omega) (by unfold maxLen; omega) (Nat.le_refl _) ?_
    intro w5 hown5 hgrow5
    rw [made_row] at hown5
    have k5 : Aside (K w w5) := K.grown (K.refl w) hgrow5 (fun g hg => by cases hg)
    have R5 : Aside (Row w5 w.heap.size w.heap.size N (List.replicate N (0 : Int))) := Row.of hown5 (by simp)
    clear hown5 hgrow5
    have c0 : w5.cell? ⟨w.heap.size, 0, none⟩ = some (.int .u64 0) := R5.out.cell (by rw [List.getElem?_replicate, if_pos hn0])
    have f0 : w5.frozen? ⟨w.heap.size, 0, none⟩ = false := R5.out.free 0
    generalize hg : w.heap.size = g at *)
  have R6 := R5.out.put 0 (n : Int)
  rw [HWz.out] at R6
  have k6 : K w (w5.setCell ⟨g, 0, none⟩ (.int .u64 (n : Int))) := Hp.K.setCell k5.out _ (by rw [hg]; exact Nat.le_refl _)
  clear R5 k5 c0 f0 HWz
  generalize w5.setCell ⟨g, 0, none⟩ (.int .u64 (n : Int)) = w6 at *
  refine (putter_any _ _ N N rfl w6).mono ?_
  rintro e w7 ⟨rfl, hw7⟩
  have k7 : Aside (K w w7) := by rw [hw7]; exact k6.alloc _
  have hcs : g < w6.heap.size := R6.lt.2
  have hcg : w6.heap.size ≠ g := by omega
  have R7 : Aside (Row w7 w.heap.size g N (wdsK (bs s) 0)) := by
    rw [hw7, hg]
    exact World.ownsRow.alloc R6 _
  have c7 : w7.cell? ⟨w6.heap.size, 0, none⟩ = some (.slice (some ⟨g, 0, none⟩) N N) := by
    rw [hw7]
    exact World.cell?_alloc_at _ _ _ _ rfl
  clear hw7 R6 k6
  unfold putF
  generalize w6.heap.size = c at *
  go_wp2
  go_loopw [23] (fun t wr => ∃ k : Nat, t = .int .i64 k ∧ k ≤ n ∧ Aside (Row wr w.heap.size g N (wdsK (bs s) k)) ∧ Aside (wr.cell? ⟨c, 0, none⟩ = some (.slice (some ⟨g, 0, none⟩) N N)) ∧ Aside (K w wr)) (fun t _ => n - (intOf t).toNat)
  case atStart => exact ⟨0, rfl, by omega, R7, c7, k7⟩
  case round =>
    obtain ⟨k, rfl, hk, Rk, Ck, Kk⟩ := hrel
    clear R7 c7 k7
    by_cases hlt : k < n
    · have hix := hsx.out k (by rw [hsize]; exact hlt)
      obtain ⟨b0, b1⟩ := bt_rng (bs s) k
      obtain ⟨o1, o2⟩ := wv_one (bs s) k
      have hkl : k / 8 < ((bs s).length + 7) / 8 := by rw [hl.out, hsize]; omega
      have hcell := Rk.out.cell (wdsK_at (bs s) k (k / 8) hkl)
      have hfro := Rk.out.free (1 + k / 8)
      obtain ⟨v0, v1⟩ := wv_rng ((bs s).take k) (k / 8)
      have hN2 : 1 + k / 8 < N := by rw [HN.out]; omega
      have cput := put_any c g N N k (bt (bs s) k) (wv ((bs s).take k) (k / 8)) wr (by omega) b0 b1 hN2 Ck.out hcell hfro v0 v1 o2
      have Rn := Rk.out.put (1 + k / 8) (wv ((bs s).take k) (k / 8) + bt (bs s) k * pw (k % 8))
      rw [← wdsK_succ] at Rn
      have Kn := Hp.K.setCell Kk.out (p := ⟨g, 1 + k / 8, none⟩) (.int .u64 (wv ((bs s).take k) (k / 8) + bt (bs s) k * pw (k % 8))) (by rw [hg]; exact Nat.le_refl _)
      have Cn : (wr.setCell ⟨g, 1 + k / 8, none⟩ (.int .u64 (wv ((bs s).take k) (k / 8) + bt (bs s) k * pw (k % 8)))).cell? ⟨c, 0, none⟩ = some (.slice (some ⟨g, 0, none⟩) N N) := (World.cell?_setCell_other (a := ⟨g, 1 + k / 8, none⟩) (b := ⟨c, 0, none⟩) wr _ (fun e => hcg (by injection e with e1 _; exact e1.symm))).trans Ck.out
      clear o1 o2 hkl hcell hfro v0 v1 hN2 Rk Ck Kk
      generalize wr.setCell ⟨g, 1 + k / 8, none⟩ (.int .u64 (wv ((bs s).take k) (k / 8) + bt (bs s) k * pw (k % 8))) = w9 at *
      generalize bt (bs s) k = b at *
      have Rn' : Aside _ := Rn
      have Kn' : Aside _ := Kn
      have Cn' : Aside _ := Cn
      clear Rn Kn Cn
      go_wp2_with (go_at_call 136; refine cput.mono ?_; rintro e w10 ⟨⟨_, rfl⟩, rfl⟩)
      go_roundw
      case measure => simp [intOf]; omega
      case rel => exact ⟨k + 1, by go_num, by omega, Rn'.out, Cn'.out, Kn'.out.drew⟩
    · obtain rfl : k = n := by omega
      go_wp2
      go_ret2
      have e1 : wds (bs s) = wdsK (bs s) k := by unfold wds; rw [hl.out, hsize]
      have e2 := HW0.out k
      refine ⟨g, N, ?_, ?_, Kk.out⟩
      · rw [e1, e2]
        rfl
      · rw [e1]
        exact Rk

end Tx
end Go.Proofs.YtimedllggcfldaaGreatDoor

/-
  Of, for any words.
-/
namespace Go.Proofs.YtimedllggcfldaaGreatDoor
open Go.RowKit
namespace Tx
open Hp (Kept K No)
variable {w w' : World} {a : Option Addr} {b off cap : Nat} {L : List Int}

set_option maxRecDepth 100000 in
theorem of_no (h : Src w a b off cap L) (hi : ¬ Is L) : Calls Tryz.prog 44 #[.slice a L.length cap] w fun e w' => e = .returned (.tuple #[.string ⟨#[]⟩, .int .i64 8]) ∧ K w w' := by
  have ci := isText_no h hi
  clear h hi
  generalize L.length = q at *
  go_enter Tryz.func44, Tryz.ntmps44
  go_wp2_with (go_at_call 91; refine ci.mono ?_; rintro e w2 ⟨rfl, k2⟩)
  go_ret2
  exact ⟨rfl, k2⟩

def encB (x : Int) : Value := .int .u8 x
/-- A row of bytes of one's own, at block g. -/
abbrev BRow (w : World) (base g cap : Nat) (L : List Int) : Prop := w.ownsRow base 5 1 (.slice (some ⟨g, 0, none⟩) L.length cap) L.length (L.map encB)
theorem BRow.cell {w : World} {base g cap : Nat} {L : List Int} (h : BRow w base g cap L) {i : Nat} {x : Int} (hx : L[i]? = some x) : w.cell? ⟨g, i, none⟩ = some (.int .u8 x) := by
  have hi := (List.getElem?_eq_some_iff.1 hx).1
  rw [World.ownsRow.cellAt h i (by omega), List.getElem?_map, hx]
  rfl
theorem BRow.put {w : World} {base g cap : Nat} {L : List Int} (h : BRow w base g cap L) (i : Nat) (x : Int) : BRow (w.setCell ⟨g, i, none⟩ (.int .u8 x)) base g cap (L.set i x) := by
  have := (World.ownsRow.stored h i (.int .u8 x)).1
  show World.ownsRow _ _ _ _ (.slice _ (L.set i x).length _) (L.set i x).length _
  rw [List.length_set, List.map_set]
  exact this
theorem made_rowB (n : Nat) : (madeCells (Value.int .u8 0).cells (n * 1)).toList = (List.replicate n (0 : Int)).map encB := by
  show (madeCells #[.int .u8 0] (n * 1)).toList = _
  rw [toList_madeCells_one, Nat.mul_one, List.map_replicate]
  rfl
theorem BRow.of {w : World} {base g cap n : Nat} {L : List Int} (h : w.ownsRow base 5 1 (.slice (some ⟨g, 0, none⟩) n cap) n (L.map encB)) (hl : L.length = n) : BRow w base g cap L := by
  subst hl
  exact h
theorem ixB0 (b len cap : Nat) (i : Nat) (hi : i < len) (w' : World) : (Instr.indexAt 163 (.slice (some ⟨b, 0, none⟩) len cap) (.int .i64 (i : Int))).run Tryz.prog w' = .ok (.pointer (some ⟨b, i, none⟩)) w' := by
  have := run_ixg (m := 1) Tryz.underlying163 (by kernel_rfl) (fun w => by kernel_rfl) b 0 len cap i hi w'
  rwa [Nat.mul_one, Nat.zero_add] at this

/-- The bytes of a row of words, up to k; 0 behind. -/
def obK (L : List Int) (n k : Nat) : List Int := (List.range n).map fun i => if i < k then ob L i else 0
theorem obK_len (L : List Int) (n k : Nat) : (obK L n k).length = n := by simp [obK]
theorem obK_zero (L : List Int) (n : Nat) : obK L n 0 = List.replicate n 0 := by
  unfold obK
  simp only [Nat.not_lt_zero, if_false]
  rw [List.map_const', List.length_range]
theorem obK_at (L : List Int) (n k i : Nat) (h : i < n) : (obK L n k)[i]? = some (if i < k then ob L i else 0) := by simp [obK, h]
theorem obK_succ (L : List Int) (n k : Nat) : obK L n (k + 1) = (obK L n k).set k (ob L k) := by
  apply List.ext_getElem?
  intro i
  rw [List.getElem?_set]
  by_cases hi : i < n
  · rw [obK_at L n _ i hi, obK_at L n _ i hi, obK_len]
    by_cases hk : k = i
    · subst hk
      rw [if_pos rfl, if_pos hi, if_pos (by omega)]
    · rw [if_neg hk]
      by_cases h2 : i < k
      · rw [if_pos h2, if_pos (by omega)]
      · rw [if_neg h2, if_neg (by omega)]
  · rw [List.getElem?_eq_none (by rw [obK_len]; omega), List.getElem?_eq_none (by rw [obK_len]; omega), obK_len]
    split
    · next h => rw [if_neg (by omega)]
    · rfl
theorem obK_all (L : List Int) (n : Nat) : obK L n n = (List.range n).map (ob L) := by
  unfold obK
  apply List.map_congr_left
  intro i hi
  rw [if_pos (List.mem_range.1 hi)]

theorem fold_push : ∀ (ns : List Int) (s : ByteArray), ns.foldl (fun r n => r.push (UInt8.ofNat n.toNat)) s = ⟨(s.data.toList ++ ns.map fun n => UInt8.ofNat n.toNat).toArray⟩
  | [], s => by simp
  | n :: ns, s => by
    rw [List.foldl_cons, fold_push ns]
    congr 1
    simp [ByteArray.push]
/-- 'string(row)' of a row of bytes. -/
theorem run_toStr {w : World} {base g cap : Nat} {L : List Int} (h : BRow w base g cap L) : (convert 163 9 (.slice (some ⟨g, 0, none⟩) L.length cap)).run Tryz.prog w = .ok (.string ⟨(L.map fun n => UInt8.ofNat n.toNat).toArray⟩) w := by
  rw [run_convert_bytes_string (e := 5) w 163 9 _ _ _ Tryz.underlying163 Tryz.underlying5 Tryz.underlying9, run_bytesToString w ⟨g, 0, none⟩ L.length cap L, fold_push]
  · rfl
  · have := run_loadCells_list (P := Tryz.prog) (w := w) ⟨g, 0, none⟩ (L.map encB) (fun j v hv => by
      rw [Go.WideShapes.add_plain]
      rw [Nat.zero_add]
      rw [List.getElem?_map] at hv
      obtain ⟨x, hx, rfl⟩ := Option.map_eq_some_iff.1 hv
      exact h.cell hx)
    rw [List.length_map] at this
    exact this
theorem obs_str {L : List Int} {n : Nat} (hn : (L.getD 0 0).toNat = n) : (⟨((obK L n n).map fun x => UInt8.ofNat x.toNat).toArray⟩ : ByteArray) = ⟨(ofT L).toArray⟩ := by
  rw [obK_all]
  unfold ofT
  rw [hn, List.map_map]
  rfl

theorem byte_key (L : List Int) (k : Nat) : IntKind.u8.wrap (L.getD (1 + k / 8) 0 / 2 ^ ((7 - k % 8) * 8)) = ob L k := by
  rw [IntKind.wrap_u8]
  rfl

set_option maxRecDepth 100000 in
set_option maxHeartbeats 2000000 in
theorem of_yes (h : Src w a b off cap L) (hi : Is L) : Calls Tryz.prog 44 #[.slice a L.length cap] w fun e w' => e = .returned (.tuple #[.string ⟨(ofT L).toArray⟩, .int .i64 0]) ∧ K w w' := by
  have ci := isText_yes h hi
  obtain ⟨iu, hiu, hs1, hs2, hz⟩ := info_u8
  have HU : Aside (Tryz.prog.info? 5 = some iu ∧ iu.zero = some (.int .u8 0) ∧ iu.size = 1 ∧ iu.bytes = 1) := ⟨hiu, hz, hs1, hs2⟩
  clear hiu hs1 hs2 hz
  have h0 := hi.ne
  have hx := h.at h0
  have hix := h.ix0 h0
  rw [Nat.add_zero] at hx
  obtain ⟨n, hn⟩ : ∃ n : Nat, L.getD 0 0 = (n : Int) := ⟨(L.getD 0 0).toNat, by have := h.us.at 0; omega⟩
  have hle := hi.le
  have hlen := hi.len
  rw [hn] at hx hle hlen
  have HT : Aside (∀ k, k < n → 1 + k / 8 < L.length) := fun k hk => by omega
  have HO : Aside ((L.getD 0 0).toNat = n) := by show _ = _; rw [hn]; exact Int.toNat_natCast _
  have hn1000 : n ≤ 1000 := by omega
  have H : Aside _ := h
  clear hi hle hlen hn h0
  have h1 : Aside _ := hx
  have h2 : Aside _ := hix
  clear hx hix h
  go_enter Tryz.func44, Tryz.ntmps44
  go_wp2_with fail
  refine ci.mono ?_
  rintro e w2 ⟨rfl, k2⟩
  clear ci
  have hx := k2.cell h1.out
  have hix := h2.out
  have H2 : Aside _ := Src.keep H.out k2
  have K2 : Aside _ := k2
  clear h1 h2 H k2
  go_wp2_with (
    at_make
    refine wpList_make_full _ rfl _ _ 163 rfl w2.heap.size 5 iu (.int .u8 0) 1 Tryz.underlying163 HU.out.1 HU.out.2.1 HU.out.2.2.1 .u64 .u64 n n n rfl rfl rfl rfl (by rw [HU.out.2.2.2]; omega) (by unfold maxLen; omega) (Nat.le_refl _) ?_
    intro w5 hown5 hgrow5
    rw [made_rowB] at hown5
    have k5 : Aside (K w2 w5) := K.grown (K.refl w2) hgrow5 (fun g hg => by cases hg)
    have R5 : Aside (BRow w5 w2.heap.size w2.heap.size n (List.replicate n (0 : Int))) := BRow.of hown5 (by simp)
    clear hown5 hgrow5
    generalize hg : w2.heap.size = g at *)
  clear hx hix
  rw [← obK_zero L n] at R5
  go_loopw [17] (fun t wr => ∃ k : Nat, t = .int .i64 k ∧ k ≤ n ∧ Aside (BRow wr g g n (obK L n k)) ∧ Aside (K w2 wr)) (fun t _ => n - (intOf t).toNat)
  case atStart => exact ⟨0, rfl, by omega, R5, k5⟩
  case round =>
    obtain ⟨k, rfl, hk, Rk, Kk⟩ := hrel
    clear R5 k5
    by_cases hlt : k < n
    · have cpl := place_ok k (by omega)
      have hL := HT.out k hlt
      have hx := Kk.out.cell (H2.out.at hL)
      have hix := H2.out.ix (1 + k / 8) hL
      have hib := ixB0 g n n k hlt
      have hcb := Rk.out.cell (obK_at L n k k hlt)
      have hfb : wr.frozen? ⟨g, k, none⟩ = false := World.ownsRow.frozenAt Rk.out k
      have key := byte_key L k
      have hs56 : (7 - k % 8) * 8 ≤ 56 := by omega
      obtain ⟨v0, v1⟩ := H2.out.us.at (1 + k / 8)
      have Rn := Rk.out.put k (ob L k)
      rw [← obK_succ] at Rn
      have Kn := Hp.K.setCell Kk.out (p := ⟨g, k, none⟩) (.int .u8 (ob L k)) (by rw [hg]; exact Nat.le_refl _)
      clear hL Rk Kk
      generalize L.getD (1 + k / 8) 0 = x at *
      generalize 1 + k / 8 = i at *
      generalize (7 - k % 8) * 8 = sh at *
      generalize ob L k = y at *
      have Rn' : Aside _ := Rn
      have Kn' : Aside _ := Kn
      clear Rn Kn
      generalize L.length = q at *
      go_wp2_with (go_at_call 92; refine (cpl _).mono ?_; rintro e w10 ⟨rfl, rfl⟩)
      go_roundw
      case measure => simp [intOf]; omega
      case rel => exact ⟨k + 1, by go_num, by omega, Rn'.out, Kn'.out⟩
    · obtain rfl : k = n := by omega
      have hst := run_toStr Rk.out
      rw [obs_str HO.out, obK_len] at hst
      go_wp2
      go_ret2
      exact ⟨rfl, K2.out.trans Kk.out⟩

end Tx
end Go.Proofs.YtimedllggcfldaaGreatDoor
