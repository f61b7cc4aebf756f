/-
  Texts as rows of words, with no program: what the words of a text are, which words are a text's, and which text.
-/
import Derived.Lib.Bytealg
namespace Go.Proofs.YtbbjfebdihepnaaGreatDoor
namespace Tx

/-- A text's byte k; 0 where there is none. -/
def bt (l : List UInt8) (k : Nat) : Int := ((l.getD k 0).toNat : Int)
theorem bt_rng (l : List UInt8) (k : Nat) : 0 ≤ bt l k ∧ bt l k ≤ 255 := by
  have := (l.getD k 0).toNat_lt
  unfold bt
  omega
theorem bt_out {l : List UInt8} {k : Nat} (h : l.length ≤ k) : bt l k = 0 := by
  unfold bt
  rw [List.getD_eq_getElem?_getD, List.getElem?_eq_none h]
  rfl
theorem bt_in {l : List UInt8} {k : Nat} (h : k < l.length) : bt l k = (l[k].toNat : Int) := by
  unfold bt
  rw [List.getD_eq_getElem?_getD, List.getElem?_eq_getElem h]
  rfl
theorem bt_take (l : List UInt8) (k j : Nat) : bt (l.take k) j = if j < k then bt l j else 0 := by
  unfold bt
  simp only [List.getD_eq_getElem?_getD, List.getElem?_take]
  split <;> rfl

/-- j bytes from p on as one number, the first one the highest. -/
def hor (l : List UInt8) (p : Nat) : Nat → Int
  | 0 => 0
  | j + 1 => hor l p j * 256 + bt l (p + j)
/-- The word of the eight bytes from 8 i on. -/
def wv (l : List UInt8) (i : Nat) : Int := hor l (8 * i) 8
theorem wv_eq (l : List UInt8) (i : Nat) : wv l i = bt l (8 * i) * 72057594037927936 + bt l (8 * i + 1) * 281474976710656 + bt l (8 * i + 2) * 1099511627776 + bt l (8 * i + 3) * 4294967296 + bt l (8 * i + 4) * 16777216 + bt l (8 * i + 5) * 65536 + bt l (8 * i + 6) * 256 + bt l (8 * i + 7) := by
  unfold wv
  simp only [hor, Nat.add_zero]
  omega
theorem wv_rng (l : List UInt8) (i : Nat) : 0 ≤ wv l i ∧ wv l i ≤ 18446744073709551615 := by
  have h0 := bt_rng l (8 * i); have h1 := bt_rng l (8 * i + 1); have h2 := bt_rng l (8 * i + 2); have h3 := bt_rng l (8 * i + 3)
  have h4 := bt_rng l (8 * i + 4); have h5 := bt_rng l (8 * i + 5); have h6 := bt_rng l (8 * i + 6); have h7 := bt_rng l (8 * i + 7)
  rw [wv_eq]
  omega
theorem wv_nil (i : Nat) : wv [] i = 0 := by
  rw [wv_eq]
  simp [bt]

/-- How far byte r of a word is shifted, and what that is times. -/
def pw (r : Nat) : Int := (2 : Int) ^ ((7 - r) * 8)
theorem pw_vals : pw 0 = 72057594037927936 ∧ pw 1 = 281474976710656 ∧ pw 2 = 1099511627776 ∧ pw 3 = 4294967296 ∧ pw 4 = 16777216 ∧ pw 5 = 65536 ∧ pw 6 = 256 ∧ pw 7 = 1 := by
  unfold pw
  decide

theorem eight {r : Nat} (h : r < 8) : r = 0 ∨ r = 1 ∨ r = 2 ∨ r = 3 ∨ r = 4 ∨ r = 5 ∨ r = 6 ∨ r = 7 := by omega

/-- A byte out of its word. -/
theorem byte_of (l : List UInt8) (k : Nat) : wv l (k / 8) / pw (k % 8) % 256 = bt l k := by
  obtain ⟨q, r, hr, rfl⟩ : ∃ q r, r < 8 ∧ k = 8 * q + r := ⟨k / 8, k % 8, by omega, by omega⟩
  rw [show (8 * q + r) / 8 = q by omega, show (8 * q + r) % 8 = r by omega, wv_eq]
  have h0 := bt_rng l (8 * q); have h1 := bt_rng l (8 * q + 1); have h2 := bt_rng l (8 * q + 2); have h3 := bt_rng l (8 * q + 3)
  have h4 := bt_rng l (8 * q + 4); have h5 := bt_rng l (8 * q + 5); have h6 := bt_rng l (8 * q + 6); have h7 := bt_rng l (8 * q + 7)
  obtain ⟨p0, p1, p2, p3, p4, p5, p6, p7⟩ := pw_vals
  rcases eight hr with rfl | rfl | rfl | rfl | rfl | rfl | rfl | rfl
  all_goals first | (rw [p0]; rw [Nat.add_zero (8 * q)]) | rw [p1] | rw [p2] | rw [p3] | rw [p4] | rw [p5] | rw [p6] | rw [p7]
  all_goals omega

/-- One byte more: only its own word turns. -/
theorem wv_other {l : List UInt8} {k i : Nat} (h : i ≠ k / 8) : wv (l.take (k + 1)) i = wv (l.take k) i := by
  have e : ∀ t, t < 8 → bt (l.take (k + 1)) (8 * i + t) = bt (l.take k) (8 * i + t) := fun t ht => by
    rw [bt_take, bt_take]
    by_cases h1 : 8 * i + t < k
    · rw [if_pos h1, if_pos (by omega)]
    · rw [if_neg h1, if_neg (by omega)]
  have e0 := e 0 (by omega)
  rw [Nat.add_zero (8 * i)] at e0
  rw [wv_eq, wv_eq, e0, e 1 (by omega), e 2 (by omega), e 3 (by omega), e 4 (by omega), e 5 (by omega), e 6 (by omega), e 7 (by omega)]
theorem wv_one (l : List UInt8) (k : Nat) : wv (l.take (k + 1)) (k / 8) = wv (l.take k) (k / 8) + bt l k * pw (k % 8) ∧ wv (l.take k) (k / 8) % (256 * pw (k % 8)) = 0 := by
  obtain ⟨q, r, hr, rfl⟩ : ∃ q r, r < 8 ∧ k = 8 * q + r := ⟨k / 8, k % 8, by omega, by omega⟩
  rw [show (8 * q + r) / 8 = q by omega, show (8 * q + r) % 8 = r by omega, wv_eq, wv_eq]
  have e : ∀ n t, bt (l.take (8 * q + n)) (8 * q + t) = if t < n then bt l (8 * q + t) else 0 := fun n t => by
    rw [bt_take]
    by_cases h : t < n
    · rw [if_pos h, if_pos (by omega)]
    · rw [if_neg h, if_neg (by omega)]
  have e0 : ∀ n, bt (l.take (8 * q + n)) (8 * q) = if 0 < n then bt l (8 * q) else 0 := fun n => by have := e n 0; rwa [Nat.add_zero (8 * q)] at this
  rw [Nat.add_assoc (8 * q) r 1]
  simp only [e, e0]
  obtain ⟨p0, p1, p2, p3, p4, p5, p6, p7⟩ := pw_vals
  rcases eight hr with rfl | rfl | rfl | rfl | rfl | rfl | rfl | rfl
  · rw [p0]; simp <;> omega
  · rw [p1]; simp <;> omega
  · rw [p2]; simp <;> omega
  · rw [p3]; simp <;> omega
  · rw [p4]; simp <;> omega
  · rw [p5]; simp <;> omega
  · rw [p6]; simp <;> omega
  · rw [p7]; simp <;> omega

theorem or_add (x b : Int) (hx : 0 ≤ x) (r : Nat) (hm : x % (256 * pw r) = 0) (b0 : 0 ≤ b) (b1 : b ≤ 255) : ((x.toNat ||| (b * pw r).toNat : Nat) : Int) = x + b * pw r := by
  unfold pw at *
  generalize (7 - r) * 8 = s at *
  obtain ⟨y, rfl⟩ := Int.eq_ofNat_of_zero_le b0
  have e1 : (256 : Int) * 2 ^ s = ((2 ^ (8 + s) : Nat) : Int) := by rw [Nat.pow_add]; simp
  rw [e1] at hm
  obtain ⟨z, rfl⟩ := Int.eq_ofNat_of_zero_le hx
  have hz : z % 2 ^ (8 + s) = 0 := by exact_mod_cast hm
  have e2 : ((y : Int) * 2 ^ s).toNat = y * 2 ^ s := by rw [show (y : Int) * 2 ^ s = ((y * 2 ^ s : Nat) : Int) by simp]; exact Int.toNat_natCast _
  rw [e2, Int.toNat_natCast]
  have hlt : y * 2 ^ s < 2 ^ (8 + s) := by
    rw [Nat.pow_add]
    exact Nat.mul_lt_mul_of_pos_right (by omega) (Nat.two_pow_pos s)
  have e3 : z = 2 ^ (8 + s) * (z / 2 ^ (8 + s)) := by have := Nat.div_add_mod z (2 ^ (8 + s)); omega
  have e4 := Nat.two_pow_add_eq_or_of_lt hlt (z / 2 ^ (8 + s))
  rw [← e3] at e4
  rw [← e4]
  simp

/-- How many words a text of n bytes has. -/
def mn (n : Int) : Int := if 0 ≤ n ∧ n ≤ 1000 then 1 + (n + 7) / 8 else 0
theorem mn_in {n : Int} (h0 : 0 ≤ n) (h1 : n ≤ 1000) : mn n = 1 + (n + 7) / 8 := if_pos ⟨h0, h1⟩
theorem mn_out {n : Int} (h : ¬ (0 ≤ n ∧ n ≤ 1000)) : mn n = 0 := if_neg h

/-- The words of the first k bytes of a text, in the row that all of it has. -/
def wdsK (l : List UInt8) (k : Nat) : List Int := (l.length : Int) :: (List.range ((l.length + 7) / 8)).map (wv (l.take k))
/-- A text's words. -/
def wds (l : List UInt8) : List Int := wdsK l l.length
theorem wdsK_len (l : List UInt8) (k : Nat) : (wdsK l k).length = 1 + (l.length + 7) / 8 := by simp [wdsK]; omega
theorem wds_len (l : List UInt8) : (wds l).length = 1 + (l.length + 7) / 8 := wdsK_len l _
theorem wdsK_at (l : List UInt8) (k i : Nat) (h : i < (l.length + 7) / 8) : (wdsK l k)[1 + i]? = some (wv (l.take k) i) := by
  rw [Nat.add_comm]
  simp [wdsK, h]
theorem wds_at (l : List UInt8) (i : Nat) (h : i < (l.length + 7) / 8) : (wds l)[1 + i]? = some (wv l i) := by
  have := wdsK_at l l.length i h
  rwa [List.take_length] at this
theorem wdsK_zero (l : List UInt8) : wdsK l 0 = (l.length : Int) :: List.replicate ((l.length + 7) / 8) 0 := by
  unfold wdsK
  congr 1
  rw [List.take_zero]
  apply List.ext_getElem
  · simp
  · intro i h1 h2
    simp [wv_nil]
/-- One byte more. -/
theorem wdsK_succ (l : List UInt8) (k : Nat) : wdsK l (k + 1) = (wdsK l k).set (1 + k / 8) (wv (l.take k) (k / 8) + bt l k * pw (k % 8)) := by
  unfold wdsK
  rw [Nat.add_comm 1, List.set_cons_succ]
  congr 1
  apply List.ext_getElem
  · simp
  · intro i h1 h2
    simp only [List.getElem_map, List.getElem_range, List.getElem_set]
    split
    · next e => subst e; exact (wv_one l k).1
    · next e => exact wv_other (Ne.symm e)

/-- Is the row a text's? -/
def rest (L : List Int) (n : Nat) : Int := L.getD (L.length - 1) 0 % 2 ^ (((L.length - 1) * 8 - n) * 8)
structure Is (L : List Int) : Prop where
  ne : 0 < L.length
  le : L.getD 0 0 ≤ 1000
  len : (L.length : Int) = 1 + (L.getD 0 0 + 7) / 8
  rest : rest L (L.getD 0 0).toNat = 0
def Us (L : List Int) : Prop := ∀ x ∈ L, 0 ≤ x ∧ x ≤ 18446744073709551615
theorem Us.at {L : List Int} (h : Us L) (i : Nat) : 0 ≤ L.getD i 0 ∧ L.getD i 0 ≤ 18446744073709551615 := by
  rw [List.getD_eq_getElem?_getD]
  cases hx : L[i]? with
  | none => simp
  | some x => exact h x (List.mem_of_getElem? hx)

/-- Byte k of a row of words. -/
def ob (L : List Int) (k : Nat) : Int := L.getD (1 + k / 8) 0 / pw (k % 8) % 256
theorem pw_pos (r : Nat) : 0 < pw r := Int.pow_pos (by decide)
theorem ob_rng (L : List Int) (k : Nat) : 0 ≤ ob L k ∧ ob L k ≤ 255 := by
  unfold ob
  omega
/-- The text of a row of words. -/
def ofT (L : List Int) : List UInt8 := (List.range (L.getD 0 0).toNat).map fun k => UInt8.ofNat (ob L k).toNat
theorem ofT_len (L : List Int) : (ofT L).length = (L.getD 0 0).toNat := by simp [ofT]
theorem ofT_bt (L : List Int) {k : Nat} (h : k < (L.getD 0 0).toNat) : bt (ofT L) k = ob L k := by
  rw [bt_in (by rw [ofT_len]; exact h)]
  obtain ⟨u0, u1⟩ := ob_rng L k
  have e : (ob L k).toNat < UInt8.size := by
    show _ < 256
    omega
  simp only [ofT, List.getElem_map, List.getElem_range]
  rw [UInt8.toNat_ofNat_of_lt' e]
  omega

theorem wds_us {l : List UInt8} (h : l.length ≤ 1000) : Us (wds l) := by
  intro x hx
  rcases List.mem_cons.1 hx with rfl | hx
  · omega
  · obtain ⟨i, _, rfl⟩ := List.mem_map.1 hx
    exact wv_rng _ _
theorem wds_zero (l : List UInt8) : (wds l).getD 0 0 = l.length := rfl
theorem wds_getD (l : List UInt8) (i : Nat) (h : i < (l.length + 7) / 8) : (wds l).getD (1 + i) 0 = wv l i := by
  rw [List.getD_eq_getElem?_getD, wds_at l i h]
  rfl

theorem ext_bt {a b : List UInt8} (hl : a.length = b.length) (h : ∀ k, k < a.length → bt a k = bt b k) : a = b := by
  apply List.ext_getElem hl
  intro k h1 h2
  have := h k h1
  rw [bt_in h1, bt_in h2] at this
  exact UInt8.toNat_inj.1 (by omega)

/-- Of the words of a text the text. -/
theorem ofT_wds (l : List UInt8) : ofT (wds l) = l := by
  have hz : ((wds l).getD 0 0).toNat = l.length := by rw [wds_zero]; omega
  refine ext_bt (by rw [ofT_len, hz]) fun k hk => ?_
  rw [ofT_len, hz] at hk
  rw [ofT_bt _ (show k < ((wds l).getD 0 0).toNat by omega)]
  unfold ob
  rw [wds_getD l _ (by omega), byte_of]

/-- What of a word's value lies behind its byte t. -/
theorem low_of (l : List UInt8) (i t : Nat) (ht : t ≤ 8) : (wv l i % 2 ^ ((8 - t) * 8) = 0) ↔ ∀ j, t ≤ j → j < 8 → bt l (8 * i + j) = 0 := by
  rw [wv_eq]
  have h0 := bt_rng l (8 * i); have h1 := bt_rng l (8 * i + 1); have h2 := bt_rng l (8 * i + 2); have h3 := bt_rng l (8 * i + 3)
  have h4 := bt_rng l (8 * i + 4); have h5 := bt_rng l (8 * i + 5); have h6 := bt_rng l (8 * i + 6); have h7 := bt_rng l (8 * i + 7)
  constructor
  · intro h j h8 h9
    have hc : t = 0 ∨ t = 1 ∨ t = 2 ∨ t = 3 ∨ t = 4 ∨ t = 5 ∨ t = 6 ∨ t = 7 ∨ t = 8 := by omega
    rcases eight h9 with rfl | rfl | rfl | rfl | rfl | rfl | rfl | rfl <;> rcases hc with rfl | rfl | rfl | rfl | rfl | rfl | rfl | rfl | rfl <;> first | omega | (simp only [Nat.reduceSub, Nat.reduceMul, Int.reducePow, Nat.add_zero] at h ⊢; omega)
  · intro h
    have hc : t = 0 ∨ t = 1 ∨ t = 2 ∨ t = 3 ∨ t = 4 ∨ t = 5 ∨ t = 6 ∨ t = 7 ∨ t = 8 := by omega
    have g0 := h 0; have g1 := h 1; have g2 := h 2; have g3 := h 3; have g4 := h 4; have g5 := h 5; have g6 := h 6; have g7 := h 7
    rw [Nat.add_zero] at g0
    clear h
    rcases hc with rfl | rfl | rfl | rfl | rfl | rfl | rfl | rfl | rfl <;> simp only [Nat.reduceSub, Nat.reduceMul, Int.reducePow] <;> omega


theorem getD_at {L : List Int} {i : Nat} (h : i < L.length) : L[i]? = some (L.getD i 0) := by
  rw [List.getD_eq_getElem?_getD, List.getElem?_eq_getElem h]
  rfl

/-- A word of its eight bytes. -/
theorem word_of (x : Int) (h0 : 0 ≤ x) (h1 : x ≤ 18446744073709551615) : x = (x / 72057594037927936 % 256) * 72057594037927936 + (x / 281474976710656 % 256) * 281474976710656 + (x / 1099511627776 % 256) * 1099511627776 + (x / 4294967296 % 256) * 4294967296 + (x / 16777216 % 256) * 16777216 + (x / 65536 % 256) * 65536 + (x / 256 % 256) * 256 + x % 256 := by
  omega

/-- The bytes of words 1, 2, .. of a row, all of them. -/
def allB (L : List Int) : List UInt8 := (List.range ((L.length - 1) * 8)).map fun k => UInt8.ofNat (ob L k).toNat
theorem allB_len (L : List Int) : (allB L).length = (L.length - 1) * 8 := by simp [allB]
theorem allB_bt (L : List Int) {k : Nat} (h : k < (L.length - 1) * 8) : bt (allB L) k = ob L k := by
  rw [bt_in (by rw [allB_len]; exact h)]
  obtain ⟨u0, u1⟩ := ob_rng L k
  have e : (ob L k).toNat < UInt8.size := by
    show _ < 256
    omega
  simp only [allB, List.getElem_map, List.getElem_range]
  rw [UInt8.toNat_ofNat_of_lt' e]
  omega
theorem allB_wv {L : List Int} (hu : Us L) {i : Nat} (h : 1 + i < L.length) : wv (allB L) i = L.getD (1 + i) 0 := by
  obtain ⟨h0, h1⟩ := hu.at (1 + i)
  have e : ∀ t, t < 8 → bt (allB L) (8 * i + t) = L.getD (1 + i) 0 / pw t % 256 := fun t ht => by
    rw [allB_bt L (by omega)]
    unfold ob
    rw [show (8 * i + t) / 8 = i by omega, show (8 * i + t) % 8 = t by omega]
  have e0 := e 0 (by omega)
  rw [Nat.add_zero (8 * i)] at e0
  obtain ⟨p0, p1, p2, p3, p4, p5, p6, p7⟩ := pw_vals
  rw [wv_eq, e0, e 1 (by omega), e 2 (by omega), e 3 (by omega), e 4 (by omega), e 5 (by omega), e 6 (by omega), e 7 (by omega), p0, p1, p2, p3, p4, p5, p6, p7]
  generalize L.getD (1 + i) 0 = x at *
  have := word_of x h0 h1
  omega

/-- What the rest of the last word says: behind the text's bytes all are 0. -/
theorem rest_iff {L : List Int} (hu : Us L) (hne : 0 < L.length) {n : Nat} (hlen : (L.length : Int) = 1 + ((n : Int) + 7) / 8) : rest L n = 0 ↔ ∀ k, n ≤ k → k < (L.length - 1) * 8 → ob L k = 0 := by
  unfold rest
  by_cases h1 : L.length = 1
  · have hn : n = 0 := by omega
    subst hn
    rw [h1]
    simp
  · obtain ⟨m, hm⟩ : ∃ m, L.length = m + 2 := ⟨L.length - 2, by omega⟩
    have hw : L.getD (L.length - 1) 0 = wv (allB L) m := by rw [allB_wv hu (by omega), show L.length - 1 = 1 + m by omega]
    have ht : (L.length - 1) * 8 - n = 8 - (n - 8 * m) := by omega
    rw [hw, ht, low_of _ _ _ (by omega)]
    constructor
    · intro h k h2 h3
      have := h (k - 8 * m) (by omega) (by omega)
      rw [show 8 * m + (k - 8 * m) = k by omega, allB_bt L h3] at this
      exact this
    · intro h j h2 h3
      rw [allB_bt L (by omega)]
      exact h _ (by omega) (by omega)

/-- A text's words are a text's, of that text alone. -/
theorem is_wds {l : List UInt8} (h : l.length ≤ 1000) : Is (wds l) := by
  have hl := wds_len l
  have hz : ((wds l).getD 0 0) = (l.length : Int) := wds_zero l
  refine ⟨by omega, by rw [hz]; omega, by rw [hz]; omega, ?_⟩
  rw [hz, Int.toNat_natCast]
  refine (rest_iff (wds_us h) (by omega) (by omega)).2 fun k h1 h2 => ?_
  unfold ob
  rw [wds_getD l _ (by omega), byte_of]
  exact bt_out h1
end Tx
end Go.Proofs.YtbbjfebdihepnaaGreatDoor
