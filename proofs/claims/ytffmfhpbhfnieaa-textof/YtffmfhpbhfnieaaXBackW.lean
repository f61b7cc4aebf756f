/-
  The walk of TextBack.
-/
import Derived.Test.YtffmfhpbhfnieaaXDoor
namespace Go.Proofs.Ytffmfhpbhfnieaa
open Go.RowKit
namespace Tx
open Hp (Kept K No)
variable {w w' : World}

theorem bs_mk (l : List UInt8) : bs ⟨l.toArray⟩ = l := rfl
theorem mk_bs (s : ByteArray) : (⟨(bs s).toArray⟩ : ByteArray) = s := by
  obtain ⟨⟨x⟩⟩ := s
  rfl
theorem words_eq (s : ByteArray) (L : List Int) (hL : wds (bs s) = L) (hs : s.size ≤ 1000) (w : World) : Calls Try.prog 10 #[.string s] w fun e w' => ∃ g cap, e = .returned (.tuple #[.slice (some ⟨g, 0, none⟩) L.length cap, .int .i64 0]) ∧ Aside (Row w' w.heap.size g cap L) ∧ K w w' := by
  subst hL
  exact words_ok s hs w
theorem of_text (s : ByteArray) {a : Option Addr} {b off cap : Nat} (hs : s.size ≤ 1000) (h : Src w a b off cap (wds (bs s))) : Calls Try.prog 14 #[.slice a (wds (bs s)).length cap] w fun e w' => e = .returned (.tuple #[.string s, .int .i64 0]) ∧ K w w' := by
  have := of_yes h (is_wds (by rw [bs_len]; exact hs))
  rw [ofT_wds, mk_bs] at this
  exact this

/-- What the second half needs of the row that came in. -/
theorem row_len_wds {s : ByteArray} (hs : s.size ≤ 1000) : ((wds (bs s)).length : Int) = mn s.size := by
  rw [wds_mn (by rw [bs_len]; exact hs), bs_len]
theorem wds_us' {s : ByteArray} (hs : s.size ≤ 1000) : Us (wds (bs s)) := wds_us (by rw [bs_len]; exact hs)
theorem wds_max {s : ByteArray} (hs : s.size ≤ 1000) : (wds (bs s)).length ≤ maxLen := by
  rw [wds_len, bs_len]
  unfold maxLen
  omega

theorem of_textX (s : ByteArray) {X : List Int} (hX : wds (bs s) = X) {x : Nat} (hx : X.length = x) (hs : s.size ≤ 1000) {base g c1 : Nat} (R : Row w base g c1 X) : Calls Try.prog 14 #[.slice (some ⟨g, 0, none⟩) x c1] w fun e w' => e = .returned (.tuple #[.string s, .int .i64 0]) ∧ K w w' := by
  subst hX hx
  exact of_text s hs (R.src (wds_us' hs) (wds_max hs))
theorem of_yesX {w : World} {a : Option Addr} {b off cap : Nat} {L : List Int} {q : Nat} (h : Src w a b off cap L) (hi : Is L) (hq : L.length = q) : Calls Try.prog 14 #[.slice a q cap] w fun e w' => e = .returned (.tuple #[.string ⟨(ofT L).toArray⟩, .int .i64 0]) ∧ K w w' := by
  subst hq
  exact of_yes h hi
theorem of_noX {w : World} {a : Option Addr} {b off cap : Nat} {L : List Int} {q : Nat} (h : Src w a b off cap L) (hi : ¬ Is L) (hq : L.length = q) : Calls Try.prog 14 #[.slice a q cap] w fun e w' => e = .returned (.tuple #[.string ⟨#[]⟩, .int .i64 8]) ∧ K w w' := by
  subst hq
  exact of_no h hi
theorem same_X {a a' : Option Addr} {b off cap b' off' cap' p q : Nat} {L M : List Int} (h : Src w a b off cap L) (h' : Src w a' b' off' cap' M) (hp : L.length = p) (hq : M.length = q) : Calls Try.prog 12 #[.slice a p cap, .slice a' q cap'] w fun e w' => e = .returned (.bool (decide (L = M))) ∧ K w w' := by
  subst hp hq
  exact same_any h h'
theorem words_X (s : ByteArray) {L : List Int} {q : Nat} (hL : wds (bs s) = L) (hq : L.length = q) (hs : s.size ≤ 1000) (w : World) : Calls Try.prog 10 #[.string s] w fun e w' => ∃ g cap, e = .returned (.tuple #[.slice (some ⟨g, 0, none⟩) q cap, .int .i64 0]) ∧ Aside (Row w' w.heap.size g cap L) ∧ K w w' := by
  subst hL hq
  exact words_ok s hs w

variable {a : Option Addr} {b off cap : Nat} {L : List Int}

set_option maxRecDepth 100000 in
set_option maxHeartbeats 2000000 in
theorem back_out (s : ByteArray) (L : List Int) (w : World) (h : 2000 < s.size ∨ s.size ≤ 2000 ∧ 200 < L.length) : Calls Try.prog 6 #[.string s, .slice a L.length cap] w fun e w' => e = .returned (.bool true) ∧ K w w' := by
  have k0 := K.refl w
  have ca := awake_any w
  generalize L.length = q at *
  rcases h with h | ⟨h1, h⟩
  all_goals
    go_enter Try.func6, Try.ntmps6
    go_wp2_with (go_at_call 9; refine (ca _ (by assumption)).mono ?_; rintro e w6 ⟨rfl, k6⟩)
    go_ret
    exact ⟨rfl, k6⟩

set_option maxRecDepth 100000 in
set_option maxHeartbeats 4000000 in
theorem back_in (s : ByteArray) (h : Src w a b off cap L) (h1 : s.size ≤ 1000) (h2 : L.length ≤ 200) (hi : Is L) : Calls Try.prog 6 #[.string s, .slice a L.length cap] w fun e w' => e = .returned (.bool true) ∧ K w w' := by
  have H : Aside _ := h
  have HI : Aside _ := hi
  have k0 : Aside _ := K.refl w
  have hm := row_len_wds h1
  have cm := many_any (s.size : Int)
  rw [← hm] at cm
  have HL : Aside (wds (bs s) = wds (bs s)) := rfl
  obtain ⟨X, hX⟩ : ∃ X, wds (bs s) = X := ⟨_, rfl⟩
  have cw := words_eq s X hX h1 w
  have HX : Aside _ := hX
  clear h hi hm HL
  obtain ⟨q, hq⟩ : ∃ q, L.length = q := ⟨_, rfl⟩
  obtain ⟨x, hx⟩ : ∃ x, X.length = x := ⟨_, rfl⟩
  have HQ : Aside _ := hq
  have HY : Aside _ := hx
  rw [hX] at cm
  rw [hx] at cw cm
  rw [hq] at h2 ⊢
  clear hX hq hx
  go_enter Try.func6, Try.ntmps6
  go_wp2_with fail
  refine cw.mono ?_
  rintro e w1 ⟨g, c1, rfl, R1, k1⟩
  have K1 : Aside _ := k1
  clear k1 cw
  go_wp2_with fail
  refine (of_textX s HX.out HY.out h1 R1.out).mono ?_
  rintro e w2 ⟨rfl, k2⟩
  have K2 : Aside (K w w2) := K1.out.trans k2
  clear k2 K1 R1
  have hle : decide ((s.size : Int) ≤ 1000) = true := decide_eq_true (by omega)
  go_wp2_with fail
  refine (cm _).mono ?_
  rintro e w3 ⟨rfl, rfl⟩
  go_wp2_with fail
  refine (of_yesX (H.out.keep K2.out) HI.out HQ.out).mono ?_
  rintro e w4 ⟨rfl, k4⟩
  have K4 : Aside (K w w4) := K2.out.trans k4
  clear k4 K2
  obtain ⟨e1, e2⟩ := wds_ofT H.out.us HI.out
  have E1 : Aside _ := e1
  have e3 : (⟨(ofT L).toArray⟩ : ByteArray).size ≤ 1000 := by rw [← bs_len]; exact e2
  go_wp2_with fail
  refine (words_X ⟨(ofT L).toArray⟩ (L := L) E1.out HQ.out e3 _).mono ?_
  rintro e w5 ⟨g5, c5, rfl, R5, k5⟩
  have S5 : Aside _ := H.out.keep (K4.out.trans k5)
  have K5 : Aside (K w w5) := K4.out.trans k5
  clear k5 K4 e1 e2 e3
  go_wp2_with fail
  have hd : decide (L = L) = true := by simp
  have cs := same_X (R5.out.src H.out.us H.out.max) S5.out HQ.out HQ.out
  rw [hd] at cs
  clear hd
  refine cs.mono ?_
  rintro e w6 ⟨rfl, k6⟩
  have k7 : K w w6 := K5.out.trans k6
  clear k6 cs
  have ca := awake_any w w6 k7
  go_wp2_with (go_at_call 9; refine ca.mono ?_; rintro e w8 ⟨rfl, k8⟩)
  go_ret
  exact ⟨rfl, k8⟩

set_option maxRecDepth 100000 in
set_option maxHeartbeats 4000000 in
theorem back_short (s : ByteArray) (h : Src w a b off cap L) (h1 : s.size ≤ 1000) (h2 : L.length ≤ 200) (hi : ¬ Is L) : Calls Try.prog 6 #[.string s, .slice a L.length cap] w fun e w' => e = .returned (.bool true) ∧ K w w' := by
  have H : Aside _ := h
  have HI : Aside _ := hi
  have k0 : Aside _ := K.refl w
  have hm := row_len_wds h1
  have cm := many_any (s.size : Int)
  rw [← hm] at cm
  have HL : Aside (wds (bs s) = wds (bs s)) := rfl
  obtain ⟨X, hX⟩ : ∃ X, wds (bs s) = X := ⟨_, rfl⟩
  have cw := words_eq s X hX h1 w
  have HX : Aside _ := hX
  clear h hi hm HL
  obtain ⟨q, hq⟩ : ∃ q, L.length = q := ⟨_, rfl⟩
  obtain ⟨x, hx⟩ : ∃ x, X.length = x := ⟨_, rfl⟩
  have HQ : Aside _ := hq
  have HY : Aside _ := hx
  rw [hX] at cm
  rw [hx] at cw cm
  rw [hq] at h2 ⊢
  clear hX hq hx
  go_enter Try.func6, Try.ntmps6
  go_wp2_with fail
  refine cw.mono ?_
  rintro e w1 ⟨g, c1, rfl, R1, k1⟩
  have K1 : Aside _ := k1
  clear k1 cw
  go_wp2_with fail
  refine (of_textX s HX.out HY.out h1 R1.out).mono ?_
  rintro e w2 ⟨rfl, k2⟩
  have K2 : Aside (K w w2) := K1.out.trans k2
  clear k2 K1 R1
  have hle : decide ((s.size : Int) ≤ 1000) = true := decide_eq_true (by omega)
  go_wp2_with fail
  refine (cm _).mono ?_
  rintro e w3 ⟨rfl, rfl⟩
  go_wp2_with fail
  refine (of_noX (H.out.keep K2.out) HI.out HQ.out).mono ?_
  rintro e w4 ⟨rfl, k4⟩
  have K4 : Aside (K w w4) := K2.out.trans k4
  clear k4 K2
  go_wp2_with fail
  refine (words_X ⟨#[]⟩ (L := [0]) (q := 1) (by decide) rfl (by decide) _).mono ?_
  rintro e w5 ⟨g5, c5, rfl, R5, k5⟩
  have k7 : K w w5 := K4.out.trans k5
  clear k5 K4
  have ca := awake_any w w5 k7
  go_wp2_with (go_at_call 9; refine ca.mono ?_; rintro e w8 ⟨rfl, k8⟩)
  go_ret
  exact ⟨rfl, k8⟩

set_option maxRecDepth 100000 in
set_option maxHeartbeats 4000000 in
theorem back_long (s : ByteArray) (h : Src w a b off cap L) (h1 : 1000 < s.size) (h3 : s.size ≤ 2000) (h2 : L.length ≤ 200) (hi : Is L) : Calls Try.prog 6 #[.string s, .slice a L.length cap] w fun e w' => e = .returned (.bool true) ∧ K w w' := by
  have H : Aside _ := h
  have HI : Aside _ := hi
  clear h hi
  obtain ⟨q, hq⟩ : ∃ q, L.length = q := ⟨_, rfl⟩
  have HQ : Aside _ := hq
  rw [hq] at h2 ⊢
  clear hq
  have cw := long_no s h1 w
  go_enter Try.func6, Try.ntmps6
  go_wp2_with fail
  refine cw.mono ?_
  rintro e w1 ⟨rfl, k1⟩
  have K1 : Aside _ := k1
  clear k1 cw
  go_wp2_with fail
  refine (of_noX (Src.nil w1 0 none) (fun i => absurd i.ne (by simp)) rfl).mono ?_
  rintro e w2 ⟨rfl, k2⟩
  have K2 : Aside (K w w2) := K1.out.trans k2
  clear k2 K1
  have hle : decide ((s.size : Int) ≤ 1000) = false := decide_eq_false (by omega)
  go_wp2_with fail
  refine (of_yesX (H.out.keep K2.out) HI.out HQ.out).mono ?_
  rintro e w4 ⟨rfl, k4⟩
  have K4 : Aside (K w w4) := K2.out.trans k4
  clear k4 K2
  obtain ⟨e1, e2⟩ := wds_ofT H.out.us HI.out
  have E1 : Aside _ := e1
  have e3 : (⟨(ofT L).toArray⟩ : ByteArray).size ≤ 1000 := by rw [← bs_len]; exact e2
  go_wp2_with fail
  refine (words_X ⟨(ofT L).toArray⟩ (L := L) E1.out HQ.out e3 _).mono ?_
  rintro e w5 ⟨g5, c5, rfl, R5, k5⟩
  have S5 : Aside _ := H.out.keep (K4.out.trans k5)
  have K5 : Aside (K w w5) := K4.out.trans k5
  clear k5 K4 e1 e2 e3
  go_wp2_with fail
  have hd : decide (L = L) = true := by simp
  have cs := same_X (R5.out.src H.out.us H.out.max) S5.out HQ.out HQ.out
  rw [hd] at cs
  clear hd
  refine cs.mono ?_
  rintro e w6 ⟨rfl, k6⟩
  have k7 : K w w6 := K5.out.trans k6
  clear k6 cs
  have ca := awake_any w w6 k7
  go_wp2_with (go_at_call 9; refine ca.mono ?_; rintro e w8 ⟨rfl, k8⟩)
  go_ret
  exact ⟨rfl, k8⟩

set_option maxRecDepth 100000 in
set_option maxHeartbeats 4000000 in
theorem back_none (s : ByteArray) (h : Src w a b off cap L) (h1 : 1000 < s.size) (h3 : s.size ≤ 2000) (h2 : L.length ≤ 200) (hi : ¬ Is L) : Calls Try.prog 6 #[.string s, .slice a L.length cap] w fun e w' => e = .returned (.bool true) ∧ K w w' := by
  have H : Aside _ := h
  have HI : Aside _ := hi
  clear h hi
  obtain ⟨q, hq⟩ : ∃ q, L.length = q := ⟨_, rfl⟩
  have HQ : Aside _ := hq
  rw [hq] at h2 ⊢
  clear hq
  have cw := long_no s h1 w
  go_enter Try.func6, Try.ntmps6
  go_wp2_with fail
  refine cw.mono ?_
  rintro e w1 ⟨rfl, k1⟩
  have K1 : Aside _ := k1
  clear k1 cw
  go_wp2_with fail
  refine (of_noX (Src.nil w1 0 none) (fun i => absurd i.ne (by simp)) rfl).mono ?_
  rintro e w2 ⟨rfl, k2⟩
  have K2 : Aside (K w w2) := K1.out.trans k2
  clear k2 K1
  have hle : decide ((s.size : Int) ≤ 1000) = false := decide_eq_false (by omega)
  go_wp2_with fail
  refine (of_noX (H.out.keep K2.out) HI.out HQ.out).mono ?_
  rintro e w4 ⟨rfl, k4⟩
  have K4 : Aside (K w w4) := K2.out.trans k4
  clear k4 K2
  go_wp2_with fail
  refine (words_X ⟨#[]⟩ (L := [0]) (q := 1) (by decide) rfl (by decide) _).mono ?_
  rintro e w5 ⟨g5, c5, rfl, R5, k5⟩
  have k7 : K w w5 := K4.out.trans k5
  clear k5 K4
  have ca := awake_any w w5 k7
  go_wp2_with (go_at_call 9; refine ca.mono ?_; rintro e w8 ⟨rfl, k8⟩)
  go_ret
  exact ⟨rfl, k8⟩

theorem back_walk (s : ByteArray) (a : Option Addr) (b off cap : Nat) (L : List Int) (h : Src w a b off cap L) (w0 : World) (hw : w0 = w := by rfl) : Calls Try.prog 6 #[.string s, .slice a L.length cap] w0 fun e w' => e = .returned (.bool true) ∧ K w0 w' := by
  subst hw
  by_cases h1 : s.size ≤ 2000
  case neg => exact back_out s L _ (.inl (by omega))
  by_cases h2 : L.length ≤ 200
  case neg => exact back_out s L _ (.inr ⟨h1, by omega⟩)
  by_cases h3 : s.size ≤ 1000
  · by_cases hi : Is L
    · exact back_in s h h3 h2 hi
    · exact back_short s h h3 h2 hi
  · by_cases hi : Is L
    · exact back_long s h (by omega) h1 h2 hi
    · exact back_none s h (by omega) h1 h2 hi

end Tx
end Go.Proofs.Ytffmfhpbhfnieaa
