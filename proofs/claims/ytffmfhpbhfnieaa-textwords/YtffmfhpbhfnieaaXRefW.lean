/-
  The reference's Words, and the walk of TextWords.
-/
import Derived.Test.YtffmfhpbhfnieaaXBackW
import Derived.Maps.AppendAt
import Derived.Deep.AppendSrc
import Derived.WalkSpells
namespace Go.Proofs.Ytffmfhpbhfnieaa
open Go.RowKit Go.Maps
namespace Tx
open Hp (Kept K No)
variable {w w' : World}

/-- The first i words behind the head. -/
def wdT (l : List UInt8) (i : Nat) : List Int := (l.length : Int) :: (List.range i).map (wv l)
theorem wdT_len (l : List UInt8) (i : Nat) : (wdT l i).length = i + 1 := by simp [wdT]
theorem wdT_succ (l : List UInt8) (i : Nat) : wdT l (i + 1) = wdT l i ++ [wv l i] := by
  unfold wdT
  rw [List.range_succ, List.map_append]
  rfl
theorem wdT_all (l : List UInt8) : wdT l ((l.length + 7) / 8) = wds l := by
  unfold wdT wds wdsK
  rw [List.take_length]

set_option maxRecDepth 100000 in
theorem rlong_no (s : ByteArray) (hs : 1000 < s.size) (w : World) : Calls Try.prog 11 #[.string s] w fun e w' => e = .returned (.tuple #[.slice none 0 0, .int .i64 4]) ∧ K w w' := by
  have k0 := K.refl w
  go_enter Try.func11, Try.ntmps11
  go_wp2
  go_ret2
  exact ⟨rfl, k0⟩

theorem src_one (w : World) (cells : Array Value) (ty : TypeId) : ∀ j u, cells.toList[j]? = some u → (w.alloc (.cells cells ty)).cell? ((⟨w.heap.size, 0, none⟩ : Addr).add j) = some u := fun j u hu => by
  rw [Go.WideShapes.add_plain, Nat.zero_add, World.cell?_alloc_new, ← Array.getElem?_toList]
  exact hu
theorem one_u (x : Int) : ∀ u ∈ [encU x], u.oneCell' = true := fun u hu => by
  obtain rfl : u = encU x := by simpa using hu
  rfl
theorem own_form {B n m : Nat} {ty : TypeId} {v : Value} {xs : List Value} (h : w.ownsRow B ty m v (n + 1) xs) : ∃ g cap, v = .slice (some ⟨g, 0, none⟩) (n + 1) cap := by
  rcases h.2 with ⟨_, e⟩ | ⟨g, cap, _, e, _⟩
  · omega
  · exact ⟨g, cap, e⟩
theorem own_lt {n₀ k m : Nat} {t : TypeId} {v : Value} {ys : List Value} (h : w.ownsRow n₀ t m v k ys) {g : Nat} (hg : some g = v.ownBlock) : n₀ ≤ g ∧ g < w.heap.size := by
  rcases h.2 with ⟨rfl, _⟩ | ⟨g2, cap, cur, rfl, hb, hh, _⟩
  · cases hg
  · obtain rfl : g = g2 := by simpa [Value.ownBlock] using hg
    exact ⟨hb, (Array.getElem?_eq_some_iff.1 hh).1⟩
theorem K.thenGrown {w0 w w1 : World} {o : Obj} (h : K w0 w) {row : Option Nat} (hg : (w.alloc o).grownBy w1 row) (hr : ∀ g, some g = row → w0.heap.size ≤ g) : K w0 w1 := K.grown (h.alloc o) hg hr

/-- As a walk is in an inner loop: the number of the first j bytes from p on. -/
theorem hor_rng (l : List UInt8) (p : Nat) : ∀ j, j ≤ 8 → 0 ≤ hor l p j ∧ hor l p j ≤ (256 : Int) ^ j - 1
  | 0, _ => by simp [hor]
  | j + 1, h => by
    obtain ⟨h0, h1⟩ := hor_rng l p j (by omega)
    obtain ⟨b0, b1⟩ := bt_rng l (p + j)
    have e : (256 : Int) ^ (j + 1) = 256 ^ j * 256 := Int.pow_succ _ _
    simp only [hor]
    rw [e]
    omega
theorem hor_mul (l : List UInt8) (p j : Nat) (h : j < 8) : hor l p j * 256 ≤ 18446744073709551615 - 255 := by
  have h1 := (hor_rng l p j (by omega)).2
  have h2 : (256 : Int) ^ j ≤ 256 ^ 7 := by
    have := Nat.pow_le_pow_right (n := 256) (by decide) (show j ≤ 7 by omega)
    have e : ∀ k : Nat, (256 : Int) ^ k = ((256 ^ k : Nat) : Int) := fun k => by simp
    rw [e, e]
    omega
  have h3 : (256 : Int) ^ 7 = 72057594037927936 := by decide
  rw [h3] at h2
  omega

set_option maxRecDepth 100000 in
set_option maxHeartbeats 2000000 in
theorem rWords_ok (s : ByteArray) (hs : s.size ≤ 1000) (w : World) : Calls Try.prog 11 #[.string s] w fun e w' => ∃ g cap, e = .returned (.tuple #[.slice (some ⟨g, 0, none⟩) (wds (bs s)).length cap, .int .i64 0]) ∧ Aside (Row w' w.heap.size g cap (wds (bs s))) ∧ K w w' := by
  obtain ⟨iu, hiu, hs1, hs2, hz⟩ := info_u64
  have HU : Aside (Try.prog.info? 37 = some iu ∧ iu.zero = some (.int .u64 0) ∧ iu.size = 1 ∧ iu.bytes = 8) := ⟨hiu, hz, hs1, hs2⟩
  clear hiu hs1 hs2 hz
  obtain ⟨n, hn⟩ : ∃ n, s.size = n := ⟨_, rfl⟩
  have IA : Aside (∀ k, k < n → ∀ w, (Instr.index 9 (.string s) (.int .i64 (k : Int))).run Try.prog w = .ok (.int .u8 (bt (bs s) k)) w) := fun k hk w => str_ix s k (by rw [bs_len]; omega) w
  have HL : Aside ((bs s).length = n) := by show _ = _; rw [bs_len]; exact hn
  rw [hn] at hs
  generalize hl : bs s = l at *
  clear hl
  have k0 : Aside (K w w) := K.refl w
  have R0 := Row.built (w0 := w) w [(n : Int)] #[.int .u64 (n : Int)] rfl (Nat.le_refl _) (by simp [maxLen])
  have RR : Aside ((w.alloc (.cells #[.int .u64 (n : Int)] 37)).ownsRow w.heap.size 37 1 (.slice (some ⟨w.heap.size, 0, none⟩) 1 1) 1 ((wdT l 0).map encU)) := by
    have e : wdT l 0 = [(n : Int)] := by unfold wdT; rw [HL.out]; rfl
    show World.ownsRow _ _ _ _ _ _ _
    rw [e]
    exact R0
  have KK : Aside (K w (w.alloc (.cells #[.int .u64 (n : Int)] 37))) := k0.out.alloc _
  clear R0 k0
  go_enter Try.func11, Try.ntmps11
  go_wp2
  go_loopg [4, 5] n (fun gh t4 t5 wr => ∃ (q g c : Nat), t5 = .int .i64 ((8 * q : Nat) : Int) ∧ t4 = .slice (some ⟨g, 0, none⟩) (q + 1) c ∧ q ≤ (n + 7) / 8 ∧ gh = n - 8 * q ∧ Aside (wr.ownsRow w.heap.size 37 1 (.slice (some ⟨g, 0, none⟩) (q + 1) c) (q + 1) ((wdT l q).map encU)) ∧ Aside (K w wr))
  case atStart => exact ⟨0, w.heap.size, 1, rfl, rfl, by omega, by omega, RR, KK⟩
  case round =>
    obtain ⟨q, g, c, rfl, rfl, hq, hgh, Rq, Kq⟩ := hrel
    clear RR KK
    by_cases hlt : 8 * q < n
    · obtain ⟨p, hp⟩ : ∃ p, 8 * q = p := ⟨_, rfl⟩
      have HP : Aside (8 * q = p) := hp
      rw [hp] at hlt hgh ⊢
      have hout : Aside (∀ k, n ≤ k → bt l k = 0) := fun k hk => bt_out (by rw [HL.out]; exact hk)
      clear hp
      go_wp2
      go_loopw [6, 7] (fun t6 t7 wx => ∃ j k : Nat, t7 = .int .i64 (k : Int) ∧ t6 = .int .u64 (hor l p j) ∧ j ≤ 8 ∧ Aside (p + j = k) ∧ wx = wr) (fun _ t7 _ => p + 8 - (intOf t7).toNat)
      case atStart => exact ⟨0, p, rfl, rfl, by omega, rfl, rfl⟩
      case round =>
        obtain ⟨j, k, rfl, rfl, hj, HK, rfl⟩ := hrel
        have hk1000 : k ≤ 1008 := by have := HK.out; omega
        by_cases hj8 : j < 8
        · have hx0 := (hor_rng l p j (by omega)).1
          have hx1 := hor_mul l p j hj8
          have hs1 : Aside (hor l p (j + 1) = hor l p j * 256 + bt l k) := by
            show hor l p (j + 1) = _
            rw [← HK.out]
            rfl
          obtain ⟨b0, b1⟩ := bt_rng l k
          have hk8 : k < p + 8 := by have := HK.out; omega
          have hkn : Aside (p + (j + 1) = k + 1) := by show p + (j + 1) = k + 1; have := HK.out; omega
          by_cases hk : k < n
          · have i1 := IA.out k hk
            generalize hor l p j = x at *
            generalize bt l k = y at *
            go_wp2
            go_roundw
            case measure => simp [intOf]; omega
            case rel => exact ⟨j + 1, k + 1, by go_num, by rw [hs1.out], by omega, hkn, trivial⟩
          · have hz : Aside (bt l k = 0) := hout.out _ (by omega)
            clear b0 b1
            generalize hor l p j = x at *
            go_wp2
            go_roundw
            case measure => simp [intOf]; omega
            case rel => exact ⟨j + 1, k + 1, by go_num, by rw [hs1.out, hz.out, Int.add_zero], by omega, hkn, trivial⟩
        · obtain rfl : j = 8 := by omega
          have hwv : Aside (wv l q = hor l p 8) := by
            show wv l q = _
            unfold wv
            rw [HP.out]
          generalize hor l p 8 = x at *
          have hq5 : q + 1 ≤ 200 := by omega
          have hsz : w.heap.size ≤ wr.heap.size := Kq.out.size
          have hk8 : k = p + 8 := by have := HK.out; omega
          subst hk8
          go_wp2_with (
            at_builtin
            refine wpList_append_own_at _ rfl _ _ 23 rfl w.heap.size 37 iu (.int .u64 0) 1 8 Try.underlying23 HU.out.1 HU.out.2.1 HU.out.2.2.1 HU.out.2.2.2 rfl (by decide) _ (q + 1) _ rfl (Rq.out.alloc _) ⟨wr.heap.size, 0, none⟩ 1 1 [encU x] rfl rfl (src_one wr #[.int .u64 x] 37) (one_u _) (by unfold maxLen; omega) (by omega) (by simp; omega) ?_
            intro v4 w7 hown hgrow _ hat
            have k7 : Aside (K w w7) := K.thenGrown Kq.out hgrow (fun g hg => (own_lt Rq.out hg).1)
            obtain ⟨a4, c4, hv4⟩ := own_form hown
            subst hv4
            have r7 : Aside _ := hown
            clear hown hgrow hat)
          go_roundg (n - (p + 8))
          case measure => omega
          case rel =>
            have hp := HP.out
            refine ⟨q + 1, a4, c4, ?_, rfl, by omega, by omega, ?_, k7⟩
            · congr 1
              omega
            · show World.ownsRow _ _ _ _ _ _ _
              rw [wdT_succ, List.map_append, hwv.out]
              exact r7.out
    · obtain rfl : q = (n + 7) / 8 := by omega
      go_wp2
      go_ret2
      have e1 : wdT l ((n + 7) / 8) = wds l := by rw [← HL.out, wdT_all]
      have e2 : (wds l).length = (n + 7) / 8 + 1 := by rw [← e1, wdT_len]
      refine ⟨g, c, ?_, ?_, Kq.out⟩
      · rw [e2]
        rfl
      · show World.ownsRow _ _ _ _ _ _ _
        rw [e2, ← e1]
        exact Rq.out

set_option maxRecDepth 100000 in
set_option maxHeartbeats 4000000 in
theorem tw_out (s : ByteArray) (n : Int) (w : World) (h : 2000 < s.size) : Calls Try.prog 3 #[.string s, .int .i64 n] w fun e w' => e = .returned (.bool true) ∧ K w w' := by
  have k0 := K.refl w
  have ca := awake_any w
  go_enter Try.func3, Try.ntmps3
  go_wp2_with (go_at_call 9; refine (ca _ (by assumption)).mono ?_; rintro e w6 ⟨rfl, k6⟩)
  go_ret
  exact ⟨rfl, k6⟩

/-- The number that is asked for: below 0, from 0 to 1000, above. -/
theorem mn_ways (n : Int) : (n < 0 ∧ mn n = 0) ∨ (0 ≤ n ∧ n ≤ 1000 ∧ mn n = 1 + (n + 7) / 8) ∨ (0 ≤ n ∧ 1000 < n ∧ mn n = 0) := by
  by_cases h0 : 0 ≤ n
  · by_cases h1 : n ≤ 1000
    · exact .inr (.inl ⟨h0, h1, mn_in h0 h1⟩)
    · exact .inr (.inr ⟨h0, by omega, mn_out (by omega)⟩)
  · exact .inl ⟨by omega, mn_out (by omega)⟩

set_option maxRecDepth 100000 in
set_option maxHeartbeats 4000000 in
theorem tw_short (s : ByteArray) (n : Int) (w : World) (h : s.size ≤ 1000) : Calls Try.prog 3 #[.string s, .int .i64 n] w fun e w' => e = .returned (.bool true) ∧ K w w' := by
  have cm := many_any n
  have ca := awake_any w
  have U1 : Aside (Us (wds (bs s))) := wds_us' h
  have M1 : Aside ((wds (bs s)).length ≤ maxLen) := wds_max h
  have c1 := words_ok s h w
  have c2 := rWords_ok s h
  generalize wds (bs s) = X at *
  obtain ⟨x, hx⟩ : ∃ x, X.length = x := ⟨_, rfl⟩
  rw [hx] at c1 c2
  have HX : Aside _ := hx
  clear hx
  rcases mn_ways n with ⟨h0, hm⟩ | ⟨h0, h1, hm⟩ | ⟨h0, h1, hm⟩
  all_goals
    rw [hm] at cm
    clear hm
    go_enter Try.func3, Try.ntmps3
    go_wp2_with fail
    refine c1.mono ?_
    rintro e w1 ⟨g1, p1, rfl, R1, k1⟩
    have K1 : Aside _ := k1
    clear k1
    go_wp2_with fail
    refine (c2 w1).mono ?_
    rintro e w2 ⟨g2, p2, rfl, R2, k2⟩
    have K2 : Aside (K w w2) := K1.out.trans k2
    have S1 : Aside _ := (R1.out.src U1.out M1.out).keep k2
    have S2 : Aside _ := R2.out.src U1.out M1.out
    clear k2 K1 R1 R2
    have cs := same_X S1.out S2.out HX.out HX.out
    have hd : decide (X = X) = true := by simp
    rw [hd] at cs
    clear hd
    go_wp2_with fail
    refine cs.mono ?_
    rintro e w3 ⟨rfl, k3⟩
    have k4 : K w w3 := K2.out.trans k3
    clear k3 cs
    go_wp2_with (first
      | (go_at_call 13; refine (cm _).mono ?_; rintro e w6 ⟨rfl, rfl⟩)
      | (go_at_call 9; refine (ca _ (by assumption)).mono ?_; rintro e w7 ⟨rfl, k7⟩))
    go_ret
    exact ⟨rfl, k7⟩

set_option maxRecDepth 100000 in
set_option maxHeartbeats 4000000 in
theorem tw_long (s : ByteArray) (n : Int) (w : World) (h : 1000 < s.size) (h2 : s.size ≤ 2000) : Calls Try.prog 3 #[.string s, .int .i64 n] w fun e w' => e = .returned (.bool true) ∧ K w w' := by
  have cm := many_any n
  have ca := awake_any w
  have c1 := long_no s h w
  have c2 := rlong_no s h
  rcases mn_ways n with ⟨h0, hm⟩ | ⟨h0, h1, hm⟩ | ⟨h0, h1, hm⟩
  all_goals
    rw [hm] at cm
    clear hm
    go_enter Try.func3, Try.ntmps3
    go_wp2_with fail
    refine c1.mono ?_
    rintro e w1 ⟨rfl, k1⟩
    have K1 : Aside _ := k1
    clear k1
    go_wp2_with fail
    refine (c2 w1).mono ?_
    rintro e w2 ⟨rfl, k2⟩
    have K2 : Aside (K w w2) := K1.out.trans k2
    clear k2 K1
    have cs := same_X (p := 0) (q := 0) (Src.nil w2 0 none) (Src.nil w2 0 none) rfl rfl
    have hd : decide (([] : List Int) = []) = true := by simp
    rw [hd] at cs
    clear hd
    go_wp2_with fail
    refine cs.mono ?_
    rintro e w3 ⟨rfl, k3⟩
    have k4 : K w w3 := K2.out.trans k3
    clear k3 cs
    go_wp2_with (first
      | (go_at_call 13; refine (cm _).mono ?_; rintro e w6 ⟨rfl, rfl⟩)
      | (go_at_call 9; refine (ca _ (by assumption)).mono ?_; rintro e w7 ⟨rfl, k7⟩))
    go_ret
    exact ⟨rfl, k7⟩

theorem words_walk (s : ByteArray) (n : Int) (w : World) : Calls Try.prog 3 #[.string s, .int .i64 n] w fun e w' => e = .returned (.bool true) ∧ K w w' := by
  by_cases h1 : s.size ≤ 2000
  · by_cases h2 : s.size ≤ 1000
    · exact tw_short s n w h2
    · exact tw_long s n w (by omega) h1
  · exact tw_out s n w (by omega)

end Tx
end Go.Proofs.Ytffmfhpbhfnieaa
