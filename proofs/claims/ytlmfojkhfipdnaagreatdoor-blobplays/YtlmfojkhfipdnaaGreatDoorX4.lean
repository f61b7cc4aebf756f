/-
  The reference's Words, and the walk of TextWords.
-/
import Derived.Test.YtlmfojkhfipdnaaGreatDoorX3
import Derived.Maps.AppendAt
import Derived.Deep.AppendSrc
import Derived.WalkSpells
import Derived.Laws.Concat
import Derived.Laws.Strings2
namespace Go.Proofs.YtlmfojkhfipdnaaGreatDoor
open Go.RowKit Go.Maps
namespace Tx
open Hp (Kept K No)
variable {w w' : World}

/-- The first i words behind the head. -/
def wdT (l : List UInt8) (i : Nat) : List Int := (l.length : Int) :: (List.range i).map (wv l)
theorem wdT_len (l : List UInt8) (i : Nat) : (wdT l i).length = i + 1 := by simp [wdT]
theorem wdT_succ (l : List UInt8) (i : Nat) : wdT l (i + 1) = wdT l i ++ [wv l i] := by
  unfold wdT
  rw [List.range_succ, List.map_append]
  rfl
theorem wdT_all (l : List UInt8) : wdT l ((l.length + 7) / 8) = wds l := by
  unfold wdT wds wdsK
  rw [List.take_length]

set_option maxRecDepth 100000 in
theorem rlong_no (s : ByteArray) (hs : 1000 < s.size) (w : World) : Calls Tryz.prog 43 #[.string s] w fun e w' => e = .returned (.tuple #[.slice none 0 0, .int .i64 4]) ∧ K w w' := by
  have k0 := K.refl w
  go_enter Tryz.func43, Tryz.ntmps43
  go_wp2
  go_ret2
  exact ⟨rfl, k0⟩

theorem src_one (w : World) (cells : Array Value) (ty : TypeId) : ∀ j u, cells.toList[j]? = some u → (w.alloc (.cells cells ty)).cell? ((⟨w.heap.size, 0, none⟩ : Addr).add j) = some u := fun j u hu => by
  rw [Go.WideShapes.add_plain, Nat.zero_add, World.cell?_alloc_new, ← Array.getElem?_toList]
  exact hu
theorem one_u (x : Int) : ∀ u ∈ [encU x], u.oneCell' = true := fun u hu => by
  obtain rfl : u = encU x := by simpa using hu
  rfl
theorem own_form {B n m : Nat} {ty : TypeId} {v : Value} {xs : List Value} (h : w.ownsRow B ty m v (n + 1) xs) : ∃ g cap, v = .slice (some ⟨g, 0, none⟩) (n + 1) cap := by
  rcases h.2 with ⟨_, e⟩ | ⟨g, cap, _, e, _⟩
  · omega
  · exact ⟨g, cap, e⟩
theorem own_lt {n₀ k m : Nat} {t : TypeId} {v : Value} {ys : List Value} (h : w.ownsRow n₀ t m v k ys) {g : Nat} (hg : some g = v.ownBlock) : n₀ ≤ g ∧ g < w.heap.size := by
  rcases h.2 with ⟨rfl, _⟩ | ⟨g2, cap, cur, rfl, hb, hh, _⟩
  · cases hg
  · obtain rfl : g = g2 := by simpa [Value.ownBlock] using hg
    exact ⟨hb, (Array.getElem?_eq_some_iff.1 hh).1⟩
theorem K.thenGrown {w0 w w1 : World} {o : Obj} (h : K w0 w) {row : Option Nat} (hg : (w.alloc o).grownBy w1 row) (hr : ∀ g, some g = row → w0.heap.size ≤ g) : K w0 w1 := K.grown (h.alloc o) hg hr

/-- As a walk is in an inner loop: the number of the first j bytes from p on. -/
theorem hor_rng (l : List UInt8) (p : Nat) : ∀ j, j ≤ 8 → 0 ≤ hor l p j ∧ hor l p j ≤ (256 : Int) ^ j - 1
  | 0, _ => by simp [hor]
  | j + 1, h => by
    obtain ⟨h0, h1⟩ := hor_rng l p j (by omega)
    obtain ⟨b0, b1⟩ := bt_rng l (p + j)
    have e : (256 : Int) ^ (j + 1) = 256 ^ j * 256 := Int.pow_succ _ _
    simp only [hor]
    rw [e]
    omega
theorem hor_mul (l : List UInt8) (p j : Nat) (h : j < 8) : hor l p j * 256 ≤ 18446744073709551615 - 255 := by
  have h1 := (hor_rng l p j (by omega)).2
  have h2 : (256 : Int) ^ j ≤ 256 ^ 7 := by
    have := Nat.pow_le_pow_right (n := 256) (by decide) (show j ≤ 7 by omega)
    have e : ∀ k : Nat, (256 : Int) ^ k = ((256 ^ k : Nat) : Int) := fun k => by simp
    rw [e, e]
    omega
  have h3 : (256 : Int) ^ 7 = 72057594037927936 := by decide
  rw [h3] at h2
  omega

set_option maxRecDepth 100000 in
set_option maxHeartbeats 2000000 in
theorem rWords_ok (s : ByteArray) (hs : s.size ≤ 1000) (w : World) : Calls Tryz.prog 43 #[.string s] w fun e w' => ∃ g cap, e = .returned (.tuple #[.slice (some ⟨g, 0, none⟩) (wds (bs s)).length cap, .int .i64 0]) ∧ Aside (Row w' w.heap.size g cap (wds (bs s))) ∧ K w w' := by
  obtain ⟨iu, hiu, hs1, hs2, hz⟩ := info_u64
  have HU : Aside (Tryz.prog.info? 41 = some iu ∧ iu.zero = some (.int .u64 0) ∧ iu.size = 1 ∧ iu.bytes = 8) := ⟨hiu, hz, hs1, hs2⟩
  clear hiu hs1 hs2 hz
  obtain ⟨n, hn⟩ : ∃ n, s.size = n := ⟨_, rfl⟩
  have IA : Aside (∀ k, k < n → ∀ w, (Instr.index 9 (.string s) (.int .i64 (k : Int))).run Tryz.prog w = .ok (.int .u8 (bt (bs s) k)) w) := fun k hk w => str_ix s k (by rw [bs_len]; omega) w
  have HL : Aside ((bs s).length = n) := by show _ = _; rw [bs_len]; exact hn
  rw [hn] at hs
  generalize hl : bs s = l at *
  clear hl
  have k0 : Aside (K w w) := K.refl w
  have R0 := Row.built (w0 := w) w [(n : Int)] #[.int .u64 (n : Int)] rfl (Nat.le_refl _) (by simp [maxLen])
  have RR : Aside ((w.alloc (.cells #[.int .u64 (n : Int)] 41)).ownsRow w.heap.size 41 1 (.slice (some ⟨w.heap.size, 0, none⟩) 1 1) 1 ((wdT l 0).map encU)) := by
    have e : wdT l 0 = [(n : Int)] := by unfold wdT; rw [HL.out]; rfl
    show World.ownsRow _ _ _ _ _ _ _
    rw [e]
    exact R0
  have KK : Aside (K w (w.alloc (.cells #[.int .u64 (n : Int)] 41))) := k0.out.alloc _
  clear R0 k0
  go_enter Tryz.func43, Tryz.ntmps43
  go_wp2
  go_loopg [4, 5] n (fun gh t4 t5 wr => ∃ (q g c : Nat), t5 = .int .i64 ((8 * q : Nat) : Int) ∧ t4 = .slice (some ⟨g, 0, none⟩) (q + 1) c ∧ q ≤ (n + 7) / 8 ∧ gh = n - 8 * q ∧ Aside (wr.ownsRow w.heap.size 41 1 (.slice (some ⟨g, 0, none⟩) (q + 1) c) (q + 1) ((wdT l q).map encU)) ∧ Aside (K w wr))
  case atStart => exact ⟨0, w.heap.size, 1, rfl, rfl, by omega, by omega, RR, KK⟩
  case round =>
    obtain ⟨q, g, c, rfl, rfl, hq, hgh, Rq, Kq⟩ := hrel
    clear RR KK
    by_cases hlt : 8 * q < n
    · obtain ⟨p, hp⟩ : ∃ p, 8 * q = p := ⟨_, rfl⟩
      have HP : Aside (8 * q = p) := hp
      rw [hp] at hlt hgh ⊢
      have hout : Aside (∀ k, n ≤ k → bt l k = 0) := fun k hk => bt_out (by rw [HL.out]; exact hk)
      clear hp
      go_wp2
      go_loopw [6, 7] (fun t6 t7 wx => ∃ j k : Nat, t7 = .int .i64 (k : Int) ∧ t6 = .int .u64 (hor l p j) ∧ j ≤ 8 ∧ Aside (p + j = k) ∧ wx = wr) (fun _ t7 _ => p + 8 - (intOf t7).toNat)
      case atStart => exact ⟨0, p, rfl, rfl, by omega, rfl, rfl⟩
      case round =>
        obtain ⟨j, k, rfl, rfl, hj, HK, rfl⟩ := hrel
        have hk1000 : k ≤ 1008 := by have := HK.out; omega
        by_cases hj8 : j < 8
        · have hx0 := (hor_rng l p j (by omega)).1
          have hx1 := hor_mul l p j hj8
          have hs1 : Aside (hor l p (j + 1) = hor l p j * 256 + bt l k) := by
            show hor l p (j + 1) = _
            rw [← HK.out]
            rfl
          obtain ⟨b0, b1⟩ := bt_rng l k
          have hk8 : k < p + 8 := by have := HK.out; omega
          have hkn : Aside (p + (j + 1) = k + 1) := by show p + (j + 1) = k + 1; have := HK.out; omega
          by_cases hk : k < n
          · have i1 := IA.out k hk
            generalize hor l p j = x at *
            generalize bt l k = y at *
            go_wp2
            go_roundw
            case measure => simp [intOf]; omega
            case rel => exact ⟨j + 1, k + 1, by go_num, by rw [hs1.out], by omega, hkn, trivial⟩
          · have hz : Aside (bt l k = 0) := hout.out _ (by omega)
            clear b0 b1
            generalize hor l p j = x at *
            go_wp2
            go_roundw
            case measure => simp [intOf]; omega
            case rel => exact ⟨j + 1, k + 1, by go_num, by rw [hs1.out, hz.out, Int.add_zero], by omega, hkn, trivial⟩
        · obtain rfl : j = 8 := by omega
          have hwv : Aside (wv l q = hor l p 8) := by
            show wv l q = _
            unfold wv
            rw [HP.out]
          generalize hor l p 8 = x at *
          have hq5 : q + 1 ≤ 200 := by omega
          have hsz : w.heap.size ≤ wr.heap.size := Kq.out.size
          have hk8 : k = p + 8 := by have := HK.out; omega
          subst hk8
          go_wp2_with (
            at_builtin
            refine wpList_append_own_at _ rfl _ _ 87 rfl w.heap.size 41 iu (.int .u64 0) 1 8 Tryz.underlying87 HU.out.1 HU.out.2.1 HU.out.2.2.1 HU.out.2.2.2 rfl (by decide) _ (q + 1) _ rfl (Rq.out.alloc _) ⟨wr.heap.size, 0, none⟩ 1 1 [encU x] rfl rfl (src_one wr #[.int .u64 x] 41) (one_u _) (by unfold maxLen; omega) (by omega) (by simp; omega) ?_
            intro v4 w7 hown hgrow _ hat
            have k7 : Aside (K w w7) := K.thenGrown Kq.out hgrow (fun g hg => (own_lt Rq.out hg).1)
            obtain ⟨a4, c4, hv4⟩ := own_form hown
            subst hv4
            have r7 : Aside _ := hown
            clear hown hgrow hat)
          go_roundg (n - (p + 8))
          case measure => omega
          case rel =>
            have hp := HP.out
            refine ⟨q + 1, a4, c4, ?_, rfl, by omega, by omega, ?_, k7⟩
            · congr 1
              omega
            · show World.ownsRow _ _ _ _ _ _ _
              rw [wdT_succ, List.map_append, hwv.out]
              exact r7.out
    · obtain rfl : q = (n + 7) / 8 := by omega
      go_wp2
      go_ret2
      have e1 : wdT l ((n + 7) / 8) = wds l := by rw [← HL.out, wdT_all]
      have e2 : (wds l).length = (n + 7) / 8 + 1 := by rw [← e1, wdT_len]
      refine ⟨g, c, ?_, ?_, Kq.out⟩
      · rw [e2]
        rfl
      · show World.ownsRow _ _ _ _ _ _ _
        rw [e2, ← e1]
        exact Rq.out

end Tx
end Go.Proofs.YtlmfojkhfipdnaaGreatDoor

/-
  The reference's Of, and the walk of TextOf.
-/
namespace Go.Proofs.YtlmfojkhfipdnaaGreatDoor
open Go.RowKit
namespace Tx
open Hp (Kept K No)
variable {w w' : World} {a : Option Addr} {b off cap : Nat} {L : List Int}

/-- The first k bytes of all that the words have. -/
def pre (L : List Int) (k : Nat) : ByteArray := ⟨((List.range k).map fun j => UInt8.ofNat (ob L j).toNat).toArray⟩
theorem pre_bs (L : List Int) (k : Nat) : bs (pre L k) = (List.range k).map fun j => UInt8.ofNat (ob L j).toNat := rfl
theorem pre_size (L : List Int) (k : Nat) : (pre L k).size = k := by
  rw [← bs_len, pre_bs]
  simp
theorem pre_bt (L : List Int) {k j : Nat} (h : j < k) : bt (bs (pre L k)) j = ob L j := by
  obtain ⟨u0, u1⟩ := ob_rng L j
  have e : (ob L j).toNat < UInt8.size := by
    show _ < 256
    omega
  rw [pre_bs, bt_in (by simpa using h)]
  simp only [List.getElem_map, List.getElem_range]
  rw [UInt8.toNat_ofNat_of_lt' e]
  omega
/-- The eight bytes of word 1 + i. -/
def oct (L : List Int) (i : Nat) : List Int := (List.range 8).map fun t => ob L (8 * i + t)
theorem pre_app (L : List Int) (i : Nat) : pre L (8 * i) ++ (⟨((oct L i).map fun n => UInt8.ofNat n.toNat).toArray⟩ : ByteArray) = pre L (8 * (i + 1)) := by
  unfold pre oct
  rw [ByteArray.mk_append_mk, List.map_map]
  congr 2
  rw [show 8 * (i + 1) = 8 * i + 8 by omega, List.range_add, List.map_append, List.map_map]
  rfl
/-- The bytes from k on, 0 ahead. -/
def octK (L : List Int) (i k : Nat) : List Int := (List.range 8).map fun t => if k ≤ t then ob L (8 * i + t) else 0
theorem octK_len (L : List Int) (i k : Nat) : (octK L i k).length = 8 := by simp [octK]
theorem octK_eight (L : List Int) (i : Nat) : octK L i 8 = List.replicate 8 0 := rfl
theorem octK_zero (L : List Int) (i : Nat) : octK L i 0 = oct L i := by
  unfold octK oct
  simp
theorem octK_at (L : List Int) (i k t : Nat) (h : t < 8) : (octK L i k)[t]? = some (if k ≤ t then ob L (8 * i + t) else 0) := by simp [octK, h]
theorem octK_succ (L : List Int) (i k : Nat) : octK L i k = (octK L i (k + 1)).set k (ob L (8 * i + k)) := by
  apply List.ext_getElem?
  intro t
  rw [List.getElem?_set, octK_len]
  by_cases ht : t < 8
  · rw [octK_at L i k t ht, octK_at L i (k + 1) t ht]
    by_cases hk : k = t
    · subst hk
      rw [if_pos rfl, if_pos ht, if_pos (Nat.le_refl _)]
    · rw [if_neg hk]
      by_cases h2 : k ≤ t
      · rw [if_pos h2, if_pos (by omega)]
      · rw [if_neg h2, if_neg (by omega)]
  · rw [List.getElem?_eq_none (by rw [octK_len]; omega), List.getElem?_eq_none (by rw [octK_len]; omega)]
    split
    · next h => rw [if_neg (by omega)]
    · rfl
/-- Word 1 + i, behind the bytes from k on. -/
def shr8 (L : List Int) (i k : Nat) : Int := L.getD (1 + i) 0 / (256 : Int) ^ (8 - k)
theorem shr8_eight (L : List Int) (i : Nat) : shr8 L i 8 = L.getD (1 + i) 0 := by
  unfold shr8
  simp
theorem pw_256 (r : Nat) : pw r = (256 : Int) ^ (7 - r) := by
  unfold pw
  rw [Nat.mul_comm, Int.pow_mul]
  rfl
theorem shr8_byte (L : List Int) (i k : Nat) (h : k < 8) : shr8 L i (k + 1) % 256 = ob L (8 * i + k) := by
  unfold shr8 ob
  rw [show (8 * i + k) / 8 = i by omega, show (8 * i + k) % 8 = k by omega, pw_256, show 8 - (k + 1) = 7 - k by omega]
theorem shr8_next (L : List Int) (i k : Nat) (h : k < 8) : shr8 L i (k + 1) / 256 = shr8 L i k := by
  unfold shr8
  rw [show 8 - k = (8 - (k + 1)) + 1 by omega, Int.pow_succ]
  have h0 : (0 : Int) < 256 ^ (8 - (k + 1)) := Int.pow_pos (by decide)
  rw [Int.ediv_ediv, if_neg (fun e => by omega), Int.sub_zero]

/-- The text that is cut off. -/
theorem pre_cut (L : List Int) {n k : Nat} (h : n ≤ k) : (pre L k).extract 0 n = pre L n := by
  unfold pre
  rw [ByteArray.extract_mk, List.drop_zero, ← List.map_take, List.take_range, Nat.sub_zero, Nat.min_eq_left h]
theorem pre_text {L : List Int} {n : Nat} (h : (L.getD 0 0).toNat = n) : pre L n = ⟨(ofT L).toArray⟩ := by
  unfold pre ofT
  rw [h]

/-- The first three of what Of asks. -/
structure Hd (L : List Int) : Prop where
  ne : 0 < L.length
  le : L.getD 0 0 ≤ 1000
  len : (L.length : Int) = 1 + (L.getD 0 0 + 7) / 8

set_option maxRecDepth 100000 in
set_option maxHeartbeats 2000000 in
theorem rOf_head (h : Src w a b off cap L) (hi : ¬ Hd L) (hl : L.length ≤ 100000) : Calls Tryz.prog 45 #[.slice a L.length cap] w fun e w' => e = .returned (.tuple #[.string ⟨#[]⟩, .int .i64 8]) ∧ K w w' := by
  have k0 := K.refl w
  by_cases h0 : 0 < L.length
  case neg =>
    have hz : L.length = 0 := by omega
    rw [hz]
    clear h hi h0 hz hl
    go_enter Tryz.func45, Tryz.ntmps45
    go_wp2
    go_ret2
    exact ⟨rfl, k0⟩
  have hx := h.at h0
  have hix := h.ix0 h0
  have hq0 : ((L.length : Int) == 0) = false := by rw [beq_eq_false_iff_ne]; omega
  rw [Nat.add_zero] at hx
  obtain ⟨u0, u1⟩ := h.us.at 0
  obtain ⟨n, hn⟩ : ∃ n : Nat, L.getD 0 0 = (n : Int) := ⟨(L.getD 0 0).toNat, by omega⟩
  by_cases hle : n ≤ 1000
  case neg =>
    rw [hn] at hx u1
    clear h hi hn u0
    have hbig : 1000 < n := by omega
    clear hle
    generalize L.length = q at *
    go_enter Tryz.func45, Tryz.ntmps45
    go_wp2
    go_ret2
    exact ⟨rfl, k0⟩
  have hlen : (L.length : Int) ≠ 1 + ((n : Int) + 7) / 8 := fun e => hi ⟨h0, by omega, by rw [hn]; exact e⟩
  have hne : ((L.length : Int) != 1 + ((n : Int) + 7) / 8) = true := by simpa using hlen
  rw [hn] at hx
  clear hlen hi h hn u0 u1
  generalize L.length = q at *
  go_enter Tryz.func45, Tryz.ntmps45
  go_wp2
  go_ret2
  exact ⟨rfl, k0⟩

set_option maxRecDepth 100000 in
set_option maxHeartbeats 4000000 in
theorem rOf_tail (h : Src w a b off cap L) (hh : Hd L) : Calls Tryz.prog 45 #[.slice a L.length cap] w fun e w' => (∃ t v, e = .returned (.tuple #[.string t, .int .i64 v]) ∧ Aside ((Is L ∧ t = ⟨(ofT L).toArray⟩ ∧ v = 0) ∨ (¬ Is L ∧ t = ⟨#[]⟩ ∧ v = 8))) ∧ K w w' := by
  obtain ⟨iu, hiu, hs1, hs2, hz⟩ := info_u8
  have HU : Aside (Tryz.prog.info? 5 = some iu ∧ iu.zero = some (.int .u8 0) ∧ iu.size = 1 ∧ iu.bytes = 1) := ⟨hiu, hz, hs1, hs2⟩
  clear hiu hs1 hs2 hz
  have h0 := hh.ne
  have hx := h.at h0
  have hix := h.ix0 h0
  have hq0 : ((L.length : Int) == 0) = false := by rw [beq_eq_false_iff_ne]; omega
  rw [Nat.add_zero] at hx
  obtain ⟨n, hn⟩ : ∃ n : Nat, L.getD 0 0 = (n : Int) := ⟨(L.getD 0 0).toNat, by have := h.us.at 0; omega⟩
  have hle := hh.le
  have hlen := hh.len
  rw [hn] at hx hle hlen
  have hne : ((L.length : Int) != 1 + ((n : Int) + 7) / 8) = false := by simp; omega
  have HO : Aside ((L.getD 0 0).toNat = n) := by show _ = _; rw [hn]; exact Int.toNat_natCast _
  have HR : Aside (Is L ↔ ∀ k, n ≤ k → k < (L.length - 1) * 8 → ob L k = 0) := by
    have r := rest_iff h.us h0 hlen
    constructor
    · intro i
      have e := i.rest
      rw [HO.out] at e
      exact r.1 e
    · intro hk
      exact ⟨h0, by omega, by rw [hn]; exact hlen, by rw [HO.out]; exact r.2 hk⟩
  obtain ⟨m, hm⟩ : ∃ m, L.length = m + 1 := ⟨L.length - 1, by omega⟩
  obtain ⟨z, hz⟩ : ∃ z, L.length = z := ⟨_, rfl⟩
  have HM : Aside (L.length = m + 1 ∧ z = m + 1 ∧ L.length = z) := ⟨hm, by omega, hz⟩
  have hm125 : m ≤ 125 := by omega
  have hnm : n ≤ 8 * m := by omega
  have hn1000 : n ≤ 1000 := by omega
  have H : Aside _ := h
  have k0 : Aside (K w w) := K.refl w
  rw [hz] at hix hq0 hne ⊢
  clear h hh h0 hn hle hlen hm hz
  go_enter Tryz.func45, Tryz.ntmps45
  go_wp2
  go_loopg [4, 5] m (fun gh t4 t5 wr => ∃ q k : Nat, t5 = .int .i64 (k : Int) ∧ t4 = .string (pre L (8 * q)) ∧ Aside (k = q + 1 ∧ q + gh = m) ∧ Aside (K w wr))
  case atStart => exact ⟨0, 1, rfl, rfl, ⟨rfl, by omega⟩, k0⟩
  case round =>
    obtain ⟨q, k, rfl, rfl, HQ, Kq⟩ := hrel
    clear k0
    obtain ⟨wo, rfl⟩ : ∃ wo, wo = wr := ⟨_, rfl⟩
    by_cases hlt : q < m
    · have hkz : k < z := by have := HQ.out.1; have := HM.out.2.1; omega
      have hkL : k < L.length := by rw [HM.out.2.2]; exact hkz
      have hxk := Kq.out.cell (H.out.at hkL)
      have hk200 : k ≤ 200 := by have := HQ.out; omega
      have ixk := H.out.ix k hkL
      rw [HM.out.2.2] at ixk
      have HX : Aside (shr8 L q 8 = L.getD k 0) := by show _ = _; rw [shr8_eight, HQ.out.1, Nat.add_comm]
      obtain ⟨v0, v1⟩ := H.out.us.at k
      have HV : Aside (∀ j, 0 ≤ shr8 L q j ∧ shr8 L q j ≤ 18446744073709551615) := fun j => by
        unfold shr8
        rw [Nat.add_comm 1 q, ← HQ.out.1]
        have hp : (0 : Int) < 256 ^ (8 - j) := Int.pow_pos (by decide)
        exact ⟨Int.ediv_nonneg v0 (Int.le_of_lt hp), Int.le_trans (Int.ediv_le_self _ v0) v1⟩
      clear hkL
      generalize L.getD k 0 = x at *
      go_wp2_with (
        at_make
        refine wpList_make_full _ rfl _ _ 147 rfl wo.heap.size 5 iu (.int .u8 0) 1 Tryz.underlying147 HU.out.1 HU.out.2.1 HU.out.2.2.1 .i64 .i64 8 8 8 rfl rfl rfl rfl (by rw [HU.out.2.2.2]; omega) (by unfold maxLen; omega) (Nat.le_refl _) ?_
        intro w5 hown5 hgrow5
        rw [made_rowB] at hown5
        have k5 : Aside (K wo w5) := K.grown (K.refl wo) hgrow5 (fun g hg => by cases hg)
        have R5 : Aside (BRow w5 wo.heap.size wo.heap.size 8 (octK L q 8)) := by rw [octK_eight]; exact BRow.of hown5 rfl
        have hx5 := k5.out.cell hxk
        clear hown5 hgrow5
        generalize hg : wo.heap.size = g at *)
      clear hxk hx5 ixk
      go_loopw [7, 8] (fun t7 t8 wx => ∃ j : Nat, t8 = .int .i64 ((j : Int) - 1) ∧ t7 = .int .u64 (shr8 L q j) ∧ j ≤ 8 ∧ Aside (BRow wx g g 8 (octK L q j)) ∧ Aside (K wo wx)) (fun _ t8 _ => (intOf t8 + 1).toNat)
      case atStart => exact ⟨8, rfl, by rw [HX.out], by omega, R5, k5⟩
      case round =>
        obtain ⟨j, rfl, rfl, hj, Rj, Kj⟩ := hrel
        clear R5 k5
        by_cases hj0 : 0 < j
        · obtain ⟨i, hi⟩ : ∃ i, j = i + 1 := ⟨j - 1, by omega⟩
          subst hi
          have e1 : ((i + 1 : Nat) : Int) - 1 = (i : Int) := by omega
          rw [e1]
          have hi8 : i < 8 := by omega
          have hib := ixB0 g 8 8 i hi8
          have hcb := Rj.out.cell (octK_at L q (i + 1) i hi8)
          have hfb : wr.frozen? ⟨g, i, none⟩ = false := World.ownsRow.frozenAt Rj.out i
          have Rn := Rj.out.put i (ob L (8 * q + i))
          rw [← octK_succ] at Rn
          have Kn := Hp.K.setCell Kj.out (p := ⟨g, i, none⟩) (.int .u8 (ob L (8 * q + i))) (by rw [hg]; exact Nat.le_refl _)
          have hb := shr8_byte L q i hi8
          have hs := shr8_next L q i hi8
          obtain ⟨y0, y1⟩ := HV.out (i + 1)
          obtain ⟨z0, z1⟩ := ob_rng L (8 * q + i)
          have Rn' : Aside _ := Rn
          have Kn' : Aside _ := Kn
          have hs' : Aside _ := hs
          clear Rn Kn hs Rj Kj e1
          generalize shr8 L q (i + 1) = y at *
          generalize ob L (8 * q + i) = ybyte at *
          go_wp2
          go_roundw
          case measure => simp [intOf]
          case rel => exact ⟨i, rfl, by rw [hs'.out], by omega, Rn'.out, Kn'.out⟩
        · obtain rfl : j = 0 := by omega
          have hst := run_toStr Rj.out
          rw [octK_zero] at hst
          have hol : (oct L q).length = 8 := by simp [oct]
          rw [hol] at hst
          have hadd : ∀ w, (Op.stringOp .add (pre L (8 * q)) ⟨((oct L q).map fun n => UInt8.ofNat n.toNat).toArray⟩).run Tryz.prog w = .ok (.string (pre L (8 * (q + 1)))) w := fun w => by
            rw [run_string_add_sum w _ _ (by
              rw [pre_size]
              have : (⟨((oct L q).map fun n => UInt8.ofNat n.toNat).toArray⟩ : ByteArray).size = 8 := by
                rw [← bs_len]
                show ((oct L q).map fun n => UInt8.ofNat n.toNat).length = 8
                rw [List.length_map, hol]
              rw [this]
              omega), pre_app]
          have kn : Aside (K w wr) := Kq.out.trans Kj.out
          generalize (⟨((oct L q).map fun n => UInt8.ofNat n.toNat).toArray⟩ : ByteArray) = T8 at *
          clear hol
          have e1 : ((0 : Nat) : Int) - 1 = -1 := by omega
          rw [e1]
          go_wp2
          obtain ⟨hq1, hq2⟩ := HQ.out
          go_roundg (m - (q + 1))
          case measure => omega
          case rel => exact ⟨q + 1, k + 1, by go_num, rfl, ⟨by omega, by omega⟩, kn⟩
    · have hkz : k = z := by have := HQ.out; have := HM.out.2.1; omega
      obtain rfl : q = m := by have := HQ.out; omega
      subst hkz
      have hsz : (pre L (8 * q)).size = 8 * q := pre_size L _
      have IX : Aside (∀ i, i < 8 * q → ∀ w, (Instr.index 9 (.string (pre L (8 * q))) (.int .i64 (i : Int))).run Tryz.prog w = .ok (.int .u8 (ob L i)) w) := fun i hi w => by
        rw [str_ix _ i (by rw [bs_len, pre_size]; exact hi) w, pre_bt L hi]
      have hsl : ∀ w, (Instr.slice 9 (.string (pre L (8 * q))) none (some (.int .i64 (n : Int))) none).run Tryz.prog w = .ok (.string ⟨(ofT L).toArray⟩) w := fun w => by
        rw [run_slice_string_to_if w 9 _ .i64 _ Tryz.underlying9, if_pos (by rw [pre_size]; omega), Int.toNat_natCast, pre_cut L hnm, pre_text HO.out]
      have hxo := Kq.out.cell hx
      have HZ : Aside (∀ k, k < (L.length - 1) * 8 ↔ k < 8 * q) := fun k => by have := HM.out.1; omega
      generalize pre L (8 * q) = S at *
      clear hx
      go_wp2
      go_loopw [10] (fun t10 wx => ∃ i : Nat, t10 = .int .i64 (i : Int) ∧ n ≤ i ∧ i ≤ 8 * q ∧ Aside (∀ k, n ≤ k → k < i → ob L k = 0) ∧ wx = wo) (fun t10 _ => 8 * q - (intOf t10).toNat)
      case atStart => exact ⟨n, rfl, Nat.le_refl _, hnm, fun k h1 h2 => by omega, rfl⟩
      case round =>
        obtain ⟨i, rfl, hi0, hi1, E, rfl⟩ := hrel
        by_cases hlt2 : i < 8 * q
        · have ixi := IX.out i hlt2
          have hlt3 : (i : Int) < 8 * (q : Int) := by omega
          by_cases hz0 : ob L i = 0
          · have E2 : Aside (∀ k, n ≤ k → k < i + 1 → ob L k = 0) := fun k h1 h2 => by
              by_cases h3 : k < i
              · exact E.out k h1 h3
              · obtain rfl : k = i := by omega
                exact hz0
            rw [hz0] at ixi
            clear hz0
            go_wp2
            go_roundw
            case measure => simp [intOf]; omega
            case rel => exact ⟨i + 1, by go_num, by omega, by omega, E2, trivial⟩
          · have hne0 : (ob L i != 0) = true := by simpa using hz0
            have HN : Aside (¬ Is L) := fun e => hz0 (HR.out.1 e i hi0 ((HZ.out i).2 hlt2))
            clear hz0
            generalize ob L i = y at *
            go_wp2
            go_ret2
            exact ⟨⟨_, _, rfl, .inr ⟨HN.out, rfl, rfl⟩⟩, Kq.out⟩
        · have HI : Aside (Is L) := HR.out.2 fun k h1 h2 => E.out k h1 (by have := (HZ.out k).1 h2; omega)
          have hge : ¬ ((i : Int) < 8 * (q : Int)) := by omega
          go_wp2
          go_ret2
          exact ⟨⟨_, _, rfl, .inl ⟨HI.out, rfl, rfl⟩⟩, Kq.out⟩

theorem rOf_any (h : Src w a b off cap L) (hl : L.length ≤ 100000) {q : Nat} (hq : L.length = q) : Calls Tryz.prog 45 #[.slice a q cap] w fun e w' => (∃ t v, e = .returned (.tuple #[.string t, .int .i64 v]) ∧ Aside ((Is L ∧ t = ⟨(ofT L).toArray⟩ ∧ v = 0) ∨ (¬ Is L ∧ t = ⟨#[]⟩ ∧ v = 8))) ∧ K w w' := by
  subst hq
  by_cases hh : Hd L
  · exact rOf_tail h hh
  · refine (rOf_head h hh hl).mono fun e w' ⟨he, k⟩ => ⟨⟨_, _, he, .inr ⟨fun i => hh ⟨i.ne, i.le, i.len⟩, rfl, rfl⟩⟩, k⟩

end Tx
end Go.Proofs.YtlmfojkhfipdnaaGreatDoor
