/-
  The reference's Of, and the walk of TextOf.
-/
import Derived.Test.YtffmfhpbhfnieaaXBackW
import Derived.Laws.Concat
import Derived.Laws.Strings2
namespace Go.Proofs.Ytffmfhpbhfnieaa
open Go.RowKit
namespace Tx
open Hp (Kept K No)
variable {w w' : World} {a : Option Addr} {b off cap : Nat} {L : List Int}

/-- The first k bytes of all that the words have. -/
def pre (L : List Int) (k : Nat) : ByteArray := ⟨((List.range k).map fun j => UInt8.ofNat (ob L j).toNat).toArray⟩
theorem pre_bs (L : List Int) (k : Nat) : bs (pre L k) = (List.range k).map fun j => UInt8.ofNat (ob L j).toNat := rfl
theorem pre_size (L : List Int) (k : Nat) : (pre L k).size = k := by
  rw [← bs_len, pre_bs]
  simp
theorem pre_bt (L : List Int) {k j : Nat} (h : j < k) : bt (bs (pre L k)) j = ob L j := by
  obtain ⟨u0, u1⟩ := ob_rng L j
  have e : (ob L j).toNat < UInt8.size := by
    show _ < 256
    omega
  rw [pre_bs, bt_in (by simpa using h)]
  simp only [List.getElem_map, List.getElem_range]
  rw [UInt8.toNat_ofNat_of_lt' e]
  omega
/-- The eight bytes of word 1 + i. -/
def oct (L : List Int) (i : Nat) : List Int := (List.range 8).map fun t => ob L (8 * i + t)
theorem pre_app (L : List Int) (i : Nat) : pre L (8 * i) ++ (⟨((oct L i).map fun n => UInt8.ofNat n.toNat).toArray⟩ : ByteArray) = pre L (8 * (i + 1)) := by
  unfold pre oct
  rw [ByteArray.mk_append_mk, List.map_map]
  congr 2
  rw [show 8 * (i + 1) = 8 * i + 8 by omega, List.range_add, List.map_append, List.map_map]
  rfl
/-- The bytes from k on, 0 ahead. -/
def octK (L : List Int) (i k : Nat) : List Int := (List.range 8).map fun t => if k ≤ t then ob L (8 * i + t) else 0
theorem octK_len (L : List Int) (i k : Nat) : (octK L i k).length = 8 := by simp [octK]
theorem octK_eight (L : List Int) (i : Nat) : octK L i 8 = List.replicate 8 0 := rfl
theorem octK_zero (L : List Int) (i : Nat) : octK L i 0 = oct L i := by
  unfold octK oct
  simp
theorem octK_at (L : List Int) (i k t : Nat) (h : t < 8) : (octK L i k)[t]? = some (if k ≤ t then ob L (8 * i + t) else 0) := by simp [octK, h]
theorem octK_succ (L : List Int) (i k : Nat) : octK L i k = (octK L i (k + 1)).set k (ob L (8 * i + k)) := by
  apply List.ext_getElem?
  intro t
  rw [List.getElem?_set, octK_len]
  by_cases ht : t < 8
  · rw [octK_at L i k t ht, octK_at L i (k + 1) t ht]
    by_cases hk : k = t
    · subst hk
      rw [if_pos rfl, if_pos ht, if_pos (Nat.le_refl _)]
    · rw [if_neg hk]
      by_cases h2 : k ≤ t
      · rw [if_pos h2, if_pos (by omega)]
      · rw [if_neg h2, if_neg (by omega)]
  · rw [List.getElem?_eq_none (by rw [octK_len]; omega), List.getElem?_eq_none (by rw [octK_len]; omega)]
    split
    · next h => rw [if_neg (by omega)]
    · rfl
/-- Word 1 + i, behind the bytes from k on. -/
def shr8 (L : List Int) (i k : Nat) : Int := L.getD (1 + i) 0 / (256 : Int) ^ (8 - k)
theorem shr8_eight (L : List Int) (i : Nat) : shr8 L i 8 = L.getD (1 + i) 0 := by
  unfold shr8
  simp
theorem pw_256 (r : Nat) : pw r = (256 : Int) ^ (7 - r) := by
  unfold pw
  rw [Nat.mul_comm, Int.pow_mul]
  rfl
theorem shr8_byte (L : List Int) (i k : Nat) (h : k < 8) : shr8 L i (k + 1) % 256 = ob L (8 * i + k) := by
  unfold shr8 ob
  rw [show (8 * i + k) / 8 = i by omega, show (8 * i + k) % 8 = k by omega, pw_256, show 8 - (k + 1) = 7 - k by omega]
theorem shr8_next (L : List Int) (i k : Nat) (h : k < 8) : shr8 L i (k + 1) / 256 = shr8 L i k := by
  unfold shr8
  rw [show 8 - k = (8 - (k + 1)) + 1 by omega, Int.pow_succ]
  have h0 : (0 : Int) < 256 ^ (8 - (k + 1)) := Int.pow_pos (by decide)
  rw [Int.ediv_ediv, if_neg (fun e => by omega), Int.sub_zero]

/-- The text that is cut off. -/
theorem pre_cut (L : List Int) {n k : Nat} (h : n ≤ k) : (pre L k).extract 0 n = pre L n := by
  unfold pre
  rw [ByteArray.extract_mk, List.drop_zero, ← List.map_take, List.take_range, Nat.sub_zero, Nat.min_eq_left h]
theorem pre_text {L : List Int} {n : Nat} (h : (L.getD 0 0).toNat = n) : pre L n = ⟨(ofT L).toArray⟩ := by
  unfold pre ofT
  rw [h]

/-- The first three of what Of asks. -/
structure Hd (L : List Int) : Prop where
  ne : 0 < L.length
  le : L.getD 0 0 ≤ 1000
  len : (L.length : Int) = 1 + (L.getD 0 0 + 7) / 8

set_option maxRecDepth 100000 in
set_option maxHeartbeats 2000000 in
theorem rOf_head (h : Src w a b off cap L) (hi : ¬ Hd L) (hl : L.length ≤ 200) : Calls Try.prog 15 #[.slice a L.length cap] w fun e w' => e = .returned (.tuple #[.string ⟨#[]⟩, .int .i64 8]) ∧ K w w' := by
  have k0 := K.refl w
  by_cases h0 : 0 < L.length
  case neg =>
    have hz : L.length = 0 := by omega
    rw [hz]
    clear h hi h0 hz hl
    go_enter Try.func15, Try.ntmps15
    go_wp2
    go_ret2
    exact ⟨rfl, k0⟩
  have hx := h.at h0
  have hix := h.ix0 h0
  have hq0 : ((L.length : Int) == 0) = false := by rw [beq_eq_false_iff_ne]; omega
  rw [Nat.add_zero] at hx
  obtain ⟨u0, u1⟩ := h.us.at 0
  obtain ⟨n, hn⟩ : ∃ n : Nat, L.getD 0 0 = (n : Int) := ⟨(L.getD 0 0).toNat, by omega⟩
  by_cases hle : n ≤ 1000
  case neg =>
    rw [hn] at hx u1
    clear h hi hn u0
    have hbig : 1000 < n := by omega
    clear hle
    generalize L.length = q at *
    go_enter Try.func15, Try.ntmps15
    go_wp2
    go_ret2
    exact ⟨rfl, k0⟩
  have hlen : (L.length : Int) ≠ 1 + ((n : Int) + 7) / 8 := fun e => hi ⟨h0, by omega, by rw [hn]; exact e⟩
  have hne : ((L.length : Int) != 1 + ((n : Int) + 7) / 8) = true := by simpa using hlen
  rw [hn] at hx
  clear hlen hi h hn u0 u1
  generalize L.length = q at *
  go_enter Try.func15, Try.ntmps15
  go_wp2
  go_ret2
  exact ⟨rfl, k0⟩

set_option maxRecDepth 100000 in
set_option maxHeartbeats 4000000 in
theorem rOf_tail (h : Src w a b off cap L) (hh : Hd L) : Calls Try.prog 15 #[.slice a L.length cap] w fun e w' => (∃ t v, e = .returned (.tuple #[.string t, .int .i64 v]) ∧ Aside ((Is L ∧ t = ⟨(ofT L).toArray⟩ ∧ v = 0) ∨ (¬ Is L ∧ t = ⟨#[]⟩ ∧ v = 8))) ∧ K w w' := by
  obtain ⟨iu, hiu, hs1, hs2, hz⟩ := info_u8
  have HU : Aside (Try.prog.info? 5 = some iu ∧ iu.zero = some (.int .u8 0) ∧ iu.size = 1 ∧ iu.bytes = 1) := ⟨hiu, hz, hs1, hs2⟩
  clear hiu hs1 hs2 hz
  have h0 := hh.ne
  have hx := h.at h0
  have hix := h.ix0 h0
  have hq0 : ((L.length : Int) == 0) = false := by rw [beq_eq_false_iff_ne]; omega
  rw [Nat.add_zero] at hx
  obtain ⟨n, hn⟩ : ∃ n : Nat, L.getD 0 0 = (n : Int) := ⟨(L.getD 0 0).toNat, by have := h.us.at 0; omega⟩
  have hle := hh.le
  have hlen := hh.len
  rw [hn] at hx hle hlen
  have hne : ((L.length : Int) != 1 + ((n : Int) + 7) / 8) = false := by simp; omega
  have HO : Aside ((L.getD 0 0).toNat = n) := by show _ = _; rw [hn]; exact Int.toNat_natCast _
  have HR : Aside (Is L ↔ ∀ k, n ≤ k → k < (L.length - 1) * 8 → ob L k = 0) := by
    have r := rest_iff h.us h0 hlen
    constructor
    · intro i
      have e := i.rest
      rw [HO.out] at e
      exact r.1 e
    · intro hk
      exact ⟨h0, by omega, by rw [hn]; exact hlen, by rw [HO.out]; exact r.2 hk⟩
  obtain ⟨m, hm⟩ : ∃ m, L.length = m + 1 := ⟨L.length - 1, by omega⟩
  obtain ⟨z, hz⟩ : ∃ z, L.length = z := ⟨_, rfl⟩
  have HM : Aside (L.length = m + 1 ∧ z = m + 1 ∧ L.length = z) := ⟨hm, by omega, hz⟩
  have hm125 : m ≤ 125 := by omega
  have hnm : n ≤ 8 * m := by omega
  have hn1000 : n ≤ 1000 := by omega
  have H : Aside _ := h
  have k0 : Aside (K w w) := K.refl w
  rw [hz] at hix hq0 hne ⊢
  clear h hh h0 hn hle hlen hm hz
  go_enter Try.func15, Try.ntmps15
  go_wp2
  go_loopg [4, 5] m (fun gh t4 t5 wr => ∃ q k : Nat, t5 = .int .i64 (k : Int) ∧ t4 = .string (pre L (8 * q)) ∧ Aside (k = q + 1 ∧ q + gh = m) ∧ Aside (K w wr))
  case atStart => exact ⟨0, 1, rfl, rfl, ⟨rfl, by omega⟩, k0⟩
  case round =>
    obtain ⟨q, k, rfl, rfl, HQ, Kq⟩ := hrel
    clear k0
    obtain ⟨wo, rfl⟩ : ∃ wo, wo = wr := ⟨_, rfl⟩
    by_cases hlt : q < m
    · have hkz : k < z := by have := HQ.out.1; have := HM.out.2.1; omega
      have hkL : k < L.length := by rw [HM.out.2.2]; exact hkz
      have hxk := Kq.out.cell (H.out.at hkL)
      have hk200 : k ≤ 200 := by have := HQ.out; omega
      have ixk := H.out.ix k hkL
      rw [HM.out.2.2] at ixk
      have HX : Aside (shr8 L q 8 = L.getD k 0) := by show _ = _; rw [shr8_eight, HQ.out.1, Nat.add_comm]
      obtain ⟨v0, v1⟩ := H.out.us.at k
      have HV : Aside (∀ j, 0 ≤ shr8 L q j ∧ shr8 L q j ≤ 18446744073709551615) := fun j => by
        unfold shr8
        rw [Nat.add_comm 1 q, ← HQ.out.1]
        have hp : (0 : Int) < 256 ^ (8 - j) := Int.pow_pos (by decide)
        exact ⟨Int.ediv_nonneg v0 (Int.le_of_lt hp), Int.le_trans (Int.ediv_le_self _ v0) v1⟩
      clear hkL
      generalize L.getD k 0 = x at *
      go_wp2_with (
        at_make
        refine wpList_make_full _ rfl _ _ 40 rfl wo.heap.size 5 iu (.int .u8 0) 1 Try.underlying40 HU.out.1 HU.out.2.1 HU.out.2.2.1 .i64 .i64 8 8 8 rfl rfl rfl rfl (by rw [HU.out.2.2.2]; omega) (by unfold maxLen; omega) (Nat.le_refl _) ?_
        intro w5 hown5 hgrow5
        rw [made_rowB] at hown5
        have k5 : Aside (K wo w5) := K.grown (K.refl wo) hgrow5 (fun g hg => by cases hg)
        have R5 : Aside (BRow w5 wo.heap.size wo.heap.size 8 (octK L q 8)) := by rw [octK_eight]; exact BRow.of hown5 rfl
        have hx5 := k5.out.cell hxk
        clear hown5 hgrow5
        generalize hg : wo.heap.size = g at *)
      clear hxk hx5 ixk
      go_loopw [7, 8] (fun t7 t8 wx => ∃ j : Nat, t8 = .int .i64 ((j : Int) - 1) ∧ t7 = .int .u64 (shr8 L q j) ∧ j ≤ 8 ∧ Aside (BRow wx g g 8 (octK L q j)) ∧ Aside (K wo wx)) (fun _ t8 _ => (intOf t8 + 1).toNat)
      case atStart => exact ⟨8, rfl, by rw [HX.out], by omega, R5, k5⟩
      case round =>
        obtain ⟨j, rfl, rfl, hj, Rj, Kj⟩ := hrel
        clear R5 k5
        by_cases hj0 : 0 < j
        · obtain ⟨i, hi⟩ : ∃ i, j = i + 1 := ⟨j - 1, by omega⟩
          subst hi
          have e1 : ((i + 1 : Nat) : Int) - 1 = (i : Int) := by omega
          rw [e1]
          have hi8 : i < 8 := by omega
          have hib := ixB0 g 8 8 i hi8
          have hcb := Rj.out.cell (octK_at L q (i + 1) i hi8)
          have hfb : wr.frozen? ⟨g, i, none⟩ = false := World.ownsRow.frozenAt Rj.out i
          have Rn := Rj.out.put i (ob L (8 * q + i))
          rw [← octK_succ] at Rn
          have Kn := Hp.K.setCell Kj.out (p := ⟨g, i, none⟩) (.int .u8 (ob L (8 * q + i))) (by rw [hg]; exact Nat.le_refl _)
          have hb := shr8_byte L q i hi8
          have hs := shr8_next L q i hi8
          obtain ⟨y0, y1⟩ := HV.out (i + 1)
          obtain ⟨z0, z1⟩ := ob_rng L (8 * q + i)
          have Rn' : Aside _ := Rn
          have Kn' : Aside _ := Kn
          have hs' : Aside _ := hs
          clear Rn Kn hs Rj Kj e1
          generalize shr8 L q (i + 1) = y at *
          generalize ob L (8 * q + i) = ybyte at *
          go_wp2
          go_roundw
          case measure => simp [intOf]
          case rel => exact ⟨i, rfl, by rw [hs'.out], by omega, Rn'.out, Kn'.out⟩
        · obtain rfl : j = 0 := by omega
          have hst := run_toStr Rj.out
          rw [octK_zero] at hst
          have hol : (oct L q).length = 8 := by simp [oct]
          rw [hol] at hst
          have hadd : ∀ w, (Op.stringOp .add (pre L (8 * q)) ⟨((oct L q).map fun n => UInt8.ofNat n.toNat).toArray⟩).run Try.prog w = .ok (.string (pre L (8 * (q + 1)))) w := fun w => by
            rw [run_string_add_sum w _ _ (by
              rw [pre_size]
              have : (⟨((oct L q).map fun n => UInt8.ofNat n.toNat).toArray⟩ : ByteArray).size = 8 := by
                rw [← bs_len]
                show ((oct L q).map fun n => UInt8.ofNat n.toNat).length = 8
                rw [List.length_map, hol]
              rw [this]
              omega), pre_app]
          have kn : Aside (K w wr) := Kq.out.trans Kj.out
          generalize (⟨((oct L q).map fun n => UInt8.ofNat n.toNat).toArray⟩ : ByteArray) = T8 at *
          clear hol
          have e1 : ((0 : Nat) : Int) - 1 = -1 := by omega
          rw [e1]
          go_wp2
          obtain ⟨hq1, hq2⟩ := HQ.out
          go_roundg (m - (q + 1))
          case measure => omega
          case rel => exact ⟨q + 1, k + 1, by go_num, rfl, ⟨by omega, by omega⟩, kn⟩
    · have hkz : k = z := by have := HQ.out; have := HM.out.2.1; omega
      obtain rfl : q = m := by have := HQ.out; omega
      subst hkz
      have hsz : (pre L (8 * q)).size = 8 * q := pre_size L _
      have IX : Aside (∀ i, i < 8 * q → ∀ w, (Instr.index 9 (.string (pre L (8 * q))) (.int .i64 (i : Int))).run Try.prog w = .ok (.int .u8 (ob L i)) w) := fun i hi w => by
        rw [str_ix _ i (by rw [bs_len, pre_size]; exact hi) w, pre_bt L hi]
      have hsl : ∀ w, (Instr.slice 9 (.string (pre L (8 * q))) none (some (.int .i64 (n : Int))) none).run Try.prog w = .ok (.string ⟨(ofT L).toArray⟩) w := fun w => by
        rw [run_slice_string_to_if w 9 _ .i64 _ Try.underlying9, if_pos (by rw [pre_size]; omega), Int.toNat_natCast, pre_cut L hnm, pre_text HO.out]
      have hxo := Kq.out.cell hx
      have HZ : Aside (∀ k, k < (L.length - 1) * 8 ↔ k < 8 * q) := fun k => by have := HM.out.1; omega
      generalize pre L (8 * q) = S at *
      clear hx
      go_wp2
      go_loopw [10] (fun t10 wx => ∃ i : Nat, t10 = .int .i64 (i : Int) ∧ n ≤ i ∧ i ≤ 8 * q ∧ Aside (∀ k, n ≤ k → k < i → ob L k = 0) ∧ wx = wo) (fun t10 _ => 8 * q - (intOf t10).toNat)
      case atStart => exact ⟨n, rfl, Nat.le_refl _, hnm, fun k h1 h2 => by omega, rfl⟩
      case round =>
        obtain ⟨i, rfl, hi0, hi1, E, rfl⟩ := hrel
        by_cases hlt2 : i < 8 * q
        · have ixi := IX.out i hlt2
          have hlt3 : (i : Int) < 8 * (q : Int) := by omega
          by_cases hz0 : ob L i = 0
          · have E2 : Aside (∀ k, n ≤ k → k < i + 1 → ob L k = 0) := fun k h1 h2 => by
              by_cases h3 : k < i
              · exact E.out k h1 h3
              · obtain rfl : k = i := by omega
                exact hz0
            rw [hz0] at ixi
            clear hz0
            go_wp2
            go_roundw
            case measure => simp [intOf]; omega
            case rel => exact ⟨i + 1, by go_num, by omega, by omega, E2, trivial⟩
          · have hne0 : (ob L i != 0) = true := by simpa using hz0
            have HN : Aside (¬ Is L) := fun e => hz0 (HR.out.1 e i hi0 ((HZ.out i).2 hlt2))
            clear hz0
            generalize ob L i = y at *
            go_wp2
            go_ret2
            exact ⟨⟨_, _, rfl, .inr ⟨HN.out, rfl, rfl⟩⟩, Kq.out⟩
        · have HI : Aside (Is L) := HR.out.2 fun k h1 h2 => E.out k h1 (by have := (HZ.out k).1 h2; omega)
          have hge : ¬ ((i : Int) < 8 * (q : Int)) := by omega
          go_wp2
          go_ret2
          exact ⟨⟨_, _, rfl, .inl ⟨HI.out, rfl, rfl⟩⟩, Kq.out⟩

set_option maxRecDepth 100000 in
set_option maxHeartbeats 2000000 in
theorem ofl_out (L : List Int) (w : World) (h : 200 < L.length) : Calls Try.prog 4 #[.slice a L.length cap] w fun e w' => e = .returned (.bool true) ∧ K w w' := by
  have k0 := K.refl w
  have ca := awake_any w
  generalize L.length = q at *
  go_enter Try.func4, Try.ntmps4
  go_wp2_with (go_at_call 9; refine (ca _ (by assumption)).mono ?_; rintro e w6 ⟨rfl, k6⟩)
  go_ret
  exact ⟨rfl, k6⟩

theorem rOf_any (h : Src w a b off cap L) (hl : L.length ≤ 200) {q : Nat} (hq : L.length = q) : Calls Try.prog 15 #[.slice a q cap] w fun e w' => (∃ t v, e = .returned (.tuple #[.string t, .int .i64 v]) ∧ Aside ((Is L ∧ t = ⟨(ofT L).toArray⟩ ∧ v = 0) ∨ (¬ Is L ∧ t = ⟨#[]⟩ ∧ v = 8))) ∧ K w w' := by
  subst hq
  by_cases hh : Hd L
  · exact rOf_tail h hh
  · refine (rOf_head h hh hl).mono fun e w' ⟨he, k⟩ => ⟨⟨_, _, he, .inr ⟨fun i => hh ⟨i.ne, i.le, i.len⟩, rfl, rfl⟩⟩, k⟩

set_option maxRecDepth 100000 in
set_option maxHeartbeats 2000000 in
theorem ofl_in (h : Src w a b off cap L) (hl : L.length ≤ 200) : Calls Try.prog 4 #[.slice a L.length cap] w fun e w' => e = .returned (.bool true) ∧ K w w' := by
  have H : Aside _ := h
  have HL : Aside (L.length ≤ 200) := hl
  have ca := awake_any w
  obtain ⟨q, hq⟩ : ∃ q, L.length = q := ⟨_, rfl⟩
  have HQ : Aside _ := hq
  rw [hq] at hl ⊢
  by_cases hi : Is L
  · have c1 := of_yesX h hi hq
    have HI : Aside _ := hi
    clear h hq hi
    go_enter Try.func4, Try.ntmps4
    go_wp2_with fail
    refine c1.mono ?_
    rintro e w1 ⟨rfl, k1⟩
    have K1 : Aside _ := k1
    clear k1 c1
    go_wp2_with fail
    refine (rOf_any (H.out.keep K1.out) HL.out HQ.out).mono ?_
    rintro e w2 ⟨⟨t, v, rfl, hd⟩, k2⟩
    have k3 : K w w2 := K1.out.trans k2
    obtain ⟨rfl, rfl⟩ : t = ⟨(ofT L).toArray⟩ ∧ v = 0 := by
      rcases hd.out with ⟨_, e1, e2⟩ | ⟨e, _⟩
      · exact ⟨e1, e2⟩
      · exact absurd HI.out e
    clear hd k2 K1
    go_wp2_with (go_at_call 9; refine (ca _ (by assumption)).mono ?_; rintro e w6 ⟨rfl, k6⟩)
    go_ret
    exact ⟨rfl, k6⟩
  · have c1 := of_noX h hi hq
    have HI : Aside _ := hi
    clear h hq hi
    go_enter Try.func4, Try.ntmps4
    go_wp2_with fail
    refine c1.mono ?_
    rintro e w1 ⟨rfl, k1⟩
    have K1 : Aside _ := k1
    clear k1 c1
    go_wp2_with fail
    refine (rOf_any (H.out.keep K1.out) HL.out HQ.out).mono ?_
    rintro e w2 ⟨⟨t, v, rfl, hd⟩, k2⟩
    have k3 : K w w2 := K1.out.trans k2
    obtain ⟨rfl, rfl⟩ : t = ⟨#[]⟩ ∧ v = 8 := by
      rcases hd.out with ⟨e, _⟩ | ⟨_, e1, e2⟩
      · exact absurd e HI.out
      · exact ⟨e1, e2⟩
    clear hd k2 K1
    go_wp2_with (go_at_call 9; refine (ca _ (by assumption)).mono ?_; rintro e w6 ⟨rfl, k6⟩)
    go_ret
    exact ⟨rfl, k6⟩

theorem of_walk (a : Option Addr) (b off cap : Nat) (L : List Int) (h : Src w a b off cap L) (w0 : World) (hw : w0 = w := by rfl) : Calls Try.prog 4 #[.slice a L.length cap] w0 fun e w' => e = .returned (.bool true) ∧ K w0 w' := by
  subst hw
  by_cases hl : L.length ≤ 200
  · exact ofl_in h hl
  · exact ofl_out L _ (by omega)

end Tx
end Go.Proofs.Ytffmfhpbhfnieaa
