/-
  Of, for any words.
-/
import Derived.Test.YtbbjfebdihepnaaGreatDoorX2
import Derived.ProofKit
import Derived.OpenShut
import Derived.ShutString
import Derived.ChangeOld
import Derived.Below
import Derived.Deep.Slices
import Derived.Laws.Concat
namespace Go.Proofs.YtbbjfebdihepnaaGreatDoor
open Go.RowKit
namespace Tx
open Hp (Kept K No)
variable {w w' : World} {a : Option Addr} {b off cap : Nat} {L : List Int}

set_option maxRecDepth 100000 in
theorem of_no (h : Src w a b off cap L) (hi : ¬ Is L) : Calls Tryz.prog 80 #[.slice a L.length cap] w fun e w' => e = .returned (.tuple #[.string ⟨#[]⟩, .int .i64 8]) ∧ K w w' := by
  have ci := isText_no h hi
  clear h hi
  generalize L.length = q at *
  go_enter Tryz.func80, Tryz.ntmps80
  go_wp2_with (go_at_call 113; refine ci.mono ?_; rintro e w2 ⟨rfl, k2⟩)
  go_ret2
  exact ⟨rfl, k2⟩

def encB (x : Int) : Value := .int .u8 x
/-- A row of bytes of one's own, at block g. -/
abbrev BRow (w : World) (base g cap : Nat) (L : List Int) : Prop := w.ownsRow base 5 1 (.slice (some ⟨g, 0, none⟩) L.length cap) L.length (L.map encB)
theorem BRow.cell {w : World} {base g cap : Nat} {L : List Int} (h : BRow w base g cap L) {i : Nat} {x : Int} (hx : L[i]? = some x) : w.cell? ⟨g, i, none⟩ = some (.int .u8 x) := by
  have hi := (List.getElem?_eq_some_iff.1 hx).1
  rw [World.ownsRow.cellAt h i (by omega), List.getElem?_map, hx]
  rfl
theorem BRow.put {w : World} {base g cap : Nat} {L : List Int} (h : BRow w base g cap L) (i : Nat) (x : Int) : BRow (w.setCell ⟨g, i, none⟩ (.int .u8 x)) base g cap (L.set i x) := by
  have := (World.ownsRow.stored h i (.int .u8 x)).1
  show World.ownsRow _ _ _ _ (.slice _ (L.set i x).length _) (L.set i x).length _
  rw [List.length_set, List.map_set]
  exact this
theorem made_rowB (n : Nat) : (madeCells (Value.int .u8 0).cells (n * 1)).toList = (List.replicate n (0 : Int)).map encB := by
  show (madeCells #[.int .u8 0] (n * 1)).toList = _
  rw [toList_madeCells_one, Nat.mul_one, List.map_replicate]
  rfl
theorem BRow.of {w : World} {base g cap n : Nat} {L : List Int} (h : w.ownsRow base 5 1 (.slice (some ⟨g, 0, none⟩) n cap) n (L.map encB)) (hl : L.length = n) : BRow w base g cap L := by
  subst hl
  exact h
theorem ixB0 (b len cap : Nat) (i : Nat) (hi : i < len) (w' : World) : (Instr.indexAt 191 (.slice (some ⟨b, 0, none⟩) len cap) (.int .i64 (i : Int))).run Tryz.prog w' = .ok (.pointer (some ⟨b, i, none⟩)) w' := by
  have := run_ixg (m := 1) Tryz.underlying191 (by kernel_rfl) (fun w => by kernel_rfl) b 0 len cap i hi w'
  rwa [Nat.mul_one, Nat.zero_add] at this

/-- The bytes of a row of words, up to k; 0 behind. -/
def obK (L : List Int) (n k : Nat) : List Int := (List.range n).map fun i => if i < k then ob L i else 0
theorem obK_len (L : List Int) (n k : Nat) : (obK L n k).length = n := by simp [obK]
theorem obK_zero (L : List Int) (n : Nat) : obK L n 0 = List.replicate n 0 := by
  unfold obK
  simp only [Nat.not_lt_zero, if_false]
  rw [List.map_const', List.length_range]
theorem obK_at (L : List Int) (n k i : Nat) (h : i < n) : (obK L n k)[i]? = some (if i < k then ob L i else 0) := by simp [obK, h]
theorem obK_succ (L : List Int) (n k : Nat) : obK L n (k + 1) = (obK L n k).set k (ob L k) := by
  apply List.ext_getElem?
  intro i
  rw [List.getElem?_set]
  by_cases hi : i < n
  · rw [obK_at L n _ i hi, obK_at L n _ i hi, obK_len]
    by_cases hk : k = i
    · subst hk
      rw [if_pos rfl, if_pos hi, if_pos (by omega)]
    · rw [if_neg hk]
      by_cases h2 : i < k
      · rw [if_pos h2, if_pos (by omega)]
      · rw [if_neg h2, if_neg (by omega)]
  · rw [List.getElem?_eq_none (by rw [obK_len]; omega), List.getElem?_eq_none (by rw [obK_len]; omega), obK_len]
    split
    · next h => rw [if_neg (by omega)]
    · rfl
theorem obK_all (L : List Int) (n : Nat) : obK L n n = (List.range n).map (ob L) := by
  unfold obK
  apply List.map_congr_left
  intro i hi
  rw [if_pos (List.mem_range.1 hi)]

theorem fold_push : ∀ (ns : List Int) (s : ByteArray), ns.foldl (fun r n => r.push (UInt8.ofNat n.toNat)) s = ⟨(s.data.toList ++ ns.map fun n => UInt8.ofNat n.toNat).toArray⟩
  | [], s => by simp
  | n :: ns, s => by
    rw [List.foldl_cons, fold_push ns]
    congr 1
    simp [ByteArray.push]
/-- 'string(row)' of a row of bytes. -/
theorem run_toStr {w : World} {base g cap : Nat} {L : List Int} (h : BRow w base g cap L) : (convert 191 9 (.slice (some ⟨g, 0, none⟩) L.length cap)).run Tryz.prog w = .ok (.string ⟨(L.map fun n => UInt8.ofNat n.toNat).toArray⟩) w := by
  rw [run_convert_bytes_string (e := 5) w 191 9 _ _ _ Tryz.underlying191 Tryz.underlying5 Tryz.underlying9, run_bytesToString w ⟨g, 0, none⟩ L.length cap L, fold_push]
  · rfl
  · have := run_loadCells_list (P := Tryz.prog) (w := w) ⟨g, 0, none⟩ (L.map encB) (fun j v hv => by
      rw [Go.WideShapes.add_plain]
      rw [Nat.zero_add]
      rw [List.getElem?_map] at hv
      obtain ⟨x, hx, rfl⟩ := Option.map_eq_some_iff.1 hv
      exact h.cell hx)
    rw [List.length_map] at this
    exact this
theorem obs_str {L : List Int} {n : Nat} (hn : (L.getD 0 0).toNat = n) : (⟨((obK L n n).map fun x => UInt8.ofNat x.toNat).toArray⟩ : ByteArray) = ⟨(ofT L).toArray⟩ := by
  rw [obK_all]
  unfold ofT
  rw [hn, List.map_map]
  rfl

theorem byte_key (L : List Int) (k : Nat) : IntKind.u8.wrap (L.getD (1 + k / 8) 0 / 2 ^ ((7 - k % 8) * 8)) = ob L k := by
  rw [IntKind.wrap_u8]
  rfl

set_option maxRecDepth 100000 in
set_option maxHeartbeats 2000000 in
theorem of_yes (h : Src w a b off cap L) (hi : Is L) : Calls Tryz.prog 80 #[.slice a L.length cap] w fun e w' => e = .returned (.tuple #[.string ⟨(ofT L).toArray⟩, .int .i64 0]) ∧ K w w' := by
  have ci := isText_yes h hi
  obtain ⟨iu, hiu, hs1, hs2, hz⟩ := info_u8
  have HU : Aside (Tryz.prog.info? 5 = some iu ∧ iu.zero = some (.int .u8 0) ∧ iu.size = 1 ∧ iu.bytes = 1) := ⟨hiu, hz, hs1, hs2⟩
  clear hiu hs1 hs2 hz
  have h0 := hi.ne
  have hx := h.at h0
  have hix := h.ix0 h0
  rw [Nat.add_zero] at hx
  obtain ⟨n, hn⟩ : ∃ n : Nat, L.getD 0 0 = (n : Int) := ⟨(L.getD 0 0).toNat, by have := h.us.at 0; omega⟩
  have hle := hi.le
  have hlen := hi.len
  rw [hn] at hx hle hlen
  have HT : Aside (∀ k, k < n → 1 + k / 8 < L.length) := fun k hk => by omega
  have HO : Aside ((L.getD 0 0).toNat = n) := by show _ = _; rw [hn]; exact Int.toNat_natCast _
  have hn1000 : n ≤ 1000 := by omega
  have H : Aside _ := h
  clear hi hle hlen hn h0
  have h1 : Aside _ := hx
  have h2 : Aside _ := hix
  clear hx hix h
  go_enter Tryz.func80, Tryz.ntmps80
  go_wp2_with fail
  refine ci.mono ?_
  rintro e w2 ⟨rfl, k2⟩
  clear ci
  have hx := k2.cell h1.out
  have hix := h2.out
  have H2 : Aside _ := Src.keep H.out k2
  have K2 : Aside _ := k2
  clear h1 h2 H k2
  go_wp2_with (
    at_make
    refine wpList_make_full _ rfl _ _ 191 rfl w2.heap.size 5 iu (.int .u8 0) 1 Tryz.underlying191 HU.out.1 HU.out.2.1 HU.out.2.2.1 .u64 .u64 n n n rfl rfl rfl rfl (by rw [HU.out.2.2.2]; omega) (by unfold maxLen; omega) (Nat.le_refl _) ?_
    intro w5 hown5 hgrow5
    rw [made_rowB] at hown5
    have k5 : Aside (K w2 w5) := K.grown (K.refl w2) hgrow5 (fun g hg => by cases hg)
    have R5 : Aside (BRow w5 w2.heap.size w2.heap.size n (List.replicate n (0 : Int))) := BRow.of hown5 (by simp)
    clear hown5 hgrow5
    generalize hg : w2.heap.size = g at *)
  clear hx hix
  rw [← obK_zero L n] at R5
  go_loopw [17] (fun t wr => ∃ k : Nat, t = .int .i64 k ∧ k ≤ n ∧ Aside (BRow wr g g n (obK L n k)) ∧ Aside (K w2 wr)) (fun t _ => n - (intOf t).toNat)
  case atStart => exact ⟨0, rfl, by omega, R5, k5⟩
  case round =>
    obtain ⟨k, rfl, hk, Rk, Kk⟩ := hrel
    clear R5 k5
    by_cases hlt : k < n
    · have cpl := place_ok k (by omega)
      have hL := HT.out k hlt
      have hx := Kk.out.cell (H2.out.at hL)
      have hix := H2.out.ix (1 + k / 8) hL
      have hib := ixB0 g n n k hlt
      have hcb := Rk.out.cell (obK_at L n k k hlt)
      have hfb : wr.frozen? ⟨g, k, none⟩ = false := World.ownsRow.frozenAt Rk.out k
      have key := byte_key L k
      have hs56 : (7 - k % 8) * 8 ≤ 56 := by omega
      obtain ⟨v0, v1⟩ := H2.out.us.at (1 + k / 8)
      have Rn := Rk.out.put k (ob L k)
      rw [← obK_succ] at Rn
      have Kn := Hp.K.setCell Kk.out (p := ⟨g, k, none⟩) (.int .u8 (ob L k)) (by rw [hg]; exact Nat.le_refl _)
      clear hL Rk Kk
      generalize L.getD (1 + k / 8) 0 = x at *
      generalize 1 + k / 8 = i at *
      generalize (7 - k % 8) * 8 = sh at *
      generalize ob L k = y at *
      have Rn' : Aside _ := Rn
      have Kn' : Aside _ := Kn
      clear Rn Kn
      generalize L.length = q at *
      go_wp2_with (go_at_call 114; refine (cpl _).mono ?_; rintro e w10 ⟨rfl, rfl⟩)
      go_roundw
      case measure => simp [intOf]; omega
      case rel => exact ⟨k + 1, by go_num, by omega, Rn'.out, Kn'.out⟩
    · obtain rfl : k = n := by omega
      have hst := run_toStr Rk.out
      rw [obs_str HO.out, obK_len] at hst
      go_wp2
      go_ret2
      exact ⟨rfl, K2.out.trans Kk.out⟩

end Tx
end Go.Proofs.YtbbjfebdihepnaaGreatDoor

/-
  The statements' helpers: Same of two rows, awake; and rows that are built in place.
-/
namespace Go.Proofs.YtbbjfebdihepnaaGreatDoor
open Go.RowKit
namespace Tx
open Hp (Kept K No)
variable {w w' : World} {a a' : Option Addr} {b off cap b' off' cap' : Nat} {L M : List Int}

theorem Src.nil (w : World) (c : Nat) (a : Option Addr) : Src w a 0 0 c [] := ⟨fun i hi => absurd hi (Nat.not_lt_zero i), fun i x hx => by simp at hx, fun x hx => by simp at hx, by simp [maxLen]⟩

/-- A row that is built in place. -/
theorem Row.built {w0 : World} (w : World) (L : List Int) (cs : Array Value) (h : cs = (L.map encU).toArray) (k : w0.heap.size ≤ w.heap.size) (hm : L.length ≤ maxLen) : Row (w.alloc (.cells cs 27)) w0.heap.size w.heap.size L.length L := by
  subst h
  have := World.ownsRow_lit (base := w0.heap.size) (e := 27) (size := 1) w (L.map encU).toArray L.length k hm (by simp)
  simpa using this

def abc : ByteArray := ⟨#[97, 98, 99]⟩
def ab : ByteArray := ⟨#[97, 98]⟩
end Tx
end Go.Proofs.YtbbjfebdihepnaaGreatDoor

/-
  Arguments that came in: rows of words, read cell by cell.
-/
namespace Go.Proofs.YtbbjfebdihepnaaGreatDoor
open Go.RowKit Go.Maps Go.Deep Go.ChangeShapes Go.WideShapes Go.ChangeAt
namespace Tx
open Hp (Kept K No)

theorem u64_of_wf {a : Int} (h : (Lit.int .u64 a).wf = true) : 0 ≤ a ∧ a ≤ 18446744073709551615 := by
  simp only [Lit.wf, IntKind.min, IntKind.max, IntKind.signed, IntKind.bits, Bool.and_eq_true] at h
  simp at h
  omega
theorem laidOut : laidOutB Tryz.prog = true := by kernel_rfl

/-- A slice that came in, its elements of m cells. -/
theorem rows_of {α : Type} {H : Type} {enc : TypeId × Value → H} {W : World} {base : Nat} {sp : Nat → Bool} {held : Bool} {fuel : Nat} {a : Option Addr} {len cap m : Nat} {t e : TypeId} {x : DataW H × List MemPlace} (hu : Tryz.prog.underlying t = some (.slice e)) (ce : Tryz.prog.cellsOf e = m) (At : Nat → Nat → α → Prop) (Q : α → Prop) (d : α) (hd : Q d)
    (el : ∀ (ad : Addr) (cs : List Value) (n : Nat) (y : DataW H × List MemPlace), W.cells? base ad m = some cs → DataW.trod enc Tryz.prog W base sp held n e cs = some y → ∃ b off o, ad = ⟨b, off, none⟩ ∧ At b off o ∧ Q o)
    (h : DataW.trod enc Tryz.prog W base sp held fuel t [.slice a len cap] = some x) : len ≤ maxLen ∧ ∃ (b off : Nat) (z : Nat → α), (0 < len → a = some ⟨b, off, none⟩) ∧ (∀ j, j < len → At b (off + j * m) (z j)) ∧ ∀ j, Q (z j) := by
  rcases open_slice hu h with ⟨hcs, _⟩ | ⟨ad, l, c, k, n, D, Pl, hcs, _, hl, hm, hmm, _, hx⟩
  · simp at hcs
    obtain ⟨rfl, rfl, rfl⟩ := hcs
    exact ⟨Nat.zero_le _, 0, 0, fun _ => d, fun h => by omega, fun j hj => by omega, fun _ => hd⟩
  · simp at hcs
    obtain ⟨rfl, rfl, rfl⟩ := hcs
    refine ⟨Nat.le_trans hl hm, ?_⟩
    have hlm : len ≤ k := by rw [hmm]; split <;> omega
    by_cases h0 : len = 0
    · subst h0
      exact ⟨0, 0, fun _ => d, fun h => by omega, fun j hj => by omega, fun _ => hd⟩
    · rw [ce] at hx
      have each : ∀ i, i < k → ∃ (b off : Nat) (o : α), ad.add (i * m) = ⟨b, off, none⟩ ∧ At b off o ∧ Q o := fun i hi => by
        obtain ⟨cs', h1, h2⟩ := hx i hi
        exact el _ _ _ _ h1 h2
      obtain ⟨b0, off0, o0, e0, p0, _⟩ := each 0 (by omega)
      have had : ad = ⟨b0, off0, none⟩ := by simpa [Addr.add] using e0
      subst had
      have each2 : ∀ i, i < k → ∃ o : α, At b0 (off0 + i * m) o ∧ Q o := fun i hi => by
        obtain ⟨b, off, o, e, p, k⟩ := each i hi
        rw [Go.WideShapes.add_plain] at e
        cases e
        exact ⟨o, p, k⟩
      have hI : Inhabited α := ⟨d⟩
      obtain ⟨z, hz⟩ := choose_lt each2
      refine ⟨b0, off0, fun i => if i < k then z i else d, fun _ => rfl, fun j hj => ?_, fun j => ?_⟩
      · show At b0 (off0 + j * m) (if j < k then z j else d)
        rw [if_pos (by omega)]
        exact (hz j (by omega)).1
      · show Q (if j < k then z j else d)
        by_cases hj : j < k
        · rw [if_pos hj]
          exact (hz j hj).2
        · rw [if_neg hj]
          exact hd

end Tx
end Go.Proofs.YtbbjfebdihepnaaGreatDoor

/-
  The walk of TextOrder.
-/
namespace Go.Proofs.YtbbjfebdihepnaaGreatDoor
open Go.RowKit
namespace Tx
open Hp (Kept K No)
open Go.Lib (compareBytes)
variable {w w' : World}

end Tx
end Go.Proofs.YtbbjfebdihepnaaGreatDoor

/-
  The reference's Compare, and the walk of TextCompare.
-/
namespace Go.Proofs.YtbbjfebdihepnaaGreatDoor
open Go.RowKit
namespace Tx
open Hp (Kept K No)
open Go.Lib (compareBytes)
variable {w w' : World}

theorem cmp_end : ∀ {a b : List UInt8} {i : Nat}, i ≤ a.length → i ≤ b.length → (∀ j, j < i → bt a j = bt b j) → (a.length ≤ i ∨ b.length ≤ i) → compareBytes a b = if a.length < b.length then -1 else if b.length < a.length then 1 else 0
  | [], [], _, _, _, _, _ => rfl
  | [], y :: b, _, _, _, _, _ => by simp [compareBytes]
  | x :: a, [], _, _, _, _, _ => by simp [compareBytes]
  | x :: a, y :: b, 0, _, _, _, h => by simp at h
  | x :: a, y :: b, i + 1, h1, h2, h, he => by
    have h0 := h 0 (by omega)
    simp only [bt, List.getD_cons_zero] at h0
    rw [cmp_cons, if_neg (by omega), if_neg (by omega), cmp_end (a := a) (b := b) (i := i) (by simpa using h1) (by simpa using h2) (fun j hj => by
      have := h (j + 1) (by omega)
      simpa [bt] using this) (by simpa using he)]
    simp

set_option maxRecDepth 100000 in
set_option maxHeartbeats 2000000 in
theorem rCompare_any (a b : ByteArray) (ha : a.size ≤ 2000) (hb : b.size ≤ 2000) (w : World) : Calls Tryz.prog 37 #[.string a, .string b] w fun e w' => e = .returned (.int .i64 (compareBytes (bs a) (bs b))) ∧ K w w' := by
  have IA : Aside (∀ k, k < a.size → ∀ w, (Instr.index 9 (.string a) (.int .i64 (k : Int))).run Tryz.prog w = .ok (.int .u8 (bt (bs a) k)) w) := fun k hk w => str_ix a k (by rw [bs_len]; exact hk) w
  have IB : Aside (∀ k, k < b.size → ∀ w, (Instr.index 9 (.string b) (.int .i64 (k : Int))).run Tryz.prog w = .ok (.int .u8 (bt (bs b) k)) w) := fun k hk w => str_ix b k (by rw [bs_len]; exact hk) w
  have HA : Aside (∀ k, k < a.size → k < b.size → (∀ j, j < k → bt (bs a) j = bt (bs b) j) → compareBytes (bs a) (bs b) = if bt (bs a) k < bt (bs b) k then -1 else if bt (bs b) k < bt (bs a) k then 1 else compareBytes ((bs a).drop (k + 1)) ((bs b).drop (k + 1))) := fun k h1 h2 h => cmp_at k (by rw [bs_len]; exact h1) (by rw [bs_len]; exact h2) h
  have HE : Aside (∀ k, k ≤ a.size → k ≤ b.size → (∀ j, j < k → bt (bs a) j = bt (bs b) j) → (a.size ≤ k ∨ b.size ≤ k) → compareBytes (bs a) (bs b) = if a.size < b.size then -1 else if b.size < a.size then 1 else 0) := fun k h1 h2 h he => by
    have := cmp_end (i := k) (by rw [bs_len]; exact h1) (by rw [bs_len]; exact h2) h (by rw [bs_len, bs_len]; exact he)
    rw [bs_len, bs_len] at this
    exact this
  have RA : Aside (∀ k, 0 ≤ bt (bs a) k ∧ bt (bs a) k ≤ 255) := bt_rng (bs a)
  have RB : Aside (∀ k, 0 ≤ bt (bs b) k ∧ bt (bs b) k ≤ 255) := bt_rng (bs b)
  generalize hv : compareBytes (bs a) (bs b) = v at *
  clear hv
  obtain ⟨m, hm⟩ : ∃ m, a.size = m := ⟨_, rfl⟩
  obtain ⟨n, hn⟩ : ∃ n, b.size = n := ⟨_, rfl⟩
  rw [hm] at IA HA HE ha
  rw [hn] at IB HA HE hb
  have k0 : Aside (K w w) := K.refl w
  go_enter Tryz.func37, Tryz.ntmps37
  go_wp2
  go_loopw [5] (fun t wr => ∃ i : Nat, t = .int .i64 i ∧ i ≤ m ∧ i ≤ n ∧ Aside (∀ j, j < i → bt (bs a) j = bt (bs b) j) ∧ Aside (K w wr)) (fun t _ => m - (intOf t).toNat)
  case atStart => exact ⟨0, rfl, by omega, by omega, fun j hj => absurd hj (Nat.not_lt_zero j), k0⟩
  case round =>
    obtain ⟨i, rfl, him, hin, E, Kr⟩ := hrel
    clear k0
    by_cases hlt : i < m ∧ i < n
    · obtain ⟨h1, h2⟩ := hlt
      have i1 := IA.out i h1
      have i2 := IB.out i h2
      have hA : Aside _ := HA.out i h1 h2 E.out
      obtain ⟨x0, x1⟩ := RA.out i
      obtain ⟨y0, y1⟩ := RB.out i
      have E2 : Aside (bt (bs a) i = bt (bs b) i → ∀ j, j < i + 1 → bt (bs a) j = bt (bs b) j) := fun e j hj => by
        by_cases h : j < i
        · exact E.out j h
        · obtain rfl : j = i := by omega
          exact e
      clear HA HE RA RB IA IB E
      have kd : Aside (K w wr.drew.drew) := Kr.out.drew.drew
      have kd1 : Aside (K w wr.drew) := Kr.out.drew
      generalize bt (bs a) i = x at *
      generalize bt (bs b) i = y at *
      by_cases hxy : x < y
      · have hv : Aside (v = -1) := by show v = -1; rw [hA.out, if_pos hxy]
        clear hA E2
        go_wp2
        go_region
        go_wp2_with fail
        go_ret
        refine ⟨?_, kd1⟩
        rw [hv.out]
        rfl
      · by_cases hyx : y < x
        · have hv : Aside (v = 1) := by show v = 1; rw [hA.out, if_neg hxy, if_pos hyx]
          clear hA E2
          go_wp2
          go_region
          go_wp2_with fail
          go_region
          go_wp2_with fail
          go_ret
          refine ⟨?_, kd⟩
          rw [hv.out]
          rfl
        · have he2 : Aside _ := E2.out (by omega)
          clear hA E2
          go_wp2
          go_region
          go_wp2_with fail
          go_region
          go_wp2_with fail
          go_roundw
          case measure => simp [intOf]; omega
          case rel => exact ⟨i + 1, by go_num, by omega, by omega, he2.out, kd⟩
    · have hv : Aside _ := HE.out i him hin E.out (by omega)
      clear HA HE RA RB IA IB E
      obtain ⟨hl, hc⟩ | ⟨hl, hc⟩ | ⟨hl, hc⟩ : (m < n ∧ m ≤ i) ∨ (n < m ∧ n ≤ i) ∨ (m = n ∧ m ≤ i) := by omega
      · have hv2 : Aside (v = -1) := by show v = -1; rw [hv.out, if_pos hl]
        clear hv hlt
        go_wp2
        go_ret
        refine ⟨?_, Kr⟩
        rw [hv2.out]
        rfl
      · have hv2 : Aside (v = 1) := by show v = 1; rw [hv.out, if_neg (by omega), if_pos hl]
        clear hv hlt
        have hi : i < m := by omega
        go_wp2
        go_ret
        refine ⟨?_, Kr⟩
        rw [hv2.out]
        rfl
      · have hv2 : Aside (v = 0) := by show v = 0; rw [hv.out, if_neg (by omega), if_neg (by omega)]
        clear hv hlt
        subst hl
        go_wp2
        go_ret
        refine ⟨?_, Kr⟩
        rw [hv2.out]
        rfl

end Tx
end Go.Proofs.YtbbjfebdihepnaaGreatDoor
