/-
  Words, for any text.
-/
import Derived.Test.YtffmfhpbhfnieabXCode
namespace Go.Proofs.Ytffmfhpbhfnieab
open Go.RowKit
namespace Tx
open Hp (Kept K No)
variable {w w' : World}

abbrev bs (s : ByteArray) : List UInt8 := s.data.toList
theorem bs_len (s : ByteArray) : (bs s).length = s.size := by
  show s.data.toList.length = s.data.size
  simp
theorem str_ix (s : ByteArray) (k : Nat) (hk : k < (bs s).length) (w : World) : (Instr.index 9 (.string s) (.int .i64 (k : Int))).run Try.prog w = .ok (.int .u8 (bt (bs s) k)) w := by
  have hk2 := hk
  rw [bs_len] at hk2
  rw [run_index_string w 9 s .i64 k Try.underlying9, dif_pos (by omega)]
  rw [bt_in hk]
  rfl

theorem info_u64 : ∃ i0, Try.prog.info? 22 = some i0 ∧ i0.size = 1 ∧ i0.bytes = 8 ∧ i0.zero = some (.int .u64 0) := by
  have hi : (Try.prog.info? 22).map (fun i => (i.zero, i.size, i.bytes)) = some (some (.int .u64 0), 1, 8) := by kernel_rfl
  obtain ⟨i0, h1, h2⟩ := Option.map_eq_some_iff.1 hi
  simp only [Prod.mk.injEq] at h2
  exact ⟨i0, h1, h2.2.1, h2.2.2, h2.1⟩
theorem info_u8 : ∃ i0, Try.prog.info? 5 = some i0 ∧ i0.size = 1 ∧ i0.bytes = 1 ∧ i0.zero = some (.int .u8 0) := by
  have hi : (Try.prog.info? 5).map (fun i => (i.zero, i.size, i.bytes)) = some (some (.int .u8 0), 1, 1) := by kernel_rfl
  obtain ⟨i0, h1, h2⟩ := Option.map_eq_some_iff.1 hi
  simp only [Prod.mk.injEq] at h2
  exact ⟨i0, h1, h2.2.1, h2.2.2, h2.1⟩

theorem K.grown {w a b : World} {row : Option Nat} (h : K w a) (hg : a.grownBy b row) (hr : ∀ g, some g = row → w.heap.size ≤ g) : K w b :=
  ⟨hg.os.trans h.os, hg.tape.trans h.tape, hg.output.trans h.output, Nat.le_trans h.size hg.size, fun j hj hn => by
    have hjw := Nat.lt_of_lt_of_le hj h.size
    rw [hg.block j hjw (fun e => by have := hr j e; omega)]
    exact h.same j hj hn⟩
theorem made_row (n : Nat) : (madeCells (Value.int .u64 0).cells (n * 1)).toList = (List.replicate n (0 : Int)).map encU := by
  show (madeCells #[.int .u64 0] (n * 1)).toList = _
  rw [toList_madeCells_one, Nat.mul_one, List.map_replicate]
  rfl
theorem Row.of {w : World} {base g cap n : Nat} {L : List Int} (h : w.ownsRow base 22 1 (.slice (some ⟨g, 0, none⟩) n cap) n (L.map encU)) (hl : L.length = n) : Row w base g cap L := by
  subst hl
  exact h

theorem long_no (s : ByteArray) (hs : 1000 < s.size) (w : World) : Calls Try.prog 4 #[.string s] w fun e w' => e = .returned (.tuple #[.slice none 0 0, .int .i64 4]) ∧ K w w' := by
  have k0 := K.refl w
  go_enter Try.func4, Try.ntmps4
  go_wp2
  go_ret2
  exact ⟨rfl, k0⟩

theorem K.row {w a b : World} {g cap : Nat} {L : List Int} (h : Row a w.heap.size g cap L) (k : K a b) : Row b w.heap.size g cap L := by
  refine World.ownsRow.kept h (row := none) ⟨k.os, k.tape, k.output, k.size, fun j hj _ => k.same j hj (fun x => x)⟩ (.inr (by simp [Value.ownBlock]))

set_option maxRecDepth 100000 in
set_option maxHeartbeats 2000000 in
theorem words_ok (s : ByteArray) (hs : s.size ≤ 1000) (w : World) : Calls Try.prog 4 #[.string s] w fun e w' => ∃ g cap, e = .returned (.tuple #[.slice (some ⟨g, 0, none⟩) (wds (bs s)).length cap, .int .i64 0]) ∧ Aside (Row w' w.heap.size g cap (wds (bs s))) ∧ K w w' := by
  obtain ⟨iu, hiu, hs1, hs2, hz⟩ := info_u64
  have HU : Aside (Try.prog.info? 22 = some iu ∧ iu.zero = some (.int .u64 0) ∧ iu.size = 1 ∧ iu.bytes = 8) := ⟨hiu, hz, hs1, hs2⟩
  clear hiu hs1 hs2 hz
  have hl : Aside ((bs s).length = s.size) := bs_len s
  have hsx : Aside (∀ k, k < s.size → ∀ w, (Instr.index 9 (.string s) (.int .i64 (k : Int))).run Try.prog w = .ok (.int .u8 (bt (bs s) k)) w) := fun k hk w => str_ix s k (by rw [hl.out]; exact hk) w
  obtain ⟨n, hn⟩ : ∃ n, n = s.size := ⟨_, rfl⟩
  have cm := many_any (n : Int)
  rw [mn_in (by omega) (by omega)] at cm
  obtain ⟨N, hN⟩ : ∃ N : Nat, N = 1 + (n + 7) / 8 := ⟨_, rfl⟩
  have hNe : 1 + ((n : Int) + 7) / 8 = (N : Int) := by omega
  rw [hNe] at cm
  have HN : Aside (N = 1 + (n + 7) / 8) := hN
  have HW0 : Aside (∀ k, (wdsK (bs s) k).length = N) := fun k => by show _ = _; rw [wdsK_len, hl.out, ← hn, hN]
  have HWz : Aside ((List.replicate N (0 : Int)).set 0 (n : Int) = wdsK (bs s) 0) := by
    show _ = _
    rw [wdsK_zero, hl.out, ← hn, hN, Nat.add_comm 1, List.replicate_succ, List.set_cons_zero]
  have hsize : s.size = n := hn.symm
  have hn0 : 0 < N := by omega
  have hN0 : N ≤ 126 := by omega
  clear hn hN hNe
  go_enter Try.func4, Try.ntmps4
  go_wp2_with fail
  refine (cm _).mono ?_
  rintro e w2 ⟨rfl, rfl⟩
  clear cm
  go_wp2_with (
    at_make
    refine wpList_make_full _ rfl _ _ 23 rfl w.heap.size 22 iu (.int .u64 0) 1 Try.underlying23 HU.out.1 HU.out.2.1 HU.out.2.2.1 .i64 .i64 N N N rfl rfl rfl rfl (by rw [HU.out.2.2.2]; omega) (by unfold maxLen; omega) (Nat.le_refl _) ?_
    intro w5 hown5 hgrow5
    rw [made_row] at hown5
    have k5 : Aside (K w w5) := K.grown (K.refl w) hgrow5 (fun g hg => by cases hg)
    have R5 : Aside (Row w5 w.heap.size w.heap.size N (List.replicate N (0 : Int))) := Row.of hown5 (by simp)
    clear hown5 hgrow5
    have c0 : w5.cell? ⟨w.heap.size, 0, none⟩ = some (.int .u64 0) := R5.out.cell (by rw [List.getElem?_replicate, if_pos hn0])
    have f0 : w5.frozen? ⟨w.heap.size, 0, none⟩ = false := R5.out.free 0
    generalize hg : w.heap.size = g at *)
  have R6 := R5.out.put 0 (n : Int)
  rw [HWz.out] at R6
  have k6 : K w (w5.setCell ⟨g, 0, none⟩ (.int .u64 (n : Int))) := Hp.K.setCell k5.out _ (by rw [hg]; exact Nat.le_refl _)
  clear R5 k5 c0 f0 HWz
  generalize w5.setCell ⟨g, 0, none⟩ (.int .u64 (n : Int)) = w6 at *
  refine (putter_any _ _ N N rfl w6).mono ?_
  rintro e w7 ⟨rfl, hw7⟩
  have k7 : Aside (K w w7) := by rw [hw7]; exact k6.alloc _
  have hcs : g < w6.heap.size := R6.lt.2
  have hcg : w6.heap.size ≠ g := by omega
  have R7 : Aside (Row w7 w.heap.size g N (wdsK (bs s) 0)) := by
    rw [hw7, hg]
    exact World.ownsRow.alloc R6 _
  have c7 : w7.cell? ⟨w6.heap.size, 0, none⟩ = some (.slice (some ⟨g, 0, none⟩) N N) := by
    rw [hw7]
    exact World.cell?_alloc_at _ _ _ _ rfl
  clear hw7 R6 k6
  unfold putF
  generalize w6.heap.size = c at *
  go_wp2
  go_loopw [23] (fun t wr => ∃ k : Nat, t = .int .i64 k ∧ k ≤ n ∧ Aside (Row wr w.heap.size g N (wdsK (bs s) k)) ∧ Aside (wr.cell? ⟨c, 0, none⟩ = some (.slice (some ⟨g, 0, none⟩) N N)) ∧ Aside (K w wr)) (fun t _ => n - (intOf t).toNat)
  case atStart => exact ⟨0, rfl, by omega, R7, c7, k7⟩
  case round =>
    obtain ⟨k, rfl, hk, Rk, Ck, Kk⟩ := hrel
    clear R7 c7 k7
    by_cases hlt : k < n
    · have hix := hsx.out k (by rw [hsize]; exact hlt)
      obtain ⟨b0, b1⟩ := bt_rng (bs s) k
      obtain ⟨o1, o2⟩ := wv_one (bs s) k
      have hkl : k / 8 < ((bs s).length + 7) / 8 := by rw [hl.out, hsize]; omega
      have hcell := Rk.out.cell (wdsK_at (bs s) k (k / 8) hkl)
      have hfro := Rk.out.free (1 + k / 8)
      obtain ⟨v0, v1⟩ := wv_rng ((bs s).take k) (k / 8)
      have hN2 : 1 + k / 8 < N := by rw [HN.out]; omega
      have cput := put_any c g N N k (bt (bs s) k) (wv ((bs s).take k) (k / 8)) wr (by omega) b0 b1 hN2 Ck.out hcell hfro v0 v1 o2
      have Rn := Rk.out.put (1 + k / 8) (wv ((bs s).take k) (k / 8) + bt (bs s) k * pw (k % 8))
      rw [← wdsK_succ] at Rn
      have Kn := Hp.K.setCell Kk.out (p := ⟨g, 1 + k / 8, none⟩) (.int .u64 (wv ((bs s).take k) (k / 8) + bt (bs s) k * pw (k % 8))) (by rw [hg]; exact Nat.le_refl _)
      have Cn : (wr.setCell ⟨g, 1 + k / 8, none⟩ (.int .u64 (wv ((bs s).take k) (k / 8) + bt (bs s) k * pw (k % 8)))).cell? ⟨c, 0, none⟩ = some (.slice (some ⟨g, 0, none⟩) N N) := (World.cell?_setCell_other (a := ⟨g, 1 + k / 8, none⟩) (b := ⟨c, 0, none⟩) wr _ (fun e => hcg (by injection e with e1 _; exact e1.symm))).trans Ck.out
      clear o1 o2 hkl hcell hfro v0 v1 hN2 Rk Ck Kk
      generalize wr.setCell ⟨g, 1 + k / 8, none⟩ (.int .u64 (wv ((bs s).take k) (k / 8) + bt (bs s) k * pw (k % 8))) = w9 at *
      generalize bt (bs s) k = b at *
      have Rn' : Aside _ := Rn
      have Kn' : Aside _ := Kn
      have Cn' : Aside _ := Cn
      clear Rn Kn Cn
      go_wp2_with (go_at_call 13; refine cput.mono ?_; rintro e w10 ⟨⟨_, rfl⟩, rfl⟩)
      go_roundw
      case measure => simp [intOf]; omega
      case rel => exact ⟨k + 1, by go_num, by omega, Rn'.out, Cn'.out, Kn'.out.drew⟩
    · obtain rfl : k = n := by omega
      go_wp2
      go_ret2
      have e1 : wds (bs s) = wdsK (bs s) k := by unfold wds; rw [hl.out, hsize]
      have e2 := HW0.out k
      refine ⟨g, N, ?_, ?_, Kk.out⟩
      · rw [e1, e2]
        rfl
      · rw [e1]
        exact Rk

end Tx
end Go.Proofs.Ytffmfhpbhfnieab
