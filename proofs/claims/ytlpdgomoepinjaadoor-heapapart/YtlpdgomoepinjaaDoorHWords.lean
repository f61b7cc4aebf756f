/-
  The walk of package heap's wordsOf: a copy of the words of a large block's pages.
-/
import Derived.Test.YtlpdgomoepinjaaDoorHCalls
import Derived.Test.YtlpdgomoepinjaaDoorSMove
namespace Go.Proofs.YtlpdgomoepinjaaDoor
open Go.RowKit
attribute [local go_sem ↓] Go.wp_at_zero Go.wp_at_succ
namespace Hp
variable {w w' : World} {bh bs bm : Nat} {q : Int} {pg pg' : List (Int × Nat)} {W W' : Int → Int} {L : List Pg}

theorem row_set (F : Nat → Int) (n k : Nat) : (Sl.rowOf F n k).setIfInBounds k (.int .u64 (F k)) = Sl.rowOf F n (k + 1) := by
  apply Array.ext_getElem?
  intro j
  rw [Array.getElem?_setIfInBounds]
  have hs : (Sl.rowOf F n k).size = n := by simp [Sl.rowOf]
  by_cases hj : j < n
  · by_cases e : k = j
    · subst e
      rw [if_pos rfl, if_pos (by rw [hs]; exact hj), Sl.row_get _ _ _ _ hj, if_pos (by omega)]
    · rw [if_neg e, Sl.row_get _ _ _ _ hj, Sl.row_get _ _ _ _ hj]
      by_cases h2 : j < k
      · rw [if_pos h2, if_pos (by omega)]
      · rw [if_neg h2, if_neg (by omega)]
  · have h1 : (Sl.rowOf F n k)[j]? = none := Array.getElem?_eq_none (by rw [hs]; omega)
    have h2 : (Sl.rowOf F n (k + 1))[j]? = none := Array.getElem?_eq_none (by simp [Sl.rowOf]; omega)
    rw [h1, h2]
    split
    · rw [if_neg (by rw [hs]; omega)]
    · rfl

set_option maxRecDepth 100000 in
set_option maxHeartbeats 1000000 in
theorem wordsOf_any (h : Hw w bh bs bm q pg W) (p : Pg) (n : Nat) (hn : (n : Int) = p.span * 64) (h0 : 0 ≤ p.n) (h1 : p.n + p.span ≤ 1048576) (hs0 : 1 ≤ p.span) (hs1 : p.span ≤ 63) (hb : ∀ i, 0 ≤ i → i < p.span → (Sl.blk pg (p.n + i)).isSome = true) :
    Calls Tryd.prog 44 #[hp bh, pgV p] w fun e w' => e = .returned (.slice (some ⟨w.heap.size + 1, 0, none⟩) n n) ∧ K w w' ∧ w'.heap[w.heap.size + 1]? = some (.cells (Sl.rowOf (fun i => W (64 * p.n + i)) n n) 34) := by
  obtain ⟨w1, hw1⟩ : ∃ w1, w1 = w.alloc (.cells (cellsP p) 56) := ⟨_, rfl⟩
  have k1 : K w w1 := by rw [hw1]; exact (K.refl w).alloc _
  have hB1 : w1.heap[w.heap.size]? = some (.cells (cellsP p) 56) := by rw [hw1]; exact World.alloc_heap_new _ _
  have hi : (Tryd.prog.info? 34).map (fun i => (i.zero, i.size, i.bytes)) = some (some (.int .u64 0), 1, 8) := by kernel_rfl
  obtain ⟨i0, hi1, hz0, hzz1, hz2⟩ := info_parts hi
  have hmk := run_make (P := Tryd.prog) (w.alloc (.cells #[.int .i64 p.n, .int .i64 p.kind, .int .i64 p.cls, .int .u64 p.taken, .int .i64 p.words, .int .i64 p.span] 56)) 84 34 i0 (.int .u64 0) Tryd.underlying84 hi1 hz0 .i64 .i64 n n (by omega) (by omega) (by rw [hz2]; omega) (by omega)
  rw [hzz1, Int.toNat_natCast, Sl.made_row n (fun i => W (64 * p.n + i)), hn, World.size_alloc] at hmk
  have HN : Hid ((n : Int) = p.span * 64) := hn
  have n0 : (0 : Int) ≤ n := by omega
  have n1 : (n : Int) ≤ 4032 := by omega
  have hpn : p.n * 64 ≤ 67108864 := by omega
  have HRd : Aside (∀ k : Nat, k < n → Sl.readV pg W (p.n * 64 + k) = W (64 * p.n + k) ∧ Sl.readE pg (p.n * 64 + k) = 0) := fun k hk => by
    have e : p.n * 64 + (k : Int) = 64 * (p.n + (k : Int) / 64) + (k : Int) % 64 := by omega
    have hbk := hb ((k : Int) / 64) (by omega) (by omega)
    refine ⟨?_, ?_⟩
    · rw [e, readV_in (by omega) (by omega) hbk _ (by omega) (by omega), show 64 * (p.n + (k : Int) / 64) + (k : Int) % 64 = 64 * p.n + k from by omega]
    · rw [e, readE_in (by omega) (by omega) hbk _ (by omega) (by omega)]
  have hN2 : n * 1 = n := by omega
  have hsp : Hid ((n : Int) = p.span * 64) := hn
  clear hi hi1 hz0 hzz1 hz2 hn hb
  obtain ⟨⟨x0, x1, x2, x3, x4, x5⟩, _⟩ := six hB1
  go_enter Tryd.func44, Tryd.ntmps44
  go_wp2
  rw [show w.alloc (.cells #[.int .i64 p.n, .int .i64 p.kind, .int .i64 p.cls, .int .u64 p.taken, .int .i64 p.words, .int .i64 p.span] 56) = w1 from hw1.symm]
  obtain ⟨w2, hw2⟩ : ∃ w2, w2 = w1.alloc (.cells (Sl.rowOf (fun i => W (64 * p.n + i)) n 0) 34) := ⟨_, rfl⟩
  rw [← hw2]
  have hz1 : Hid (w1.heap.size = w.heap.size + 1) := by show _ = _; rw [hw1]; simp
  have k2 : K w1 w2 := by rw [hw2]; exact (K.refl w1).alloc _
  have hR2 : w2.heap[w.heap.size + 1]? = some (.cells (Sl.rowOf (fun i => W (64 * p.n + i)) n 0) 34) := by rw [hw2, ← hz1.out]; exact World.alloc_heap_new _ _
  have hB2 := k2.block hB1
  have kw2 := k1.trans k2
  have hb0 : bh < w.heap.size := lt_of_cell h.c0
  clear hmk hw2 hw1 hB1 x0 x1 x2 x3 x4 x5
  go_loopw [6, 13] (fun _ i wr => ∃ k : Nat, k ≤ n ∧ i = .int .i64 (k : Int) ∧ K w wr ∧ wr.heap[w.heap.size]? = some (.cells (cellsP p) 56) ∧ wr.heap[w.heap.size + 1]? = some (.cells (Sl.rowOf (fun i => W (64 * p.n + i)) n k) 34)) (fun _ i _ => n - (intOf i).toNat)
  case atStart => exact ⟨0, Nat.zero_le _, rfl, kw2, hB2, hR2⟩
  case round =>
    obtain ⟨k, hk, rfl, kr, hBr, hRr⟩ := hrel
    by_cases hlt : k < n
    · obtain ⟨⟨x0, x1, x2, x3, x4, x5⟩, _⟩ := six hBr
      have c0 := (h.keep kr).c0
      have hkd : K w wr.drew := kr.drew
      have rd := Sl.read_any (h.keep hkd).ar (p.n * 64 + k)
      rw [(HRd.out k hlt).1, (HRd.out k hlt).2] at rd
      have ki0 : (0 : Int) ≤ k := by omega
      have ki1 : (k : Int) < n := by omega
      have e1 : IntKind.i64.wrap (p.n * 64) = p.n * 64 := wrap_i64 (by omega) (by omega)
      have e2 : IntKind.i64.wrap (p.n * 64 + k) = p.n * 64 + k := wrap_i64 (by omega) (by omega)
      have hcell : wr.cell? ⟨w.heap.size + 1, k, none⟩ = some (.int .u64 0) := by
        have := Sl.row_get (fun i => W (64 * p.n + i)) n k k hlt
        rw [if_neg (by omega)] at this
        simp only [World.cell?, hRr]
        simpa using this
      have hfz : wr.frozen? ⟨w.heap.size + 1, k, none⟩ = false := by simp [World.frozen?, hRr]
      have hRs := Sl.heap_setCell_same (w := wr.drew) (i := k) (show wr.drew.heap[w.heap.size + 1]? = some (.cells (Sl.rowOf (fun i => W (64 * p.n + i)) n k) 34 (0, 0)) from hRr) (.int .u64 (W (64 * p.n + k)))
      rw [row_set (fun i => W (64 * p.n + i)) n k] at hRs
      have kst := (Kept.refl (fun j => j = w.heap.size + 1) wr.drew).setCell (p := ⟨w.heap.size + 1, k, none⟩) (.int .u64 (W (64 * p.n + k))) (.inl rfl)
      have HK : Aside (K w (wr.drew.setCell ⟨w.heap.size + 1, k, none⟩ (.int .u64 (W (64 * p.n + k)))) ∧ (wr.drew.setCell ⟨w.heap.size + 1, k, none⟩ (.int .u64 (W (64 * p.n + k)))).heap[w.heap.size]? = some (.cells (cellsP p) 56) ∧ (wr.drew.setCell ⟨w.heap.size + 1, k, none⟩ (.int .u64 (W (64 * p.n + k)))).heap[w.heap.size + 1]? = some (.cells (Sl.rowOf (fun i => W (64 * p.n + i)) n (k + 1)) 34)) := ⟨hkd.setCell _ (by show w.heap.size ≤ w.heap.size + 1; omega), kst.block (show wr.drew.heap[w.heap.size]? = some (.cells (cellsP p) 56) from hBr) (by omega), hRs⟩
      have hS1 := kst.cell (show wr.drew.cell? ⟨bh, 0, none⟩ = some (.pointer (some ⟨bs, 0, none⟩)) from c0) (show ¬ bh = w.heap.size + 1 by omega)
      have hS2 := kst.cell (show wr.drew.cell? ⟨w.heap.size, 0, none⟩ = some (.int .i64 p.n) from x0) (show ¬ w.heap.size = w.heap.size + 1 by omega)
      generalize W (64 * p.n + k) = v at *
      clear hRs kst hBr hRr
      go_wp2
      go_region_held3 (fun w' => w'.cell? ⟨bh, 0, none⟩ = some (.pointer (some ⟨bs, 0, none⟩)) ∧ w'.cell? ⟨w.heap.size, 0, none⟩ = some (.int .i64 p.n))
        (first | exact ⟨c0, x0⟩ | exact ⟨hS1, hS2⟩)
        (first | (go_at_call 7; refine rd.mono ?_; rintro e w3 ⟨rfl, rfl⟩))
      go_wp2
      go_roundw
      case rel => exact ⟨k + 1, by omega, by go_num, HK.out.1, HK.out.2.1, HK.out.2.2⟩
      case measure => simp [intOf]; omega
    · obtain rfl : k = n := by omega
      go_wp2
      go_ret
      exact ⟨rfl, kr, hRr⟩

end Hp
end Go.Proofs.YtlpdgomoepinjaaDoor
