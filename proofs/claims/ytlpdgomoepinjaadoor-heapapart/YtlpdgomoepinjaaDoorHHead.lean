/-
  Walks of package heap's setHead, wipe, take and leave: a page's head, and a place's words.
-/
import Derived.Test.YtlpdgomoepinjaaDoorHFind
namespace Go.Proofs.YtlpdgomoepinjaaDoor
open Go.RowKit
attribute [local go_sem ↓] Go.wp_at_zero Go.wp_at_succ
namespace Hp
variable {w w' : World} {bh bs bm : Nat} {q : Int} {pg pg' : List (Int × Nat)} {W W' : Int → Int}

theorem Step.cell (s : Sl.Step bs bm pg pg' w w') {p : Addr} {v : Value} (hc : w.cell? p = some v) (hn : ¬ Sl.foot bs bm pg p.block) : w'.cell? p = some v :=
  (World.cell?_of_block (s.kept _ (lt_of_cell hc) hn)).trans hc

/-- A call on the arena, behind what keeps all. -/
theorem K.thenStep {w1 w2 : World} (k : K w w1) (s : Sl.Step bs bm pg pg' w1 w2) : Sl.Step bs bm pg pg' w w2 :=
  ⟨s.os.trans k.os, s.tape.trans k.tape, s.output.trans k.output, Nat.le_trans k.size s.size, fun j hj hf => (s.kept j (Nat.lt_of_lt_of_le hj k.size) hf).trans (k.same j hj (fun x => x)), fun j hj => by
    rcases s.inn j hj with h | h
    · exact Or.inl h
    · exact Or.inr (Nat.le_trans k.size h)⟩
theorem Step.thenK {w1 w2 : World} (s : Sl.Step bs bm pg pg' w w1) (k : K w1 w2) : Sl.Step bs bm pg pg' w w2 := s.trans (K.step bs bm pg' k)

/-- The words behind a head that is written. -/
def hdW (W : Int → Int) (k m t : Int) : Int → Int := Sl.upd (Sl.upd W (64 * k) m) (64 * k + 1) t

theorem nf_new (h : Hw w bh bs bm q pg W) {k : Nat} (hk : w.heap.size ≤ k) : ¬ Sl.foot bs bm pg k := fun hf => by have := h.ar.foot_lt hf; omega

set_option maxRecDepth 100000 in
theorem setHead_any (h : Hw w bh bs bm q pg W) (k m t : Int) (h0 : 0 ≤ k) (h1 : k ≤ 1048575) (hb : (Sl.blk pg k).isSome = true) (hm : Sl.WordOk m) (ht : Sl.WordOk t) :
    Calls Tryd.prog 34 #[hp bh, .int .i64 k, hdV m t] w fun e w' => e = .returned (.tuple #[]) ∧ Hw w' bh bs bm q pg (hdW W k m t) ∧ Sl.Step bs bm pg pg w w' := by
  obtain ⟨w1, hw1⟩ : ∃ w1, w1 = w.alloc (.cells #[.int .u64 m, .int .u64 t] 77) := ⟨_, rfl⟩
  have k1 : K w w1 := by rw [hw1]; exact (K.refl w).alloc _
  have hB1 : w1.heap[w.heap.size]? = some (.cells #[.int .u64 m, .int .u64 t] 77) := by rw [hw1]; exact World.alloc_heap_new _ _
  obtain ⟨f0, f1⟩ := cells2 hB1
  have hw := h.keep k1
  have c0 := hw.c0
  have hd := hw.keep (K.drew (K.refl w1))
  have hn := nf_new h (Nat.le_refl _)
  have wr := Sl.write_ok hd.ar (k * 64) m (by have := readE_in h0 h1 hb 0 (by omega) (by omega); rw [show k * 64 = 64 * k + 0 from by omega]; exact this) hm
  have e1 : IntKind.i64.wrap (k * 64) = k * 64 := wrap_i64 (by omega) (by omega)
  have e2 : IntKind.i64.wrap (k * 64 + 1) = k * 64 + 1 := wrap_i64 (by omega) (by omega)
  have hn2 : ¬ Sl.foot bs bm pg bh := h.nfh
  go_enter Tryd.func34, Tryd.ntmps34
  go_wp2
  rw [← hw1]
  clear hw1
  generalize w.heap.size = B at *
  go_region_held3 (fun w' => w'.cell? ⟨bh, 0, none⟩ = some (.pointer (some ⟨bs, 0, none⟩)) ∧ w'.cell? ⟨B, 0, none⟩ = some (.int .u64 m) ∧ w'.cell? ⟨B, 1, none⟩ = some (.int .u64 t))
    (first | exact ⟨c0, f0, f1⟩ | exact ⟨Step.cell s2 c0 hn2, Step.cell s2 f0 hn, Step.cell s2 f1 hn⟩)
    ((go_at_call 8; refine wr.mono ?_; rintro e w2 ⟨rfl, a2, s2⟩))
  have hh2 := hd.step a2 s2
  have d0 := hh2.c0
  have g1 := Step.cell s2 f1 hn
  have hd2 := hh2.keep (K.drew (K.refl w2))
  have wr2 := Sl.write_ok hd2.ar (k * 64 + 1) t (by have := readE_in h0 h1 hb 1 (by omega) (by omega); rw [show k * 64 + 1 = 64 * k + 1 from by omega]; exact this) ht
  go_wp2
  go_region_held3 (fun w' => w'.cell? ⟨bh, 0, none⟩ = some (.pointer (some ⟨bs, 0, none⟩)) ∧ w'.cell? ⟨B, 1, none⟩ = some (.int .u64 t))
    (first | exact ⟨d0, g1⟩ | exact ⟨Step.cell s3 d0 hn2, Step.cell s3 g1 hn⟩)
    ((go_at_call 8; refine wr2.mono ?_; rintro e w3 ⟨rfl, a3, s3⟩))
  go_wp2
  go_end0
  have hh3 := hd2.step a3 s3
  rw [show k * 64 + 1 = 64 * k + 1 from by omega, show k * 64 = 64 * k from by omega] at hh3
  exact ⟨rfl, hh3, (k1.drew.thenStep s2).trans ((K.drew (K.refl w2)).thenStep s3)⟩

/-- The words of a place are 0, up to its n-th. -/
def wipeW (W : Int → Int) (a : Int) (n : Int) : Int → Int := fun x => if a ≤ x ∧ x < a + n then 0 else W x
theorem wipe_zero (W : Int → Int) (a : Int) : wipeW W a 0 = W := by
  funext x
  simp only [wipeW]
  rw [if_neg (by omega)]
theorem wipe_succ (W : Int → Int) (a n : Int) (h : 0 ≤ n) : Sl.upd (wipeW W a n) (a + n) 0 = wipeW W a (n + 1) := by
  funext x
  simp only [wipeW, Sl.upd]
  by_cases e : x = a + n
  · rw [if_pos e, if_pos (by omega)]
  · rw [if_neg e]
    by_cases e2 : a ≤ x ∧ x < a + n
    · rw [if_pos e2, if_pos (by omega)]
    · rw [if_neg e2, if_neg (by omega)]

set_option maxRecDepth 100000 in
set_option maxHeartbeats 1000000 in
theorem wipe_any (h : Hw w bh bs bm q pg W) (p : Pg) (s : Int) (h0 : 0 ≤ p.n) (h1 : p.n ≤ 1048575) (hr0 : 0 ≤ roomI p) (hr1 : roomI p ≤ 5000) (hw : ∀ i, 0 ≤ i → i < roomI p → Sl.readE pg (addrI p s + i) = 0) :
    Calls Tryd.prog 32 #[hp bh, bkV p s] w fun e w' => e = .returned (.tuple #[]) ∧ Hw w' bh bs bm q pg (wipeW W (addrI p s) (roomI p)) ∧ Sl.Step bs bm pg pg w w' := by
  obtain ⟨w1, hw1⟩ : ∃ w1, w1 = w.alloc (.cells (cellsB p s) 58) := ⟨_, rfl⟩
  have k1 : K w w1 := by rw [hw1]; exact (K.refl w).alloc _
  have hB1 : w1.heap[w.heap.size]? = some (.cells (cellsB p s) 58) := by rw [hw1]; exact World.alloc_heap_new _ _
  have ca := addr_any p s h0 h1 w1
  have cr := fun w => room_any p s w
  have har := at_range p s
  have hin : addrI p s = p.n * 64 + atI p s := rfl
  have b0 : 0 ≤ addrI p s := by omega
  have b1 : addrI p s ≤ 67108928 := by omega
  clear har hin
  generalize addrI p s = A at *
  generalize hR : roomI p = R at *
  clear hR
  obtain ⟨⟨x0, x1, x2, x3, x4, x5, x6⟩, _⟩ := seven hB1
  go_enter Tryd.func32, Tryd.ntmps32
  go_wp2_with fail
  rw [← hw1]
  refine ca.mono ?_
  rintro e w2 ⟨rfl, k2⟩
  obtain ⟨⟨y0, y1, y2, y3, y4, y5, y6⟩, _⟩ := seven (k2.block hB1)
  go_wp2_with fail
  refine (cr _).mono ?_
  rintro e w3 ⟨rfl, k3⟩
  have k3' := (k1.trans k2).trans k3
  clear x0 x1 x2 x3 x4 x5 x6 y0 y1 y2 y3 y4 y5 y6 hw1
  go_wp2
  go_loopw [5, 10] (fun _ i wr => ∃ k : Nat, (k : Int) ≤ R ∧ i = .int .i64 (k : Int) ∧ Hw wr bh bs bm q pg (wipeW W A k) ∧ Sl.Step bs bm pg pg w wr) (fun _ i _ => R.toNat - (intOf i).toNat)
  case atStart => exact ⟨0, by omega, rfl, by rw [show ((0 : Nat) : Int) = 0 from rfl, wipe_zero]; exact h.keep k3', K.step bs bm pg k3'⟩
  case round =>
    obtain ⟨k, hk, rfl, hh, hs⟩ := hrel
    by_cases hlt : (k : Int) < R
    · have c0 := hh.c0
      have wr1 := Sl.write_ok hh.ar (A + k) 0 (hw k (by omega) hlt) Sl.wordOk_zero
      rw [wipe_succ W A k (by omega)] at wr1
      go_wp2_with (go_at_call 8; refine wr1.mono ?_; rintro e w4 ⟨rfl, a4, s4⟩)
      go_roundw
      case rel => exact ⟨k + 1, by omega, by go_num, hh.step a4 s4, hs.trans s4⟩
      case measure => simp [intOf]; omega
    · have e : (k : Int) = R := by omega
      go_wp2
      go_end0
      rw [← e]
      exact ⟨rfl, hh, hs⟩

end Hp
end Go.Proofs.YtlpdgomoepinjaaDoor
