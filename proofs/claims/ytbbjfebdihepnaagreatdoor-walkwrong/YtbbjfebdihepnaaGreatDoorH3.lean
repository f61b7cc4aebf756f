/-
  Walks of package heap's setHead, wipe, take and leave: a page's head, and a place's words.
-/
import Derived.Test.YtbbjfebdihepnaaGreatDoorH2
import Derived.Test.YtbbjfebdihepnaaGreatDoorH1
import Derived.Test.YtbbjfebdihepnaaGreatDoorS1
import Derived.Test.YtbbjfebdihepnaaGreatDoorS2
namespace Go.Proofs.YtbbjfebdihepnaaGreatDoor
open Go.RowKit
attribute [local go_sem ↓] Go.wp_at_zero Go.wp_at_succ
namespace Hp
variable {w w' : World} {bh bs bm : Nat} {q : Int} {pg pg' : List (Int × Nat)} {W W' : Int → Int}

theorem Step.cell (s : Sl.Step bs bm pg pg' w w') {p : Addr} {v : Value} (hc : w.cell? p = some v) (hn : ¬ Sl.foot bs bm pg p.block) : w'.cell? p = some v :=
  (World.cell?_of_block (s.kept _ (lt_of_cell hc) hn)).trans hc

/-- A call on the arena, behind what keeps all. -/
theorem K.thenStep {w1 w2 : World} (k : K w w1) (s : Sl.Step bs bm pg pg' w1 w2) : Sl.Step bs bm pg pg' w w2 :=
  ⟨s.os.trans k.os, s.tape.trans k.tape, s.output.trans k.output, Nat.le_trans k.size s.size, fun j hj hf => (s.kept j (Nat.lt_of_lt_of_le hj k.size) hf).trans (k.same j hj (fun x => x)), fun j hj => by
    rcases s.inn j hj with h | h
    · exact Or.inl h
    · exact Or.inr (Nat.le_trans k.size h)⟩
theorem Step.thenK {w1 w2 : World} (s : Sl.Step bs bm pg pg' w w1) (k : K w1 w2) : Sl.Step bs bm pg pg' w w2 := s.trans (K.step bs bm pg' k)

/-- The words behind a head that is written. -/
def hdW (W : Int → Int) (k m t : Int) : Int → Int := Sl.upd (Sl.upd W (64 * k) m) (64 * k + 1) t

theorem nf_new (h : Hw w bh bs bm q pg W) {k : Nat} (hk : w.heap.size ≤ k) : ¬ Sl.foot bs bm pg k := fun hf => by have := h.ar.foot_lt hf; omega

set_option maxRecDepth 100000 in
theorem setHead_any (h : Hw w bh bs bm q pg W) (k m t : Int) (h0 : 0 ≤ k) (h1 : k ≤ 1048575) (hb : (Sl.blk pg k).isSome = true) (hm : Sl.WordOk m) (ht : Sl.WordOk t) :
    Calls Tryz.prog 130 #[hp bh, .int .i64 k, hdV m t] w fun e w' => e = .returned (.tuple #[]) ∧ Hw w' bh bs bm q pg (hdW W k m t) ∧ Sl.Step bs bm pg pg w w' := by
  obtain ⟨w1, hw1⟩ : ∃ w1, w1 = w.alloc (.cells #[.int .u64 m, .int .u64 t] 201) := ⟨_, rfl⟩
  have k1 : K w w1 := by rw [hw1]; exact (K.refl w).alloc _
  have hB1 : w1.heap[w.heap.size]? = some (.cells #[.int .u64 m, .int .u64 t] 201) := by rw [hw1]; exact World.alloc_heap_new _ _
  obtain ⟨f0, f1⟩ := cells2 hB1
  have hw := h.keep k1
  have c0 := hw.c0
  have hd := hw.keep (K.drew (K.refl w1))
  have hn := nf_new h (Nat.le_refl _)
  have wr := Sl.write_ok hd.ar (k * 64) m (by have := readE_in h0 h1 hb 0 (by omega) (by omega); rw [show k * 64 = 64 * k + 0 from by omega]; exact this) hm
  have e1 : IntKind.i64.wrap (k * 64) = k * 64 := wrap_i64 (by omega) (by omega)
  have e2 : IntKind.i64.wrap (k * 64 + 1) = k * 64 + 1 := wrap_i64 (by omega) (by omega)
  have hn2 : ¬ Sl.foot bs bm pg bh := h.nfh
  go_enter Tryz.func130, Tryz.ntmps130
  go_wp2
  rw [← hw1]
  clear hw1
  generalize w.heap.size = B at *
  go_region_held3 (fun w' => w'.cell? ⟨bh, 0, none⟩ = some (.pointer (some ⟨bs, 0, none⟩)) ∧ w'.cell? ⟨B, 0, none⟩ = some (.int .u64 m) ∧ w'.cell? ⟨B, 1, none⟩ = some (.int .u64 t))
    (first | exact ⟨c0, f0, f1⟩ | exact ⟨Step.cell s2 c0 hn2, Step.cell s2 f0 hn, Step.cell s2 f1 hn⟩)
    ((go_at_call 89; refine wr.mono ?_; rintro e w2 ⟨rfl, a2, s2⟩))
  have hh2 := hd.step a2 s2
  have d0 := hh2.c0
  have g1 := Step.cell s2 f1 hn
  have hd2 := hh2.keep (K.drew (K.refl w2))
  have wr2 := Sl.write_ok hd2.ar (k * 64 + 1) t (by have := readE_in h0 h1 hb 1 (by omega) (by omega); rw [show k * 64 + 1 = 64 * k + 1 from by omega]; exact this) ht
  go_wp2
  go_region_held3 (fun w' => w'.cell? ⟨bh, 0, none⟩ = some (.pointer (some ⟨bs, 0, none⟩)) ∧ w'.cell? ⟨B, 1, none⟩ = some (.int .u64 t))
    (first | exact ⟨d0, g1⟩ | exact ⟨Step.cell s3 d0 hn2, Step.cell s3 g1 hn⟩)
    ((go_at_call 89; refine wr2.mono ?_; rintro e w3 ⟨rfl, a3, s3⟩))
  go_wp2
  go_end0
  have hh3 := hd2.step a3 s3
  rw [show k * 64 + 1 = 64 * k + 1 from by omega, show k * 64 = 64 * k from by omega] at hh3
  exact ⟨rfl, hh3, (k1.drew.thenStep s2).trans ((K.drew (K.refl w2)).thenStep s3)⟩

/-- The words of a place are 0, up to its n-th. -/
def wipeW (W : Int → Int) (a : Int) (n : Int) : Int → Int := fun x => if a ≤ x ∧ x < a + n then 0 else W x
theorem wipe_zero (W : Int → Int) (a : Int) : wipeW W a 0 = W := by
  funext x
  simp only [wipeW]
  rw [if_neg (by omega)]
theorem wipe_succ (W : Int → Int) (a n : Int) (h : 0 ≤ n) : Sl.upd (wipeW W a n) (a + n) 0 = wipeW W a (n + 1) := by
  funext x
  simp only [wipeW, Sl.upd]
  by_cases e : x = a + n
  · rw [if_pos e, if_pos (by omega)]
  · rw [if_neg e]
    by_cases e2 : a ≤ x ∧ x < a + n
    · rw [if_pos e2, if_pos (by omega)]
    · rw [if_neg e2, if_neg (by omega)]

set_option maxRecDepth 100000 in
set_option maxHeartbeats 1000000 in
theorem wipe_any (h : Hw w bh bs bm q pg W) (p : Pg) (s : Int) (h0 : 0 ≤ p.n) (h1 : p.n ≤ 1048575) (hr0 : 0 ≤ roomI p) (hr1 : roomI p ≤ 5000) (hw : ∀ i, 0 ≤ i → i < roomI p → Sl.readE pg (addrI p s + i) = 0) :
    Calls Tryz.prog 132 #[hp bh, bkV p s] w fun e w' => e = .returned (.tuple #[]) ∧ Hw w' bh bs bm q pg (wipeW W (addrI p s) (roomI p)) ∧ Sl.Step bs bm pg pg w w' := by
  obtain ⟨w1, hw1⟩ : ∃ w1, w1 = w.alloc (.cells (cellsB p s) 128) := ⟨_, rfl⟩
  have k1 : K w w1 := by rw [hw1]; exact (K.refl w).alloc _
  have hB1 : w1.heap[w.heap.size]? = some (.cells (cellsB p s) 128) := by rw [hw1]; exact World.alloc_heap_new _ _
  have ca := addr_any p s h0 h1 w1
  have cr := fun w => room_any p s w
  have har := at_range p s
  have hin : addrI p s = p.n * 64 + atI p s := rfl
  have b0 : 0 ≤ addrI p s := by omega
  have b1 : addrI p s ≤ 67108928 := by omega
  clear har hin
  generalize addrI p s = A at *
  generalize hR : roomI p = R at *
  clear hR
  obtain ⟨⟨x0, x1, x2, x3, x4, x5, x6⟩, _⟩ := seven hB1
  go_enter Tryz.func132, Tryz.ntmps132
  go_wp2_with fail
  rw [← hw1]
  refine ca.mono ?_
  rintro e w2 ⟨rfl, k2⟩
  obtain ⟨⟨y0, y1, y2, y3, y4, y5, y6⟩, _⟩ := seven (k2.block hB1)
  go_wp2_with fail
  refine (cr _).mono ?_
  rintro e w3 ⟨rfl, k3⟩
  have k3' := (k1.trans k2).trans k3
  clear x0 x1 x2 x3 x4 x5 x6 y0 y1 y2 y3 y4 y5 y6 hw1
  go_wp2
  go_loopw [5, 10] (fun _ i wr => ∃ k : Nat, (k : Int) ≤ R ∧ i = .int .i64 (k : Int) ∧ Hw wr bh bs bm q pg (wipeW W A k) ∧ Sl.Step bs bm pg pg w wr) (fun _ i _ => R.toNat - (intOf i).toNat)
  case atStart => exact ⟨0, by omega, rfl, by rw [show ((0 : Nat) : Int) = 0 from rfl, wipe_zero]; exact h.keep k3', K.step bs bm pg k3'⟩
  case round =>
    obtain ⟨k, hk, rfl, hh, hs⟩ := hrel
    by_cases hlt : (k : Int) < R
    · have c0 := hh.c0
      have wr1 := Sl.write_ok hh.ar (A + k) 0 (hw k (by omega) hlt) Sl.wordOk_zero
      rw [wipe_succ W A k (by omega)] at wr1
      go_wp2_with (go_at_call 89; refine wr1.mono ?_; rintro e w4 ⟨rfl, a4, s4⟩)
      go_roundw
      case rel => exact ⟨k + 1, by omega, by go_num, hh.step a4 s4, hs.trans s4⟩
      case measure => simp [intOf]; omega
    · have e : (k : Int) = R := by omega
      go_wp2
      go_end0
      rw [← e]
      exact ⟨rfl, hh, hs⟩

end Hp
end Go.Proofs.YtbbjfebdihepnaaGreatDoor

/-
  Walks of package heap's take and leave: a slot is taken, a slot is free again.
-/
namespace Go.Proofs.YtbbjfebdihepnaaGreatDoor
open Go.RowKit
attribute [local go_sem ↓] Go.wp_at_zero Go.wp_at_succ
namespace Hp
variable {w w' : World} {bh bs bm : Nat} {q : Int} {pg pg' : List (Int × Nat)} {W W' : Int → Int}

theorem ok_of_U {a : Int} (h : Bt.U a) : Sl.WordOk a := by
  have h0 := h.1
  have h1 := h.2
  simp only [Sl.WordOk, Lit.wf, IntKind.min, IntKind.max, IntKind.signed, IntKind.bits, Bool.and_eq_true]
  simp
  omega
theorem ok_head {c : Int} (h0 : 0 ≤ c) (h1 : c ≤ 1000) : Sl.WordOk (1 + 256 * c) := ok_of_U ⟨by omega, by omega⟩

theorem run_held (w : World) (m x : Int) : (Instr.field 201 (hdV m x) 1).run Tryz.prog w = .ok (.int .u64 x) w := by kernel_rfl

set_option maxRecDepth 100000 in
theorem take_any (h : Hw w bh bs bm q pg W) (p : Pg) (s : Int) (h0 : 0 ≤ p.n) (h1 : p.n ≤ 1048575) (hb : (Sl.blk pg p.n).isSome = true) (hc0 : 0 ≤ p.cls) (hc1 : p.cls ≤ 7) (hU : Bt.U p.taken) (hs : Bt.N s) :
    Calls Tryz.prog 155 #[hp bh, bkV p s] w fun e w' => e = .returned (.tuple #[]) ∧ Hw w' bh bs bm q pg (hdW W p.n (1 + 256 * p.cls) (Bt.setI p.taken s)) ∧ Sl.Step bs bm pg pg w w' := by
  obtain ⟨w1, hw1⟩ : ∃ w1, w1 = w.alloc (.cells (cellsB p s) 128) := ⟨_, rfl⟩
  have k1 : K w w1 := by rw [hw1]; exact (K.refl w).alloc _
  have hB1 : w1.heap[w.heap.size]? = some (.cells (cellsB p s) 128) := by rw [hw1]; exact World.alloc_heap_new _ _
  obtain ⟨⟨x0, x1, x2, x3, x4, x5, x6⟩, _⟩ := seven hB1
  have cs := Bt.set_ok p.taken s hU hs w1
  have ch := fun w => smallHead_any p.cls (Bt.setI p.taken s) hc0 (by omega) w
  have hw := h.keep k1
  have st := fun w2 (kk : K w1.drew w2) => setHead_any ((hw.keep (K.drew (K.refl w1))).keep kk) p.n (1 + 256 * p.cls) (Bt.setI p.taken s) h0 h1 hb (ok_head hc0 (by omega)) (ok_of_U (Bt.setI_U hU hs))
  have hn := nf_new h (Nat.le_refl _)
  generalize Bt.setI p.taken s = t at *
  go_enter Tryz.func155, Tryz.ntmps155
  go_wp2_with fail
  rw [← hw1]
  refine cs.mono ?_
  rintro e w' ⟨rfl, rfl⟩
  clear hw1
  generalize w.heap.size = B at *
  go_wp2
  go_region_held3 (fun w' => w'.cell? ⟨B, 0, none⟩ = some (.int .i64 p.n) ∧ w'.cell? ⟨B, 2, none⟩ = some (.int .i64 p.cls))
    (first | exact ⟨x0, x2⟩ | exact ⟨Step.cell s3 (k2.cell x0) hn, Step.cell s3 (k2.cell x2) hn⟩ | exact ⟨k2.cell x0, k2.cell x2⟩)
    (first | (go_at_call 131; refine (ch _).mono ?_; rintro e w2 ⟨rfl, k2⟩) | (go_at_call 130; refine (st _ k2).mono ?_; rintro e w3 ⟨rfl, a3, s3⟩))
  go_wp2
  go_end0
  exact ⟨rfl, a3, ((k1.drew).trans k2).thenStep s3⟩

set_option maxRecDepth 100000 in
theorem leave_none (h : Hw w bh bs bm q pg W) (p : Pg) (s : Int) (h0 : 0 ≤ p.n) (h1 : p.n ≤ 1048575) (hb : (Sl.blk pg p.n).isSome = true) (hs : Bt.N s) (hz : Bt.clrI (W (64 * p.n + 1)) s = 0) :
    Calls Tryz.prog 93 #[hp bh, bkV p s] w fun e w' => e = .returned (.tuple #[]) ∧ ∃ pg', Sl.Gone pg pg' p.n 1 ∧ Hw w' bh bs bm q pg' (Sl.zr W p.n 1) ∧ Sl.Step bs bm pg pg' w w' := by
  obtain ⟨w1, hw1⟩ : ∃ w1, w1 = w.alloc (.cells (cellsB p s) 128) := ⟨_, rfl⟩
  have k1 : K w w1 := by rw [hw1]; exact (K.refl w).alloc _
  have hB1 : w1.heap[w.heap.size]? = some (.cells (cellsB p s) 128) := by rw [hw1]; exact World.alloc_heap_new _ _
  obtain ⟨⟨x0, x1, x2, x3, x4, x5, x6⟩, _⟩ := seven hB1
  have hw := h.keep k1
  have hwd := hw.keep (K.drew (K.refl w1))
  have ho := headOf_any hwd p.n h0 h1 hb
  have uh := U_of_ok (h.ar.ww (64 * p.n + 1))
  have cc := fun w => Bt.clr_ok (W (64 * p.n + 1)) s uh hs w
  rw [hz] at cc
  have hn := nf_new h (Nat.le_refl _)
  have hrel : Sl.relE pg p.n 1 = 0 := by
    have a1 : Sl.isPageB p.n = true := by simp [Sl.isPageB]; omega
    have a2 : Sl.isPageB (p.n + 1 - 1) = true := by simp [Sl.isPageB]; omega
    have a3 : Sl.allIn pg p.n (1 : Int).toNat = true := Sl.allIn_iff.2 fun i hi => by
      obtain rfl : i = 0 := by have : (1 : Int).toNat = 1 := rfl; omega
      simpa using hb
    unfold Sl.relE
    rw [if_pos ⟨a1, by decide, a2⟩, if_pos a3]
  generalize W (64 * p.n + 1) = x at *
  generalize W (64 * p.n) = m at *
  have qf := fun w => run_held w m x
  go_enter Tryz.func93, Tryz.ntmps93
  go_wp2
  rw [← hw1]
  clear hw1
  generalize w.heap.size = B at *
  go_region_held3 (fun w' => w'.cell? ⟨B, 0, none⟩ = some (.int .i64 p.n) ∧ w'.cell? ⟨B, 6, none⟩ = some (.int .i64 s))
    (first | exact ⟨x0, x6⟩ | exact ⟨k2.cell x0, k2.cell x6⟩)
    (first | (go_at_call 129; refine ho.mono ?_; rintro e w2 ⟨rfl, k2⟩) | (go_at_call 128; refine (cc _).mono ?_; rintro e w' ⟨rfl, rfl⟩))
  have hw2 := hwd.keep k2
  have hw2d := hw2.keep (K.drew (K.refl w2))
  have y0 := k2.cell x0
  have c0 := hw2.c0
  have rl := Sl.release_ok hw2d.ar p.n 1 hrel
  have hn2 := h.nfh
  go_wp2
  go_region_held3 (fun w' => w'.cell? ⟨bh, 0, none⟩ = some (.pointer (some ⟨bs, 0, none⟩)) ∧ w'.cell? ⟨B, 0, none⟩ = some (.int .i64 p.n))
    (first | exact ⟨c0, y0⟩ | exact ⟨Step.cell s3 c0 hn2, Step.cell s3 y0 hn⟩)
    (first | (go_at_call 92; refine rl.mono ?_; rintro e w3 ⟨rfl, pg3, g3, a3, s3⟩))
  go_wp2
  refine bodyPost_ret (results_none rfl _ _ _) rfl ?_
  exact ⟨rfl, pg3, g3, hw2d.step a3 s3, (((k1.drew).trans k2).drew).thenStep s3⟩

set_option maxRecDepth 100000 in
theorem leave_some (h : Hw w bh bs bm q pg W) (p : Pg) (s : Int) (h0 : 0 ≤ p.n) (h1 : p.n ≤ 1048575) (hb : (Sl.blk pg p.n).isSome = true) (hc0 : 0 ≤ p.cls) (hc1 : p.cls ≤ 7) (hs : Bt.N s) (hz : Bt.clrI (W (64 * p.n + 1)) s ≠ 0)
    (hr0 : 0 ≤ roomI p) (hr1 : roomI p ≤ 5000) (hwr : ∀ i, 0 ≤ i → i < roomI p → Sl.readE pg (addrI p s + i) = 0) :
    Calls Tryz.prog 93 #[hp bh, bkV p s] w fun e w' => e = .returned (.tuple #[]) ∧ Hw w' bh bs bm q pg (wipeW (hdW W p.n (1 + 256 * p.cls) (Bt.clrI (W (64 * p.n + 1)) s)) (addrI p s) (roomI p)) ∧ Sl.Step bs bm pg pg w w' := by
  obtain ⟨w1, hw1⟩ : ∃ w1, w1 = w.alloc (.cells (cellsB p s) 128) := ⟨_, rfl⟩
  have k1 : K w w1 := by rw [hw1]; exact (K.refl w).alloc _
  have hB1 : w1.heap[w.heap.size]? = some (.cells (cellsB p s) 128) := by rw [hw1]; exact World.alloc_heap_new _ _
  obtain ⟨⟨x0, x1, x2, x3, x4, x5, x6⟩, _⟩ := seven hB1
  have hw := h.keep k1
  have hwd := hw.keep (K.drew (K.refl w1))
  have ho := headOf_any hwd p.n h0 h1 hb
  have uh := U_of_ok (h.ar.ww (64 * p.n + 1))
  have cc := fun w => Bt.clr_ok (W (64 * p.n + 1)) s uh hs w
  have hn := nf_new h (Nat.le_refl _)
  have ch := fun w => smallHead_any p.cls (Bt.clrI (W (64 * p.n + 1)) s) hc0 (by omega) w
  have st := fun w2 (kk : K w1.drew w2) => setHead_any (hwd.keep kk) p.n (1 + 256 * p.cls) (Bt.clrI (W (64 * p.n + 1)) s) h0 h1 hb (ok_head hc0 (by omega)) (ok_of_U (Bt.clrI_U uh))
  have hz' : (Bt.clrI (W (64 * p.n + 1)) s == 0) = false := by simpa using hz
  generalize W (64 * p.n + 1) = x at *
  generalize Bt.clrI x s = t at *
  generalize W (64 * p.n) = m at *
  clear hz
  have qf := fun w => run_held w m x
  go_enter Tryz.func93, Tryz.ntmps93
  go_wp2
  rw [← hw1]
  clear hw1
  generalize w.heap.size = B at *
  go_region_held3 (fun w' => w'.cell? ⟨B, 0, none⟩ = some (.int .i64 p.n) ∧ w'.cell? ⟨B, 6, none⟩ = some (.int .i64 s))
    (first | exact ⟨x0, x6⟩ | exact ⟨k2.cell x0, k2.cell x6⟩)
    (first | (go_at_call 129; refine ho.mono ?_; rintro e w2 ⟨rfl, k2⟩) | (go_at_call 128; refine (cc _).mono ?_; rintro e w' ⟨rfl, rfl⟩))
  have y0 := k2.cell x0
  have y2 := k2.cell x2
  have k2d := K.drew k2
  go_wp2
  go_region_held3 (fun w' => w'.cell? ⟨B, 0, none⟩ = some (.int .i64 p.n) ∧ w'.cell? ⟨B, 2, none⟩ = some (.int .i64 p.cls))
    (first | exact ⟨y0, y2⟩ | exact ⟨Step.cell s4 (k3.cell y0) hn, Step.cell s4 (k3.cell y2) hn⟩ | exact ⟨k3.cell y0, k3.cell y2⟩)
    (first | (go_at_call 131; refine (ch _).mono ?_; rintro e w3 ⟨rfl, k3⟩) | (go_at_call 130; refine (st _ (k2d.trans k3)).mono ?_; rintro e w4 ⟨rfl, a4, s4⟩))
  have hB4 : w4.heap[B]? = some (.cells (cellsB p s) 128) := (s4.kept B (lt_of_cell (k3.cell y0)) hn).trans (k3.block (k2.block hB1))
  obtain ⟨⟨z0, z1, z2, z3, z4, z5, z6⟩, _⟩ := seven hB4
  have wp := wipe_any a4 p s h0 h1 hr0 hr1 hwr
  go_wp2_with fail
  refine wp.mono ?_
  rintro e w5 ⟨rfl, a5, s5⟩
  go_wp2
  go_end0
  exact ⟨rfl, a5, ((((k1.drew).trans k2).drew).trans k3).thenStep s4 |>.trans s5⟩

end Hp
end Go.Proofs.YtbbjfebdihepnaaGreatDoor

/-
  Pages with right heads, as a list: what they are, and that 'heads' tells just them. No program.
-/
namespace Go.Proofs.YtbbjfebdihepnaaGreatDoor
namespace Hp

/-- A right entry: a page of small places with a taken slot, or a large block. -/
def Ent (p : Pg) : Prop :=
  (p.kind = 1 ∧ 0 ≤ p.cls ∧ p.cls ≤ 7 ∧ p.taken ≠ 0 ∧ Bt.U p.taken ∧ Bt.cutI (Cl.sloI p.cls) p.taken = p.taken ∧ p.words = 0 ∧ p.span = 1) ∨
  (p.kind = 2 ∧ p.cls = 0 ∧ p.taken = 0 ∧ 1 ≤ p.words ∧ p.words ≤ 4000 ∧ Cl.smaI p.words = false ∧ p.span = Cl.pagI p.words)

def markI (p : Pg) : Int := if p.kind = 1 then 1 + 256 * p.cls else 2 + 256 * p.span
def heldI (p : Pg) : Int := if p.kind = 1 then p.taken else p.words

theorem errC_in {c : Int} (h0 : 0 ≤ c) (h1 : c ≤ 7) : Cl.errC c = 0 := by
  rcases Cl.siz_cases c with ⟨_, _, a, _⟩ | ⟨_, _, a, _⟩ | ⟨_, _, a, _⟩ | ⟨_, _, a, _⟩ | ⟨_, _, a, _⟩ | ⟨_, _, a, _⟩ | ⟨_, _, a, _⟩ | ⟨_, _, a, _⟩ | ⟨a, _, _, _⟩
  case inr.inr.inr.inr.inr.inr.inr.inr => exact absurd ⟨h0, h1⟩ a
  all_goals exact a

theorem Ent.span {p : Pg} (h : Ent p) : 1 ≤ p.span ∧ p.span ≤ 63 := by
  rcases h with ⟨_, _, _, _, _, _, _, hs⟩ | ⟨_, _, _, h0, h1, _, hs⟩
  · omega
  · rw [hs]
    exact pag_range h0 h1
theorem Ent.kind {p : Pg} (h : Ent p) : p.kind = 1 ∨ p.kind = 2 := by
  rcases h with ⟨h, _⟩ | ⟨h, _⟩
  · exact .inl h
  · exact .inr h

/-- A right entry is what the page's head says, if its words say so. -/
theorem look_ent {pg : List (Int × Nat)} {W : Int → Int} {p : Pg} (he : Ent p) (hm : W (64 * p.n) = markI p) (hh : W (64 * p.n + 1) = heldI p) (ha : p.kind = 2 → Sl.allIn pg p.n p.span.toNat = true) : look pg W p.n = p := by
  obtain ⟨n, kd, c, t, x, s⟩ := p
  unfold look
  rw [hm, hh]
  rcases he with ⟨h1, h2, h3, h4, h5, h6, h7, h8⟩ | ⟨h1, h2, h3, h4, h5, h6, h7⟩
  · dsimp only at h1 h2 h3 h4 h5 h6 h7 h8
    subst h1 h7 h8
    have e1 : markI ⟨n, 1, c, t, 0, 1⟩ = 1 + 256 * c := rfl
    have e2 : heldI ⟨n, 1, c, t, 0, 1⟩ = t := rfl
    rw [e1, e2]
    have e3 : (1 + 256 * c) / 256 = c := by omega
    have hk : classOk (1 + 256 * c) t = true := by
      unfold classOk
      rw [e3, h6, errC_in h2 h3]
      simp [h4]
    rw [if_pos hk, e3]
  · dsimp only at h1 h2 h3 h4 h5 h6 h7 ha
    subst h1 h2 h3
    have e1 : markI ⟨n, 2, 0, 0, x, s⟩ = 2 + 256 * s := rfl
    have e2 : heldI ⟨n, 2, 0, 0, x, s⟩ = x := rfl
    rw [e1, e2]
    have hk : ¬ classOk (2 + 256 * s) x = true := fun h => by
      obtain ⟨_, _, h, _⟩ := classOk_inv h
      omega
    rw [if_neg hk]
    have hl : (largeOk (2 + 256 * s) x && Sl.allIn pg n (Cl.pagI x).toNat) = true := by
      unfold largeOk
      rw [h6, decide_eq_true (show 1 ≤ x ∧ x ≤ 4000 from ⟨h4, h5⟩), ← h7, ha rfl]
      simp
    rw [if_pos hl, h7]

def Srt (L : List Pg) : Prop := L.Pairwise fun p r => p.n + p.span ≤ r.n
/-- A page is of one of the entries. -/
def In (L : List Pg) (k : Int) : Prop := ∃ p ∈ L, p.n ≤ k ∧ k < p.n + p.span

theorem scan_eq (f : Int → Pg) : ∀ (ks : List Int) (L : List Pg) (b : Int), ks.Pairwise (fun x y => x < y) → Srt L → (∀ p ∈ L, 1 ≤ p.span) → (∀ p ∈ L, f p.n = p) → (∀ p ∈ L, b ≤ p.n) → (∀ k ∈ ks, k < b ∨ In L k) → (∀ k, In L k → k ∈ ks) → scan f ks b = L := by
  intro ks
  induction ks with
  | nil =>
    intro L b _ _ hs _ _ _ hin
    cases L with
    | nil => rfl
    | cons p r =>
      have h1 := hs p (by simp)
      have := hin p.n ⟨p, by simp, by omega, by omega⟩
      cases this
  | cons k r ih =>
    intro L b hk hL hs hf hb hc hin
    obtain ⟨hk1, hk2⟩ := List.pairwise_cons.1 hk
    by_cases hlt : k < b
    · rw [scan_skip _ _ _ _ hlt]
      refine ih L b hk2 hL hs hf hb (fun j hj => hc j (List.mem_cons_of_mem _ hj)) (fun j hj => ?_)
      rcases List.mem_cons.1 (hin j hj) with rfl | h
      · obtain ⟨p, hp, h1, _⟩ := hj
        have := hb p hp
        omega
      · exact h
    · rw [scan_take _ _ _ _ hlt]
      have hin0 : In L k := by
        rcases hc k (by simp) with h | h
        · exact absurd h hlt
        · exact h
      cases L with
      | nil =>
        obtain ⟨p, hp, _⟩ := hin0
        cases hp
      | cons p0 L' =>
        obtain ⟨hp1, hp2⟩ := List.pairwise_cons.1 hL
        have hs0 := hs p0 (by simp)
        have hkn : k = p0.n := by
          rcases List.mem_cons.1 (hin p0.n ⟨p0, by simp, by omega, by omega⟩) with h | h
          · exact h.symm
          · have h1 := hk1 _ h
            obtain ⟨p, hp, h2, h3⟩ := hin0
            rcases List.mem_cons.1 hp with rfl | hp
            · omega
            · have := hp1 p hp
              omega
        have hf0 := hf p0 (by simp)
        rw [hkn, hf0]
        congr 1
        refine ih L' _ hk2 hp2 (fun p hp => hs p (List.mem_cons_of_mem _ hp)) (fun p hp => hf p (List.mem_cons_of_mem _ hp)) (fun p hp => hp1 p hp) (fun j hj => ?_) (fun j hj => ?_)
        · have h1 := hk1 j hj
          rcases hc j (List.mem_cons_of_mem _ hj) with h | ⟨p, hp, h2, h3⟩
          · omega
          · rcases List.mem_cons.1 hp with rfl | hp
            · exact .inl h3
            · exact .inr ⟨p, hp, h2, h3⟩
        · obtain ⟨p, hp, h2, h3⟩ := hj
          have h4 := hp1 p hp
          rcases List.mem_cons.1 (hin j ⟨p, List.mem_cons_of_mem _ hp, h2, h3⟩) with h | h
          · omega
          · exact h

/-- The arena's pages are these entries'. -/
structure Lay (pg : List (Int × Nat)) (W : Int → Int) (L : List Pg) : Prop where
  ent : ∀ p ∈ L, Ent p
  m : ∀ p ∈ L, W (64 * p.n) = markI p
  h : ∀ p ∈ L, W (64 * p.n + 1) = heldI p
  srt : Srt L
  cov : ∀ k, (Sl.blk pg k).isSome = true ↔ In L k

section
variable {pg : List (Int × Nat)} {W W' : Int → Int} {L : List Pg}

theorem Lay.has (l : Lay pg W L) {p : Pg} (hp : p ∈ L) (i : Int) (h0 : 0 ≤ i) (h1 : i < p.span) : (Sl.blk pg (p.n + i)).isSome = true := (l.cov _).2 ⟨p, hp, by omega, by omega⟩
theorem Lay.has0 (l : Lay pg W L) {p : Pg} (hp : p ∈ L) : (Sl.blk pg p.n).isSome = true := by
  have := (l.ent p hp).span
  have h := l.has hp 0 (by omega) (by omega)
  simpa using h

theorem Lay.look (l : Lay pg W L) {p : Pg} (hp : p ∈ L) : look pg W p.n = p :=
  look_ent (l.ent p hp) (l.m p hp) (l.h p hp) fun _ => Sl.allIn_iff.2 fun i hi => l.has hp i (by omega) (by have := (l.ent p hp).span; omega)

theorem mem_keys {k : Int} : k ∈ pg.map (fun p => p.1) ↔ (Sl.blk pg k).isSome = true := by
  constructor
  · intro h
    obtain ⟨p, hp, rfl⟩ := List.mem_map.1 h
    cases hb : Sl.blk pg p.1 with
    | some _ => rfl
    | none => exact absurd rfl (Sl.blk_none_iff.1 hb p hp)
  · intro h
    obtain ⟨b, hb⟩ := Option.isSome_iff_exists.1 h
    exact List.mem_map.2 ⟨_, Sl.blk_mem hb, rfl⟩

theorem Lay.range (l : Lay pg W L) (hr : ∀ p ∈ pg, 0 ≤ p.1 ∧ p.1 ≤ 1048575) {p : Pg} (hp : p ∈ L) (i : Int) (h0 : 0 ≤ i) (h1 : i < p.span) : 0 ≤ p.n + i ∧ p.n + i ≤ 1048575 := by
  obtain ⟨x, hx, e⟩ := List.mem_map.1 (mem_keys.2 (l.has hp i h0 h1))
  rw [← e]
  exact hr x hx

theorem Lay.heads (l : Lay pg W L) (hs : Sl.Rising pg) (hr : ∀ p ∈ pg, 0 ≤ p.1 ∧ p.1 ≤ 1048575) : heads pg W = L := by
  refine scan_eq _ _ L 0 ?_ l.srt (fun p hp => (l.ent p hp).span.1) (fun p hp => l.look hp) (fun p hp => ?_) (fun k hk => ?_) (fun k hk => ?_)
  · rw [List.pairwise_map]
    exact hs
  · have := (l.ent p hp).span
    have := l.range hr hp 0 (by omega) (by omega)
    omega
  · exact .inr ((l.cov k).1 (mem_keys.1 hk))
  · exact mem_keys.2 ((l.cov k).2 hk)

theorem Lay.nil (W : Int → Int) : Lay [] W [] :=
  ⟨fun _ h => (by cases h), fun _ h => (by cases h), fun _ h => (by cases h), List.Pairwise.nil, fun k => ⟨fun h => (by simp [Sl.blk_nil] at h), fun ⟨_, h, _⟩ => (by cases h)⟩⟩

/-- Two entries are apart. -/
theorem srt_apart {L : List Pg} (hs : Srt L) {p r : Pg} (hp : p ∈ L) (hr : r ∈ L) (hne : p ≠ r) : p.n + p.span ≤ r.n ∨ r.n + r.span ≤ p.n := by
  induction L with
  | nil => cases hp
  | cons x l ih =>
    obtain ⟨h1, h2⟩ := List.pairwise_cons.1 hs
    rcases List.mem_cons.1 hp with rfl | hp'
    · rcases List.mem_cons.1 hr with rfl | hr'
      · exact absurd rfl hne
      · exact .inl (h1 r hr')
    · rcases List.mem_cons.1 hr with rfl | hr'
      · exact .inr (h1 p hp')
      · exact ih h2 hp' hr'
theorem Lay.inj (l : Lay pg W L) {p r : Pg} (hp : p ∈ L) (hr : r ∈ L) (e : p.n = r.n) : p = r := by
  by_cases hne : p = r
  · exact hne
  · have h1 := (l.ent p hp).span
    have h2 := (l.ent r hr).span
    rcases srt_apart l.srt hp hr hne with h | h <;> omega

/-- Only words that are no head's turn. -/
theorem Lay.words (l : Lay pg W L) (h : ∀ p ∈ L, W' (64 * p.n) = W (64 * p.n) ∧ W' (64 * p.n + 1) = W (64 * p.n + 1)) : Lay pg W' L :=
  ⟨l.ent, fun p hp => (h p hp).1.trans (l.m p hp), fun p hp => (h p hp).2.trans (l.h p hp), l.srt, l.cov⟩

/-- One entry turns. -/
def updL (L : List Pg) (n : Int) (p' : Pg) : List Pg := L.map fun r => if r.n = n then p' else r
theorem mem_upd {n : Int} {p' r : Pg} (h : r ∈ updL L n p') : r = p' ∨ (r ∈ L ∧ r.n ≠ n) := by
  obtain ⟨x, hx, rfl⟩ := List.mem_map.1 h
  split
  · exact .inl rfl
  · rename_i hn
    exact .inr ⟨hx, hn⟩

theorem Lay.upd (l : Lay pg W L) {p p' : Pg} (hp : p ∈ L) (hn : p'.n = p.n) (hs : p'.span = p.span) (he : Ent p') (hm : W' (64 * p.n) = markI p') (hh : W' (64 * p.n + 1) = heldI p')
    (ho : ∀ r ∈ L, r.n ≠ p.n → W' (64 * r.n) = W (64 * r.n) ∧ W' (64 * r.n + 1) = W (64 * r.n + 1)) : Lay pg W' (updL L p.n p') := by
  have hin : ∀ k, In (updL L p.n p') k ↔ In L k := fun k => by
    constructor
    · rintro ⟨r, hr, h1, h2⟩
      rcases mem_upd hr with rfl | ⟨h3, _⟩
      · exact ⟨p, hp, by omega, by omega⟩
      · exact ⟨r, h3, h1, h2⟩
    · rintro ⟨r, hr, h1, h2⟩
      by_cases e : r.n = p.n
      · have := l.inj hr hp e
        subst this
        exact ⟨p', List.mem_map.2 ⟨r, hr, by rw [if_pos rfl]⟩, by omega, by omega⟩
      · exact ⟨r, List.mem_map.2 ⟨r, hr, by rw [if_neg e]⟩, h1, h2⟩
  refine ⟨fun r hr => ?_, fun r hr => ?_, fun r hr => ?_, ?_, fun k => (l.cov k).trans (hin k).symm⟩
  · rcases mem_upd hr with rfl | ⟨h3, _⟩
    · exact he
    · exact l.ent r h3
  · rcases mem_upd hr with rfl | ⟨h3, h4⟩
    · rw [hn]; exact hm
    · exact (ho r h3 h4).1.trans (l.m r h3)
  · rcases mem_upd hr with rfl | ⟨h3, h4⟩
    · rw [hn]; exact hh
    · exact (ho r h3 h4).2.trans (l.h r h3)
  · unfold Srt updL
    rw [List.pairwise_map]
    refine List.Pairwise.imp_of_mem (fun {a b} ha hb hab => ?_) l.srt
    have e : ∀ x ∈ L, (if x.n = p.n then p' else x).n = x.n ∧ (if x.n = p.n then p' else x).span = x.span := fun x hx => by
      split
      · rename_i hx2
        have := l.inj hx hp hx2
        subst this
        exact ⟨hn, hs⟩
      · exact ⟨rfl, rfl⟩
    rw [(e a ha).1, (e a ha).2, (e b hb).1]
    exact hab

/-- An entry goes. -/
def delL (L : List Pg) (n : Int) : List Pg := L.filter fun r => !(r.n == n)
theorem mem_delL {n : Int} {r : Pg} : r ∈ delL L n ↔ r ∈ L ∧ r.n ≠ n := by simp [delL]

theorem Lay.del (l : Lay pg W L) {pg' : List (Int × Nat)} {p : Pg} (hp : p ∈ L) (hg : ∀ k, (Sl.blk pg' k).isSome = true ↔ (Sl.blk pg k).isSome = true ∧ ¬ (p.n ≤ k ∧ k < p.n + p.span))
    (ho : ∀ r ∈ L, r.n ≠ p.n → W' (64 * r.n) = W (64 * r.n) ∧ W' (64 * r.n + 1) = W (64 * r.n + 1)) : Lay pg' W' (delL L p.n) := by
  refine ⟨fun r hr => l.ent r (mem_delL.1 hr).1, fun r hr => ?_, fun r hr => ?_, l.srt.filter _, fun k => ?_⟩
  · obtain ⟨h1, h2⟩ := mem_delL.1 hr
    exact (ho r h1 h2).1.trans (l.m r h1)
  · obtain ⟨h1, h2⟩ := mem_delL.1 hr
    exact (ho r h1 h2).2.trans (l.h r h1)
  · rw [hg k, l.cov k]
    constructor
    · rintro ⟨⟨r, hr, h1, h2⟩, h3⟩
      refine ⟨r, mem_delL.2 ⟨hr, fun e => h3 ?_⟩, h1, h2⟩
      have := l.inj hr hp e
      subst this
      exact ⟨h1, h2⟩
    · rintro ⟨r, hr, h1, h2⟩
      obtain ⟨h3, h4⟩ := mem_delL.1 hr
      refine ⟨⟨r, h3, h1, h2⟩, fun ⟨h5, h6⟩ => ?_⟩
      have hne : r ≠ p := fun e => h4 (by rw [e])
      rcases srt_apart l.srt h3 hp hne with h | h <;> omega

/-- An entry comes. -/
def insL (p : Pg) : List Pg → List Pg
  | [] => [p]
  | r :: l => if p.n < r.n then p :: r :: l else r :: insL p l
theorem mem_insL {p r : Pg} : ∀ {L : List Pg}, r ∈ insL p L ↔ r = p ∨ r ∈ L
  | [] => by simp [insL]
  | x :: l => by
    unfold insL
    split
    · simp
    · simp only [List.mem_cons, mem_insL (L := l)]
      constructor
      · rintro (h | h | h)
        · exact .inr (.inl h)
        · exact .inl h
        · exact .inr (.inr h)
      · rintro (h | h | h)
        · exact .inr (.inl h)
        · exact .inl h
        · exact .inr (.inr h)
theorem srt_ins {p : Pg} : ∀ {L : List Pg}, Srt L → (∀ r ∈ L, 1 ≤ r.span) → (∀ r ∈ L, p.n + p.span ≤ r.n ∨ r.n + r.span ≤ p.n) → 1 ≤ p.span → Srt (insL p L)
  | [], _, _, _, _ => List.pairwise_singleton _ _
  | x :: l, hs, h1, h2, h3 => by
    obtain ⟨a, b⟩ := List.pairwise_cons.1 hs
    have hx := h2 x (by simp)
    have hx1 := h1 x (by simp)
    unfold insL
    split
    · rename_i hlt
      refine List.pairwise_cons.2 ⟨fun r hr => ?_, hs⟩
      rcases List.mem_cons.1 hr with rfl | hr
      · omega
      · have := a r hr
        omega
    · rename_i hlt
      refine List.pairwise_cons.2 ⟨fun r hr => ?_, srt_ins b (fun r hr => h1 r (List.mem_cons_of_mem _ hr)) (fun r hr => h2 r (List.mem_cons_of_mem _ hr)) h3⟩
      rcases mem_insL.1 hr with rfl | hr
      · omega
      · exact a r hr

theorem Lay.ins (l : Lay pg W L) {pg' : List (Int × Nat)} {p : Pg} (he : Ent p) (hg : ∀ k, (Sl.blk pg' k).isSome = true ↔ (Sl.blk pg k).isSome = true ∨ (p.n ≤ k ∧ k < p.n + p.span)) (hf : ∀ k, p.n ≤ k → k < p.n + p.span → Sl.blk pg k = none)
    (hm : W' (64 * p.n) = markI p) (hh : W' (64 * p.n + 1) = heldI p) (ho : ∀ r ∈ L, r.n ≠ p.n → W' (64 * r.n) = W (64 * r.n) ∧ W' (64 * r.n + 1) = W (64 * r.n + 1)) : Lay pg' W' (insL p L) := by
  have hsp := he.span
  have hap : ∀ r ∈ L, p.n + p.span ≤ r.n ∨ r.n + r.span ≤ p.n := fun r hr => by
    have hs := (l.ent r hr).span
    by_cases h1 : p.n + p.span ≤ r.n
    · exact .inl h1
    · refine .inr ?_
      by_cases h2 : r.n + r.span ≤ p.n
      · exact h2
      · exfalso
        by_cases h3 : p.n ≤ r.n
        · have := l.has hr 0 (by omega) (by omega)
          rw [hf (r.n + 0) (by omega) (by omega)] at this
          cases this
        · have := l.has hr (p.n - r.n) (by omega) (by omega)
          rw [hf (r.n + (p.n - r.n)) (by omega) (by omega)] at this
          cases this
  have hne : ∀ r ∈ L, r.n ≠ p.n := fun r hr e => by
    have hs := (l.ent r hr).span
    have := hap r hr
    omega
  refine ⟨fun r hr => ?_, fun r hr => ?_, fun r hr => ?_, srt_ins l.srt (fun r hr => (l.ent r hr).span.1) hap hsp.1, fun k => ?_⟩
  · rcases mem_insL.1 hr with rfl | hr
    · exact he
    · exact l.ent r hr
  · rcases mem_insL.1 hr with rfl | hr
    · exact hm
    · exact (ho r hr (hne r hr)).1.trans (l.m r hr)
  · rcases mem_insL.1 hr with rfl | hr
    · exact hh
    · exact (ho r hr (hne r hr)).2.trans (l.h r hr)
  · rw [hg k, l.cov k]
    constructor
    · rintro (⟨r, hr, h1, h2⟩ | ⟨h1, h2⟩)
      · exact ⟨r, mem_insL.2 (.inr hr), h1, h2⟩
      · exact ⟨p, mem_insL.2 (.inl rfl), h1, h2⟩
    · rintro ⟨r, hr, h1, h2⟩
      rcases mem_insL.1 hr with rfl | hr
      · exact .inr ⟨h1, h2⟩
      · exact .inl ⟨r, hr, h1, h2⟩

end

end Hp
end Go.Proofs.YtbbjfebdihepnaaGreatDoor

/-
  Where a run of pages is granted, told of the entries; and what the calls make of the entries. No program.
-/
namespace Go.Proofs.YtbbjfebdihepnaaGreatDoor
namespace Hp

/-- The least page from f on behind which m pages are of no entry. -/
def fit (m : Int) : Int → List Pg → Int
  | f, [] => f
  | f, p :: r => if f + m ≤ p.n then f else fit m (p.n + p.span) r

theorem fit_spec {m : Int} (hm : 1 ≤ m) : ∀ (L : List Pg) (b : Int), Srt L → (∀ p ∈ L, 1 ≤ p.span) → (∀ p ∈ L, b ≤ p.n) →
    b ≤ fit m b L ∧ (∀ k, fit m b L ≤ k → k < fit m b L + m → ¬ In L k) ∧ (∀ g, b ≤ g → g < fit m b L → ∃ k, g ≤ k ∧ k < g + m ∧ In L k)
  | [], b, _, _, _ => ⟨Int.le_refl _, fun k _ _ ⟨_, h, _⟩ => (by cases h), fun g h1 h2 => (by simp only [fit] at h2; omega)⟩
  | p :: L, b, hs, h1, hb => by
    obtain ⟨a1, a2⟩ := List.pairwise_cons.1 hs
    have hp := h1 p (by simp)
    have hbp := hb p (by simp)
    unfold fit
    by_cases h : b + m ≤ p.n
    · rw [if_pos h]
      refine ⟨Int.le_refl _, fun k hk1 hk2 ⟨r, hr, h2, h3⟩ => ?_, fun g h2 h3 => (by omega)⟩
      rcases List.mem_cons.1 hr with rfl | hr
      · omega
      · have := a1 r hr
        omega
    · rw [if_neg h]
      obtain ⟨i1, i2, i3⟩ := fit_spec hm L (p.n + p.span) a2 (fun r hr => h1 r (List.mem_cons_of_mem _ hr)) (fun r hr => a1 r hr)
      refine ⟨by omega, fun k hk1 hk2 ⟨r, hr, h2, h3⟩ => ?_, fun g h2 h3 => ?_⟩
      · rcases List.mem_cons.1 hr with rfl | hr
        · omega
        · exact i2 k hk1 hk2 ⟨r, hr, h2, h3⟩
      · by_cases hg : p.n + p.span ≤ g
        · obtain ⟨k, k1, k2, r, hr, k3, k4⟩ := i3 g hg h3
          exact ⟨k, k1, k2, r, List.mem_cons_of_mem _ hr, k3, k4⟩
        · by_cases hg2 : p.n ≤ g
          · exact ⟨g, by omega, by omega, p, by simp, hg2, by omega⟩
          · exact ⟨p.n, by omega, by omega, p, by simp, by omega, by omega⟩

section
variable {pg : List (Int × Nat)} {W : Int → Int} {L : List Pg}

theorem Lay.none_iff (l : Lay pg W L) (k : Int) : Sl.blk pg k = none ↔ ¬ In L k := by
  rw [← l.cov k]
  cases Sl.blk pg k <;> simp

/-- The run that is granted is the first that fits. -/
theorem Lay.fit (l : Lay pg W L) (hr : ∀ p ∈ pg, 0 ≤ p.1 ∧ p.1 ≤ 1048575) {m r : Int} (hm : 1 ≤ m) (h : Sl.Least pg m r) : r = fit m 0 L := by
  obtain ⟨i1, i2, i3⟩ := fit_spec hm L 0 l.srt (fun p hp => (l.ent p hp).span.1) (fun p hp => by have := (l.ent p hp).span; have := l.range hr hp 0 (by omega) (by omega); omega)
  rcases Int.lt_trichotomy r (Hp.fit m 0 L) with h1 | h1 | h1
  · obtain ⟨k, k1, k2, k3⟩ := i3 r h.lo h1
    exact absurd k3 ((l.none_iff k).1 (h.run k k1 k2))
  · exact h1
  · exact absurd (fun j h2 h3 => (l.none_iff j).2 (i2 j h2 h3)) (h.least _ i1 h1)

theorem eq_of_rise : ∀ (l m : List Int), l.Pairwise (fun x y => x < y) → m.Pairwise (fun x y => x < y) → (∀ k, k ∈ l ↔ k ∈ m) → l = m
  | [], [], _, _, _ => rfl
  | [], y :: m, _, _, h => by have := (h y).2 (by simp); cases this
  | x :: l, [], _, _, h => by have := (h x).1 (by simp); cases this
  | x :: l, y :: m, h1, h2, h => by
    obtain ⟨a1, a2⟩ := List.pairwise_cons.1 h1
    obtain ⟨b1, b2⟩ := List.pairwise_cons.1 h2
    have e : x = y := by
      rcases List.mem_cons.1 ((h x).1 (by simp)) with e | e
      · exact e
      · have h3 := b1 x e
        rcases List.mem_cons.1 ((h y).2 (by simp)) with e2 | e2
        · exact e2.symm
        · have := a1 y e2
          omega
    subst e
    congr 1
    refine eq_of_rise l m a2 b2 fun k => ?_
    constructor
    · intro hk
      rcases List.mem_cons.1 ((h k).1 (List.mem_cons_of_mem _ hk)) with e | e
      · have := a1 k hk
        omega
      · exact e
    · intro hk
      rcases List.mem_cons.1 ((h k).2 (List.mem_cons_of_mem _ hk)) with e | e
      · have := b1 k hk
        omega
      · exact e

/-- The pages of the entries. -/
def pagesL (L : List Pg) : List Int := L.flatMap fun p => (List.range p.span.toNat).map fun (i : Nat) => p.n + (i : Int)
def granted (L : List Pg) : Int := (L.map fun p => p.span).sum

theorem mem_pagesL {L : List Pg} {k : Int} : k ∈ pagesL L ↔ In L k := by
  unfold pagesL In
  simp only [List.mem_flatMap, List.mem_map, List.mem_range]
  constructor
  · rintro ⟨p, hp, i, hi, rfl⟩
    exact ⟨p, hp, by omega, by omega⟩
  · rintro ⟨p, hp, h1, h2⟩
    exact ⟨p, hp, (k - p.n).toNat, by omega, by omega⟩
theorem pagesL_rise : ∀ {L : List Pg}, Srt L → (∀ p ∈ L, 1 ≤ p.span) → (pagesL L).Pairwise (fun x y => x < y)
  | [], _, _ => List.Pairwise.nil
  | p :: L, hs, h1 => by
    obtain ⟨a1, a2⟩ := List.pairwise_cons.1 hs
    show ((List.range p.span.toNat).map (fun (i : Nat) => p.n + (i : Int)) ++ pagesL L).Pairwise _
    rw [List.pairwise_append]
    refine ⟨?_, pagesL_rise a2 (fun r hr => h1 r (List.mem_cons_of_mem _ hr)), fun x hx y hy => ?_⟩
    · rw [List.pairwise_map]
      exact List.pairwise_lt_range.imp fun h => by omega
    · obtain ⟨i, hi, rfl⟩ := List.mem_map.1 hx
      have hi := List.mem_range.1 hi
      obtain ⟨r, hr, h2, h3⟩ := mem_pagesL.1 hy
      have := a1 r hr
      omega
theorem pagesL_len : ∀ {L : List Pg}, (∀ p ∈ L, 1 ≤ p.span) → ((pagesL L).length : Int) = granted L
  | [], _ => rfl
  | p :: L, h1 => by
    have ih := pagesL_len (L := L) (fun r hr => h1 r (List.mem_cons_of_mem _ hr))
    have hp := h1 p (by simp)
    unfold pagesL granted at *
    simp only [List.flatMap_cons, List.length_append, List.length_map, List.length_range, List.map_cons, List.sum_cons]
    omega

theorem Lay.keys (l : Lay pg W L) (hs : Sl.Rising pg) : pg.map (fun p => p.1) = pagesL L := by
  refine eq_of_rise _ _ ?_ (pagesL_rise l.srt (fun p hp => (l.ent p hp).span.1)) (fun k => ?_)
  · rw [List.pairwise_map]
    exact hs
  · rw [mem_keys, mem_pagesL]
    exact l.cov k
theorem Lay.len (l : Lay pg W L) (hs : Sl.Rising pg) : (pg.length : Int) = granted L := by
  have := congrArg List.length (l.keys hs)
  rw [List.length_map] at this
  rw [this]
  exact pagesL_len (fun p hp => (l.ent p hp).span.1)
end

/-- A new page of small places, its first slot taken; a large block. -/
def smallPg (n c : Int) : Pg := ⟨n, 1, c, 1, 0, 1⟩
def largePg (n x : Int) : Pg := ⟨n, 2, 0, 0, x, Cl.pagI x⟩

theorem ent_smallPg {c : Int} (n : Int) (h0 : 0 ≤ c) (h1 : c ≤ 7) : Ent (smallPg n c) := by
  refine .inl ⟨rfl, h0, h1, show (1 : Int) ≠ 0 by decide, show (0 : Int) ≤ 1 ∧ (1 : Int) ≤ 18446744073709551615 by decide, ?_, rfl, rfl⟩
  show Bt.cutI (Cl.sloI c) 1 = 1
  rcases Cl.siz_cases c with ⟨_, _, _, a⟩ | ⟨_, _, _, a⟩ | ⟨_, _, _, a⟩ | ⟨_, _, _, a⟩ | ⟨_, _, _, a⟩ | ⟨_, _, _, a⟩ | ⟨_, _, _, a⟩ | ⟨_, _, _, a⟩ | ⟨a, _, _, _⟩
  case inr.inr.inr.inr.inr.inr.inr.inr => exact absurd ⟨h0, h1⟩ a
  all_goals rw [a]; decide
theorem ent_largePg {x : Int} (n : Int) (h0 : 1 ≤ x) (h1 : x ≤ 4000) (hs : Cl.smaI x = false) : Ent (largePg n x) := .inr ⟨rfl, rfl, rfl, h0, h1, hs, rfl⟩

end Hp
end Go.Proofs.YtbbjfebdihepnaaGreatDoor

/-
  Slots of a page, and what the calls make of the entries. No program is walked.
-/
namespace Go.Proofs.YtbbjfebdihepnaaGreatDoor
namespace Hp

theorem has_set {t s k : Int} (hs : Bt.N s) (hk : Bt.N k) : Bt.hasI (Bt.setI t s) k = (Bt.hasI t k || decide (k = s)) := by
  have s0 := hs.1
  have k0 := hk.1
  rw [Bt.hasI_N hk, Bt.hasI_N hk, Bt.set_bit]
  congr 1
  by_cases e : k = s
  · subst e; simp
  · rw [decide_eq_false e, decide_eq_false (by omega)]
theorem has_clr {t s k : Int} (hs : Bt.N s) (hk : Bt.N k) : Bt.hasI (Bt.clrI t s) k = (Bt.hasI t k && !decide (k = s)) := by
  have s0 := hs.1
  have k0 := hk.1
  have k1 := hk.2
  rw [Bt.hasI_N hk, Bt.hasI_N hk, Bt.clr_bit hs (by omega)]
  congr 2
  by_cases e : k = s
  · subst e; simp
  · rw [decide_eq_false e, decide_eq_false (by omega)]

theorem N_of {n k : Int} (h0 : 0 ≤ k) (h1 : k < n) (h2 : n ≤ 31) : Bt.N k := ⟨h0, by omega⟩

/-- All of a word's bits are below n. -/
theorem cut_iff {t n : Int} (hU : Bt.U t) (h0 : 0 ≤ n) (h1 : n ≤ 31) : Bt.cutI n t = t ↔ ∀ j : Nat, (n : Int) ≤ j → j < 64 → t.toNat.testBit j = false := by
  have hm := Bt.mN_of n h0 (by omega)
  constructor
  · intro h j hj _
    have := Bt.cut_bit n t j
    rw [h] at this
    rw [this, decide_eq_false (by omega)]
    rfl
  · intro h
    refine Bt.ext (Bt.cutI_U n hU) hU fun j hj => ?_
    rw [Bt.cut_bit]
    by_cases hl : j < Bt.mN n
    · simp [hl]
    · rw [decide_eq_false hl, h j (by omega) hj]
      rfl

theorem cut_set {t n s : Int} (hU : Bt.U t) (h0 : 0 ≤ n) (h1 : n ≤ 31) (hc : Bt.cutI n t = t) (s0 : 0 ≤ s) (s1 : s < n) : Bt.cutI n (Bt.setI t s) = Bt.setI t s := by
  have hN : Bt.N s := N_of s0 s1 h1
  rw [cut_iff (Bt.setI_U hU hN) h0 h1]
  intro j hj hj2
  rw [Bt.set_bit, (cut_iff hU h0 h1).1 hc j hj hj2, decide_eq_false (by omega)]
  rfl
theorem cut_clr {t n s : Int} (hU : Bt.U t) (h0 : 0 ≤ n) (h1 : n ≤ 31) (hc : Bt.cutI n t = t) (s0 : 0 ≤ s) (s1 : s < n) : Bt.cutI n (Bt.clrI t s) = Bt.clrI t s := by
  have hN : Bt.N s := N_of s0 s1 h1
  rw [cut_iff (Bt.clrI_U hU) h0 h1]
  intro j hj hj2
  rw [Bt.clr_bit hN hj2, (cut_iff hU h0 h1).1 hc j hj hj2]
  rfl
theorem set_ne (t s : Int) : Bt.setI t s ≠ 0 := fun h => by
  have := Bt.set_bit t s s.toNat
  rw [h] at this
  simp at this

/-- A word below n is 0 just where no slot is taken. -/
theorem zero_iff {t n : Int} (hU : Bt.U t) (h0 : 0 ≤ n) (h1 : n ≤ 31) (hc : Bt.cutI n t = t) : t = 0 ↔ ∀ k, 0 ≤ k → k < n → Bt.hasI t k = false := by
  constructor
  · rintro rfl k h2 h3
    rw [Bt.hasI_N (N_of h2 h3 h1)]
    simp
  · intro h
    refine Bt.ext hU ⟨by omega, by omega⟩ fun j hj => ?_
    by_cases hl : (j : Int) < n
    · have := h j (by omega) hl
      rw [Bt.hasI_N (N_of (by omega) hl h1)] at this
      simpa using this
    · rw [(cut_iff hU h0 h1).1 hc j (by omega) hj]
      simp

theorem free_cases {t n : Int} (h0 : 0 ≤ n) (h1 : n ≤ 31) : (Bt.freI t n = -1 ∧ ∀ k, 0 ≤ k → k < n → Bt.hasI t k = true) ∨ (0 ≤ Bt.freI t n ∧ Bt.freI t n < n ∧ Bt.hasI t (Bt.freI t n) = false ∧ ∀ k, 0 ≤ k → k < Bt.freI t n → Bt.hasI t k = true) := by
  have hm := Bt.mN_of n h0 (by omega)
  unfold Bt.freI
  rcases Bt.fre_cases t.toNat (Bt.mN n) with ⟨a, b⟩ | ⟨k, a, b, c, d⟩
  · refine .inl ⟨a, fun k h2 h3 => ?_⟩
    rw [Bt.hasI_N (N_of h2 h3 h1)]
    exact b k.toNat (by omega)
  · rw [b]
    refine .inr ⟨by omega, by omega, ?_, fun j h2 h3 => ?_⟩
    · rw [Bt.hasI_N ⟨by omega, by omega⟩]
      simpa using c
    · rw [Bt.hasI_N ⟨by omega, by omega⟩]
      exact d j.toNat (by omega)

theorem mem_slots {p : Pg} {k : Int} : k ∈ slotsOf p ↔ (p.kind = 2 ∧ k = 0) ∨ (p.kind = 1 ∧ 0 ≤ k ∧ k < Cl.sloI p.cls ∧ Bt.hasI p.taken k = true) := by
  have hr := slo_range p.cls
  unfold slotsOf
  by_cases h2 : p.kind = 2
  · rw [if_pos h2]
    simp [h2]
  · rw [if_neg h2]
    by_cases h1 : p.kind = 1
    · rw [if_pos h1]
      unfold takenTo
      simp only [List.mem_filter, List.mem_map, List.mem_range]
      constructor
      · rintro ⟨⟨i, hi, rfl⟩, hh⟩
        exact .inr ⟨h1, by omega, by omega, hh⟩
      · rintro (⟨h, _⟩ | ⟨_, h3, h4, h5⟩)
        · exact absurd h h2
        · exact ⟨⟨k.toNat, by omega, by omega⟩, h5⟩
    · rw [if_neg h1]
      simp [h1, h2]

/-- The place of a slot of a right entry: within its pages, behind the head. -/
theorem place_in {p : Pg} (he : Ent p) {s : Int} (hs : p.kind = 1 → 0 ≤ s ∧ s < Cl.sloI p.cls) : 2 ≤ atI p s ∧ 1 ≤ roomI p ∧ roomI p ≤ 4000 ∧ atI p s + roomI p ≤ 64 * p.span := by
  unfold atI roomI
  rcases he with ⟨h1, h2, h3, _, _, _, _, h8⟩ | ⟨h1, _, _, h4, h5, _, h7⟩
  · rw [if_neg (by omega), if_neg (by omega), h8]
    have ec := errC_in h2 h3
    have hsl : Cl.Sl p.cls s := hs h1
    have := Cl.slot_fits ec hsl
    have := (Cl.siz_in ec).1
    have := (Cl.siz_in ec).2.1
    rw [Cl.plaI_in hsl]
    omega
  · rw [if_pos h1, if_pos h1, h7, Cl.pagI_in (show Cl.Wd p.words from ⟨h4, h5⟩)]
    omega

/-- Two slots of a page are apart. -/
theorem slots_apart {p : Pg} (he : Ent p) (h1 : p.kind = 1) {s r : Int} (hs : 0 ≤ s ∧ s < Cl.sloI p.cls) (hr : 0 ≤ r ∧ r < Cl.sloI p.cls) (hne : s ≠ r) : atI p s + roomI p ≤ atI p r ∨ atI p r + roomI p ≤ atI p s := by
  unfold atI roomI
  rw [if_neg (by omega), if_neg (by omega), if_neg (by omega), Cl.plaI_in hs, Cl.plaI_in hr]
  have hc : 0 ≤ p.cls ∧ p.cls ≤ 7 := by
    rcases he with ⟨_, h2, h3, _⟩ | ⟨h, _⟩
    · exact ⟨h2, h3⟩
    · omega
  have := (Cl.siz_in (errC_in hc.1 hc.2)).1
  rcases Int.lt_or_gt_of_ne hne with h | h
  · left
    have : (s + 1) * Cl.sizI p.cls ≤ r * Cl.sizI p.cls := Int.mul_le_mul_of_nonneg_right (by omega) (by omega)
    rw [Int.add_mul] at this
    omega
  · right
    have : (r + 1) * Cl.sizI p.cls ≤ s * Cl.sizI p.cls := Int.mul_le_mul_of_nonneg_right (by omega) (by omega)
    rw [Int.add_mul] at this
    omega

/-- A word of a block. -/
def Word (L : List Pg) (x : Int) : Prop := ∃ p ∈ L, ∃ s ∈ slotsOf p, ∃ i, 0 ≤ i ∧ i < roomI p ∧ x = addrI p s + i
/-- The words of the blocks stay. -/
def Same (L : List Pg) (W W' : Int → Int) : Prop := ∀ p ∈ L, ∀ s ∈ slotsOf p, ∀ i, 0 ≤ i → i < roomI p → W' (addrI p s + i) = W (addrI p s + i)

theorem slot_ok {p : Pg} {s : Int} (h : s ∈ slotsOf p) : p.kind = 1 → 0 ≤ s ∧ s < Cl.sloI p.cls := fun h1 => by
  rcases mem_slots.1 h with ⟨h2, _⟩ | ⟨_, h3, h4, _⟩
  · omega
  · exact ⟨h3, h4⟩

/-- A block's words are on its pages, behind the first one's head. -/
theorem word_page {p : Pg} (he : Ent p) {s i : Int} (hs : p.kind = 1 → 0 ≤ s ∧ s < Cl.sloI p.cls) (i0 : 0 ≤ i) (i1 : i < roomI p) : 64 * p.n + 2 ≤ addrI p s + i ∧ addrI p s + i < 64 * (p.n + p.span) := by
  have := place_in he hs
  unfold addrI
  omega

end Hp
end Go.Proofs.YtbbjfebdihepnaaGreatDoor
