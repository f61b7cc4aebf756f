/-
  Walks of package heap's take and leave: a slot is taken, a slot is free again.
-/
import Derived.Test.YtlpdgomoepinjaaDoorHHead
namespace Go.Proofs.YtlpdgomoepinjaaDoor
open Go.RowKit
attribute [local go_sem ↓] Go.wp_at_zero Go.wp_at_succ
namespace Hp
variable {w w' : World} {bh bs bm : Nat} {q : Int} {pg pg' : List (Int × Nat)} {W W' : Int → Int}

theorem ok_of_U {a : Int} (h : Bt.U a) : Sl.WordOk a := by
  have h0 := h.1
  have h1 := h.2
  simp only [Sl.WordOk, Lit.wf, IntKind.min, IntKind.max, IntKind.signed, IntKind.bits, Bool.and_eq_true]
  simp
  omega
theorem ok_head {c : Int} (h0 : 0 ≤ c) (h1 : c ≤ 1000) : Sl.WordOk (1 + 256 * c) := ok_of_U ⟨by omega, by omega⟩

theorem run_held (w : World) (m x : Int) : (Instr.field 77 (hdV m x) 1).run Tryd.prog w = .ok (.int .u64 x) w := by kernel_rfl

set_option maxRecDepth 100000 in
theorem take_any (h : Hw w bh bs bm q pg W) (p : Pg) (s : Int) (h0 : 0 ≤ p.n) (h1 : p.n ≤ 1048575) (hb : (Sl.blk pg p.n).isSome = true) (hc0 : 0 ≤ p.cls) (hc1 : p.cls ≤ 7) (hU : Bt.U p.taken) (hs : Bt.N s) :
    Calls Tryd.prog 31 #[hp bh, bkV p s] w fun e w' => e = .returned (.tuple #[]) ∧ Hw w' bh bs bm q pg (hdW W p.n (1 + 256 * p.cls) (Bt.setI p.taken s)) ∧ Sl.Step bs bm pg pg w w' := by
  obtain ⟨w1, hw1⟩ : ∃ w1, w1 = w.alloc (.cells (cellsB p s) 58) := ⟨_, rfl⟩
  have k1 : K w w1 := by rw [hw1]; exact (K.refl w).alloc _
  have hB1 : w1.heap[w.heap.size]? = some (.cells (cellsB p s) 58) := by rw [hw1]; exact World.alloc_heap_new _ _
  obtain ⟨⟨x0, x1, x2, x3, x4, x5, x6⟩, _⟩ := seven hB1
  have cs := Bt.set_ok p.taken s hU hs w1
  have ch := fun w => smallHead_any p.cls (Bt.setI p.taken s) hc0 (by omega) w
  have hw := h.keep k1
  have st := fun w2 (kk : K w1.drew w2) => setHead_any ((hw.keep (K.drew (K.refl w1))).keep kk) p.n (1 + 256 * p.cls) (Bt.setI p.taken s) h0 h1 hb (ok_head hc0 (by omega)) (ok_of_U (Bt.setI_U hU hs))
  have hn := nf_new h (Nat.le_refl _)
  generalize Bt.setI p.taken s = t at *
  go_enter Tryd.func31, Tryd.ntmps31
  go_wp2_with fail
  rw [← hw1]
  refine cs.mono ?_
  rintro e w' ⟨rfl, rfl⟩
  clear hw1
  generalize w.heap.size = B at *
  go_wp2
  go_region_held3 (fun w' => w'.cell? ⟨B, 0, none⟩ = some (.int .i64 p.n) ∧ w'.cell? ⟨B, 2, none⟩ = some (.int .i64 p.cls))
    (first | exact ⟨x0, x2⟩ | exact ⟨Step.cell s3 (k2.cell x0) hn, Step.cell s3 (k2.cell x2) hn⟩ | exact ⟨k2.cell x0, k2.cell x2⟩)
    (first | (go_at_call 43; refine (ch _).mono ?_; rintro e w2 ⟨rfl, k2⟩) | (go_at_call 34; refine (st _ k2).mono ?_; rintro e w3 ⟨rfl, a3, s3⟩))
  go_wp2
  go_end0
  exact ⟨rfl, a3, ((k1.drew).trans k2).thenStep s3⟩

set_option maxRecDepth 100000 in
theorem leave_none (h : Hw w bh bs bm q pg W) (p : Pg) (s : Int) (h0 : 0 ≤ p.n) (h1 : p.n ≤ 1048575) (hb : (Sl.blk pg p.n).isSome = true) (hs : Bt.N s) (hz : Bt.clrI (W (64 * p.n + 1)) s = 0) :
    Calls Tryd.prog 22 #[hp bh, bkV p s] w fun e w' => e = .returned (.tuple #[]) ∧ ∃ pg', Sl.Gone pg pg' p.n 1 ∧ Hw w' bh bs bm q pg' (Sl.zr W p.n 1) ∧ Sl.Step bs bm pg pg' w w' := by
  obtain ⟨w1, hw1⟩ : ∃ w1, w1 = w.alloc (.cells (cellsB p s) 58) := ⟨_, rfl⟩
  have k1 : K w w1 := by rw [hw1]; exact (K.refl w).alloc _
  have hB1 : w1.heap[w.heap.size]? = some (.cells (cellsB p s) 58) := by rw [hw1]; exact World.alloc_heap_new _ _
  obtain ⟨⟨x0, x1, x2, x3, x4, x5, x6⟩, _⟩ := seven hB1
  have hw := h.keep k1
  have hwd := hw.keep (K.drew (K.refl w1))
  have ho := headOf_any hwd p.n h0 h1 hb
  have uh := U_of_ok (h.ar.ww (64 * p.n + 1))
  have cc := fun w => Bt.clr_ok (W (64 * p.n + 1)) s uh hs w
  rw [hz] at cc
  have hn := nf_new h (Nat.le_refl _)
  have hrel : Sl.relE pg p.n 1 = 0 := by
    have a1 : Sl.isPageB p.n = true := by simp [Sl.isPageB]; omega
    have a2 : Sl.isPageB (p.n + 1 - 1) = true := by simp [Sl.isPageB]; omega
    have a3 : Sl.allIn pg p.n (1 : Int).toNat = true := Sl.allIn_iff.2 fun i hi => by
      obtain rfl : i = 0 := by have : (1 : Int).toNat = 1 := rfl; omega
      simpa using hb
    unfold Sl.relE
    rw [if_pos ⟨a1, by decide, a2⟩, if_pos a3]
  generalize W (64 * p.n + 1) = x at *
  generalize W (64 * p.n) = m at *
  have qf := fun w => run_held w m x
  go_enter Tryd.func22, Tryd.ntmps22
  go_wp2
  rw [← hw1]
  clear hw1
  generalize w.heap.size = B at *
  go_region_held3 (fun w' => w'.cell? ⟨B, 0, none⟩ = some (.int .i64 p.n) ∧ w'.cell? ⟨B, 6, none⟩ = some (.int .i64 s))
    (first | exact ⟨x0, x6⟩ | exact ⟨k2.cell x0, k2.cell x6⟩)
    (first | (go_at_call 42; refine ho.mono ?_; rintro e w2 ⟨rfl, k2⟩) | (go_at_call 41; refine (cc _).mono ?_; rintro e w' ⟨rfl, rfl⟩))
  have hw2 := hwd.keep k2
  have hw2d := hw2.keep (K.drew (K.refl w2))
  have y0 := k2.cell x0
  have c0 := hw2.c0
  have rl := Sl.release_ok hw2d.ar p.n 1 hrel
  have hn2 := h.nfh
  go_wp2
  go_region_held3 (fun w' => w'.cell? ⟨bh, 0, none⟩ = some (.pointer (some ⟨bs, 0, none⟩)) ∧ w'.cell? ⟨B, 0, none⟩ = some (.int .i64 p.n))
    (first | exact ⟨c0, y0⟩ | exact ⟨Step.cell s3 c0 hn2, Step.cell s3 y0 hn⟩)
    (first | (go_at_call 21; refine rl.mono ?_; rintro e w3 ⟨rfl, pg3, g3, a3, s3⟩))
  go_wp2
  refine bodyPost_ret (results_none rfl _ _ _) rfl ?_
  exact ⟨rfl, pg3, g3, hw2d.step a3 s3, (((k1.drew).trans k2).drew).thenStep s3⟩

set_option maxRecDepth 100000 in
theorem leave_some (h : Hw w bh bs bm q pg W) (p : Pg) (s : Int) (h0 : 0 ≤ p.n) (h1 : p.n ≤ 1048575) (hb : (Sl.blk pg p.n).isSome = true) (hc0 : 0 ≤ p.cls) (hc1 : p.cls ≤ 7) (hs : Bt.N s) (hz : Bt.clrI (W (64 * p.n + 1)) s ≠ 0)
    (hr0 : 0 ≤ roomI p) (hr1 : roomI p ≤ 5000) (hwr : ∀ i, 0 ≤ i → i < roomI p → Sl.readE pg (addrI p s + i) = 0) :
    Calls Tryd.prog 22 #[hp bh, bkV p s] w fun e w' => e = .returned (.tuple #[]) ∧ Hw w' bh bs bm q pg (wipeW (hdW W p.n (1 + 256 * p.cls) (Bt.clrI (W (64 * p.n + 1)) s)) (addrI p s) (roomI p)) ∧ Sl.Step bs bm pg pg w w' := by
  obtain ⟨w1, hw1⟩ : ∃ w1, w1 = w.alloc (.cells (cellsB p s) 58) := ⟨_, rfl⟩
  have k1 : K w w1 := by rw [hw1]; exact (K.refl w).alloc _
  have hB1 : w1.heap[w.heap.size]? = some (.cells (cellsB p s) 58) := by rw [hw1]; exact World.alloc_heap_new _ _
  obtain ⟨⟨x0, x1, x2, x3, x4, x5, x6⟩, _⟩ := seven hB1
  have hw := h.keep k1
  have hwd := hw.keep (K.drew (K.refl w1))
  have ho := headOf_any hwd p.n h0 h1 hb
  have uh := U_of_ok (h.ar.ww (64 * p.n + 1))
  have cc := fun w => Bt.clr_ok (W (64 * p.n + 1)) s uh hs w
  have hn := nf_new h (Nat.le_refl _)
  have ch := fun w => smallHead_any p.cls (Bt.clrI (W (64 * p.n + 1)) s) hc0 (by omega) w
  have st := fun w2 (kk : K w1.drew w2) => setHead_any (hwd.keep kk) p.n (1 + 256 * p.cls) (Bt.clrI (W (64 * p.n + 1)) s) h0 h1 hb (ok_head hc0 (by omega)) (ok_of_U (Bt.clrI_U uh))
  have hz' : (Bt.clrI (W (64 * p.n + 1)) s == 0) = false := by simpa using hz
  generalize W (64 * p.n + 1) = x at *
  generalize Bt.clrI x s = t at *
  generalize W (64 * p.n) = m at *
  clear hz
  have qf := fun w => run_held w m x
  go_enter Tryd.func22, Tryd.ntmps22
  go_wp2
  rw [← hw1]
  clear hw1
  generalize w.heap.size = B at *
  go_region_held3 (fun w' => w'.cell? ⟨B, 0, none⟩ = some (.int .i64 p.n) ∧ w'.cell? ⟨B, 6, none⟩ = some (.int .i64 s))
    (first | exact ⟨x0, x6⟩ | exact ⟨k2.cell x0, k2.cell x6⟩)
    (first | (go_at_call 42; refine ho.mono ?_; rintro e w2 ⟨rfl, k2⟩) | (go_at_call 41; refine (cc _).mono ?_; rintro e w' ⟨rfl, rfl⟩))
  have y0 := k2.cell x0
  have y2 := k2.cell x2
  have k2d := K.drew k2
  go_wp2
  go_region_held3 (fun w' => w'.cell? ⟨B, 0, none⟩ = some (.int .i64 p.n) ∧ w'.cell? ⟨B, 2, none⟩ = some (.int .i64 p.cls))
    (first | exact ⟨y0, y2⟩ | exact ⟨Step.cell s4 (k3.cell y0) hn, Step.cell s4 (k3.cell y2) hn⟩ | exact ⟨k3.cell y0, k3.cell y2⟩)
    (first | (go_at_call 43; refine (ch _).mono ?_; rintro e w3 ⟨rfl, k3⟩) | (go_at_call 34; refine (st _ (k2d.trans k3)).mono ?_; rintro e w4 ⟨rfl, a4, s4⟩))
  have hB4 : w4.heap[B]? = some (.cells (cellsB p s) 58) := (s4.kept B (lt_of_cell (k3.cell y0)) hn).trans (k3.block (k2.block hB1))
  obtain ⟨⟨z0, z1, z2, z3, z4, z5, z6⟩, _⟩ := seven hB4
  have wp := wipe_any a4 p s h0 h1 hr0 hr1 hwr
  go_wp2_with fail
  refine wp.mono ?_
  rintro e w5 ⟨rfl, a5, s5⟩
  go_wp2
  go_end0
  exact ⟨rfl, a5, ((((k1.drew).trans k2).drew).trans k3).thenStep s4 |>.trans s5⟩

end Hp
end Go.Proofs.YtlpdgomoepinjaaDoor
