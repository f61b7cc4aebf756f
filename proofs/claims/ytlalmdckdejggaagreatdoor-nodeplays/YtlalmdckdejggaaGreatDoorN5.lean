/-
  loftref10: words, Get.
-/
import Derived.Test.YtlalmdckdejggaaGreatDoorN1
import Derived.Test.YtlalmdckdejggaaGreatDoorR1
import Derived.Test.YtlalmdckdejggaaGreatDoorR6
import Derived.Test.YtlalmdckdejggaaGreatDoorN2
namespace Go.Proofs.YtlalmdckdejggaaGreatDoor
open Go.RowKit Go.Maps
attribute [local go_sem ↓] Go.wp_at_zero Go.wp_at_succ
namespace Nd
open Hp (Kept K No)
open Go.Proofs.YtlalmdckdejggaaGreatDoor.Rs (Row Rc fdR fdR_cases stV rFind_any Sr rp row_of)
variable {u0 : World × Nat} {w w' : World} {g cap : Nat} {a : Option Addr} {C : List Rc} {x0 x1 x2 x3 x4 : Value}

set_option maxHeartbeats 400000 in
theorem rwords_any (n : Nv) (w : World) : Calls Tryz.prog 60 #[n.v] w fun e w' => ∃ g, e = .returned (.slice (some ⟨g, 0, none⟩) 6 6) ∧ w'.heap[g]? = some (.cells n.cs 44) ∧ K w w' := by
  have k1 : K w (w.alloc (.cells n.cs 47)) := (K.refl w).alloc _
  have hb : ((w.alloc (.cells n.cs 47)).alloc (.cells n.cs 44)).heap[w.heap.size + 1]? = some (.cells n.cs 44) := by simpa using World.alloc_heap_new (w.alloc (.cells n.cs 47)) (.cells n.cs 44)
  have HB : Aside _ := hb
  clear hb
  go_enter Tryz.func60, Tryz.ntmps60
  go_wp2
  go_ret
  refine ⟨_, rfl, ?_, k1.alloc _⟩
  first
  | exact World.alloc_heap_new _ _
  | exact HB.out

set_option maxRecDepth 100000 in
theorem rGet_stale (hr : Row w g a cap C) (hl : C.length ≤ 65536) (x : Int) (hf : fdR C x = -1) : Calls Tryz.prog 28 #[.agg (stV x0 x1 x2 x3 x4 a C.length cap), .int .u64 x] w fun e w' => e = .returned (.tuple #[nv0.v, .int .i64 7]) ∧ K w w' := by
  have k0 : K w ((w.alloc (.cells (stV x0 x1 x2 x3 x4 a C.length cap) 37)).alloc (.cells zero6 47)) := ((K.refl _).alloc _).alloc _
  have cf := rFind_any (x0 := x0) (x1 := x1) (x2 := x2) (x3 := x3) (x4 := x4) (hr.keep k0) hl x
  rw [hf] at cf
  have BX : Aside (∀ V, K ((w.alloc (.cells (stV x0 x1 x2 x3 x4 a C.length cap) 37)).alloc (.cells zero6 47)) V → K w V ∧ V.heap[w.heap.size + 1]? = some (.cells zero6 47)) := fun V k => ⟨k0.trans k, k.block (by simpa using World.alloc_heap_new (w.alloc (.cells (stV x0 x1 x2 x3 x4 a C.length cap) 37)) (.cells zero6 47))⟩
  clear hr hf k0
  go_enter Tryz.func28, Tryz.ntmps28
  go_wp2_with fail
  refine cf.mono ?_
  rintro e w1 ⟨rfl, k1⟩
  obtain ⟨q6, b6⟩ := BX.out w1 k1
  have Q6 : Aside _ := q6
  have B6 : Aside _ := b6
  clear cf BX k1 q6 b6
  go_wp2_with (with_reducible refine wrapN ?_)
  unfold Wrapd
  refine wpList_store_six (v0 := encU 0) (v1 := encU 0) (v2 := encU 0) (v3 := encU 0) (v4 := encU 0) (v5 := encU 0) rfl 47 (.tmp 4) (.tmp 13) rfl (by kernel_rfl) (w.heap.size + 1) B6.out rfl rfl (by simp [Value.oneCell']) ?_
  intro w7 b7 st7
  obtain ⟨d0, d1, d2, d3, d4, d5⟩ := six b7
  have KF : Aside (K w w7) := Hp.K.thenKept Q6.out st7 (Nat.le_succ _)
  clear b7 st7 Q6 B6
  go_wp2
  refine bodyPost_ret (v := .tuple #[nv0.v, .int .i64 7]) (by simp [results, Tryz.results28, go_sem, nv0, d0, d1, d2, d3, d4, d5]; try rfl) rfl ?_
  exact ⟨rfl, KF.out⟩

set_option maxRecDepth 100000 in
theorem rGet_form (hr : Row w g a cap C) (hl : C.length ≤ 65536) (x : Int) {i : Nat} {r : Rc} (hf : fdR C x = (i : Int)) (hri : C[i]? = some r) (h6 : (r.ws.length : Int) ≠ 6) : Calls Tryz.prog 28 #[.agg (stV x0 x1 x2 x3 x4 a C.length cap), .int .u64 x] w fun e w' => e = .returned (.tuple #[nv0.v, .int .i64 8]) ∧ K w w' := by
  have k0 : K w ((w.alloc (.cells (stV x0 x1 x2 x3 x4 a C.length cap) 37)).alloc (.cells zero6 47)) := ((K.refl _).alloc _).alloc _
  have cf := rFind_any (x0 := x0) (x1 := x1) (x2 := x2) (x3 := x3) (x4 := x4) (hr.keep k0) hl x
  rw [hf] at cf
  have hi := (List.getElem?_eq_some_iff.1 hri).1
  have hne : ((r.ws.length : Int) != 6) = true := by simpa using h6
  obtain ⟨ad, b, c, ev, _⟩ := hr.ws i r hri
  have c1 := hr.c1 i r hri
  rw [ev] at c1
  have hix := hr.ix i hi
  have BX : Aside (∀ V, K ((w.alloc (.cells (stV x0 x1 x2 x3 x4 a C.length cap) 37)).alloc (.cells zero6 47)) V → (K w V ∧ V.heap[w.heap.size + 1]? = some (.cells zero6 47)) ∧ V.cell? ⟨w.heap.size, 5, none⟩ = some (.slice a C.length cap) ∧ V.cell? ⟨g, i * 2 + 1, none⟩ = some (.slice ad r.ws.length c)) := fun V k => ⟨⟨k0.trans k, k.block (by simpa using World.alloc_heap_new (w.alloc (.cells (stV x0 x1 x2 x3 x4 a C.length cap) 37)) (.cells zero6 47))⟩, by
    have h1 : (w.alloc (.cells (stV x0 x1 x2 x3 x4 a C.length cap) 37)).heap[w.heap.size]? = some (.cells (stV x0 x1 x2 x3 x4 a C.length cap) 37) := World.alloc_heap_new _ _
    have := k.block (((K.refl (w.alloc (.cells (stV x0 x1 x2 x3 x4 a C.length cap) 37))).alloc (.cells zero6 47)).block h1)
    simp [World.cell?, this], (k0.trans k).cell c1⟩
  have hlt : ¬ ((i : Int) < 0) := by omega
  have hdl : decide ((i : Int) < 0) = false := decide_eq_false hlt
  clear hr hf k0 c1 ev hri h6 hlt
  generalize r.ws.length = wl at *
  go_enter Tryz.func28, Tryz.ntmps28
  go_wp2_with fail
  refine cf.mono ?_
  rintro e w1 ⟨rfl, k1⟩
  obtain ⟨⟨q6, b6⟩, e1, e2⟩ := BX.out w1 k1
  have Q6 : Aside _ := q6
  have B6 : Aside _ := b6
  clear cf BX k1 q6 b6
  go_wp2_with (with_reducible refine wrapN ?_)
  unfold Wrapd
  refine wpList_store_six (v0 := encU 0) (v1 := encU 0) (v2 := encU 0) (v3 := encU 0) (v4 := encU 0) (v5 := encU 0) rfl 47 (.tmp 4) (.tmp 23) rfl (by kernel_rfl) (w.heap.size + 1) B6.out rfl rfl (by simp [Value.oneCell']) ?_
  intro w7 b7 st7
  obtain ⟨d0, d1, d2, d3, d4, d5⟩ := six b7
  have KF : Aside (K w w7) := Hp.K.thenKept Q6.out st7 (Nat.le_succ _)
  clear b7 st7 Q6 B6 e1 e2
  go_wp2
  refine bodyPost_ret (v := .tuple #[nv0.v, .int .i64 8]) (by simp [results, Tryz.results28, go_sem, nv0, d0, d1, d2, d3, d4, d5]; try rfl) rfl ?_
  exact ⟨rfl, KF.out⟩

theorem src_ix {a : Option Addr} {b cap : Nat} {n : Nv} (h : Tx.Src w a b 0 cap n.ws) (k : Nat) (hk : k < 6) (w' : World) : (Instr.indexAt 67 (.slice a 6 cap) (.int .i64 (k : Int))).run Tryz.prog w' = .ok (.pointer (some ⟨b, k, none⟩)) w' := by
  have := h.ix k hk w'
  rw [Nat.zero_add] at this
  exact this

set_option maxRecDepth 100000 in
set_option maxHeartbeats 1000000 in
theorem rGet_node (hr : Row w g a cap C) (hl : C.length ≤ 65536) (x : Int) {i : Nat} {r : Rc} (hf : fdR C x = (i : Int)) (hri : C[i]? = some r) {n : Nv} (hn : r.ws = n.ws) : Calls Tryz.prog 28 #[.agg (stV x0 x1 x2 x3 x4 a C.length cap), .int .u64 x] w fun e w' => e = .returned (.tuple #[n.v, .int .i64 0]) ∧ K w w' := by
  have k0 : K w ((w.alloc (.cells (stV x0 x1 x2 x3 x4 a C.length cap) 37)).alloc (.cells zero6 47)) := ((K.refl _).alloc _).alloc _
  have cf := rFind_any (x0 := x0) (x1 := x1) (x2 := x2) (x3 := x3) (x4 := x4) (hr.keep k0) hl x
  rw [hf] at cf
  have hi := (List.getElem?_eq_some_iff.1 hri).1
  obtain ⟨ad, b, c, ev, src⟩ := hr.ws i r hri
  have c1 := hr.c1 i r hri
  rw [ev] at c1
  rw [hn] at c1 src
  have c1' : w.cell? ⟨g, i * 2 + 1, none⟩ = some (.slice ad 6 c) := c1
  have hix := hr.ix i hi
  have ix0 : ∀ w', (Instr.indexAt 67 (.slice ad 6 c) (.int .i64 0)).run Tryz.prog w' = .ok (.pointer (some ⟨b, 0, none⟩)) w' := fun w' => src_ix src 0 (by omega) w'
  have ix1 : ∀ w', (Instr.indexAt 67 (.slice ad 6 c) (.int .i64 1)).run Tryz.prog w' = .ok (.pointer (some ⟨b, 1, none⟩)) w' := fun w' => src_ix src 1 (by omega) w'
  have ix2 : ∀ w', (Instr.indexAt 67 (.slice ad 6 c) (.int .i64 2)).run Tryz.prog w' = .ok (.pointer (some ⟨b, 2, none⟩)) w' := fun w' => src_ix src 2 (by omega) w'
  have ix3 : ∀ w', (Instr.indexAt 67 (.slice ad 6 c) (.int .i64 3)).run Tryz.prog w' = .ok (.pointer (some ⟨b, 3, none⟩)) w' := fun w' => src_ix src 3 (by omega) w'
  have ix4 : ∀ w', (Instr.indexAt 67 (.slice ad 6 c) (.int .i64 4)).run Tryz.prog w' = .ok (.pointer (some ⟨b, 4, none⟩)) w' := fun w' => src_ix src 4 (by omega) w'
  have ix5 : ∀ w', (Instr.indexAt 67 (.slice ad 6 c) (.int .i64 5)).run Tryz.prog w' = .ok (.pointer (some ⟨b, 5, none⟩)) w' := fun w' => src_ix src 5 (by omega) w'
  have CW : Aside (∀ V, K w V → V.cell? ⟨b, 0, none⟩ = some (.int .u64 n.a) ∧ V.cell? ⟨b, 1, none⟩ = some (.int .u64 n.b) ∧ V.cell? ⟨b, 2, none⟩ = some (.int .u64 n.c) ∧ V.cell? ⟨b, 3, none⟩ = some (.int .u64 n.d) ∧ V.cell? ⟨b, 4, none⟩ = some (.int .u64 n.e) ∧ V.cell? ⟨b, 5, none⟩ = some (.int .u64 n.f)) := fun V k => by
    have h := fun (j : Nat) y (hy : n.ws[j]? = some y) => k.cell (src.cell j y hy)
    have h0 := h 0 n.a rfl
    have h1 := h 1 n.b rfl
    have h2 := h 2 n.c rfl
    have h3 := h 3 n.d rfl
    have h4 := h 4 n.e rfl
    have h5 := h 5 n.f rfl
    simp only [Nat.zero_add] at h0 h1 h2 h3 h4 h5
    exact ⟨h0, h1, h2, h3, h4, h5⟩
  have hbl : b < w.heap.size := Hp.lt_of_cell (CW.out w (K.refl w)).1
  have hbne : b ≠ w.heap.size + 1 := by omega
  have BX : Aside (∀ V, K ((w.alloc (.cells (stV x0 x1 x2 x3 x4 a C.length cap) 37)).alloc (.cells zero6 47)) V → (K w V ∧ V.heap[w.heap.size + 1]? = some (.cells zero6 47)) ∧ V.cell? ⟨w.heap.size, 5, none⟩ = some (.slice a C.length cap) ∧ V.cell? ⟨g, i * 2 + 1, none⟩ = some (.slice ad 6 c)) := fun V k => ⟨⟨k0.trans k, k.block (by simpa using World.alloc_heap_new (w.alloc (.cells (stV x0 x1 x2 x3 x4 a C.length cap) 37)) (.cells zero6 47))⟩, by
    have h1 : (w.alloc (.cells (stV x0 x1 x2 x3 x4 a C.length cap) 37)).heap[w.heap.size]? = some (.cells (stV x0 x1 x2 x3 x4 a C.length cap) 37) := World.alloc_heap_new _ _
    have := k.block (((K.refl (w.alloc (.cells (stV x0 x1 x2 x3 x4 a C.length cap) 37))).alloc (.cells zero6 47)).block h1)
    simp [World.cell?, this], (k0.trans k).cell c1'⟩
  have hdl : decide ((i : Int) < 0) = false := decide_eq_false (by omega)
  clear hr hf k0 c1 c1' ev hri hn src
  go_enter Tryz.func28, Tryz.ntmps28
  go_wp2_with fail
  refine cf.mono ?_
  rintro e w1 ⟨rfl, k1⟩
  obtain ⟨⟨q6, b6⟩, e1, e2⟩ := BX.out w1 k1
  obtain ⟨m0, m1, m2, m3, m4, m5⟩ := CW.out w1 q6
  obtain ⟨z0, z1, z2, z3, z4, z5⟩ := six b6
  have zz := frz b6
  have KB : Aside (∀ V, Kept (fun j => j = w.heap.size + 1) w1 V → K w V) := fun V st => Hp.K.thenKept q6 st (Nat.le_succ _)
  have B6 : Aside _ := b6
  clear cf BX CW k1 q6 b6
  go_wp2_with fail
  go_region
  go_wp2
  have b0 := heap_setCell_same w1 (w.heap.size + 1) 0 _ _ (encU n.a) B6.out
  have b1 := heap_setCell_same _ (w.heap.size + 1) 1 _ _ (encU n.b) b0
  have b2 := heap_setCell_same _ (w.heap.size + 1) 2 _ _ (encU n.c) b1
  have b3 := heap_setCell_same _ (w.heap.size + 1) 3 _ _ (encU n.d) b2
  have b4 := heap_setCell_same _ (w.heap.size + 1) 4 _ _ (encU n.e) b3
  have b5 := heap_setCell_same _ (w.heap.size + 1) 5 _ _ (encU n.f) b4
  have st := (Kept.refl (fun j => j = w.heap.size + 1) w1).setCell (p := ⟨w.heap.size + 1, 0, none⟩) (encU n.a) (.inl rfl) |>.setCell (p := ⟨w.heap.size + 1, 1, none⟩) (encU n.b) (.inl rfl) |>.setCell (p := ⟨w.heap.size + 1, 2, none⟩) (encU n.c) (.inl rfl) |>.setCell (p := ⟨w.heap.size + 1, 3, none⟩) (encU n.d) (.inl rfl) |>.setCell (p := ⟨w.heap.size + 1, 4, none⟩) (encU n.e) (.inl rfl) |>.setCell (p := ⟨w.heap.size + 1, 5, none⟩) (encU n.f) (.inl rfl)
  have KF := Hp.K.drew (KB.out _ st)
  generalize ((((((w1.setCell ⟨w.heap.size + 1, 0, none⟩ (encU n.a)).setCell ⟨w.heap.size + 1, 1, none⟩ (encU n.b)).setCell ⟨w.heap.size + 1, 2, none⟩ (encU n.c)).setCell ⟨w.heap.size + 1, 3, none⟩ (encU n.d)).setCell ⟨w.heap.size + 1, 4, none⟩ (encU n.e)).setCell ⟨w.heap.size + 1, 5, none⟩ (encU n.f)) = w9 at *
  have b9 : w9.drew.heap[w.heap.size + 1]? = some (.cells #[encU n.a, encU n.b, encU n.c, encU n.d, encU n.e, encU n.f] 47) := b5.trans (by rfl)
  obtain ⟨d0, d1, d2, d3, d4, d5⟩ := six b9
  refine bodyPost_ret (v := .tuple #[n.v, .int .i64 0]) (by simp [results, Tryz.results28, go_sem, d0, d1, d2, d3, d4, d5]; try rfl) rfl ?_
  exact ⟨rfl, KF⟩

end Nd
end Go.Proofs.YtlalmdckdejggaaGreatDoor

/-
  loftref10: Put, Make, Drop on the reference's store.
-/
namespace Go.Proofs.YtlalmdckdejggaaGreatDoor
open Go.RowKit Go.Maps
attribute [local go_sem ↓] Go.wp_at_zero Go.wp_at_succ
namespace Nd
open Hp (Kept K No allocL entsR)
open Hd (openL closeR atL)
open Go.Proofs.YtlalmdckdejggaaGreatDoor.Rs (Row Rc fdR fdR_cases gtR stV rFind_any Sr rp row_of Tn Tk newR)
variable {u0 : World × Nat} {w w' : World} {br B : Nat} {q m z x : Int} {E E' : List Hp.Re} {R R' : List Hd.Sl} {C C' : List Rc}

theorem fdR_set {i : Nat} {r r' : Rc} (hi : C[i]? = some r) (e : r'.h = r.h) (x : Int) : fdR (C.set i r') x = fdR C x := by
  have hm : (C.set i r').map Rc.h = C.map Rc.h := by
    rw [List.map_set, e]
    apply List.ext_getElem?
    intro j
    rw [List.getElem?_set]
    split
    · next h =>
      subst h
      have hl := (List.getElem?_eq_some_iff.1 hi).1
      rw [List.length_map, if_pos hl, List.getElem?_map, hi]
      rfl
    · rfl
  have hf : ∀ D : List Rc, D.findIdx? (fun r => r.h == x) = (D.map Rc.h).findIdx? (fun y => y == x) := fun D => by
    rw [List.findIdx?_map]
    rfl
  unfold fdR
  rw [hf, hf, hm]
theorem gt_of {i k : Nat} {r : Rc} (hf : fdR C x = (i : Int)) (hi : C[i]? = some r) (hk : k < r.ws.length) : gtR C x (k : Int) = (r.ws.getD k 0, 0) := by
  rcases fdR_cases C x with ⟨_, h2⟩ | ⟨i', c', h1, h2, h3, _⟩
  · omega
  · obtain rfl : i' = i := by omega
    have e3 : C.getD i' ⟨0, .bool false, []⟩ = r := by rw [List.getD_eq_getElem?_getD, hi]; rfl
    unfold gtR
    rw [h1]
    simp only [e3]
    rw [if_pos ⟨by omega, by omega⟩, Int.toNat_natCast]

theorem Sr.rebase {w2 V : World} (s : Sr (w2, B) V br q m z E R C) (f : Tn (w, B) w2) : Sr (w, B) V br q m z E R C := ⟨s.ex, s.ws, s.eo, s.few, f.then s.fr (fun _ h => .inr h)⟩

/-- The struct as it is handed by value. -/
theorem Sr.val (h : Sr u0 w br q m z E R C) : ∃ x0 x1 x2 x3 x4 a3 c3, w.heap[br]? = some (.cells (stV x0 x1 x2 x3 x4 a3 C.length c3) 37) ∧ ∃ g, Row w g a3 c3 C := by
  obtain ⟨a1, c1, v2, a3, c3, h1, h2, h3⟩ := h.ex
  obtain ⟨g, hr, _⟩ := row_of h3 h.ws
  exact ⟨_, _, _, _, _, a3, c3, h1.s0, g, hr⟩

/-- What Get answers, of a store. -/
inductive Gn (C : List Rc) (x : Int) : Nv → Int → Prop
  | stale : fdR C x = -1 → Gn C x nv0 7
  | form (i : Nat) (r : Rc) : fdR C x = (i : Int) → C[i]? = some r → (r.ws.length : Int) ≠ 6 → Gn C x nv0 8
  | node (i : Nat) (r : Rc) (n : Nv) : fdR C x = (i : Int) → C[i]? = some r → r.ws = n.ws → Gn C x n 0
theorem Gn.ex (C : List Rc) (x : Int) : ∃ n e, Gn C x n e := by
  rcases fdR_cases C x with ⟨_, h2⟩ | ⟨i, r, _, h2, h3, _⟩
  · exact ⟨_, _, .stale h2⟩
  · by_cases h6 : r.ws.length = 6
    · obtain ⟨n, hn⟩ := Nv.of_ws h6
      exact ⟨n, 0, .node i r n h2 h3 hn.symm⟩
    · exact ⟨_, _, .form i r h2 h3 (by omega)⟩
theorem Gn.call {n : Nv} {e : Int} (h : Gn C x n e) {g cap : Nat} {a : Option Addr} {x0 x1 x2 x3 x4 : Value} (hr : Row w g a cap C) (hl : C.length ≤ 65536) : Calls Tryz.prog 28 #[.agg (stV x0 x1 x2 x3 x4 a C.length cap), .int .u64 x] w fun e' w' => e' = .returned (.tuple #[n.v, .int .i64 e]) ∧ K w w' := by
  cases h with
  | stale h => exact rGet_stale hr hl x h
  | form i r h1 h2 h3 => exact rGet_form hr hl x h1 h2 h3
  | node i r n h1 h2 h3 => exact rGet_node hr hl x h1 h2 h3

set_option maxRecDepth 100000 in
set_option maxHeartbeats 1000000 in
theorem rDrop_no (h : Sr u0 w br q m z E R C) {n : Nv} {er : Int} (hg : Gn C x n er) (he : er ≠ 0) : Calls Tryz.prog 30 #[rp br, .int .u64 x] w fun e w' => e = .returned (.int .i64 er) ∧ Sr u0 w' br q m z E R C := by
  obtain ⟨x0, x1, x2, x3, x4, a3, c3, hb, g, hr⟩ := Sr.val h
  obtain ⟨d0, d1, d2, d3, d4, d5⟩ := six hb
  have cg := hg.call (x0 := x0) (x1 := x1) (x2 := x2) (x3 := x3) (x4 := x4) hr h.few
  have hne : (er != 0) = true := by simpa using he
  have HS : Aside _ := h
  clear h hg hr hb he
  go_enter Tryz.func30, Tryz.ntmps30
  go_wp2_with fail
  refine cg.mono ?_
  rintro e w1 ⟨rfl, k1⟩
  have HK : Aside _ := HS.out.keep (k1.alloc (.cells #[.int .u64 n.a, .int .u64 n.b, .int .u64 n.c, .int .u64 n.d, .int .u64 n.e, .int .u64 n.f] 47))
  clear cg k1 HS d0 d1 d2 d3 d4 d5
  go_wp2_with fail
  go_ret
  exact ⟨rfl, HK.out⟩

set_option maxRecDepth 100000 in
set_option maxHeartbeats 1000000 in
theorem rDrop_ok (h : Sr u0 w br q m z E R C) {n : Nv} (hg : Gn C x n 0) {er : Int} {P : World → Prop} (hd : ∀ V, Sr u0 V br q m z E R C → Calls Tryz.prog 62 #[rp br, .int .u64 x] V fun e w' => e = .returned (.int .i64 er) ∧ Aside (P w')) : Calls Tryz.prog 30 #[rp br, .int .u64 x] w fun e w' => e = .returned (.int .i64 er) ∧ Aside (P w') := by
  obtain ⟨x0, x1, x2, x3, x4, a3, c3, hb, g, hr⟩ := Sr.val h
  obtain ⟨d0, d1, d2, d3, d4, d5⟩ := six hb
  have cg := hg.call (x0 := x0) (x1 := x1) (x2 := x2) (x3 := x3) (x4 := x4) hr h.few
  have HD : Aside _ := hd
  have HS : Aside _ := h
  clear h hg hr hb hd
  go_enter Tryz.func30, Tryz.ntmps30
  go_wp2_with fail
  refine cg.mono ?_
  rintro e w1 ⟨rfl, k1⟩
  have cd := HD.out _ (HS.out.keep (k1.alloc (.cells #[.int .u64 n.a, .int .u64 n.b, .int .u64 n.c, .int .u64 n.d, .int .u64 n.e, .int .u64 n.f] 47)))
  clear cg k1 HS d0 d1 d2 d3 d4 d5 HD
  go_wp2_with fail
  refine cd.mono ?_
  rintro e w2 ⟨rfl, hp⟩
  go_wp2_with fail
  go_ret
  exact ⟨rfl, hp⟩

set_option maxRecDepth 100000 in
set_option maxHeartbeats 1000000 in
theorem rPut_no (h : Sr u0 w br q m z E R C) {n : Nv} {er : Int} (hg : Gn C x n er) (he : er ≠ 0) (n' : Nv) : Calls Tryz.prog 29 #[rp br, .int .u64 x, n'.v] w fun e w' => e = .returned (.int .i64 er) ∧ Sr u0 w' br q m z E R C := by
  have k0 : K w (w.alloc (.cells n'.cs 47)) := (K.refl w).alloc _
  have h1 := h.keep k0
  obtain ⟨x0, x1, x2, x3, x4, a3, c3, hb, g, hr⟩ := Sr.val h
  obtain ⟨d0, d1, d2, d3, d4, d5⟩ := six hb
  have dl : br < w.heap.size := (Array.getElem?_eq_some_iff.1 hb).1
  have cg := hg.call (x0 := x0) (x1 := x1) (x2 := x2) (x3 := x3) (x4 := x4) (hr.keep k0) h.few
  have hne : (er != 0) = true := by simpa using he
  have HS : Aside _ := h1
  clear h h1 hg hr hb he k0
  go_enter Tryz.func29, Tryz.ntmps29
  go_wp2_with fail
  refine cg.mono ?_
  rintro e w1 ⟨rfl, k1⟩
  have HK : Aside _ := HS.out.keep (k1.alloc (.cells #[.int .u64 n.a, .int .u64 n.b, .int .u64 n.c, .int .u64 n.d, .int .u64 n.e, .int .u64 n.f] 47))
  clear cg k1 HS d0 d1 d2 d3 d4 d5
  go_wp2_with fail
  go_ret
  exact ⟨rfl, HK.out⟩

theorem run_ix66 (g k : Nat) (hk : k < 6) (w' : World) : (Instr.indexAt 67 (.slice (some ⟨g, 0, none⟩) 6 6) (.int .i64 (k : Int))).run Tryz.prog w' = .ok (.pointer (some ⟨g, k, none⟩)) w' := by
  have hel : Tryz.prog.elem 67 = 44 := by kernel_rfl
  have hsz : (sizeOf 44).run Tryz.prog w' = .ok 1 w' := by kernel_rfl
  have hu : Tryz.prog.underlying 67 = some (.slice (Tryz.prog.elem 67)) := by kernel_rfl
  rw [run_indexAt_slice w' 67 _ 6 6 .i64 k hu, if_pos (by omega), hel, hsz]
  simp only [Result.andThen_ok, Int.toNat_natCast, Nat.mul_one]
  rw [Go.WideShapes.add_plain, Nat.zero_add]

/-- The first k words are put. -/
structure Lr (w2 V : World) (B br : Nat) (q m z : Int) (E : List Hp.Re) (R : List Hd.Sl) (C : List Rc) (i : Nat) (hh : Int) (new old : List Int) (g : Nat) (n : Nv) (k : Nat) : Prop where
  ex : ∃ v', Sr (w2, B) V br q m z E R (C.set i ⟨hh, v', mix new old k⟩)
  hb : w2.heap[g]? = some (.cells n.cs 44)
theorem Lr.row {w2 V : World} {i g k : Nat} {hh : Int} {new old : List Int} {n : Nv} (h : Lr w2 V B br q m z E R C i hh new old g n k) : V.heap[g]? = some (.cells n.cs 44) := by
  obtain ⟨v', s⟩ := h.ex
  exact Kept.block s.fr h.hb (fun hf => by
    obtain ⟨_, cs, t, hc, ht⟩ := hf
    obtain rfl := Rs.kind_ne h.hb hc
    revert ht
    rintro (e | e) <;> exact absurd e (by decide))
theorem Lr.put {w2 V : World} {i g k : Nat} {r : Rc} {n : Nv} (h : Lr w2 V B br q m z E R C i r.h n.ws r.ws g n k) (hi : C[i]? = some r) (hf : fdR C x = (i : Int)) (h6 : r.ws.length = 6) {y : Int} (hy : n.ws[k]? = some y) (yr : 0 ≤ y ∧ y ≤ 18446744073709551615) :
    Calls Tryz.prog 61 #[rp br, .int .u64 x, .int .i64 (k : Int), .int .u64 y] V fun e w' => e = .returned (.int .i64 0) ∧ Aside (Lr w2 w' B br q m z E R C i r.h n.ws r.ws g n (k + 1)) := by
  obtain ⟨v', s⟩ := h.ex
  have hk : k < 6 := (List.getElem?_eq_some_iff.1 hy).1
  have hl := (List.getElem?_eq_some_iff.1 hi).1
  have hml : (mix n.ws r.ws k).length = 6 := mix_len rfl h6 (by omega)
  have hi2 : (C.set i ⟨r.h, v', mix n.ws r.ws k⟩)[i]? = some ⟨r.h, v', mix n.ws r.ws k⟩ := List.getElem?_set_self hl
  have hf2 : fdR (C.set i ⟨r.h, v', mix n.ws r.ws k⟩) x = (i : Int) := by rw [fdR_set (r' := ⟨r.h, v', mix n.ws r.ws k⟩) hi rfl]; exact hf
  refine (Rs.rPut_ok s x y hf2 hi2 (gt_of hf2 hi2 (by rw [hml]; exact hk)) (by rw [hml]; exact hk) yr (by rw [hml]; decide)).mono ?_
  rintro e w3 ⟨rfl, v2, s2⟩
  refine ⟨rfl, ⟨v2, ?_⟩, h.hb⟩
  rw [List.set_set] at s2
  rw [← mix_set rfl h6 hk hy]
  exact s2

set_option maxRecDepth 100000 in
set_option maxHeartbeats 2000000 in
theorem rPut_ok (h : Sr (w, B) w br q m z E R C) {i : Nat} {r : Rc} (hf : fdR C x = (i : Int)) (hi : C[i]? = some r) {n0 : Nv} (hn0 : r.ws = n0.ws) (n : Nv) (hn : n.Ok) : Calls Tryz.prog 29 #[rp br, .int .u64 x, n.v] w fun e w' => e = .returned (.int .i64 0) ∧ Aside (∃ v', Sr (w, B) w' br q m z E R (C.set i ⟨r.h, v', n.ws⟩)) := by
  have h6 : r.ws.length = 6 := by rw [hn0]; rfl
  have k0 : K w (w.alloc (.cells n.cs 47)) := (K.refl w).alloc _
  have h1 := h.keep k0
  obtain ⟨x0, x1, x2, x3, x4, a3, c3, hb, g, hr⟩ := Sr.val h
  obtain ⟨d0, d1, d2, d3, d4, d5⟩ := six hb
  have dl : br < w.heap.size := (Array.getElem?_eq_some_iff.1 hb).1
  have cg := (Gn.node (C := C) (x := x) i r n0 hf hi hn0).call (x0 := x0) (x1 := x1) (x2 := x2) (x3 := x3) (x4 := x4) (hr.keep k0) h.few
  have HS : Aside _ := h1
  have hbn : (w.alloc (.cells n.cs 47)).heap[w.heap.size]? = some (.cells n.cs 47) := World.alloc_heap_new _ _
  have HBN : Aside (∀ V, K (w.alloc (.cells n.cs 47)) V → (V.cell? ⟨w.heap.size, 0, none⟩ = some (encU n.a) ∧ V.cell? ⟨w.heap.size, 1, none⟩ = some (encU n.b) ∧ V.cell? ⟨w.heap.size, 2, none⟩ = some (encU n.c) ∧ V.cell? ⟨w.heap.size, 3, none⟩ = some (encU n.d) ∧ V.cell? ⟨w.heap.size, 4, none⟩ = some (encU n.e) ∧ V.cell? ⟨w.heap.size, 5, none⟩ = some (encU n.f)) ∧ w.heap.size < V.heap.size ∧ K w V) := fun V k => ⟨six (k.block hbn), (Array.getElem?_eq_some_iff.1 (k.block hbn)).1, k0.trans k⟩
  have cw : Aside (∀ V, Calls Tryz.prog 60 #[n.v] V fun e w' => ∃ g, e = .returned (.slice (some ⟨g, 0, none⟩) 6 6) ∧ w'.heap[g]? = some (.cells n.cs 44) ∧ K V w') := fun V => rwords_any n V
  have AT : Aside (∀ k, k < 6 → ∃ y, n.ws[k]? = some y) := fun k hk => ⟨_, List.getElem?_eq_getElem hk⟩
  have hl := (List.getElem?_eq_some_iff.1 hi).1
  have ST : Aside (∀ V g, K w V → V.heap[g]? = some (.cells n.cs 44) → Lr V V B br q m z E R C i r.h n.ws r.ws g n 0) := fun V g k hg => ⟨⟨r.v, by
    have e : C.set i ⟨r.h, r.v, mix n.ws r.ws 0⟩ = C := by
      rw [mix_zero]
      have : (⟨r.h, r.v, r.ws⟩ : Rc) = C[i] := ((List.getElem?_eq_some_iff.1 hi).2).symm
      rw [this, List.set_getElem_self]
    rw [e]
    exact (h.keep k).again⟩, hg⟩
  have PT : Aside (∀ w2 V g k y, Lr w2 V B br q m z E R C i r.h n.ws r.ws g n k → n.ws[k]? = some y → Calls Tryz.prog 61 #[rp br, .int .u64 x, .int .i64 (k : Int), .int .u64 y] V fun e w' => e = .returned (.int .i64 0) ∧ Aside (Lr w2 w' B br q m z E R C i r.h n.ws r.ws g n (k + 1))) := fun w2 V g k y l hy => l.put hi hf h6 hy (hn.word hy)
  have FIN : Aside (∀ w2 V g, K w w2 → Lr w2 V B br q m z E R C i r.h n.ws r.ws g n 6 → ∃ v', Sr (w, B) V br q m z E R (C.set i ⟨r.h, v', n.ws⟩)) := fun w2 V g k l => by
    obtain ⟨v', s⟩ := l.ex
    rw [mix_full (n := 6) rfl h6] at s
    exact ⟨v', Sr.rebase s ((Tn.refl w B).keep k)⟩
  have CL : Aside (∀ w2 V g k y, Lr w2 V B br q m z E R C i r.h n.ws r.ws g n k → n.ws[k]? = some y → V.cell? ⟨g, k, none⟩ = some (.int .u64 y)) := fun w2 V g k y l hy => by
    have : n.cs[k]? = some (encU y) := by
      have e : n.cs = (n.ws.map encU).toArray := rfl
      rw [e, List.getElem?_toArray, List.getElem?_map, hy]
      rfl
    simp [World.cell?, l.row, this]
  clear h h1 hr hb hf hi hn hn0 h6 hl k0 hbn
  generalize r.ws = old at *
  generalize r.h = rh at *
  go_enter Tryz.func29, Tryz.ntmps29
  go_wp2_with fail
  refine cg.mono ?_
  rintro e w1 ⟨rfl, k1⟩
  have K1 : Aside _ := k1
  obtain ⟨⟨e0, e1, e2, e3, e4, e5⟩, el, _⟩ := HBN.out w1 k1
  clear cg k1 HS d0 d1 d2 d3 d4 d5
  go_wp2_with fail
  refine (cw.out _).mono ?_
  rintro e w2 ⟨g, rfl, hg2, k2⟩
  have KW2 : Aside (K w w2) := (HBN.out _ (K1.out.alloc _)).2.2.trans k2
  have L0 : Aside _ := ST.out w2 g KW2.out hg2
  clear cw ST k2 hg2 e0 e1 e2 e3 e4 e5 el K1 HBN
  go_wp2_with fail
  go_loopw [10] (fun t wr => ∃ k : Nat, t = .int .i64 k ∧ k ≤ 6 ∧ Aside (Lr w2 wr B br q m z E R C i rh n.ws old g n k)) (fun t _ => 6 - (intOf t).toNat)
  case atStart => exact ⟨0, rfl, by omega, L0⟩
  case round =>
    obtain ⟨k, rfl, hk, LK⟩ := hrel
    clear L0
    by_cases hlt : k < 6
    · obtain ⟨y, hy⟩ := AT.out k hlt
      have ixk := fun w' => run_ix66 g k hlt w'
      have hc := CL.out w2 wr g k y LK.out hy
      have cp := PT.out w2 wr g k y LK.out hy
      clear hy
      go_wp2_with (go_at_call 61; refine cp.mono ?_; rintro e w5 ⟨rfl, p5⟩)
      go_roundw
      case measure => simp [intOf]; omega
      case rel => exact ⟨k + 1, by go_num, by omega, p5⟩
    · obtain rfl : k = 6 := by omega
      have hfin : Aside _ := FIN.out w2 wr g KW2.out LK.out
      clear LK
      go_wp2
      go_ret
      exact ⟨rfl, hfin⟩

theorem fdR_last {v : Value} {ws : List Int} (hx : ∀ c ∈ C, c.h ≠ x) : fdR (C ++ [⟨x, v, ws⟩]) x = (C.length : Int) := Rs.fdR_some (r := ⟨x, v, ws⟩) (by simp) rfl fun j t hj ht => by
  rw [List.getElem?_append_left hj] at ht
  exact hx t (List.mem_of_getElem? ht)

set_option maxRecDepth 100000 in
set_option maxHeartbeats 1000000 in
theorem rMake_node {L' : List Hp.Pg} (hmk : ∀ V, K w V → Calls Tryz.prog 32 #[rp br, .int .i64 6] V fun e w' => e = .returned (.tuple #[.int .u64 x, .int .i64 0]) ∧ ∃ E' v9, entsR E' = L' ∧ Sr (V, B) w' br q m z E' R' (C ++ [newR x v9 6])) (hx : ∀ c ∈ C, c.h ≠ x) (n : Nv) (hn : n.Ok) :
    Calls Tryz.prog 27 #[rp br, n.v] w fun e w' => e = .returned (.tuple #[.int .u64 x, .int .i64 0]) ∧ Aside (∃ E' v9, entsR E' = L' ∧ Sr (w, B) w' br q m z E' R' (C ++ [⟨x, v9, n.ws⟩])) := by
  have k0 : K w (w.alloc (.cells n.cs 47)) := (K.refl w).alloc _
  have hbn : (w.alloc (.cells n.cs 47)).heap[w.heap.size]? = some (.cells n.cs 47) := World.alloc_heap_new _ _
  have cm := hmk _ k0
  have BN : Aside (∀ V, Tn (w.alloc (.cells n.cs 47), B) V → V.heap[w.heap.size]? = some (.cells n.cs 47)) := fun V f => Kept.block f hbn (fun hf => by
    obtain ⟨_, cs, t, hc, ht⟩ := hf
    obtain rfl := Rs.kind_ne hbn hc
    revert ht
    rintro (e | e) <;> exact absurd e (by decide))
  have PU : Aside (∀ V E' v9, entsR E' = L' → Sr (w.alloc (.cells n.cs 47), B) V br q m z E' R' (C ++ [newR x v9 6]) → Calls Tryz.prog 29 #[rp br, .int .u64 x, n.v] V fun e w' => e = .returned (.int .i64 0) ∧ Aside (∃ E' v9, entsR E' = L' ∧ Sr (w, B) w' br q m z E' R' (C ++ [⟨x, v9, n.ws⟩]))) := fun V E' v9 hE s => by
    refine (rPut_ok s.again (fdR_last hx) (by simp : (C ++ [newR x v9 6])[C.length]? = some (newR x v9 6)) (n0 := nv0) rfl n hn).mono ?_
    rintro e w3 ⟨rfl, hh⟩
    obtain ⟨v', s3⟩ := hh.out
    refine ⟨rfl, E', v', hE, ?_⟩
    have e2 : (C ++ [newR x v9 6]).set C.length ⟨x, v', n.ws⟩ = C ++ [⟨x, v', n.ws⟩] := by simp
    rw [e2] at s3
    exact Sr.rebase (Sr.rebase s3 s.fr) ((Tn.refl w B).keep k0)
  clear hmk hn k0 hbn hx
  go_enter Tryz.func27, Tryz.ntmps27
  go_wp2_with fail
  refine cm.mono ?_
  rintro e w2 ⟨rfl, E', v9, hE, s2⟩
  have hb2 := BN.out w2 s2.fr
  obtain ⟨d0, d1, d2, d3, d4, d5⟩ := six hb2
  have dl : w.heap.size < w2.heap.size := (Array.getElem?_eq_some_iff.1 hb2).1
  have cp := PU.out w2 E' v9 hE s2
  clear cm BN PU hE s2 hb2
  go_wp2_with fail
  refine cp.mono ?_
  rintro e w3 ⟨rfl, hh⟩
  clear cp
  go_wp2_with fail
  go_ret2
  exact ⟨rfl, hh⟩

set_option maxRecDepth 100000 in
set_option maxHeartbeats 1000000 in
theorem rMake_none {er : Int} (he : er ≠ 0) {Q : World → Prop} (n : Nv) (hmk : ∀ V, K w V → Calls Tryz.prog 32 #[rp br, .int .i64 6] V fun e w' => e = .returned (.tuple #[.int .u64 0, .int .i64 er]) ∧ Aside (Q w')) :
    Calls Tryz.prog 27 #[rp br, n.v] w fun e w' => e = .returned (.tuple #[.int .u64 0, .int .i64 er]) ∧ Aside (Q w') := by
  have cm := hmk _ ((K.refl w).alloc (.cells n.cs 47))
  have hne : (er != 0) = true := by simpa using he
  clear hmk he
  go_enter Tryz.func27, Tryz.ntmps27
  go_wp2_with fail
  refine cm.mono ?_
  rintro e w2 ⟨rfl, hh⟩
  clear cm
  go_wp2_with fail
  go_ret2
  exact ⟨rfl, hh⟩

end Nd
end Go.Proofs.YtlalmdckdejggaaGreatDoor

/-
  Each call on a node, on the store, then on its reference.
-/
namespace Go.Proofs.YtlalmdckdejggaaGreatDoor
open Go.RowKit Go.Maps
namespace Nd
open Hp (Pg Wl Kept K No allocL freeL dropL findB entsR)
open Hd (U64 findL openL cls closeR atL)
open Go.Proofs.YtlalmdckdejggaaGreatDoor.Bb (Ho find_make)
open Go.Proofs.YtlalmdckdejggaaGreatDoor.So (Ad Sb Sw Stp Rn Rec sp wE lN)
open Go.Proofs.YtlalmdckdejggaaGreatDoor.Rs (Row Rc fdR stV Sr rp Rl Pm Pr Pl Kd Nx newR)
variable {w0 w w' w1 w2 : World} {br n : Nat} {A : Ad} {T T' R R' : List Hd.Sl} {W W' : Int → Int} {L : List Pg} {C : List Rc} {m z a x : Int} {ws : List Int}

theorem Rl.add (h : Rl T W R C) (a0 : 0 ≤ a) (hl : T.length ≤ 65536) (e : openL m z T a = (x, 0, T')) (ho : Ho T' W' x ws) (old : ∀ y ys, Ho T W y ys → y ≠ x ∧ Ho T' W' y ys) (v : Value) : ∃ R', openL m z R a = (x, 0, R') ∧ Rl T' W' R' (C ++ [⟨x, v, ws⟩]) := by
  have ec := Hd.openL_cls (q := m) (z := z) (R := R) a
  rw [h.t, e] at ec
  obtain ⟨e1, e2, e3⟩ : x = (openL m z R a).1 ∧ 0 = (openL m z R a).2.1 ∧ T' = cls (openL m z R a).2.2 := by
    simpa only [Prod.mk.injEq] using ec
  obtain ⟨_, _, _, hoff, _⟩ := find_make a0 hl e
  refine ⟨(openL m z R a).2.2, by rw [e1]; exact Prod.ext rfl (Prod.ext e2.symm rfl), e3.symm, fun c hc => ?_, ?_, fun y hy => ?_⟩
  · rcases List.mem_append.1 hc with hc | hc
    · exact (old _ _ (h.r c hc)).2
    · obtain rfl := List.mem_singleton.1 hc
      exact ho
  · refine List.pairwise_append.2 ⟨h.nd, List.pairwise_singleton _ _, fun c hc d hd => ?_⟩
    obtain rfl := List.mem_singleton.1 hd
    exact (old _ _ (h.r c hc)).1
  · by_cases e2 : y = x
    · subst e2
      exact ⟨_, List.mem_append_right _ (List.mem_singleton.2 rfl), rfl⟩
    · rw [hoff y e2] at hy
      obtain ⟨c, hc, e3⟩ := h.a y hy
      exact ⟨c, List.mem_append_left _ hc, e3⟩

theorem Rl.setW (h : Rl T W R C) {j : Nat} {c : Rc} (hj : C[j]? = some c) (ho : Ho T W' c.h ws) (old : ∀ z zs, z ≠ c.h → Ho T W z zs → Ho T W' z zs) (v : Value) : Rl T W' R (C.set j ⟨c.h, v, ws⟩) := by
  obtain ⟨lj, ej⟩ := List.getElem?_eq_some_iff.1 hj
  refine ⟨h.t, fun d hd => ?_, ?_, fun y hy => ?_⟩
  · obtain ⟨i, hi⟩ := List.getElem?_of_mem hd
    rw [List.getElem?_set] at hi
    by_cases e : j = i
    · subst e
      rw [if_pos rfl, if_pos lj] at hi
      rw [← Option.some.inj hi]
      exact ho
    · rw [if_neg e] at hi
      exact old _ _ (fun e2 => e (h.ix hi hj e2).symm) (h.r d (List.mem_of_getElem? hi))
  · refine List.pairwise_iff_getElem.2 fun i i' li li' hlt => ?_
    rw [List.length_set] at li li'
    have := List.pairwise_iff_getElem.1 h.nd i i' li li' hlt
    rw [List.getElem_set, List.getElem_set]
    split
    · next e1 =>
      rw [if_neg (by omega)]
      subst e1
      rw [ej] at this
      exact this
    · split
      · next e1 =>
        subst e1
        rw [ej] at this
        exact this
      · exact this
  · obtain ⟨d, hd, e⟩ := h.a y hy
    obtain ⟨i, hi⟩ := List.getElem?_of_mem hd
    by_cases e2 : j = i
    · subst e2
      obtain rfl := Option.some.inj (hi.symm.trans hj)
      exact ⟨_, List.mem_of_getElem? (List.getElem?_set_self lj), e⟩
    · exact ⟨d, List.mem_of_getElem? (i := i) (by rw [List.getElem?_set_ne e2]; exact hi), e⟩

/-- What is under a handle, in both. -/
theorem ck_gn (h : Rl T W R C) (r : Rec L W T) (x : Int) : (ckE T W x ≠ 0 ∧ Gn C x nv0 (ckE T W x)) ∨ ∃ (i : Nat) (c : Rc) (n : Nv), ckE T W x = 0 ∧ fdR C x = (i : Int) ∧ C[i]? = some c ∧ c.h = x ∧ c.ws = n.ws ∧ Ho T W x n.ws := by
  cases hf : findL T x with
  | none =>
    have e : ckE T W x = 7 := by simp [ckE, hf]
    rw [e]
    exact .inl ⟨by decide, .stale (h.find_none hf)⟩
  | some i =>
    obtain ⟨j, c, hj, hc, hfd, ho⟩ := h.find_some hf
    by_cases h6 : c.ws.length = 6
    · obtain ⟨e, _⟩ := ck_ho ho h6
      obtain ⟨n, hn⟩ := Nv.of_ws h6
      exact .inr ⟨j, c, n, e, hfd, hj, hc, hn.symm, by rw [hn]; exact ho⟩
    · obtain ⟨i2, s, hi, hs, so, hw⟩ := ho_slot ho
      obtain ⟨_, n0, n1, _⟩ := r.nm i2 s hs so
      have e6 : lN T W x ≠ 6 := by
        have e1 : lN T W x = W (s.a + 1) := by simp [lN, hi, Hd.addrAt, hs]
        have e2 := wdA_len (W := W) (a := s.a)
        rw [hw] at e2
        omega
      have e : ckE T W x = 8 := by simp [ckE, hf, e6]
      rw [e]
      exact .inl ⟨by decide, .form j c hfd hj (by omega)⟩

/-- The reference's Get, of the struct by value. -/
abbrev Gv (br : Nat) (x : Int) (n : Nv) (er : Int) (V : World) : Prop := ∃ x0 x1 x2 x3 x4 x5, V.heap[br]? = some (.cells #[x0, x1, x2, x3, x4, x5] 37) ∧ ∀ V', K V V' → Calls Tryz.prog 28 #[.agg #[x0, x1, x2, x3, x4, x5], .int .u64 x] V' fun e w' => e = .returned (.tuple #[n.v, .int .i64 er]) ∧ K V' w'

theorem Pl.nget (h : Pl w0 w A br n) {x : Int} (hx : U64 x) :
    Calls Tryz.prog 14 #[sp A.st, .int .u64 x] w fun e w1 => ∃ nv er, e = .returned (.tuple #[nv.v, .int .i64 er]) ∧ K w w1 ∧ Aside (∀ V, K w1 V → Gv br x nv er V) := by
  obtain ⟨pg, W, L, v, T, E, R, C, P, hl⟩ := h
  have gv : ∀ nv er, Gn C x nv er → ∀ V, K w V → Gv br x nv er V := fun nv er hg V k => by
    have s := P.m.sr.keep k
    obtain ⟨x0, x1, x2, x3, x4, a3, c3, hb, g, hr⟩ := Sr.val s
    exact ⟨x0, x1, x2, x3, x4, _, hb, fun V' k' => hg.call (hr.keep k') s.few⟩
  rcases ck_gn P.rl P.m.rn.s.r x with ⟨he, hg⟩ | ⟨i, c, nv, he, hfd, hi, hc, hws, ho⟩
  · refine (get_err P.m.rn.s hx (by simpa using he)).mono ?_
    rintro e w1 ⟨rfl, k⟩
    exact ⟨nv0, _, rfl, k, fun V k2 => gv _ _ hg V (k.trans k2)⟩
  · refine (get_node P.m.rn.s hx ho).mono ?_
    rintro e w1 ⟨rfl, k⟩
    exact ⟨nv, 0, rfl, k, fun V k2 => gv _ _ (.node i c nv hfd hi hws) V (k.trans k2)⟩

theorem Pl.nput (h : Pl w0 w A br n) (z0 : 0 < w0.heap.size) {x : Int} (hx : U64 x) (nv : Nv) (ok : nv.Ok) :
    Calls Tryz.prog 15 #[sp A.st, .int .u64 x, nv.v] w fun e w1 => ∃ er, e = .returned (.int .i64 er) ∧ Aside (K w0 w1 ∧ Kd w w1 ∧ Nx 29 #[rp br, .int .u64 x, nv.v] (.int .i64 er) w0 A br n w1) := by
  obtain ⟨pg, W, L, v, T, E, R, C, P, hl⟩ := h
  have he := P.e
  rcases ck_gn P.rl P.m.rn.s.r x with ⟨hne, hg⟩ | ⟨i, c, n0, h0, hfd, hi, hc, hws, ho⟩
  · refine (put_no P.m.rn.s hx (by simpa using hne) nv).mono ?_
    rintro e w1 ⟨rfl, k⟩
    have P1 := P.keep k
    refine ⟨_, rfl, P1.m.rn.k, Kd.ofK k, fun V k2 => ?_⟩
    refine (rPut_no (P1.m.keep k2).sr hg hne nv).mono ?_
    rintro e w2 ⟨rfl, s2⟩
    obtain ⟨P2, kd2⟩ := (P1.m.keep k2).ref z0 s2
    exact ⟨rfl, kd2, _, _, _, _, _, _, _, _, ⟨P2, he, P.nb, P.rl, P.q4⟩, hl⟩
  · refine (put_ok P.m.rn.s P.m.rn.k.size hx ho rfl nv ok).mono ?_
    rintro e w1 ⟨rfl, hh⟩
    obtain ⟨W', sw, ho2, hold, st⟩ := hh.out
    obtain ⟨P1, kd1⟩ := P.m.store ⟨sw, P.m.rn.kst st⟩ st
    refine ⟨0, rfl, P1.rn.k, kd1, fun V k2 => ?_⟩
    have PV := P1.keep k2
    refine (rPut_ok PV.sr hfd hi hws nv ok).mono ?_
    rintro e w2 ⟨rfl, h2⟩
    obtain ⟨v', s2⟩ := h2.out
    obtain ⟨P2, kd2⟩ := PV.ref z0 s2
    subst hc
    exact ⟨rfl, kd2, _, _, _, _, _, _, _, _, ⟨P2, he, P.nb, Rl.setW P.rl hi ho2 hold v', P.q4⟩, by simp; omega⟩

theorem Pl.ndrop (h : Pl w0 w A br n) (z0 : 0 < w0.heap.size) {x : Int} (hx : U64 x) :
    Calls Tryz.prog 16 #[sp A.st, .int .u64 x] w fun e w1 => ∃ er, e = .returned (.int .i64 er) ∧ Aside (K w0 w1 ∧ Kd w w1 ∧ Nx 30 #[rp br, .int .u64 x] (.int .i64 er) w0 A br n w1) := by
  obtain ⟨pg, W, L, v, T, E, R, C, P, hl⟩ := h
  have he := P.e
  rcases ck_gn P.rl P.m.rn.s.r x with ⟨hne, hg⟩ | ⟨i, c, n0, h0, hfd, hi, hc, hws, ho⟩
  · refine (drop_no P.m.rn.s hx (by simpa using hne)).mono ?_
    rintro e w1 ⟨rfl, k⟩
    have P1 := P.keep k
    refine ⟨_, rfl, P1.m.rn.k, Kd.ofK k, fun V k2 => ?_⟩
    refine (rDrop_no (P1.m.keep k2).sr hg hne).mono ?_
    rintro e w2 ⟨rfl, s2⟩
    obtain ⟨P2, kd2⟩ := (P1.m.keep k2).ref z0 s2
    exact ⟨rfl, kd2, _, _, _, _, _, _, _, _, ⟨P2, he, P.nb, P.rl, P.q4⟩, hl⟩
  · obtain ⟨i2, s, hf, hs, so, _⟩ := ho_slot ho
    refine (drop_ok P.m.rn.s P.m.rn.k.size hx h0 hf hs).mono ?_
    rintro e w1 ⟨rfl, hh⟩
    obtain ⟨pg', W', p, k, hfb, hsb, sw, st⟩ := hh.out
    obtain ⟨P1, kd1⟩ := P.m.store ⟨sw, P.m.rn.kst st⟩ st
    refine ⟨0, rfl, P1.rn.k, kd1, fun V k2 => ?_⟩
    obtain ⟨j, c2, hj, hfd2, hat, rl2⟩ := P.rl.drop P.m.rn.s.r P.m.rn.s.b.tl hf hs hfb hsb
    have hfr : (freeL L s.a).2 = dropL L p k := by unfold freeL; rw [hfb]
    have hp := (Hp.findB_some hfb).1
    have PV := P1.keep k2
    refine rDrop_ok PV.sr (.node i c n0 hfd hi hws) (fun V' s' => ?_)
    have PV' := PV
    refine (Rs.rDrop_some s' x hfd2 (List.getElem?_eq_some_iff.1 hj).1 hat (fun E' hE => ?_)).mono ?_
    · rw [he, hfr] at hE
      exact Hp.eo_of sw.b.wl (Hp.nb_drop P.nb hp k) (P1.full P.q4) hE
    · rintro e w2 ⟨rfl, E', hE, s2⟩
      rw [he, hfr] at hE
      obtain ⟨P2, kd2⟩ := PV'.ref z0 s2
      exact ⟨rfl, kd2, _, _, _, _, _, _, _, _, ⟨P2, hE, Hp.nb_drop P.nb hp k, rl2, P.q4⟩, by simp; omega⟩

theorem Pl.nmake (h : Pl w0 w A br n) (z0 : 0 < w0.heap.size) (hn : n < 65536) (nv : Nv) (ok : nv.Ok) :
    Calls Tryz.prog 13 #[sp A.st, nv.v] w fun e w1 => ∃ y er, e = .returned (.tuple #[.int .u64 y, .int .i64 er]) ∧ Aside (U64 y ∧ K w0 w1 ∧ Kd w w1 ∧ Nx 27 #[rp br, nv.v] (.tuple #[.int .u64 y, .int .i64 er]) w0 A br (n + 1) w1) := by
  obtain ⟨pg, W, L, v, T, E, R, C, P, hl⟩ := h
  have hC := P.alloc (2 + 6)
  have he := P.e
  refine (make_any P.m.rn.s P.m.rn.k.size nv ok).mono ?_
  rintro e w1 (⟨a, L', y, T', ea, eo, a0, hy, y0, rfl, hh⟩ | ⟨er, her, hc, rfl, hh⟩)
  · obtain ⟨pg', W', v', sw, ho, hold, st⟩ := hh.out
    have ea2 : allocL A.q (entsR E) ((6 : Nat) + 2) = (a, 0, L') := by rw [he]; exact ea
    obtain ⟨P1, kd1⟩ := P.m.store ⟨sw, P.m.rn.kst st⟩ st
    refine ⟨y, 0, rfl, hy, P1.rn.k, kd1, fun V k => ?_⟩
    have PV := P1.keep k
    obtain ⟨R', hoR, _⟩ := Rl.add P.rl a0 P.m.rn.s.b.tl eo ho hold (.bool false)
    rw [ea] at hC
    have a1 : a ≤ 67108864 := by
      obtain ⟨_, hR⟩ := So.allocRm P.m.rn.s.b.wl (x := 2 + 6) ⟨by omega, by omega⟩ ea
      have := sw.b.at ((hR _ _).2 (.inl ⟨rfl, rfl⟩))
      omega
    refine (rMake_node (fun V' k' => Rs.rMake_ok (PV.sr.keep k').again 6 (by omega) ea2 hC (by omega) hoR (by omega)) (fun c hc => (hold _ _ (P.rl.r c hc)).1) nv ok).mono ?_
    rintro e w2 ⟨rfl, h2⟩
    obtain ⟨E', v9, hE, s2⟩ := h2.out
    obtain ⟨P2, kd2⟩ := PV.ref z0 s2
    obtain ⟨R2, hoR2, rl2⟩ := Rl.add P.rl a0 P.m.rn.s.b.tl eo ho hold v9
    rw [hoR] at hoR2
    simp only [Prod.mk.injEq] at hoR2
    obtain ⟨_, _, rfl⟩ := hoR2
    have nb := Hp.nb_alloc P.m.rn.s.b.wl P.nb P.q4 (2 + 6)
    rw [ea] at nb
    exact ⟨rfl, kd2, _, _, _, _, _, _, _, _, ⟨P2, hE, nb, rl2, P.q4⟩, by simp; omega⟩
  · obtain ⟨pg', W', v', sw, sm, st⟩ := hh.out
    obtain ⟨P1, kd1⟩ := P.m.store ⟨sw, P.m.rn.kst st⟩ st
    have hne : er ≠ 0 := by simpa using her
    refine ⟨0, er, rfl, ⟨by decide, by decide⟩, P1.rn.k, kd1, fun V k => ?_⟩
    have PV := P1.keep k
    have rl1 := P.rl.same P.m.rn.s.r sm
    refine rMake_none hne nv (fun V' k' => ?_)
    have s' := (PV.sr.keep k').again
    have back : ∀ {w2 : World} {E2 : List Hp.Re}, entsR E2 = L → Sr (V', w0.heap.size) w2 br A.q A.m A.z E2 R C → Aside (Kd V w2 ∧ Pl w0 w2 A br (n + 1)) := fun hE s2 => by
      obtain ⟨P2, kd2⟩ := (PV.keep k').ref z0 s2
      exact ⟨(Kd.ofK k').trans kd2, _, _, _, _, _, _, _, _, ⟨P2, hE, P.nb, rl1, P.q4⟩, by omega⟩
    rcases hc with ⟨a, ea, _⟩ | ⟨rfl, hf, a, L', ea⟩
    · have ea2 : allocL A.q (entsR E) (6 + 2) = (a, er, L) := by rw [he]; exact ea
      rw [ea] at hC
      refine (Rs.rMake_noroom s' 6 (by omega) (by omega) ea2 hne hC).mono ?_
      rintro e w2 ⟨rfl, E', hE, s2⟩
      exact ⟨rfl, back hE s2⟩
    · have ea2 : allocL A.q (entsR E) (6 + 2) = (a, 0, L') := by rw [he]; exact ea
      rw [ea] at hC
      have a0 : 0 ≤ a ∧ a ≤ 67108864 := by
        obtain ⟨_, hR⟩ := So.allocRm P.m.rn.s.b.wl (x := 2 + 6) ⟨by omega, by omega⟩ ea
        have wl2 := Rs.alloc_wl (q := A.q) P.m.rn.s.b.wl (2 + 6)
        have nb2 := Hp.nb_alloc P.m.rn.s.b.wl P.nb P.q4 (2 + 6)
        rw [ea] at wl2 nb2
        obtain ⟨p, hp, k, hk, hpa, _⟩ := (hR a _).2 (.inl ⟨rfl, rfl⟩)
        have h1 := Hp.place_in (wl2.ent p hp) (Hp.slot_ok hk)
        have h2 := wl2.n0 p hp
        have h3 := nb2 p hp
        have h4 := (wl2.ent p hp).span
        unfold Hp.addrI at hpa
        omega
      obtain ⟨y, hoR⟩ := rl1.full a0.1 hf
      refine (Rs.rMake_full s' 6 (by omega) (by omega) ea2 hC (by omega) hoR (by decide)).mono ?_
      rintro e w2 ⟨rfl, s2⟩
      exact ⟨rfl, back he s2⟩

end Nd
end Go.Proofs.YtlalmdckdejggaaGreatDoor
