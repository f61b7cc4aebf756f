/-
  The walk of the statement on a node's words.
-/
import Derived.Test.YtlalmdckdejggaaGreatDoorN3
namespace Go.Proofs.YtlalmdckdejggaaGreatDoor
open Go.RowKit Go.Maps
attribute [local go_sem ↓] Go.wp_at_zero Go.wp_at_succ
namespace Nd
open Hp (Kept K No granted)
open Hd (U64 findL)
open Go.Proofs.YtlalmdckdejggaaGreatDoor.Bb (Ho)
open Go.Proofs.YtlalmdckdejggaaGreatDoor.So (Ad Sw Rn Stp sp wE)
variable {w0 w w' : World} {A : Ad} {pg : List (Int × Nat)} {W : Int → Int} {L : List Hp.Pg} {v : Value} {T : List Hd.Sl} {x : Int}

/-- A word that is put, or refused. -/
theorem put_word (h : Rn w0 w A pg W L v T) (hx : U64 x) {n n' : Nv} (ho : Ho T W x n.ws) {k : Nat} (hk : k < 6) {y : Int} (hy : 0 ≤ y ∧ y ≤ 18446744073709551615) (hn : n'.ws = n.ws.set k y) :
    Calls Tryz.prog 21 #[sp A.st, .int .u64 x, .int .i64 (k : Int), .int .u64 y] w fun e w' => e = .returned (.int .i64 0) ∧ Aside (∃ W', Rn w0 w' A pg W' L v T ∧ Ho T W' x n'.ws ∧ Stp A pg pg v v w w') := by
  obtain ⟨e0, h1, _⟩ := Ho.put h.s.r h.s.b.wl h.s.b.tl ho (k := k) hk y
  rw [← hn] at h1
  refine (h.put x (k : Int) y 0 hx (wordOk_of hy.1 hy.2) e0).mono ?_
  rintro e w2 ⟨rfl, rn, st⟩
  exact ⟨rfl, _, rn, h1, st⟩
theorem put_arg (h : Rn w0 w A pg W L v T) (hx : U64 x) {n : Nv} (ho : Ho T W x n.ws) {k : Int} (hk : k < 0 ∨ 5 < k) {y : Int} (hy : 0 ≤ y ∧ y ≤ 18446744073709551615) :
    Calls Tryz.prog 21 #[sp A.st, .int .u64 x, .int .i64 k, .int .u64 y] w fun e w' => e = .returned (.int .i64 2) ∧ Aside (K w0 w') := by
  obtain ⟨i, s, hi, hs, so, hw⟩ := ho_slot ho
  obtain ⟨_, n0, n1, _⟩ := h.s.r.nm i s hs so
  have ea : Hd.addrAt T i = s.a := by simp [Hd.addrAt, hs]
  have hl : W (s.a + 1) = 6 := by
    have h1 := wdA_len (W := W) (a := s.a)
    rw [hw, show n.ws.length = 6 from rfl] at h1
    omega
  have e2 : wE T W x k = 2 := by simp only [wE, hi, ea]; rw [if_neg (by omega)]
  refine (h.put x k y 2 hx (wordOk_of hy.1 hy.2) e2).mono ?_
  rintro e w2 ⟨rfl, rn, st⟩
  exact ⟨rfl, rn.k⟩

theorem cs_ws (n : Nv) : n.cs = (n.ws.map encU).toArray := rfl
theorem cs_set {n n' : Nv} {k : Nat} {y : Int} (h : n'.ws = n.ws.set k y) : n.cs.setIfInBounds k (encU y) = n'.cs := by
  rw [cs_ws, cs_ws, h, List.map_set]
  simp
theorem run_ixL (g k : Nat) (hk : k < 6) (w' : World) : (Instr.indexAt 67 (.slice (some ⟨g, 0, none⟩) 6 6) (.int .i64 (k : Int))).run Tryz.prog w' = .ok (.pointer (some ⟨g, k, none⟩)) w' := by
  have hel : Tryz.prog.elem 67 = 44 := by kernel_rfl
  have hsz : (sizeOf 44).run Tryz.prog w' = .ok 1 w' := by kernel_rfl
  have hu : Tryz.prog.underlying 67 = some (.slice (Tryz.prog.elem 67)) := by kernel_rfl
  rw [run_indexAt_slice w' 67 _ 6 6 .i64 k hu, if_pos (by omega), hel, hsz]
  simp only [Result.andThen_ok, Int.toNat_natCast, Nat.mul_one]
  rw [Go.WideShapes.add_plain, Nat.zero_add]

/-- The store, its node, the row of words. -/
structure Wr (w0 w : World) (A : Ad) (x : Int) (n : Nv) (g : Nat) (m : Nv) : Prop where
  ex : ∃ pg W L v T, Rn w0 w A pg W L v T ∧ Ho T W x n.ws ∧ ¬ So.foot A pg v g ∧ g ≠ A.bh ∧ g ≠ A.st
  hx : U64 x
  hb : w.heap[g]? = some (.cells m.cs 44)
  lo : w0.heap.size ≤ g
theorem Wr.keep {n m : Nv} {g : Nat} (h : Wr w0 w A x n g m) (k : K w w') : Wr w0 w' A x n g m := by
  obtain ⟨pg, W, L, v, T, rn, ho, hg⟩ := h.ex
  exact ⟨⟨pg, W, L, v, T, rn.keep k, ho, hg⟩, h.hx, k.block h.hb, h.lo⟩
theorem Wr.k {n m : Nv} {g : Nat} (h : Wr w0 w A x n g m) : K w0 w := by
  obtain ⟨pg, W, L, v, T, rn, _⟩ := h.ex
  exact rn.k
theorem Wr.word {n m : Nv} {g : Nat} (h : Wr w0 w A x n g m) {k : Nat} {y : Int} (hy : n.ws[k]? = some y) : Calls Tryz.prog 20 #[sp A.st, .int .u64 x, .int .i64 (k : Int)] w fun e w' => e = .returned (.tuple #[.int .u64 y, .int .i64 0]) ∧ Aside (Wr w0 w' A x n g m) := by
  obtain ⟨pg, W, L, v, T, rn, ho, hg⟩ := h.ex
  exact (word_held rn.s h.hx ho hy).mono fun e w2 hh => ⟨hh.1, h.keep hh.2⟩
theorem Wr.cell {n m : Nv} {g : Nat} (h : Wr w0 w A x n g m) {k : Nat} {y : Int} (hy : m.ws[k]? = some y) : w.cell? ⟨g, k, none⟩ = some (.int .u64 y) := by
  have : m.cs[k]? = some (encU y) := by rw [cs_ws, List.getElem?_toArray, List.getElem?_map, hy]; rfl
  simp [World.cell?, h.hb, this]
theorem Wr.put {n n' m : Nv} {g : Nat} (h : Wr w0 w A x n g m) {k : Nat} (hk : k < 6) {y : Int} (hy : 0 ≤ y ∧ y ≤ 18446744073709551615) (hn : n'.ws = n.ws.set k y) :
    Calls Tryz.prog 21 #[sp A.st, .int .u64 x, .int .i64 (k : Int), .int .u64 y] w fun e w' => e = .returned (.int .i64 0) ∧ Aside (Wr w0 w' A x n' g m) := by
  obtain ⟨pg, W, L, v, T, rn, ho, hg, hg2⟩ := h.ex
  refine (put_word rn h.hx ho hk hy hn).mono ?_
  rintro e w2 ⟨rfl, hh⟩
  obtain ⟨W', rn2, ho2, st⟩ := hh.out
  exact ⟨rfl, ⟨pg, W', L, v, T, rn2, ho2, hg, hg2⟩, h.hx, st.block h.hb hg, h.lo⟩
theorem Wr.arg {n m : Nv} {g : Nat} (h : Wr w0 w A x n g m) {k : Int} (hk : k < 0 ∨ 5 < k) {y : Int} (hy : 0 ≤ y ∧ y ≤ 18446744073709551615) :
    Calls Tryz.prog 21 #[sp A.st, .int .u64 x, .int .i64 k, .int .u64 y] w fun e w' => e = .returned (.int .i64 2) ∧ Aside (K w0 w') := by
  obtain ⟨pg, W, L, v, T, rn, ho, hg, hg2⟩ := h.ex
  exact put_arg rn h.hx ho hk hy
theorem Wr.get {n m : Nv} {g : Nat} (h : Wr w0 w A x n g m) : Calls Tryz.prog 14 #[sp A.st, .int .u64 x] w fun e w' => e = .returned (.tuple #[n.v, .int .i64 0]) ∧ Aside (Wr w0 w' A x n g m) := by
  obtain ⟨pg, W, L, v, T, rn, ho, hg⟩ := h.ex
  exact (get_node rn.s h.hx ho).mono fun e w2 hh => ⟨hh.1, h.keep hh.2⟩
theorem Wr.set {n m m' : Nv} {g : Nat} (h : Wr w0 w A x n g m) {k : Nat} {y : Int} (hm : m'.ws = m.ws.set k y) : Wr w0 (w.setCell ⟨g, k, none⟩ (.int .u64 y)) A x n g m' := by
  obtain ⟨pg, W, L, v, T, rn, ho, hg, hg2, hg3⟩ := h.ex
  have kk : Kept (fun j => j = g) w (w.setCell ⟨g, k, none⟩ (.int .u64 y)) := (Kept.refl _ _).setCell _ (.inl rfl)
  have z0 : g ≠ 0 := by
    have := Hp.lt0 rn.s.b.hp.hw.tab
    intro e
    subst e
    have h1 := rn.s.b.hp.hw.tab 1 (by decide)
    simp only [World.cell?, h.hb] at h1
    rw [cs_ws] at h1
    simp [Nv.ws] at h1
  refine ⟨⟨pg, W, L, v, T, ⟨⟨rn.s.b.kept kk (fun j hj => by subst hj; exact ⟨hg, hg2, z0, hg3⟩), rn.s.r⟩, kthen rn.k kk (fun j hj => by rw [hj]; exact h.lo)⟩, ho, hg, hg2, hg3⟩, h.hx, ?_, h.lo⟩
  rw [heap_setCell_same w g k _ _ (.int .u64 y) h.hb, cs_set hm]

set_option maxRecDepth 100000 in
set_option maxHeartbeats 2000000 in
theorem words_walk (n : Nv) (hn : n.Ok) (at' : Int) (_ : Hp.In64 at') (y : Int) (hy : 0 ≤ y ∧ y ≤ 18446744073709551615) (w : World) (hT : Bt.Tab w) : Calls Tryz.prog 6 #[n.v, .int .i64 at', .int .u64 y] w fun e w' => e = .returned (.bool true) ∧ K w w' := by
  have ca : Aside (∀ w1, K w w1 → Calls Tryz.prog 8 #[] w1 fun e w' => e = .returned (.bool true) ∧ K w w') := fun w1 k => (awake_any w1 (hT.keep ⟨k.below⟩)).mono fun e w2 h => ⟨h.1, k.trans h.2⟩
  have k01 : K w (w.alloc (.cells n.cs 47)) := (K.refl w).alloc _
  have hb0 : (w.alloc (.cells n.cs 47)).heap[w.heap.size]? = some (.cells n.cs 47) := World.alloc_heap_new _ _
  have cn := Rn.new 640 9 9 _ (hT.keep ⟨k01.below⟩) (by decide) (by decide) (by decide) (by decide) (by decide) (by decide)
  have K01 : Aside _ := k01
  have HB0 : Aside _ := hb0
  have HN : Aside _ := hn
  clear k01 hb0 hn hT
  go_enter Tryz.func6, Tryz.ntmps6
  go_wp2_with fail
  refine cn.mono ?_
  rintro e w1 ⟨A, v, rfl, HA, k1⟩
  obtain ⟨rn, hq, hm, hz, _, _⟩ := HA.out
  obtain ⟨a, L', ea, _⟩ := alloc_one
  rw [← hq] at ea
  have cp := make_fits rn n HN.out ea (by rw [hm]; decide)
  have hb1 := k1.block HB0.out
  obtain ⟨d0, d1, d2, d3, d4, d5⟩ := six hb1
  have hlt : w.heap.size < w1.heap.size := (Array.getElem?_eq_some_iff.1 hb1).1
  have nf : ¬ So.foot A [] v w.heap.size := fun hf => by
    have := rn.s.b.flo hf
    simp at this
    omega
  have BK : Aside (∀ V pg' v', Stp A [] pg' v v' w1 V → V.heap[w.heap.size]? = some (.cells n.cs 47)) := fun V pg' v' st => st.block hb1 nf
  clear HA ea rn cn hq hm hz hb1 nf HB0 k1
  go_wp2_with fail
  refine cp.mono ?_
  rintro e w2 ⟨x, rfl, HX⟩
  obtain ⟨hx, x0, pg2, W2, v2, T2, F⟩ := HX.out
  have hb2 := BK.out w2 pg2 v2 F.st
  obtain ⟨d0, d1, d2, d3, d4, d5⟩ := six hb2
  have hlt : w.heap.size < w2.heap.size := (Array.getElem?_eq_some_iff.1 hb2).1
  have W0 : Aside (Wr (w.alloc (.cells n.cs 47)) (w2.alloc (.cells n.cs 44)) A x n w2.heap.size n) := ⟨⟨pg2, W2, L', v2, T2, F.rn.keep ((K.refl w2).alloc _), F.ho, fun hf => by have := F.rn.s.b.flt hf; omega, by have : A.bh < w2.heap.size := Hp.lt_of_cell F.rn.s.b.hp.hw.c0; omega, by have := F.rn.s.b.lt; omega⟩, hx, World.alloc_heap_new _ _, F.rn.k.size⟩
  clear HX F cp BK hb2 hx x0
  have W0' : Aside (Wr (w.alloc (.cells n.cs 47)) (w2.alloc (.cells #[.int .u64 n.a, .int .u64 n.b, .int .u64 n.c, .int .u64 n.d, .int .u64 n.e, .int .u64 n.f] 44)) A x n w2.heap.size n) := W0.out
  have AT : Aside (∀ k, k < 6 → ∃ y, n.ws[k]? = some y) := fun k hk => ⟨_, List.getElem?_eq_getElem hk⟩
  clear W0
  go_wp2_with fail
  go_loopw [12] (fun t wr => ∃ k : Nat, t = .int .i64 k ∧ k ≤ 6 ∧ Aside (Wr (w.alloc (.cells n.cs 47)) wr A x n w2.heap.size n)) (fun t _ => 6 - (intOf t).toNat)
  case atStart => exact ⟨0, rfl, by omega, W0'⟩
  case round =>
    obtain ⟨k, rfl, hk, WK⟩ := hrel
    clear W0'
    by_cases hlt6 : k < 6
    · obtain ⟨u, hu⟩ := AT.out k hlt6
      have cg := WK.out.word hu
      have ixk := fun w' => run_ixL w2.heap.size k hlt6 w'
      have HU : Aside _ := hu
      clear hu
      go_wp2_with fail
      refine cg.mono ?_
      rintro e w5 ⟨rfl, W5⟩
      have hc := W5.out.cell HU.out
      clear cg WK
      go_wp2_with fail
      go_roundw
      case measure => simp [intOf]; omega
      case rel => exact ⟨k + 1, by go_num, by omega, W5⟩
    · obtain rfl : k = 6 := by omega
      clear hk hlt6 AT
      by_cases ha0 : at' < 0
      · have pa := WK.out.arg (k := at') (.inl ha0) hy
        clear WK
        go_wp2_with fail
        refine pa.mono ?_
        rintro e w6 ⟨rfl, K6⟩
        have cx := ca.out w6 (K01.out.trans K6.out)
        clear pa ca K6 K01
        go_wp2_with fail
        refine cx.mono ?_
        rintro e w7 ⟨rfl, k7⟩
        go_wp2_with fail
        go_ret
        exact ⟨rfl, k7⟩
      · have hd0 : decide (at' < 0) = false := decide_eq_false ha0
        by_cases ha5 : 5 < at'
        · have pa := WK.out.arg (k := at') (.inr ha5) hy
          have hd5 : decide (5 < at') = true := decide_eq_true ha5
          clear WK
          go_wp2_with fail
          refine pa.mono ?_
          rintro e w6 ⟨rfl, K6⟩
          have cx := ca.out w6 (K01.out.trans K6.out)
          clear pa ca K6 K01
          go_wp2_with fail
          refine cx.mono ?_
          rintro e w7 ⟨rfl, k7⟩
          go_wp2_with fail
          go_ret
          exact ⟨rfl, k7⟩
        · have hd5 : decide (5 < at') = false := decide_eq_false ha5
          obtain ⟨k, hk⟩ : ∃ k : Nat, at' = (k : Int) := ⟨at'.toNat, by omega⟩
          have hk6 : k < 6 := by omega
          subst hk
          obtain ⟨n', hn'⟩ := Nv.of_ws (ws := n.ws.set k y) (by rw [List.length_set]; rfl)
          have pp := WK.out.put (n' := n') hk6 hy hn'
          have HN' : Aside _ := hn'
          clear WK hn'
          go_wp2_with fail
          refine pp.mono ?_
          rintro e w6 ⟨rfl, W6⟩
          have cg := W6.out.get
          clear pp
          go_wp2_with fail
          refine cg.mono ?_
          rintro e w7 ⟨rfl, W7⟩
          have ixk := fun w' => run_ixL w2.heap.size k hk6 w'
          have hb7 := W7.out.hb
          have glt : w2.heap.size < w7.heap.size := (Array.getElem?_eq_some_iff.1 hb7).1
          obtain ⟨u, hu⟩ : ∃ u, w7.cell? ⟨w2.heap.size, k, none⟩ = some u := by
            obtain ⟨u, hu⟩ : ∃ u, n.ws[k]? = some u := ⟨_, List.getElem?_eq_getElem hk6⟩
            exact ⟨_, W7.out.cell hu⟩
          have gz : w7.frozen? ⟨w2.heap.size, k, none⟩ = false := frz hb7 k
          have W9 : Aside (Wr (w.alloc (.cells n.cs 47)) ((w7.setCell ⟨w2.heap.size, k, none⟩ (.int .u64 y)).alloc (.cells n'.cs 47)) A x n' w2.heap.size n' ∧ ((w7.setCell ⟨w2.heap.size, k, none⟩ (.int .u64 y)).alloc (.cells n'.cs 47)).heap[w7.heap.size]? = some (.cells n'.cs 47)) := ⟨(W7.out.set HN'.out).keep ((K.refl _).alloc _), by have := World.alloc_heap_new (w7.setCell ⟨w2.heap.size, k, none⟩ (.int .u64 y)) (.cells n'.cs 47); simpa using this⟩
          clear cg W6 W7 hb7 HN' hd0 hd5 ha0 ha5 HN
          go_wp2_with fail
          obtain ⟨w9, hw9⟩ : ∃ w9, w9 = (w7.setCell ⟨w2.heap.size, k, none⟩ (.int .u64 y)).alloc (.cells n'.cs 47) := ⟨_, rfl⟩
          rw [show ((w7.setCell ⟨w2.heap.size, k, none⟩ (.int .u64 y)).alloc (.cells #[.int .u64 n'.a, .int .u64 n'.b, .int .u64 n'.c, .int .u64 n'.d, .int .u64 n'.e, .int .u64 n'.f] 47)) = w9 from hw9.symm]
          have W9' : Aside (Wr (w.alloc (.cells n.cs 47)) w9 A x n' w2.heap.size n' ∧ w9.heap[w7.heap.size]? = some (.cells n'.cs 47)) := by
            rw [hw9]
            exact W9.out
          clear hw9 W9 hu gz ixk glt
          obtain ⟨g0, g1, g2, g3, g4, g5⟩ := six W9'.out.1.hb
          obtain ⟨e0, e1, e2, e3, e4, e5⟩ := six W9'.out.2
          have gl1 : w2.heap.size < w9.heap.size := (Array.getElem?_eq_some_iff.1 W9'.out.1.hb).1
          have gl2 : w7.heap.size < w9.heap.size := (Array.getElem?_eq_some_iff.1 W9'.out.2).1
          have K9 : Aside (∀ V, K (w9.alloc (.cells n'.cs 47)).drew V → K w V ∧ V.heap[w7.heap.size]? = some (.cells n'.cs 47) ∧ V.heap[w9.heap.size]? = some (.cells n'.cs 47)) := fun V q => by
            have q9 : K w9 V := (((K.refl w9).alloc (.cells n'.cs 47)).drew).trans q
            refine ⟨(K01.out.trans W9'.out.1.k).trans q9, q9.block W9'.out.2, ?_⟩
            have h1 : (w9.alloc (.cells n'.cs 47)).heap[w9.heap.size]? = some (.cells n'.cs 47) := World.alloc_heap_new _ _
            exact (((K.refl (w9.alloc (.cells n'.cs 47))).drew).trans q).block h1
          clear W9' K01
          go_region
          obtain ⟨w10, hw10⟩ : ∃ w10, w10 = (w9.alloc (.cells n'.cs 47)).drew := ⟨_, rfl⟩
          rw [show ((w9.alloc (.cells #[.int .u64 n'.a, .int .u64 n'.b, .int .u64 n'.c, .int .u64 n'.d, .int .u64 n'.e, .int .u64 n'.f] 47)).drew) = w10 from hw10.symm]
          obtain ⟨K10, hbA, hbB⟩ := K9.out w10 (by rw [hw10]; exact K.refl _)
          have cx := ca.out w10 K10
          clear hw10 K9 g0 g1 g2 g3 g4 g5 e0 e1 e2 e3 e4 e5 gl1 gl2 ca K10
          obtain ⟨g0, g1, g2, g3, g4, g5⟩ := six hbA
          obtain ⟨e0, e1, e2, e3, e4, e5⟩ := six hbB
          have gl1 : w7.heap.size < w10.heap.size := (Array.getElem?_eq_some_iff.1 hbA).1
          have gl2 : w9.heap.size < w10.heap.size := (Array.getElem?_eq_some_iff.1 hbB).1
          clear hbA hbB
          go_wp2_with fail
          refine cx.mono ?_
          rintro e w11 ⟨rfl, k11⟩
          go_wp2_with fail
          go_ret
          exact ⟨rfl, k11⟩

end Nd
end Go.Proofs.YtlalmdckdejggaaGreatDoor
