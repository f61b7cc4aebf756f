/-
  Walks of package heap's look and pages: what the heads say, one page behind the other.
-/
import Derived.Test.YtlpdgomoepinjaaDoorHLeaf
import Derived.Shelf.Abstract
import Derived.Shelf.RegionOpen
import Derived.WalkKit
import Derived.OwnWalkIn
import Derived.TacticsInMore
import Derived.LoopNIn
import Derived.LoopIn
namespace Go.Proofs.YtlpdgomoepinjaaDoor
open Go.RowKit
attribute [local go_sem ↓] Go.wp_at_zero Go.wp_at_succ
namespace Hp
variable {w : World} {bh bs bm : Nat} {q : Int} {pg : List (Int × Nat)} {W : Int → Int}

theorem U_of_ok {a : Int} (h : Sl.WordOk a) : Bt.U a := by
  simp only [Sl.WordOk, Lit.wf, IntKind.min, IntKind.max, IntKind.signed, IntKind.bits, Bool.and_eq_true] at h
  unfold Bt.U
  simp at h
  omega

/-- A block of six cells that may be written. -/
theorem six {w : World} {b : Nat} {v0 v1 v2 v3 v4 v5 : Value} {t : TypeId} (h : w.heap[b]? = some (.cells #[v0, v1, v2, v3, v4, v5] t)) :
    (w.cell? ⟨b, 0, none⟩ = some v0 ∧ w.cell? ⟨b, 1, none⟩ = some v1 ∧ w.cell? ⟨b, 2, none⟩ = some v2 ∧ w.cell? ⟨b, 3, none⟩ = some v3 ∧ w.cell? ⟨b, 4, none⟩ = some v4 ∧ w.cell? ⟨b, 5, none⟩ = some v5) ∧ ∀ i, w.frozen? ⟨b, i, none⟩ = false := by
  simp [World.cell?, World.frozen?, h]

abbrev put6 (w : World) (b : Nat) (u0 u1 u2 u3 u4 u5 : Value) : World := (((((w.setCell ⟨b, 0, none⟩ u0).setCell ⟨b, 1, none⟩ u1).setCell ⟨b, 2, none⟩ u2).setCell ⟨b, 3, none⟩ u3).setCell ⟨b, 4, none⟩ u4).setCell ⟨b, 5, none⟩ u5

theorem set6 {w : World} {b : Nat} {v0 v1 v2 v3 v4 v5 : Value} {t : TypeId} (h : w.heap[b]? = some (.cells #[v0, v1, v2, v3, v4, v5] t)) (u0 u1 u2 u3 u4 u5 : Value) :
    (put6 w b u0 u1 u2 u3 u4 u5).heap[b]? = some (.cells #[u0, u1, u2, u3, u4, u5] t) := by
  have h1 := Sl.heap_setCell_same (i := 0) h u0
  have h2 := Sl.heap_setCell_same (i := 1) h1 u1
  have h3 := Sl.heap_setCell_same (i := 2) h2 u2
  have h4 := Sl.heap_setCell_same (i := 3) h3 u3
  have h5 := Sl.heap_setCell_same (i := 4) h4 u4
  have h6 := Sl.heap_setCell_same (i := 5) h5 u5
  exact h6
theorem K.put6 {w0 w : World} (k : K w0 w) {b : Nat} (hb : w0.heap.size ≤ b) (u0 u1 u2 u3 u4 u5 : Value) : K w0 (put6 w b u0 u1 u2 u3 u4 u5) :=
  (((((k.setCell _ hb).setCell _ hb).setCell _ hb).setCell _ hb).setCell _ hb).setCell _ hb

set_option maxRecDepth 100000 in
theorem look_any (h : Hw w bh bs bm q pg W) (k : Int) (h0 : 0 ≤ k) (h1 : k ≤ 1048575) (hb : (Sl.blk pg k).isSome = true) :
    Calls Tryd.prog 48 #[hp bh, .int .i64 k] w fun e w' => e = .returned (pgV (look pg W k)) ∧ K w w' := by
  obtain ⟨w1, hw1⟩ : ∃ w1, w1 = w.alloc (.cells #[.int .i64 0, .int .i64 0, .int .i64 0, .int .u64 0, .int .i64 0, .int .i64 0] 56) := ⟨_, rfl⟩
  have k1 : K w w1 := by rw [hw1]; exact (K.refl w).alloc _
  have hB1 : w1.heap[w.heap.size]? = some (.cells #[.int .i64 0, .int .i64 0, .int .i64 0, .int .u64 0, .int .i64 0, .int .i64 0] 56) := by rw [hw1]; exact World.alloc_heap_new _ _
  have ho := headOf_any (h.keep k1) k h0 h1 hb
  have um := U_of_ok (h.ar.ww (64 * k))
  have uh := U_of_ok (h.ar.ww (64 * k + 1))
  have hl : look pg W k = if classOk (W (64 * k)) (W (64 * k + 1)) = true then ⟨k, 1, W (64 * k) / 256, W (64 * k + 1), 0, 1⟩
    else if (largeOk (W (64 * k)) (W (64 * k + 1)) && Sl.allIn pg k (Cl.pagI (W (64 * k + 1))).toNat) = true then ⟨k, 2, 0, 0, W (64 * k + 1), Cl.pagI (W (64 * k + 1))⟩ else ⟨k, 0, 0, 0, 0, 1⟩ := rfl
  have hg : w.heap.size < w1.heap.size := (Array.getElem?_eq_some_iff.1 hB1).1
  have hA := fun w' (kk : K w1 w') p n => haveAll_any ((h.keep k1).keep kk) p n
  generalize W (64 * k) = m at *
  generalize W (64 * k + 1) = x at *
  have cc := fun w => headClass_any m x um uh w
  have cl := fun w => headLarge_any m x uh w
  go_enter Tryd.func48, Tryd.ntmps48
  go_wp2_with fail
  rw [← hw1]
  refine ho.mono ?_
  rintro e w2 ⟨rfl, k2⟩
  have hB2 := k2.block hB1
  have k2' := k1.trans k2
  have hlt2 := k2.size
  clear ho hw1
  go_wp2_with fail
  obtain ⟨w3, hw3⟩ : ∃ w3, w3 = w2.alloc (.cells #[.int .u64 m, .int .u64 x] 77) := ⟨_, rfl⟩
  have k3 : K w2 w3 := by rw [hw3]; exact (K.refl w2).alloc _
  have hD3 : w3.heap[w2.heap.size]? = some (.cells #[.int .u64 m, .int .u64 x] 77) := by rw [hw3]; exact World.alloc_heap_new _ _
  rw [← hw3]
  refine (cc _).mono ?_
  rintro e w4 ⟨c, rfl, hc, k4⟩
  have hB4 := k4.block (k3.block hB2)
  obtain ⟨⟨b0, b1, b2, b3, b4, b5⟩, bf⟩ := six hB4
  obtain ⟨g0, g1⟩ := cells2 (k4.block hD3)
  have k4' := (k2'.trans k3).trans k4
  have ks := (k2.trans k3).trans k4
  have hlt4 := ks.size
  clear hw3 hD3 cc
  generalize hBB : w.heap.size = B at *
  generalize hDD : w2.heap.size = D at *
  cases hk : classOk m x with
  | true =>
    obtain rfl := hc hk
    rw [hk] at hl
    simp only [if_true] at hl
    have HL : Hid _ := hl
    clear hl hA cl
    have hE := set6 hB4 (.int .i64 k) (.int .i64 1) (.int .i64 (m / 256)) (.int .u64 x) (.int .i64 0) (.int .i64 1)
    have kE := k4'.put6 (b := B) (by omega) (.int .i64 k) (.int .i64 1) (.int .i64 (m / 256)) (.int .u64 x) (.int .i64 0) (.int .i64 1)
    obtain ⟨⟨e0, e1, e2, e3, e4, e5⟩, _⟩ := six hE
    have HE : Aside _ := And.intro e0 (And.intro e1 (And.intro e2 (And.intro e3 (And.intro e4 e5))))
    clear e0 e1 e2 e3 e4 e5 hE
    go_wp2
    obtain ⟨e0, e1, e2, e3, e4, e5⟩ := HE.out
    exact bodyPost_ret (v := pgV ⟨k, 1, m / 256, x, 0, 1⟩) (by simp [results, Tryd.results48, go_sem, e0, e1, e2, e3, e4, e5]) rfl ⟨by rw [HL.out], kE⟩
  | false =>
    rw [hk] at hl
    simp only [Bool.false_eq_true, if_false] at hl
    go_wp2_with fail
    refine (cl _).mono ?_
    rintro e w5 ⟨a, p, rfl, hp, k5⟩
    have hB5 := k5.block hB4
    have k5' := k4'.trans k5
    have ks5 := ks.trans k5
    clear b0 b1 b2 b3 b4 b5 bf
    obtain ⟨⟨b0, b1, b2, b3, b4, b5⟩, bf⟩ := six hB5
    cases hL : largeOk m x with
    | true =>
      have ea := (hp hL).1.symm
      have ep := (hp hL).2.symm
      subst ea
      subst ep
      obtain ⟨x0, x1, _⟩ := largeOk_inv hL
      have pr := pag_range x0 x1
      have ha := hA w5 ks5 k (Cl.pagI x).toNat (by omega) (by omega) (by omega)
      rw [show ((Cl.pagI x).toNat : Int) = Cl.pagI x from by omega] at ha
      rw [hL] at hl
      simp only [Bool.true_and] at hl
      generalize Cl.pagI x = y at *
      cases hall : Sl.allIn pg k y.toNat with
      | true =>
        rw [hall] at hl ha
        simp only [if_true] at hl
        have HL : Hid _ := hl
        clear hl hA cl hc hp pr
        have hE := set6 hB5 (.int .i64 k) (.int .i64 2) (.int .i64 0) (.int .u64 0) (.int .i64 x) (.int .i64 y)
        have kE := k5'.put6 (b := B) (by omega) (.int .i64 k) (.int .i64 2) (.int .i64 0) (.int .u64 0) (.int .i64 x) (.int .i64 y)
        obtain ⟨⟨e0, e1, e2, e3, e4, e5⟩, _⟩ := six hE
        have HE : Aside _ := And.intro e0 (And.intro e1 (And.intro e2 (And.intro e3 (And.intro e4 e5))))
        clear e0 e1 e2 e3 e4 e5 hE
        go_wp2_with (go_at_call 69; refine ha.mono ?_; rintro e w' ⟨rfl, rfl⟩)
        obtain ⟨e0, e1, e2, e3, e4, e5⟩ := HE.out
        exact bodyPost_ret (v := pgV ⟨k, 2, 0, 0, x, y⟩) (by simp [results, Tryd.results48, go_sem, e0, e1, e2, e3, e4, e5]) rfl ⟨by rw [HL.out], kE⟩
      | false =>
        rw [hall] at hl ha
        simp only [Bool.false_eq_true, if_false] at hl
        have HL : Hid _ := hl
        clear hl hA cl hc hp pr
        have hE := set6 hB5 (.int .i64 k) (.int .i64 0) (.int .i64 0) (.int .u64 0) (.int .i64 0) (.int .i64 1)
        have kE := k5'.put6 (b := B) (by omega) (.int .i64 k) (.int .i64 0) (.int .i64 0) (.int .u64 0) (.int .i64 0) (.int .i64 1)
        obtain ⟨⟨e0, e1, e2, e3, e4, e5⟩, _⟩ := six hE
        have HE : Aside _ := And.intro e0 (And.intro e1 (And.intro e2 (And.intro e3 (And.intro e4 e5))))
        clear e0 e1 e2 e3 e4 e5 hE
        go_wp2_with (go_at_call 69; refine ha.mono ?_; rintro e w' ⟨rfl, rfl⟩)
        obtain ⟨e0, e1, e2, e3, e4, e5⟩ := HE.out
        exact bodyPost_ret (v := pgV ⟨k, 0, 0, 0, 0, 1⟩) (by simp [results, Tryd.results48, go_sem, e0, e1, e2, e3, e4, e5]) rfl ⟨by rw [HL.out], kE⟩
    | false =>
      rw [hL] at hl
      simp only [Bool.false_and, Bool.false_eq_true, if_false] at hl
      have HL : Hid _ := hl
      clear hl hA cl hc hp
      have hE := set6 hB5 (.int .i64 k) (.int .i64 0) (.int .i64 0) (.int .u64 0) (.int .i64 0) (.int .i64 1)
      have kE := k5'.put6 (b := B) (by omega) (.int .i64 k) (.int .i64 0) (.int .i64 0) (.int .u64 0) (.int .i64 0) (.int .i64 1)
      obtain ⟨⟨e0, e1, e2, e3, e4, e5⟩, _⟩ := six hE
      have HE : Aside _ := And.intro e0 (And.intro e1 (And.intro e2 (And.intro e3 (And.intro e4 e5))))
      clear e0 e1 e2 e3 e4 e5 hE
      go_wp2
      obtain ⟨e0, e1, e2, e3, e4, e5⟩ := HE.out
      exact bodyPost_ret (v := pgV ⟨k, 0, 0, 0, 0, 1⟩) (by simp [results, Tryd.results48, go_sem, e0, e1, e2, e3, e4, e5]) rfl ⟨by rw [HL.out], kE⟩

end Hp
end Go.Proofs.YtlpdgomoepinjaaDoor
