/-
  The walk of package heap's leastFree: the least free slot of a class.
-/
import Derived.Test.YtlpdgomoepinjaaDoorHBlocks
namespace Go.Proofs.YtlpdgomoepinjaaDoor
open Go.RowKit Go.Shelf
attribute [local go_sem] Oper.semAt_some
namespace Hp
variable {w : World} {bh bs bm : Nat} {q : Int} {pg : List (Int × Nat)} {W : Int → Int}

theorem scan_mem {f : Int → Pg} {l : List Int} {b : Int} {p : Pg} (h : p ∈ scan f l b) : ∃ n, n ∈ l ∧ p = f n := by
  induction l generalizing b with
  | nil => simp [scan] at h
  | cons n r ih =>
    unfold scan at h
    split at h
    · obtain ⟨m, hm, e⟩ := ih h
      exact ⟨m, List.mem_cons_of_mem _ hm, e⟩
    · rcases List.mem_cons.1 h with rfl | h
      · exact ⟨n, by simp, rfl⟩
      · obtain ⟨m, hm, e⟩ := ih h
        exact ⟨m, List.mem_cons_of_mem _ hm, e⟩

/-- What is so of every page that has a head. -/
structure PgOk (p : Pg) : Prop where
  n0 : 0 ≤ p.n
  n1 : p.n ≤ 1048575
  u : Bt.U p.taken

theorem heads_ok (ha : Sl.Arena w bs bm q pg W) {p : Pg} (hp : p ∈ heads pg W) : PgOk p := by
  obtain ⟨n, hn, rfl⟩ := scan_mem hp
  obtain ⟨x, hx, rfl⟩ := List.mem_map.1 hn
  have hr := ha.rng x hx
  have hu := U_of_ok (ha.ww (64 * x.1 + 1))
  have z : Bt.U 0 := ⟨by omega, by omega⟩
  refine ⟨by rw [look_n]; exact hr.1, by rw [look_n]; exact hr.2, ?_⟩
  unfold look
  split
  · exact hu
  · split <;> exact z

theorem mem_of_pre {pre l : List Pg} {x : Pg} (h : pre ++ [x] <+: l) : x ∈ l := h.subset (by simp)

/-- The least free slot of a page, if it is of the class. -/
def freeOf (c : Int) (p : Pg) : Option (Pg × Int) := if (p.kind == 1 && p.cls == c) = true then (if 0 ≤ Bt.freI p.taken (Cl.sloI p.cls) then some (p, Bt.freI p.taken (Cl.sloI p.cls)) else none) else none
/-- The least free slot of a class. -/
def freeB (l : List Pg) (c : Int) : Option (Pg × Int) := l.findSome? (freeOf c)

theorem freeB_snoc {c : Int} {pre : List Pg} {x : Pg} (h : freeB pre c = none) : freeB (pre ++ [x]) c = freeOf c x := by
  unfold freeB at *
  rw [List.findSome?_append, h]
  simp
theorem freeB_pre {c : Int} {pre l : List Pg} {r : Pg × Int} (h : pre <+: l) (hr : freeB pre c = some r) : freeB l c = some r := by
  obtain ⟨t, rfl⟩ := h
  unfold freeB at *
  rw [List.findSome?_append, hr]
  rfl

/-- Seven zeros: the zero block. -/
abbrev zeroB : Array Value := #[.int .i64 0, .int .i64 0, .int .i64 0, .int .u64 0, .int .i64 0, .int .i64 0, .int .i64 0]
abbrev cellsB (p : Pg) (s : Int) : Array Value := #[.int .i64 p.n, .int .i64 p.kind, .int .i64 p.cls, .int .u64 p.taken, .int .i64 p.words, .int .i64 p.span, .int .i64 s]
abbrev cellsP (p : Pg) : Array Value := #[.int .i64 p.n, .int .i64 p.kind, .int .i64 p.cls, .int .u64 p.taken, .int .i64 p.words, .int .i64 p.span]

theorem seven {w : World} {b : Nat} {v0 v1 v2 v3 v4 v5 v6 : Value} {t : TypeId} (h : w.heap[b]? = some (.cells #[v0, v1, v2, v3, v4, v5, v6] t)) :
    (w.cell? ⟨b, 0, none⟩ = some v0 ∧ w.cell? ⟨b, 1, none⟩ = some v1 ∧ w.cell? ⟨b, 2, none⟩ = some v2 ∧ w.cell? ⟨b, 3, none⟩ = some v3 ∧ w.cell? ⟨b, 4, none⟩ = some v4 ∧ w.cell? ⟨b, 5, none⟩ = some v5 ∧ w.cell? ⟨b, 6, none⟩ = some v6) ∧ ∀ i, w.frozen? ⟨b, i, none⟩ = false := by
  simp [World.cell?, World.frozen?, h]
abbrev put7 (w : World) (b : Nat) (u0 u1 u2 u3 u4 u5 u6 : Value) : World := (put6 w b u0 u1 u2 u3 u4 u5).setCell ⟨b, 6, none⟩ u6
theorem set7 {w : World} {b : Nat} {v0 v1 v2 v3 v4 v5 v6 : Value} {t : TypeId} (h : w.heap[b]? = some (.cells #[v0, v1, v2, v3, v4, v5, v6] t)) (u0 u1 u2 u3 u4 u5 u6 : Value) :
    (put7 w b u0 u1 u2 u3 u4 u5 u6).heap[b]? = some (.cells #[u0, u1, u2, u3, u4, u5, u6] t) := by
  have h1 : (w.setCell ⟨b, 0, none⟩ u0).heap[b]? = some (.cells #[u0, v1, v2, v3, v4, v5, v6] t) := Sl.heap_setCell_same (i := 0) h u0
  have h2 : ((w.setCell ⟨b, 0, none⟩ u0).setCell ⟨b, 1, none⟩ u1).heap[b]? = some (.cells #[u0, u1, v2, v3, v4, v5, v6] t) := Sl.heap_setCell_same (i := 1) h1 u1
  have h3 : (((w.setCell ⟨b, 0, none⟩ u0).setCell ⟨b, 1, none⟩ u1).setCell ⟨b, 2, none⟩ u2).heap[b]? = some (.cells #[u0, u1, u2, v3, v4, v5, v6] t) := Sl.heap_setCell_same (i := 2) h2 u2
  have h4 : ((((w.setCell ⟨b, 0, none⟩ u0).setCell ⟨b, 1, none⟩ u1).setCell ⟨b, 2, none⟩ u2).setCell ⟨b, 3, none⟩ u3).heap[b]? = some (.cells #[u0, u1, u2, u3, v4, v5, v6] t) := Sl.heap_setCell_same (i := 3) h3 u3
  have h5 : (((((w.setCell ⟨b, 0, none⟩ u0).setCell ⟨b, 1, none⟩ u1).setCell ⟨b, 2, none⟩ u2).setCell ⟨b, 3, none⟩ u3).setCell ⟨b, 4, none⟩ u4).heap[b]? = some (.cells #[u0, u1, u2, u3, u4, v5, v6] t) := Sl.heap_setCell_same (i := 4) h4 u4
  have h6 : ((((((w.setCell ⟨b, 0, none⟩ u0).setCell ⟨b, 1, none⟩ u1).setCell ⟨b, 2, none⟩ u2).setCell ⟨b, 3, none⟩ u3).setCell ⟨b, 4, none⟩ u4).setCell ⟨b, 5, none⟩ u5).heap[b]? = some (.cells #[u0, u1, u2, u3, u4, u5, v6] t) := Sl.heap_setCell_same (i := 5) h5 u5
  have h7 : (((((((w.setCell ⟨b, 0, none⟩ u0).setCell ⟨b, 1, none⟩ u1).setCell ⟨b, 2, none⟩ u2).setCell ⟨b, 3, none⟩ u3).setCell ⟨b, 4, none⟩ u4).setCell ⟨b, 5, none⟩ u5).setCell ⟨b, 6, none⟩ u6).heap[b]? = some (.cells #[u0, u1, u2, u3, u4, u5, u6] t) := Sl.heap_setCell_same (i := 6) h6 u6
  exact h7
theorem Kept.put7 {O : Nat → Prop} {w0 w : World} (k : Kept O w0 w) {b : Nat} (hb : O b ∨ w0.heap.size ≤ b) (u0 u1 u2 u3 u4 u5 u6 : Value) : Kept O w0 (put7 w b u0 u1 u2 u3 u4 u5 u6) :=
  ((((((k.setCell _ hb).setCell _ hb).setCell _ hb).setCell _ hb).setCell _ hb).setCell _ hb).setCell _ hb

/-- What leastFree answers. -/
def lfV : Option (Pg × Int) → Value
  | none => .tuple #[.agg zeroB, .bool false]
  | some (p, s) => .tuple #[bkV p s, .bool true]

set_option maxRecDepth 100000 in
set_option maxHeartbeats 1000000 in
theorem leastFree_in (n : Nat) (h : Hw w bh bs bm q pg W) (c : Int) : CallsIn Fence.wide n Tryd.prog 29 #[hp bh, .int .i64 c] w fun e w' => e = .returned (lfV (freeB (heads pg W) c)) ∧ K w w' := by
  obtain ⟨w1, hw1⟩ : ∃ w1, w1 = ((w.alloc (.cells #[.int .i64 c] 3)).alloc (.cells zeroB 58)).alloc (.cells #[.bool false] 4) := ⟨_, rfl⟩
  have kB : K w w1 := by rw [hw1]; exact (((K.refl w).alloc _).alloc _).alloc _
  have hB := h.keep kB
  have hsz : w1.heap.size ≤ w.heap.size + 3 ∧ w.heap.size + 3 ≤ w1.heap.size := by rw [hw1]; simp
  obtain ⟨hsz1, hsz2⟩ := hsz
  have b0 : Boxed w1 w.heap.size 3 (.int .i64 c) := by rw [hw1]; exact ((Boxed.new _ _ _).alloc _).alloc _
  have b1 : w1.heap[w.heap.size + 1]? = some (.cells zeroB 58) := by
    rw [hw1]
    have := World.alloc_heap_new (w.alloc (.cells #[.int .i64 c] 3)) (.cells zeroB 58)
    rw [World.size_alloc] at this
    exact ((K.refl _).alloc _).block this
  have b2 : Boxed w1 (w.heap.size + 2) 4 (.bool false) := by
    rw [hw1]
    have := Boxed.new ((w.alloc (.cells #[.int .i64 c] 3)).alloc (.cells zeroB 58)) 4 (.bool false)
    simpa using this
  have hlt : bh < w.heap.size := lt_of_cell h.c0
  have hfl : ∀ k, Sl.foot bs bm pg k → k < w.heap.size := fun k hk => h.ar.foot_lt hk
  have h0 := lt0 h.tab
  refine callsIn_of_wp_marks Tryd.func29 rfl trivial ?_ rfl
  simp only [Tryd.ntmps29, List.size_toArray, List.length_cons, List.length_nil, Nat.reduceAdd, Nat.reduceSub, Array.replicate_succ, Array.replicate_zero, List.push_toArray, List.append_toArray, List.nil_append, List.cons_append]
  gi_wp2
  rw [← hw1]
  clear hw1
  refine range_core (r := none) (w' := w1.alloc (.deferred (some []))) (mark := [{ target := .collected w1.heap.size, args := #[] }]) (gf := 25) (ba := #[hp bh]) rfl (enters_of Tryd.func25 (by kernel_rfl) rfl) (fun fn => outer w1)
    (pages_seq hB (fun k => k = w.heap.size + 1 ∨ k = w.heap.size + 2) (fun k hk => ⟨fun hf => by have := hfl _ hf; omega, by omega, by omega⟩)) ((K.refl w1).alloc _) (fun k hk => by simp; omega) (fun _ => rfl)
    (fun pre W' => freeB pre c = none ∧ Boxed W' w.heap.size 3 (.int .i64 c) ∧ W'.heap[w.heap.size + 1]? = some (.cells zeroB 58) ∧ Boxed W' (w.heap.size + 2) 4 (.bool false) ∧ K w W' ∧ W'.heap[w1.heap.size]? = some (.deferred (some [])))
    (fun cd pre W' => cd = .ret ∧ (∃ p s, freeB pre c = some (p, s) ∧ W'.heap[w.heap.size + 1]? = some (.cells (cellsB p s) 58)) ∧ Boxed W' (w.heap.size + 2) 4 (.bool true) ∧ K w W' ∧ W'.heap[w1.heap.size]? = some (.deferred (some [])))
    (fun pre x a' W' => (freeB pre c = none ∧ Boxed W' w.heap.size 3 (.int .i64 c) ∧ W'.heap[w.heap.size + 1]? = some (.cells zeroB 58) ∧ Boxed W' (w.heap.size + 2) 4 (.bool false) ∧ K w W' ∧ W'.heap[w1.heap.size]? = some (.deferred (some []))) ∧ ∃ B, w1.heap.size + 1 < B ∧ a' = { tmps := #[hp bh, .int .i64 c, undef, .pointer (some ⟨w.heap.size, 0, none⟩), .pointer (some ⟨w.heap.size + 1, 0, none⟩), .pointer (some ⟨w.heap.size + 2, 0, none⟩), .pointer (some ⟨B, 0, none⟩), undef, hp bh, .func (.func 25) #[hp bh] #[], pgV x, undef, undef, undef, undef, undef, undef, undef, undef, undef, undef, undef, undef, undef, undef, undef], defers := [] } ∧ W'.heap[B]? = some (.cells (cellsP x) 56))
    ?hI ?hIx ?hAx ?h0 ?hassign ?hbody ?hdone ?hstop
  case hI =>
    rintro s A B ⟨ha, hb, hc, hd, hk, hf⟩ k
    simp only [World.size_alloc] at k
    exact ⟨ha, k.boxed hb (by omega), k.block hc (by omega), k.boxed hd (by omega), hk.thenKept k (by omega), k.block hf (by omega)⟩
  case hIx =>
    rintro cd s A B ⟨hcd, ⟨p, sl, ha, hc⟩, hd, hk, hf⟩ k
    simp only [World.size_alloc] at k
    exact ⟨hcd, ⟨p, sl, ha, k.block hc (by omega)⟩, k.boxed hd (by omega), hk.thenKept k (by omega), k.block hf (by omega)⟩
  case hAx =>
    rintro s x a' A B ⟨⟨ha, hb, hc, hd, hk, hf⟩, D, hD, he, hx⟩ k
    simp only [World.size_alloc] at k
    exact ⟨⟨ha, k.boxed hb (by omega), k.block hc (by omega), k.boxed hd (by omega), hk.thenKept k (by omega), k.block hf (by omega)⟩, D, hD, he, k.block hx (by omega)⟩
  case h0 => exact ⟨rfl, b0.alloc _, ((K.refl w1).alloc _).block b1, b2.alloc _, kB.alloc _, World.alloc_heap_new _ _⟩
  case hassign =>
    rintro pre x W' _ ⟨ha, hb, hc, hd, hk, hf⟩ hl
    simp only [World.size_alloc] at hl
    gi_wp2
    exact ⟨(Kept.refl _ _).alloc _, ⟨ha, hb.alloc _, ((K.refl W').alloc _).block hc, hd.alloc _, hk.alloc _, ((K.refl W').alloc _).block hf⟩, _, hl, rfl, World.alloc_heap_new _ _⟩
  case hbody =>
    rintro pre x a' W' hpre _ ⟨⟨ha, hb, hc, hd, hk, hf⟩, D, hD, rfl, hx⟩
    have hok := heads_ok h.ar (mem_of_pre hpre)
    obtain ⟨⟨c0, c1, c2, c3, c4, c5⟩, _⟩ := six hx
    have bc := hb.cell
    have ci := fun w => pageIsOf_any x c w
    have hsn := freeB_snoc (x := x) ha
    unfold freeOf at hsn
    cases hof : (x.kind == 1 && x.cls == c) with
    | false =>
      rw [hof] at ci hsn
      simp only [Bool.false_eq_true, if_false] at hsn
      have HS : Hid _ := hsn
      clear hsn ha
      gi_wp2
      refine ⟨trivial, fun h => (by cases h), (CallsIn.inRound _ (callsIn_wide.2 (ci _))).mono ?_⟩
      rintro e W2 ⟨rfl, k2⟩
      gi_wp2
      exact ⟨k2.kept _, HS.out, k2.boxed hb, k2.block hc, k2.boxed hd, hk.trans k2, k2.block hf⟩
    | true =>
      rw [hof] at ci hsn
      simp only [if_true] at hsn
      have hT := (h.keep hk).tab
      have cs := fun w => pageSlots_any x w
      have cf := fun w (T : Bt.Tab w) => Bt.free_any x.taken (Cl.sloI x.cls) hok.u w T
      generalize Bt.freI x.taken (Cl.sloI x.cls) = fr at *
      generalize Cl.sloI x.cls = sl at *
      have HS : Hid _ := hsn
      clear hsn ha
      gi_wp2
      refine ⟨trivial, fun h => (by cases h), (CallsIn.inRound _ (callsIn_wide.2 (ci _))).mono ?_⟩
      rintro e W2 ⟨rfl, k2⟩
      have hx2 := k2.block hx
      have hT2 : Bt.Tab W2.drew := hT.keep (K.drew k2).toBt
      obtain ⟨⟨d0, d1, d2, d3, d4, d5⟩, _⟩ := six hx2
      have hmix : Tryd.prog.follows .mixedOrders = true := by kernel_rfl
      clear bc c0 c1 c2 c3 c4 c5
      gi_wp2
      gi_region_with_o (first
        | (refine ⟨trivial, fun h => (by cases h), ?_⟩; gi_at_call 49; refine (CallsIn.inRound _ (callsIn_wide.2 (cs _))).mono ?_; rintro e W3 ⟨rfl, k3⟩; obtain ⟨⟨e0, e1, e2, e3, e4, e5⟩, _⟩ := six (k3.block hx2))
        | (refine ⟨trivial, fun h => (by cases h), ?_⟩; gi_at_call 53; refine (CallsIn.inRound _ (callsIn_wide.2 (cf _ (hT2.keep k3.toBt)))).mono ?_; rintro e W4 ⟨rfl, k4⟩))
      all_goals
        have k5 : K W' W4 := ((K.drew k2).trans k3).trans (K.bt k4)
        obtain ⟨⟨x0, x1, x2, x3, x4, x5⟩, _⟩ := six (k5.block hx)
        have hc5 := k5.block hc
        obtain ⟨⟨y0, y1, y2, y3, y4, y5, y6⟩, yf⟩ := seven hc5
        have hd5 := k5.boxed hd
        have hf5 := k5.block hf
        have hk5 := hk.trans k5
        have z0 := hd5.cell
        have zf := hd5.frozen
        by_cases hfr : 0 ≤ fr
        · have E1 : Hid (freeB (pre ++ [x]) c = some (x, fr)) := by rw [HS.out, if_pos hfr]; rfl
          have hc6 := set7 hc5 (.int .i64 x.n) (.int .i64 x.kind) (.int .i64 x.cls) (.int .u64 x.taken) (.int .i64 x.words) (.int .i64 x.span) (.int .i64 fr)
          have kp6 := (k5.kept (fun k => k = w.heap.size + 1 ∨ k = w.heap.size + 2)).put7 (b := w.heap.size + 1) (.inl (.inl rfl)) (.int .i64 x.n) (.int .i64 x.kind) (.int .i64 x.cls) (.int .u64 x.taken) (.int .i64 x.words) (.int .i64 x.span) (.int .i64 fr)
          have kw6 := Kept.put7 (O := No) hk5 (b := w.heap.size + 1) (.inr (by omega)) (.int .i64 x.n) (.int .i64 x.kind) (.int .i64 x.cls) (.int .u64 x.taken) (.int .i64 x.words) (.int .i64 x.span) (.int .i64 fr)
          have hd6 : Boxed (put7 W4 (w.heap.size + 1) (.int .i64 x.n) (.int .i64 x.kind) (.int .i64 x.cls) (.int .u64 x.taken) (.int .i64 x.words) (.int .i64 x.span) (.int .i64 fr)) (w.heap.size + 2) 4 (.bool false) := ((Kept.refl (fun k => k = w.heap.size + 1) W4).put7 (.inl rfl) _ _ _ _ _ _ _).boxed hd5 (by omega)
          have z6 := hd6.cell
          have zf6 := hd6.frozen
          have H6 : Aside _ := And.intro hc6 (And.intro kp6 (And.intro kw6 hd6))
          clear hc6 kp6 kw6 hd6 HS
          gi_wp2
          obtain ⟨hc6, kp6, kw6, hd6⟩ := H6.out
          have kt := kp6.setCell (p := ⟨w.heap.size + 2, 0, none⟩) (.bool true) (.inl (.inr rfl))
          exact ⟨kt, rfl, ⟨x, fr, E1.out, ((Kept.refl (fun k => k = w.heap.size + 2) _).setCell (p := ⟨w.heap.size + 2, 0, none⟩) (.bool true) (.inl rfl)).block hc6 (by omega)⟩, hd6.set _, Kept.setCell kw6 _ (.inr (show w.heap.size ≤ w.heap.size + 2 by omega)), kt.block hf (by omega)⟩
        · have E1 : Hid (freeB (pre ++ [x]) c = none) := by rw [HS.out, if_neg hfr]; rfl
          clear HS
          gi_wp2
          exact ⟨k5.kept _, E1.out, k5.boxed hb, hc5, hd5, hk5, hf5⟩
  case hdone =>
    rintro W' ⟨ha, hb, hc, hd, hk, hf⟩
    obtain ⟨⟨y0, y1, y2, y3, y4, y5, y6⟩, yf⟩ := seven hc
    have z0 := hd.cell
    have zf := hd.frozen
    have hc6 := set7 hc (.int .i64 0) (.int .i64 0) (.int .i64 0) (.int .u64 0) (.int .i64 0) (.int .i64 0) (.int .i64 0)
    have hk6 := Kept.put7 (O := No) hk (b := w.heap.size + 1) (.inr (by omega)) (.int .i64 0) (.int .i64 0) (.int .i64 0) (.int .u64 0) (.int .i64 0) (.int .i64 0) (.int .i64 0)
    have kp6 := (Kept.refl (fun k => k = w.heap.size + 1) W').put7 (b := w.heap.size + 1) (.inl rfl) (.int .i64 0) (.int .i64 0) (.int .i64 0) (.int .u64 0) (.int .i64 0) (.int .i64 0) (.int .i64 0)
    have hd6 := kp6.boxed hd (by omega)
    have hf6 := kp6.block hf (by omega)
    have z6 := hd6.cell
    have zf6 := hd6.frozen
    have kq := (Kept.refl (fun k => k = w.heap.size + 2) (put7 W' (w.heap.size + 1) (.int .i64 0) (.int .i64 0) (.int .i64 0) (.int .u64 0) (.int .i64 0) (.int .i64 0) (.int .i64 0))).setCell (p := ⟨w.heap.size + 2, 0, none⟩) (.bool false) (.inl rfl)
    have hf7 := kq.block hf6 (by omega)
    have hc7 := kq.block hc6 (by omega)
    have hd7 := hd6.set (.bool false)
    have hk7 := Kept.setCell hk6 (p := ⟨w.heap.size + 2, 0, none⟩) (.bool false) (.inr (show w.heap.size ≤ w.heap.size + 2 by omega))
    have kz := (Kept.refl (fun k => k = w1.heap.size) ((put7 W' (w.heap.size + 1) (.int .i64 0) (.int .i64 0) (.int .i64 0) (.int .u64 0) (.int .i64 0) (.int .i64 0) (.int .i64 0)).setCell ⟨w.heap.size + 2, 0, none⟩ (.bool false))).putObj (l := w1.heap.size) (.deferred none) (.inl rfl)
    have r0 := (seven (kz.block hc7 (by omega))).1
    have r1 := (kz.boxed hd7 (by omega)).cell
    obtain ⟨q0, q1, q2, q3, q4, q5, q6⟩ := r0
    have H7 : Aside _ := And.intro hf7 (And.intro hk7 (And.intro q0 (And.intro q1 (And.intro q2 (And.intro q3 (And.intro q4 (And.intro q5 (And.intro q6 r1))))))))
    clear hf7 hk7 q0 q1 q2 q3 q4 q5 q6 r1 hc7 hd7 kz kq hf6 hd6 kp6 hk6 hc6
    gi_wp2
    obtain ⟨hf7, hk7, q0, q1, q2, q3, q4, q5, q6, r1⟩ := H7.out
    refine ⟨by simp, .inl ⟨_, _, rfl, run_takeDeferred hf7, .tuple #[.agg zeroB, .bool false], ?_, ?_, ?_⟩⟩
    · simp [results, Tryd.f29, go_sem, q0, q1, q2, q3, q4, q5, q6, r1]
    · rw [ha]; rfl
    · exact Kept.putObj hk7 _ (.inr (by omega))
  case hstop =>
    rintro cd pre W' hpre ⟨rfl, ⟨p, s, ha, hc⟩, hd, hk, hf⟩
    have kz := (Kept.refl (fun k => k = w1.heap.size) W').putObj (l := w1.heap.size) (.deferred none) (.inl rfl)
    obtain ⟨q0, q1, q2, q3, q4, q5, q6⟩ := (seven (kz.block hc (by omega))).1
    have r1 := (kz.boxed hd (by omega)).cell
    gi_wp2
    refine ⟨by simp, .inl ⟨_, _, rfl, run_takeDeferred hf, .tuple #[bkV p s, .bool true], ?_, ?_, ?_⟩⟩
    · simp [results, Tryd.f29, go_sem, q0, q1, q2, q3, q4, q5, q6, r1]
    · rw [freeB_pre hpre ha]; rfl
    · exact Kept.putObj hk _ (.inr (by omega))

theorem leastFree_any (h : Hw w bh bs bm q pg W) (c : Int) : Calls Tryd.prog 29 #[hp bh, .int .i64 c] w fun e w' => e = .returned (lfV (freeB (heads pg W) c)) ∧ K w w' := (callsIn_wide (n := 0)).1 (leastFree_in 0 h c)

end Hp
end Go.Proofs.YtlpdgomoepinjaaDoor
