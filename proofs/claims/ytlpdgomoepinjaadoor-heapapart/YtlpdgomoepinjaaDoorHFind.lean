/-
  The walk of package heap's find: the block of an address.
-/
import Derived.Test.YtlpdgomoepinjaaDoorHLeast
namespace Go.Proofs.YtlpdgomoepinjaaDoor
open Go.RowKit Go.Shelf
attribute [local go_sem] Oper.semAt_some
namespace Hp
variable {w : World} {bh bs bm : Nat} {q : Int} {pg : List (Int × Nat)} {W : Int → Int}

/-- The page of an address. -/
def pgOf (a : Int) (l : List Pg) : Option Pg := l.find? fun p => p.n == a.tdiv 64
/-- The slot of an address on a page. -/
def slOf (a : Int) (p : Pg) (l : List Int) : Option Int := l.find? fun s => addrI p s == a
/-- The block of an address. -/
def findB (l : List Pg) (a : Int) : Option (Pg × Int) := (pgOf a l).bind fun p => (slOf a p (slotsOf p)).map fun s => (p, s)

theorem pgOf_snoc {a : Int} {pre : List Pg} {x : Pg} (h : pgOf a pre = none) : pgOf a (pre ++ [x]) = if (x.n == a.tdiv 64) = true then some x else none := by
  unfold pgOf at *
  rw [List.find?_append, h]
  simp only [List.find?_cons, List.find?_nil, Option.none_or]
  cases (x.n == a.tdiv 64) <;> rfl
theorem pgOf_pre {a : Int} {pre l : List Pg} {p : Pg} (h : pre <+: l) (hr : pgOf a pre = some p) : pgOf a l = some p := by
  obtain ⟨t, rfl⟩ := h
  unfold pgOf at *
  rw [List.find?_append, hr]
  rfl
theorem slOf_snoc {a : Int} {p : Pg} {pre : List Int} {x : Int} (h : slOf a p pre = none) : slOf a p (pre ++ [x]) = if (addrI p x == a) = true then some x else none := by
  unfold slOf at *
  rw [List.find?_append, h]
  simp only [List.find?_cons, List.find?_nil, Option.none_or]
  cases (addrI p x == a) <;> rfl
theorem slOf_pre {a : Int} {p : Pg} {pre l : List Int} {x : Int} (h : pre <+: l) (hr : slOf a p pre = some x) : slOf a p l = some x := by
  obtain ⟨t, rfl⟩ := h
  unfold slOf at *
  rw [List.find?_append, hr]
  rfl

/-- What find answers. -/
def fdV : Option (Pg × Int) → Value
  | none => .tuple #[.agg zeroB, .int .i64 5]
  | some (p, s) => .tuple #[bkV p s, .int .i64 0]

/-- In a loop within a round. -/
theorem inner {P : Program} {fn l : Nat} {tmps : Array Value} {ps : Array Tmp} {assign body : Code} (w : World) (h : ∃ r, w.heap[l]? = some (.loop r)) : ∃ df, (Instr.enterLoop fn tmps ps assign body (some l)).run P w = .ok (w.heap.size, [])
    (w.alloc (.loop { state := .ready, pending := none, fn, tmps := tmps, params := ps, assign, body, defers := df })) := by
  obtain ⟨r, hr⟩ := h
  exact ⟨r.defers, run_enterLoop_inner hr _ _ _ _ _⟩

/-- A number that an int may be. -/
def In64 (a : Int) : Prop := -9223372036854775808 ≤ a ∧ a ≤ 9223372036854775807
theorem In64.of_wf {a : Int} (h : (Lit.int .i64 a).wf = true) : In64 a := by
  simp only [Lit.wf, IntKind.min, IntKind.max, IntKind.signed, IntKind.bits, Bool.and_eq_true] at h
  unfold In64
  simp at h
  omega
theorem tdiv64 {a : Int} (h : In64 a) : wrap64 (a.tdiv 64) = a.tdiv 64 := by
  have h0 := h.1
  have h1 := h.2
  have h2 : -9223372036854775808 ≤ a.tdiv 64 ∧ a.tdiv 64 ≤ 9223372036854775807 := by
    by_cases hs : 0 ≤ a
    · rw [Int.tdiv_eq_ediv_of_nonneg hs]
      omega
    · have e : a.tdiv 64 = -((-a).tdiv 64) := by rw [Int.neg_tdiv]; omega
      rw [e, Int.tdiv_eq_ediv_of_nonneg (by omega)]
      omega
  unfold wrap64
  omega

/-- The boxes of find: the address, the block, the error. -/
def Bx (w : World) (D : Nat) (a : Int) (bk : Array Value) (er : Int) (V : World) : Prop :=
  Boxed V w.heap.size 3 (.int .i64 a) ∧ V.heap[w.heap.size + 1]? = some (.cells bk 58) ∧ Boxed V (w.heap.size + 2) 31 (.int .i64 er) ∧ K w V ∧ V.heap[D]? = some (.deferred (some []))
abbrev O2 (w : World) : Nat → Prop := fun k => k = w.heap.size + 1 ∨ k = w.heap.size + 2

theorem Bx.next {w A B : World} {D : Nat} {a : Int} {bk : Array Value} {er : Int} (h : Bx w D a bk er A) {l : Nat} (hl : w.heap.size + 2 < l) (hD : D ≠ l) (k : Kept (fun j => j = l) A B) : Bx w D a bk er B :=
  ⟨k.boxed h.1 (by omega), k.block h.2.1 (by omega), k.boxed h.2.2.1 (by omega), h.2.2.2.1.thenKept k (by omega), k.block h.2.2.2.2 hD⟩
theorem Bx.keep {w A B : World} {D : Nat} {a : Int} {bk : Array Value} {er : Int} (h : Bx w D a bk er A) (k : K A B) : Bx w D a bk er B :=
  ⟨k.boxed h.1, k.block h.2.1, k.boxed h.2.2.1, h.2.2.2.1.trans k, k.block h.2.2.2.2⟩

set_option maxRecDepth 100000 in
set_option maxHeartbeats 2000000 in
theorem find_in (n : Nat) (h : Hw w bh bs bm q pg W) (a : Int) (hwf : In64 a) : CallsIn Fence.wide n Tryd.prog 20 #[hp bh, .int .i64 a] w fun e w' => e = .returned (fdV (findB (heads pg W) a)) ∧ K w w' := by
  obtain ⟨w1, hw1⟩ : ∃ w1, w1 = ((w.alloc (.cells #[.int .i64 a] 3)).alloc (.cells zeroB 58)).alloc (.cells #[.int .i64 0] 31) := ⟨_, rfl⟩
  have kB : K w w1 := by rw [hw1]; exact (((K.refl w).alloc _).alloc _).alloc _
  have hB := h.keep kB
  have hsz : w1.heap.size ≤ w.heap.size + 3 ∧ w.heap.size + 3 ≤ w1.heap.size := by rw [hw1]; simp
  obtain ⟨hsz1, hsz2⟩ := hsz
  have b0 : Boxed w1 w.heap.size 3 (.int .i64 a) := by rw [hw1]; exact ((Boxed.new _ _ _).alloc _).alloc _
  have b1 : w1.heap[w.heap.size + 1]? = some (.cells zeroB 58) := by
    rw [hw1]
    have := World.alloc_heap_new (w.alloc (.cells #[.int .i64 a] 3)) (.cells zeroB 58)
    rw [World.size_alloc] at this
    exact ((K.refl _).alloc _).block this
  have b2 : Boxed w1 (w.heap.size + 2) 31 (.int .i64 0) := by
    rw [hw1]
    have := Boxed.new ((w.alloc (.cells #[.int .i64 a] 3)).alloc (.cells zeroB 58)) 31 (.int .i64 0)
    simpa using this
  have hlt : bh < w.heap.size := lt_of_cell h.c0
  have hfl : ∀ k, Sl.foot bs bm pg k → k < w.heap.size := fun k hk => h.ar.foot_lt hk
  have h0 := lt0 h.tab
  have hm := made_yes bh bs _ hB.c0
  have htd := tdiv64 hwf
  refine callsIn_of_wp_marks Tryd.func20 rfl trivial ?_ rfl
  simp only [Tryd.ntmps20, List.size_toArray, List.length_cons, List.length_nil, Nat.reduceAdd, Nat.reduceSub, Array.replicate_succ, Array.replicate_zero, List.push_toArray, List.append_toArray, List.nil_append, List.cons_append]
  gi_wp2
  rw [← hw1]
  clear hw1
  refine ⟨trivial, fun h => (by cases h), (callsIn_wide.2 hm).mono ?_⟩
  rintro e w' ⟨rfl, rfl⟩
  gi_wp2
  have hB0 : Bx w w1.heap.size a zeroB 0 (w1.alloc (.deferred (some []))) := ⟨b0.alloc _, ((K.refl w1).alloc _).block b1, b2.alloc _, kB.alloc _, World.alloc_heap_new _ _⟩
  refine range_core (r := none) (w' := w1.alloc (.deferred (some []))) (mark := [{ target := .collected w1.heap.size, args := #[] }]) (gf := 25) (ba := #[hp bh]) rfl (enters_of Tryd.func25 (by kernel_rfl) rfl) (fun fn => outer w1)
    (pages_seq hB (O2 w) (fun k hk => ⟨fun hf => by have := hfl _ hf; rcases hk with hk | hk <;> omega, by rcases hk with hk | hk <;> omega, by rcases hk with hk | hk <;> omega⟩)) ((K.refl w1).alloc _) (fun k hk => by simp; rcases hk with hk | hk <;> omega) (fun _ => rfl)
    (fun pre W' => pgOf a pre = none ∧ Bx w w1.heap.size a zeroB 0 W')
    (fun cd pre W' => (cd = .ret ∧ ∃ p s, pgOf a pre = some p ∧ slOf a p (slotsOf p) = some s ∧ Bx w w1.heap.size a (cellsB p s) 0 W') ∨ (cd = .exit 0 ∧ ∃ p, pgOf a pre = some p ∧ slOf a p (slotsOf p) = none ∧ Bx w w1.heap.size a zeroB 0 W'))
    (fun pre x a' W' => (pgOf a pre = none ∧ Bx w w1.heap.size a zeroB 0 W') ∧ ∃ B, w1.heap.size + 1 < B ∧ a' = { tmps := #[hp bh, .int .i64 a, undef, .pointer (some ⟨w.heap.size, 0, none⟩), .pointer (some ⟨w.heap.size + 1, 0, none⟩), .pointer (some ⟨w.heap.size + 2, 0, none⟩), .pointer (some ⟨B, 0, none⟩), undef, hp bh, .bool true, .bool false, undef, hp bh, .func (.func 25) #[hp bh] #[], pgV x, undef, undef, undef, undef, undef, undef, undef, undef, undef, undef, undef, undef, undef, undef], defers := [] } ∧ W'.heap[B]? = some (.cells (cellsP x) 56))
    ?hI ?hIx ?hAx ?h0 ?hassign ?hbody ?hdone ?hstop
  case hI =>
    rintro s A B ⟨ha, hb⟩ k
    simp only [World.size_alloc] at k
    exact ⟨ha, hb.next (by omega) (by omega) k⟩
  case hIx =>
    rintro cd s A B hx k
    simp only [World.size_alloc] at k
    rcases hx with ⟨hc, p, sl, h1, h2, hb⟩ | ⟨hc, p, h1, h2, hb⟩
    · exact .inl ⟨hc, p, sl, h1, h2, hb.next (by omega) (by omega) k⟩
    · exact .inr ⟨hc, p, h1, h2, hb.next (by omega) (by omega) k⟩
  case hAx =>
    rintro s x a' A B ⟨⟨ha, hb⟩, D, hD, he, hx⟩ k
    simp only [World.size_alloc] at k
    exact ⟨⟨ha, hb.next (by omega) (by omega) k⟩, D, hD, he, k.block hx (by omega)⟩
  case h0 => exact ⟨rfl, hB0⟩
  case hassign =>
    rintro pre x W' _ ⟨ha, hb⟩ hl
    simp only [World.size_alloc] at hl
    gi_wp2
    exact ⟨(Kept.refl _ _).alloc _, ⟨ha, hb.keep ((K.refl W').alloc _)⟩, _, hl, rfl, World.alloc_heap_new _ _⟩
  case hbody =>
    rintro pre x a' W' hpre hrec ⟨⟨ha, hb⟩, D, hD, rfl, hx⟩
    have hok := heads_ok h.ar (mem_of_pre hpre)
    obtain ⟨⟨c0, c1, c2, c3, c4, c5⟩, _⟩ := six hx
    have bc := hb.1.cell
    have hsn := pgOf_snoc (x := x) ha
    cases hof : (x.n == a.tdiv 64) with
    | false =>
      rw [hof] at hsn
      simp only [Bool.false_eq_true, if_false] at hsn
      have HS : Hid _ := hsn
      have hne : (x.n != a.tdiv 64) = true := by simp [bne, hof]
      clear hsn ha hof
      gi_wp2
      exact ⟨Kept.refl _ _, HS.out, hb⟩
    | true =>
      rw [hof] at hsn
      simp only [if_true] at hsn
      have HS : Hid _ := hsn
      have hne : (x.n != a.tdiv 64) = false := by simp [bne, hof]
      clear hsn ha hof
      gi_wp2
      have hltD : D < W'.heap.size := (Array.getElem?_eq_some_iff.1 hx).1
      refine range_core (r := some (w1.alloc (.deferred (some []))).heap.size) (w' := W') (mark := []) (gf := 26) (ba := #[pgV x]) rfl (enters_of Tryd.func26 (by kernel_rfl) rfl) (fun fn => inner W' hrec)
        (blocks_seq W' x (fun _ => hok.u) (O2 w)) (K.refl W') (fun k hk => by rcases hk with hk | hk <;> omega) (fun _ => rfl)
        (fun pr V => slOf a x pr = none ∧ Bx w w1.heap.size a zeroB 0 V ∧ Kept (O2 w) W' V)
        (fun cd pr V => cd = .ret ∧ ∃ s, slOf a x pr = some s ∧ Bx w w1.heap.size a (cellsB x s) 0 V ∧ Kept (O2 w) W' V)
        (fun pr y a' V => (slOf a x pr = none ∧ Bx w w1.heap.size a zeroB 0 V ∧ Kept (O2 w) W' V) ∧ ∃ B, W'.heap.size < B ∧ a' = { tmps := #[hp bh, .int .i64 a, undef, .pointer (some ⟨w.heap.size, 0, none⟩), .pointer (some ⟨w.heap.size + 1, 0, none⟩), .pointer (some ⟨w.heap.size + 2, 0, none⟩), .pointer (some ⟨D, 0, none⟩), .pointer (some ⟨B, 0, none⟩), hp bh, .bool true, .bool false, undef, hp bh, .func (.func 25) #[hp bh] #[], pgV x, .pointer (some ⟨D, 0, none⟩), .int .i64 x.n, .int .i64 a, .int .i64 (a.tdiv 64), .bool false, pgV x, .func (.func 26) #[pgV x] #[], bkV x y, undef, undef, undef, undef, undef, undef], defers := [] } ∧ V.heap[B]? = some (.cells (cellsB x y) 58))
        ?jI ?jIx ?jAx ?j0 ?jassign ?jbody ?jdone ?jstop
      case jI =>
        rintro s A B ⟨h1, hb1, hk1⟩ k
        exact ⟨h1, hb1.next (by omega) (by omega) k, hk1.thenKept k (Nat.le_refl _)⟩
      case jIx =>
        rintro cd s A B ⟨hc, sl, h1, hb1, hk1⟩ k
        exact ⟨hc, sl, h1, hb1.next (by omega) (by omega) k, hk1.thenKept k (Nat.le_refl _)⟩
      case jAx =>
        rintro s y a' A B ⟨⟨h1, hb1, hk1⟩, E, hE, he, hy⟩ k
        exact ⟨⟨h1, hb1.next (by omega) (by omega) k, hk1.thenKept k (Nat.le_refl _)⟩, E, hE, he, k.block hy (by omega)⟩
      case j0 => exact ⟨rfl, hb, Kept.refl _ _⟩
      case jassign =>
        rintro pr y V _ ⟨h1, hb1, hk1⟩ hl
        gi_wp2
        exact ⟨(Kept.refl _ _).alloc _, ⟨h1, hb1.keep ((K.refl V).alloc _), hk1.alloc _⟩, _, hl, rfl, World.alloc_heap_new _ _⟩
      case jbody =>
        rintro pr y a' V hpr _ ⟨⟨h1, hb1, hk1⟩, E, hE, rfl, hy⟩
        obtain ⟨⟨d0, d1, d2, d3, d4, d5, d6⟩, _⟩ := seven hy
        have bv := hb1.1.cell
        have ca := fun w => addr_any x y hok.n0 hok.n1 w
        have hs2 := slOf_snoc (x := y) h1
        have hmix : Tryd.prog.follows .mixedOrders = true := by kernel_rfl
        generalize addrI x y = ad at *
        clear c0 c1 c2 c3 c4 c5 bc hne htd
        cases hq : (ad == a) with
        | true =>
          rw [hq] at hs2
          simp only [if_true] at hs2
          have HS2 : Hid _ := hs2
          clear hs2 h1
          gi_wp2
          gi_region_with_o (refine ⟨trivial, fun h => (by cases h), ?_⟩; gi_at_call 27; refine (CallsIn.inRound _ (callsIn_wide.2 (ca _))).mono ?_; rintro e V2 ⟨rfl, k2⟩; have hv2 := k2.cell bv)
          all_goals
            have k5 : K V V2 := ((K.refl V).drew).trans k2
            obtain ⟨⟨x0, x1, x2, x3, x4, x5, x6⟩, _⟩ := seven (k5.block hy)
            have hb5 := hb1.keep k5
            obtain ⟨⟨y0, y1, y2, y3, y4, y5, y6⟩, yf⟩ := seven hb5.2.1
            have hc6 := set7 hb5.2.1 (.int .i64 x.n) (.int .i64 x.kind) (.int .i64 x.cls) (.int .u64 x.taken) (.int .i64 x.words) (.int .i64 x.span) (.int .i64 y)
            have kp6 := (k5.kept (O2 w)).put7 (b := w.heap.size + 1) (.inl (.inl rfl)) (.int .i64 x.n) (.int .i64 x.kind) (.int .i64 x.cls) (.int .u64 x.taken) (.int .i64 x.words) (.int .i64 x.span) (.int .i64 y)
            have kw6 := Kept.put7 (O := No) hb5.2.2.2.1 (b := w.heap.size + 1) (.inr (by omega)) (.int .i64 x.n) (.int .i64 x.kind) (.int .i64 x.cls) (.int .u64 x.taken) (.int .i64 x.words) (.int .i64 x.span) (.int .i64 y)
            have ko6 := (Kept.refl (fun k => k = w.heap.size + 1) V2).put7 (b := w.heap.size + 1) (.inl rfl) (.int .i64 x.n) (.int .i64 x.kind) (.int .i64 x.cls) (.int .u64 x.taken) (.int .i64 x.words) (.int .i64 x.span) (.int .i64 y)
            have hd6 := ko6.boxed hb5.2.2.1 (by omega)
            have hg6 := ko6.boxed hb5.1 (by omega)
            have z6 := hd6.cell
            have zf6 := hd6.frozen
            have H6 : Aside _ := And.intro hc6 (And.intro kp6 (And.intro kw6 (And.intro hd6 hg6)))
            clear hc6 kp6 kw6 hd6 hg6 ko6
            gi_wp2
            obtain ⟨hc6, kp6, kw6, hd6, hg6⟩ := H6.out
            have kt := kp6.setCell (p := ⟨w.heap.size + 2, 0, none⟩) (.int .i64 0) (.inl (.inr rfl))
            have ku := (Kept.refl (fun k => k = w.heap.size + 2) (put7 V2 (w.heap.size + 1) (.int .i64 x.n) (.int .i64 x.kind) (.int .i64 x.cls) (.int .u64 x.taken) (.int .i64 x.words) (.int .i64 x.span) (.int .i64 y))).setCell (p := ⟨w.heap.size + 2, 0, none⟩) (.int .i64 0) (.inl rfl)
            exact ⟨kt, rfl, y, HS2.out, ⟨ku.boxed hg6 (by omega), ku.block hc6 (by omega), hd6.set _, Kept.setCell kw6 _ (.inr (show w.heap.size ≤ w.heap.size + 2 by omega)), kt.block hb1.2.2.2.2 (by show ¬ (_ ∨ _); omega)⟩, hk1.trans kt⟩
        | false =>
          rw [hq] at hs2
          simp only [Bool.false_eq_true, if_false] at hs2
          have HS2 : Hid _ := hs2
          clear hs2 h1
          gi_wp2
          gi_region_with_o (refine ⟨trivial, fun h => (by cases h), ?_⟩; gi_at_call 27; refine (CallsIn.inRound _ (callsIn_wide.2 (ca _))).mono ?_; rintro e V2 ⟨rfl, k2⟩; have hv2 := k2.cell bv)
          all_goals
            have k5 : K V V2 := ((K.refl V).drew).trans k2
            gi_wp2
            exact ⟨k5.kept _, HS2.out, hb1.keep k5, hk1.trans (k5.kept _)⟩
      case jdone =>
        rintro V ⟨h1, hb1, hk1⟩
        gi_wp2
        exact ⟨hk1, .inr ⟨rfl, x, HS.out, h1, hb1⟩⟩
      case jstop =>
        rintro cd pr V hpr ⟨rfl, sl, h1, hb1, hk1⟩
        gi_wp2
        exact ⟨hk1, .inl ⟨rfl, x, sl, HS.out, slOf_pre hpr h1, hb1⟩⟩
  case hdone =>
    rintro W' ⟨ha, hb⟩
    have hfin : Hid (findB (heads pg W) a = none) := by unfold findB; rw [ha]; exact rfl
    clear ha
    obtain ⟨⟨y0, y1, y2, y3, y4, y5, y6⟩, yf⟩ := seven hb.2.1
    have z0 := hb.2.2.1.cell
    have zf := hb.2.2.1.frozen
    have hc6 := set7 hb.2.1 (.int .i64 0) (.int .i64 0) (.int .i64 0) (.int .u64 0) (.int .i64 0) (.int .i64 0) (.int .i64 0)
    have hk6 := Kept.put7 (O := No) hb.2.2.2.1 (b := w.heap.size + 1) (.inr (by omega)) (.int .i64 0) (.int .i64 0) (.int .i64 0) (.int .u64 0) (.int .i64 0) (.int .i64 0) (.int .i64 0)
    have kp6 := (Kept.refl (fun k => k = w.heap.size + 1) W').put7 (b := w.heap.size + 1) (.inl rfl) (.int .i64 0) (.int .i64 0) (.int .i64 0) (.int .u64 0) (.int .i64 0) (.int .i64 0) (.int .i64 0)
    have hd6 := kp6.boxed hb.2.2.1 (by omega)
    have hf6 := kp6.block hb.2.2.2.2 (by omega)
    have z6 := hd6.cell
    have zf6 := hd6.frozen
    have kq := (Kept.refl (fun k => k = w.heap.size + 2) (put7 W' (w.heap.size + 1) (.int .i64 0) (.int .i64 0) (.int .i64 0) (.int .u64 0) (.int .i64 0) (.int .i64 0) (.int .i64 0))).setCell (p := ⟨w.heap.size + 2, 0, none⟩) (.int .i64 5) (.inl rfl)
    have hf7 := kq.block hf6 (by omega)
    have hc7 := kq.block hc6 (by omega)
    have hd7 := hd6.set (.int .i64 5)
    have hk7 := Kept.setCell hk6 (p := ⟨w.heap.size + 2, 0, none⟩) (.int .i64 5) (.inr (show w.heap.size ≤ w.heap.size + 2 by omega))
    have kz := (Kept.refl (fun k => k = w1.heap.size) ((put7 W' (w.heap.size + 1) (.int .i64 0) (.int .i64 0) (.int .i64 0) (.int .u64 0) (.int .i64 0) (.int .i64 0) (.int .i64 0)).setCell ⟨w.heap.size + 2, 0, none⟩ (.int .i64 5))).putObj (l := w1.heap.size) (.deferred none) (.inl rfl)
    obtain ⟨q0, q1, q2, q3, q4, q5, q6⟩ := (seven (kz.block hc7 (by omega))).1
    have r1 := (kz.boxed hd7 (by omega)).cell
    have H7 : Aside _ := And.intro hf7 (And.intro hk7 (And.intro q0 (And.intro q1 (And.intro q2 (And.intro q3 (And.intro q4 (And.intro q5 (And.intro q6 r1))))))))
    clear hf7 hk7 q0 q1 q2 q3 q4 q5 q6 r1 hc7 hd7 kz kq hf6 hd6 kp6 hk6 hc6
    gi_wp2
    obtain ⟨hf7, hk7, q0, q1, q2, q3, q4, q5, q6, r1⟩ := H7.out
    refine ⟨by simp, .inl ⟨_, _, rfl, run_takeDeferred hf7, .tuple #[.agg zeroB, .int .i64 5], ?_, ?_, ?_⟩⟩
    · simp [results, Tryd.f20, go_sem, q0, q1, q2, q3, q4, q5, q6, r1]
    · rw [hfin.out]; rfl
    · exact Kept.putObj hk7 _ (.inr (by omega))
  case hstop =>
    rintro cd pre W' hpre hx
    rcases hx with ⟨rfl, p, s, h1, h2, hb⟩ | ⟨rfl, p, h1, h2, hb⟩
    · have kz := (Kept.refl (fun k => k = w1.heap.size) W').putObj (l := w1.heap.size) (.deferred none) (.inl rfl)
      obtain ⟨q0, q1, q2, q3, q4, q5, q6⟩ := (seven (kz.block hb.2.1 (by omega))).1
      have r1 := (kz.boxed hb.2.2.1 (by omega)).cell
      have hfin : Hid (findB (heads pg W) a = some (p, s)) := by unfold findB; rw [pgOf_pre hpre h1]; simp [h2, Hid]
      clear h1 h2
      gi_wp2
      refine ⟨by simp, .inl ⟨_, _, rfl, run_takeDeferred hb.2.2.2.2, .tuple #[bkV p s, .int .i64 0], ?_, ?_, ?_⟩⟩
      · simp [results, Tryd.f20, go_sem, q0, q1, q2, q3, q4, q5, q6, r1]
      · rw [hfin.out]; rfl
      · exact Kept.putObj hb.2.2.2.1 _ (.inr (by omega))
    have hfin : Hid (findB (heads pg W) a = none) := by unfold findB; rw [pgOf_pre hpre h1]; simp [h2, Hid]
    clear h1 h2
    obtain ⟨⟨y0, y1, y2, y3, y4, y5, y6⟩, yf⟩ := seven hb.2.1
    have z0 := hb.2.2.1.cell
    have zf := hb.2.2.1.frozen
    have hc6 := set7 hb.2.1 (.int .i64 0) (.int .i64 0) (.int .i64 0) (.int .u64 0) (.int .i64 0) (.int .i64 0) (.int .i64 0)
    have hk6 := Kept.put7 (O := No) hb.2.2.2.1 (b := w.heap.size + 1) (.inr (by omega)) (.int .i64 0) (.int .i64 0) (.int .i64 0) (.int .u64 0) (.int .i64 0) (.int .i64 0) (.int .i64 0)
    have kp6 := (Kept.refl (fun k => k = w.heap.size + 1) W').put7 (b := w.heap.size + 1) (.inl rfl) (.int .i64 0) (.int .i64 0) (.int .i64 0) (.int .u64 0) (.int .i64 0) (.int .i64 0) (.int .i64 0)
    have hd6 := kp6.boxed hb.2.2.1 (by omega)
    have hf6 := kp6.block hb.2.2.2.2 (by omega)
    have z6 := hd6.cell
    have zf6 := hd6.frozen
    have kq := (Kept.refl (fun k => k = w.heap.size + 2) (put7 W' (w.heap.size + 1) (.int .i64 0) (.int .i64 0) (.int .i64 0) (.int .u64 0) (.int .i64 0) (.int .i64 0) (.int .i64 0))).setCell (p := ⟨w.heap.size + 2, 0, none⟩) (.int .i64 5) (.inl rfl)
    have hf7 := kq.block hf6 (by omega)
    have hc7 := kq.block hc6 (by omega)
    have hd7 := hd6.set (.int .i64 5)
    have hk7 := Kept.setCell hk6 (p := ⟨w.heap.size + 2, 0, none⟩) (.int .i64 5) (.inr (show w.heap.size ≤ w.heap.size + 2 by omega))
    have kz := (Kept.refl (fun k => k = w1.heap.size) ((put7 W' (w.heap.size + 1) (.int .i64 0) (.int .i64 0) (.int .i64 0) (.int .u64 0) (.int .i64 0) (.int .i64 0) (.int .i64 0)).setCell ⟨w.heap.size + 2, 0, none⟩ (.int .i64 5))).putObj (l := w1.heap.size) (.deferred none) (.inl rfl)
    obtain ⟨q0, q1, q2, q3, q4, q5, q6⟩ := (seven (kz.block hc7 (by omega))).1
    have r1 := (kz.boxed hd7 (by omega)).cell
    have H7 : Aside _ := And.intro hf7 (And.intro hk7 (And.intro q0 (And.intro q1 (And.intro q2 (And.intro q3 (And.intro q4 (And.intro q5 (And.intro q6 r1))))))))
    clear hf7 hk7 q0 q1 q2 q3 q4 q5 q6 r1 hc7 hd7 kz kq hf6 hd6 kp6 hk6 hc6
    gi_wp2
    obtain ⟨hf7, hk7, q0, q1, q2, q3, q4, q5, q6, r1⟩ := H7.out
    refine ⟨by simp, .inl ⟨_, _, rfl, run_takeDeferred hf7, .tuple #[.agg zeroB, .int .i64 5], ?_, ?_, ?_⟩⟩
    · simp [results, Tryd.f20, go_sem, q0, q1, q2, q3, q4, q5, q6, r1]
    · rw [hfin.out]; rfl
    · exact Kept.putObj hk7 _ (.inr (by omega))

theorem find_any (h : Hw w bh bs bm q pg W) (a : Int) (hwf : In64 a) : Calls Tryd.prog 20 #[hp bh, .int .i64 a] w fun e w' => e = .returned (fdV (findB (heads pg W) a)) ∧ K w w' := (callsIn_wide (n := 0)).1 (find_in 0 h a hwf)

end Hp
end Go.Proofs.YtlpdgomoepinjaaDoor
