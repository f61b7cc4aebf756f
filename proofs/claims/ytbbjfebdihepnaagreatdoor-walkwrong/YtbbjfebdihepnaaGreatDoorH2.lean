/-
  The iterator over the blocks of a page: they come as 'slotsOf' tells, until a round says no more.
-/
import Derived.Test.YtbbjfebdihepnaaGreatDoorH1
namespace Go.Proofs.YtbbjfebdihepnaaGreatDoor
open Go.RowKit Go.Shelf
attribute [local go_sem] Oper.semAt_some
namespace Hp

abbrev encB (p : Pg) (s : Int) : Array Value := #[bkV p s]

/-- The taken ones of the first n slots. -/
def takenTo (t : Int) (n : Nat) : List Int := ((List.range n).map fun (k : Nat) => (k : Int)).filter fun k => Bt.hasI t k
/-- The slots of a page's blocks. -/
def slotsOf (p : Pg) : List Int := if p.kind = 2 then [0] else if p.kind = 1 then takenTo p.taken (Cl.sloI p.cls).toNat else []

theorem takenTo_succ (t : Int) (n : Nat) : takenTo t (n + 1) = if Bt.hasI t n = true then takenTo t n ++ [(n : Int)] else takenTo t n := by
  unfold takenTo
  rw [List.range_succ, List.map_append, List.filter_append]
  simp only [List.map_cons, List.map_nil, List.filter_cons, List.filter_nil]
  split <;> simp
theorem takenTo_pre (t : Int) {m n : Nat} (h : m ≤ n) : takenTo t m <+: takenTo t n := by
  induction n with
  | zero =>
    obtain rfl : m = 0 := by omega
    exact List.prefix_refl _
  | succ n ih =>
    rcases Nat.lt_or_eq_of_le h with h1 | h1
    · refine (ih (by omega)).trans ?_
      rw [takenTo_succ]
      split
      · exact List.prefix_append _ _
      · exact List.prefix_refl _
    · subst h1
      exact List.prefix_refl _

theorem slo_range (c : Int) : 0 ≤ Cl.sloI c ∧ Cl.sloI c ≤ 31 := by
  rcases Cl.siz_cases c with ⟨_, _, _, a⟩ | ⟨_, _, _, a⟩ | ⟨_, _, _, a⟩ | ⟨_, _, _, a⟩ | ⟨_, _, _, a⟩ | ⟨_, _, _, a⟩ | ⟨_, _, _, a⟩ | ⟨_, _, _, a⟩ | ⟨_, _, _, a⟩ <;> omega

set_option maxRecDepth 100000 in
set_option maxHeartbeats 1000000 in
theorem blocks_seq (w : World) (p : Pg) (hU : p.kind = 1 → Bt.U p.taken) (O : Nat → Prop) : SeqIn Tryz.prog 65 #[pgV p] (encB p) (slotsOf p) O w := fun n l J Jx W0 k0 hl0 hOlt hJ hJx hY h0 => by
  obtain ⟨pn, kd, cl, tk, ws, sp⟩ := p
  have k1 : K W0 (W0.alloc (.cells #[.int .i64 pn, .int .i64 kd, .int .i64 cl, .int .u64 tk, .int .i64 ws, .int .i64 sp] 125)) := (K.refl W0).alloc _
  have hB1 : (W0.alloc (.cells #[.int .i64 pn, .int .i64 kd, .int .i64 cl, .int .u64 tk, .int .i64 ws, .int .i64 sp] 125)).heap[W0.heap.size]? = some (.cells #[.int .i64 pn, .int .i64 kd, .int .i64 cl, .int .u64 tk, .int .i64 ws, .int .i64 sp] 125) := World.alloc_heap_new _ _
  have hJ1 := hJ _ _ _ _ h0 k1
  have hOB : ¬ O W0.heap.size := fun ho => by have := hOlt _ ho; omega
  by_cases hk2 : kd = 2
  · subst hk2
    have hs : slotsOf ⟨pn, 2, cl, tk, ws, sp⟩ = [0] := by simp [slotsOf]
    rw [hs] at hY ⊢
    obtain ⟨fn, tmps, assign, body, hy, hR⟩ := hY [] 0 O _ (List.prefix_refl _) hJ1
    dsimp only [encB, bkV] at hy
    refine callsIn_of_wp Tryz.func65 rfl trivial ?_ rfl
    simp only [Tryz.ntmps65, List.size_toArray, List.length_cons, List.length_nil, Nat.reduceAdd, Nat.reduceSub, Array.replicate_succ, Array.replicate_zero, List.push_toArray, List.append_toArray, List.nil_append, List.cons_append]
    gi_wp2
    refine ⟨fun h => (by cases h), hR.mono ?_⟩
    rintro e w3 (⟨rfl, M3, hJ3, k3, g3⟩ | ⟨rfl, M3, hJx3, k3⟩)
    · have c1 := (six (k3.block hB1 hOB)).1.2.1
      gi_wp2
      refine bodyPost_ret (results_none rfl _ _ _) rfl ?_
      exact ⟨⟨_, rfl⟩, .inl ⟨M3, hJ3⟩⟩
    · have c1 := (six (k3.block hB1 (fun h => h.elim hOB (fun e => by omega)))).1.2.1
      gi_wp2
      refine bodyPost_ret (results_none rfl _ _ _) rfl ?_
      exact ⟨⟨_, rfl⟩, .inr ⟨_, M3, List.prefix_refl _, hJx3⟩⟩
  · by_cases hk1 : kd = 1
    · subst hk1
      have hs : slotsOf ⟨pn, 1, cl, tk, ws, sp⟩ = takenTo tk (Cl.sloI cl).toNat := by simp [slotsOf]
      rw [hs] at hY ⊢
      have hT : Bt.U tk := hU rfl
      clear hU
      obtain ⟨n0, n1⟩ := slo_range cl
      have cs := fun w => pageSlots_any ⟨pn, 1, cl, tk, ws, sp⟩ w
      dsimp only at cs
      have hnn : ((Cl.sloI cl).toNat : Int) = Cl.sloI cl := by omega
      obtain ⟨N, hN⟩ : ∃ N : Nat, N = (Cl.sloI cl).toNat := ⟨_, rfl⟩
      rw [← hN] at hY hnn ⊢
      rw [← hnn] at cs n0 n1
      clear hN hnn hs hk2
      refine callsIn_of_wp Tryz.func65 rfl trivial ?_ rfl
      simp only [Tryz.ntmps65, List.size_toArray, List.length_cons, List.length_nil, Nat.reduceAdd, Nat.reduceSub, Array.replicate_succ, Array.replicate_zero, List.push_toArray, List.append_toArray, List.nil_append, List.cons_append]
      gi_wp2
      refine ⟨trivial, fun h => (by cases h), (callsIn_wide.2 (cs _)).mono ?_⟩
      rintro e w2 ⟨rfl, k2⟩
      have hB2 := k2.block hB1
      have hJ2 := hJ _ _ _ _ hJ1 k2
      have ks := k1.trans k2
      gi_wp2
      gi_loopw [4, 17] (fun _ i wr => ∃ k : Nat, k ≤ N ∧ i = .int .i64 (k : Int) ∧ ∃ M : Nat → Prop, J (takenTo tk k) M wr ∧ ¬ M W0.heap.size ∧ wr.heap[W0.heap.size]? = some (.cells #[.int .i64 pn, .int .i64 1, .int .i64 cl, .int .u64 tk, .int .i64 ws, .int .i64 sp] 125)) (fun _ i _ => N - (intOf i).toNat)
      case atStart => exact ⟨0, Nat.zero_le _, rfl, O, hJ2, hOB, hB2⟩
      case round =>
        obtain ⟨k, hk, rfl, M, hJr, hMB, hBr⟩ := hrel
        obtain ⟨⟨c0, c1, c2, c3, c4, c5⟩, _⟩ := six hBr
        by_cases hlt : k < N
        · have hsu := takenTo_succ tk k
          have hpf := takenTo_pre tk (show k + 1 ≤ N from hlt)
          have hh := Bt.has_any tk k hT wr
          cases hb : Bt.hasI tk k with
          | true =>
            rw [hb] at hsu hh
            simp only [if_true] at hsu
            rw [hsu] at hpf
            have HS : Hid _ := hsu
            obtain ⟨fn, tmps, assign, body, hy, hR⟩ := hY _ _ M wr hpf hJr
            dsimp only [encB, bkV] at hy
            clear hsu
            gi_wp2
            refine ⟨trivial, fun h => (by cases h), (callsIn_wide.2 hh).mono ?_⟩
            rintro e w3 ⟨rfl, rfl⟩
            gi_wp2
            refine ⟨fun h => (by cases h), hR.mono ?_⟩
            rintro e w3 (⟨rfl, M3, hJ3, k3, g3⟩ | ⟨rfl, M3, hJx3, k3⟩)
            · gi_wp2
              go_roundw
              case rel => exact ⟨k + 1, by omega, by go_num, M3, by rw [HS.out]; exact hJ3, fun hm => by
                rcases g3 _ hm with h | h
                · exact hMB h
                · have := (Array.getElem?_eq_some_iff.1 hBr).1
                  omega, k3.block hBr hMB⟩
              case measure => simp [intOf]; omega
            · gi_wp2
              refine bodyPost_ret (results_none rfl _ _ _) rfl ?_
              exact ⟨⟨_, rfl⟩, .inr ⟨_, M3, hpf, hJx3⟩⟩
          | false =>
            rw [hb] at hsu hh
            simp only [Bool.false_eq_true, if_false] at hsu
            have HS : Hid _ := hsu
            clear hsu
            gi_wp2
            refine ⟨trivial, fun h => (by cases h), (callsIn_wide.2 hh).mono ?_⟩
            rintro e w3 ⟨rfl, rfl⟩
            gi_wp2
            all_goals (refine ⟨fun _ h => (by cases h), ?_⟩; gi_wp2)
            all_goals
              go_roundw
              case rel => exact ⟨k + 1, by omega, by go_num, M, by rw [HS.out]; exact hJr, hMB, hBr⟩
              case measure => simp [intOf]; omega
        · obtain rfl : k = N := by omega
          gi_wp2
          go_end0
          exact ⟨⟨_, rfl⟩, .inl ⟨M, hJr⟩⟩
    · have hs : slotsOf ⟨pn, kd, cl, tk, ws, sp⟩ = [] := by simp [slotsOf, hk1, hk2]
      rw [hs] at hY ⊢
      have e1 : (kd == 2) = false := by simpa using hk2
      have e2 : (kd == 1) = false := by simpa using hk1
      refine callsIn_of_wp Tryz.func65 rfl trivial ?_ rfl
      simp only [Tryz.ntmps65, List.size_toArray, List.length_cons, List.length_nil, Nat.reduceAdd, Nat.reduceSub, Array.replicate_succ, Array.replicate_zero, List.push_toArray, List.append_toArray, List.nil_append, List.cons_append]
      gi_wp2
      refine bodyPost_ret (results_none rfl _ _ _) rfl ?_
      exact ⟨⟨_, rfl⟩, .inl ⟨O, hJ1⟩⟩

end Hp
end Go.Proofs.YtbbjfebdihepnaaGreatDoor

/-
  The walk of package heap's leastFree: the least free slot of a class.
-/
namespace Go.Proofs.YtbbjfebdihepnaaGreatDoor
open Go.RowKit Go.Shelf
attribute [local go_sem] Oper.semAt_some
namespace Hp
variable {w : World} {bh bs bm : Nat} {q : Int} {pg : List (Int × Nat)} {W : Int → Int}

theorem scan_mem {f : Int → Pg} {l : List Int} {b : Int} {p : Pg} (h : p ∈ scan f l b) : ∃ n, n ∈ l ∧ p = f n := by
  induction l generalizing b with
  | nil => simp [scan] at h
  | cons n r ih =>
    unfold scan at h
    split at h
    · obtain ⟨m, hm, e⟩ := ih h
      exact ⟨m, List.mem_cons_of_mem _ hm, e⟩
    · rcases List.mem_cons.1 h with rfl | h
      · exact ⟨n, by simp, rfl⟩
      · obtain ⟨m, hm, e⟩ := ih h
        exact ⟨m, List.mem_cons_of_mem _ hm, e⟩

/-- What is so of every page that has a head. -/
structure PgOk (p : Pg) : Prop where
  n0 : 0 ≤ p.n
  n1 : p.n ≤ 1048575
  u : Bt.U p.taken

theorem heads_ok (ha : Sl.Arena w bs bm q pg W) {p : Pg} (hp : p ∈ heads pg W) : PgOk p := by
  obtain ⟨n, hn, rfl⟩ := scan_mem hp
  obtain ⟨x, hx, rfl⟩ := List.mem_map.1 hn
  have hr := ha.rng x hx
  have hu := U_of_ok (ha.ww (64 * x.1 + 1))
  have z : Bt.U 0 := ⟨by omega, by omega⟩
  refine ⟨by rw [look_n]; exact hr.1, by rw [look_n]; exact hr.2, ?_⟩
  unfold look
  split
  · exact hu
  · split <;> exact z

theorem mem_of_pre {pre l : List Pg} {x : Pg} (h : pre ++ [x] <+: l) : x ∈ l := h.subset (by simp)

/-- The least free slot of a page, if it is of the class. -/
def freeOf (c : Int) (p : Pg) : Option (Pg × Int) := if (p.kind == 1 && p.cls == c) = true then (if 0 ≤ Bt.freI p.taken (Cl.sloI p.cls) then some (p, Bt.freI p.taken (Cl.sloI p.cls)) else none) else none
/-- The least free slot of a class. -/
def freeB (l : List Pg) (c : Int) : Option (Pg × Int) := l.findSome? (freeOf c)

theorem freeB_snoc {c : Int} {pre : List Pg} {x : Pg} (h : freeB pre c = none) : freeB (pre ++ [x]) c = freeOf c x := by
  unfold freeB at *
  rw [List.findSome?_append, h]
  simp
theorem freeB_pre {c : Int} {pre l : List Pg} {r : Pg × Int} (h : pre <+: l) (hr : freeB pre c = some r) : freeB l c = some r := by
  obtain ⟨t, rfl⟩ := h
  unfold freeB at *
  rw [List.findSome?_append, hr]
  rfl

/-- Seven zeros: the zero block. -/
abbrev zeroB : Array Value := #[.int .i64 0, .int .i64 0, .int .i64 0, .int .u64 0, .int .i64 0, .int .i64 0, .int .i64 0]
abbrev cellsB (p : Pg) (s : Int) : Array Value := #[.int .i64 p.n, .int .i64 p.kind, .int .i64 p.cls, .int .u64 p.taken, .int .i64 p.words, .int .i64 p.span, .int .i64 s]
abbrev cellsP (p : Pg) : Array Value := #[.int .i64 p.n, .int .i64 p.kind, .int .i64 p.cls, .int .u64 p.taken, .int .i64 p.words, .int .i64 p.span]

theorem seven {w : World} {b : Nat} {v0 v1 v2 v3 v4 v5 v6 : Value} {t : TypeId} (h : w.heap[b]? = some (.cells #[v0, v1, v2, v3, v4, v5, v6] t)) :
    (w.cell? ⟨b, 0, none⟩ = some v0 ∧ w.cell? ⟨b, 1, none⟩ = some v1 ∧ w.cell? ⟨b, 2, none⟩ = some v2 ∧ w.cell? ⟨b, 3, none⟩ = some v3 ∧ w.cell? ⟨b, 4, none⟩ = some v4 ∧ w.cell? ⟨b, 5, none⟩ = some v5 ∧ w.cell? ⟨b, 6, none⟩ = some v6) ∧ ∀ i, w.frozen? ⟨b, i, none⟩ = false := by
  simp [World.cell?, World.frozen?, h]
abbrev put7 (w : World) (b : Nat) (u0 u1 u2 u3 u4 u5 u6 : Value) : World := (put6 w b u0 u1 u2 u3 u4 u5).setCell ⟨b, 6, none⟩ u6
theorem set7 {w : World} {b : Nat} {v0 v1 v2 v3 v4 v5 v6 : Value} {t : TypeId} (h : w.heap[b]? = some (.cells #[v0, v1, v2, v3, v4, v5, v6] t)) (u0 u1 u2 u3 u4 u5 u6 : Value) :
    (put7 w b u0 u1 u2 u3 u4 u5 u6).heap[b]? = some (.cells #[u0, u1, u2, u3, u4, u5, u6] t) := by
  have h1 : (w.setCell ⟨b, 0, none⟩ u0).heap[b]? = some (.cells #[u0, v1, v2, v3, v4, v5, v6] t) := Sl.heap_setCell_same (i := 0) h u0
  have h2 : ((w.setCell ⟨b, 0, none⟩ u0).setCell ⟨b, 1, none⟩ u1).heap[b]? = some (.cells #[u0, u1, v2, v3, v4, v5, v6] t) := Sl.heap_setCell_same (i := 1) h1 u1
  have h3 : (((w.setCell ⟨b, 0, none⟩ u0).setCell ⟨b, 1, none⟩ u1).setCell ⟨b, 2, none⟩ u2).heap[b]? = some (.cells #[u0, u1, u2, v3, v4, v5, v6] t) := Sl.heap_setCell_same (i := 2) h2 u2
  have h4 : ((((w.setCell ⟨b, 0, none⟩ u0).setCell ⟨b, 1, none⟩ u1).setCell ⟨b, 2, none⟩ u2).setCell ⟨b, 3, none⟩ u3).heap[b]? = some (.cells #[u0, u1, u2, u3, v4, v5, v6] t) := Sl.heap_setCell_same (i := 3) h3 u3
  have h5 : (((((w.setCell ⟨b, 0, none⟩ u0).setCell ⟨b, 1, none⟩ u1).setCell ⟨b, 2, none⟩ u2).setCell ⟨b, 3, none⟩ u3).setCell ⟨b, 4, none⟩ u4).heap[b]? = some (.cells #[u0, u1, u2, u3, u4, v5, v6] t) := Sl.heap_setCell_same (i := 4) h4 u4
  have h6 : ((((((w.setCell ⟨b, 0, none⟩ u0).setCell ⟨b, 1, none⟩ u1).setCell ⟨b, 2, none⟩ u2).setCell ⟨b, 3, none⟩ u3).setCell ⟨b, 4, none⟩ u4).setCell ⟨b, 5, none⟩ u5).heap[b]? = some (.cells #[u0, u1, u2, u3, u4, u5, v6] t) := Sl.heap_setCell_same (i := 5) h5 u5
  have h7 : (((((((w.setCell ⟨b, 0, none⟩ u0).setCell ⟨b, 1, none⟩ u1).setCell ⟨b, 2, none⟩ u2).setCell ⟨b, 3, none⟩ u3).setCell ⟨b, 4, none⟩ u4).setCell ⟨b, 5, none⟩ u5).setCell ⟨b, 6, none⟩ u6).heap[b]? = some (.cells #[u0, u1, u2, u3, u4, u5, u6] t) := Sl.heap_setCell_same (i := 6) h6 u6
  exact h7
theorem Kept.put7 {O : Nat → Prop} {w0 w : World} (k : Kept O w0 w) {b : Nat} (hb : O b ∨ w0.heap.size ≤ b) (u0 u1 u2 u3 u4 u5 u6 : Value) : Kept O w0 (put7 w b u0 u1 u2 u3 u4 u5 u6) :=
  ((((((k.setCell _ hb).setCell _ hb).setCell _ hb).setCell _ hb).setCell _ hb).setCell _ hb).setCell _ hb

/-- What leastFree answers. -/
def lfV : Option (Pg × Int) → Value
  | none => .tuple #[.agg zeroB, .bool false]
  | some (p, s) => .tuple #[bkV p s, .bool true]

set_option maxRecDepth 100000 in
set_option maxHeartbeats 1000000 in
theorem leastFree_in (n : Nat) (h : Hw w bh bs bm q pg W) (c : Int) : CallsIn Fence.wide n Tryz.prog 153 #[hp bh, .int .i64 c] w fun e w' => e = .returned (lfV (freeB (heads pg W) c)) ∧ K w w' := by
  obtain ⟨w1, hw1⟩ : ∃ w1, w1 = ((w.alloc (.cells #[.int .i64 c] 3)).alloc (.cells zeroB 128)).alloc (.cells #[.bool false] 4) := ⟨_, rfl⟩
  have kB : K w w1 := by rw [hw1]; exact (((K.refl w).alloc _).alloc _).alloc _
  have hB := h.keep kB
  have hsz : w1.heap.size ≤ w.heap.size + 3 ∧ w.heap.size + 3 ≤ w1.heap.size := by rw [hw1]; simp
  obtain ⟨hsz1, hsz2⟩ := hsz
  have b0 : Boxed w1 w.heap.size 3 (.int .i64 c) := by rw [hw1]; exact ((Boxed.new _ _ _).alloc _).alloc _
  have b1 : w1.heap[w.heap.size + 1]? = some (.cells zeroB 128) := by
    rw [hw1]
    have := World.alloc_heap_new (w.alloc (.cells #[.int .i64 c] 3)) (.cells zeroB 128)
    rw [World.size_alloc] at this
    exact ((K.refl _).alloc _).block this
  have b2 : Boxed w1 (w.heap.size + 2) 4 (.bool false) := by
    rw [hw1]
    have := Boxed.new ((w.alloc (.cells #[.int .i64 c] 3)).alloc (.cells zeroB 128)) 4 (.bool false)
    simpa using this
  have hlt : bh < w.heap.size := lt_of_cell h.c0
  have hfl : ∀ k, Sl.foot bs bm pg k → k < w.heap.size := fun k hk => h.ar.foot_lt hk
  have h0 := lt0 h.tab
  refine callsIn_of_wp_marks Tryz.func153 rfl trivial ?_ rfl
  simp only [Tryz.ntmps153, List.size_toArray, List.length_cons, List.length_nil, Nat.reduceAdd, Nat.reduceSub, Array.replicate_succ, Array.replicate_zero, List.push_toArray, List.append_toArray, List.nil_append, List.cons_append]
  gi_wp2
  rw [← hw1]
  clear hw1
  refine range_core (r := none) (w' := w1.alloc (.deferred (some []))) (mark := [{ target := .collected w1.heap.size, args := #[] }]) (gf := 64) (ba := #[hp bh]) rfl (enters_of Tryz.func64 (by kernel_rfl) rfl) (fun fn => outer w1)
    (pages_seq hB (fun k => k = w.heap.size + 1 ∨ k = w.heap.size + 2) (fun k hk => ⟨fun hf => by have := hfl _ hf; omega, by omega, by omega⟩)) ((K.refl w1).alloc _) (fun k hk => by simp; omega) (fun _ => rfl)
    (fun pre W' => freeB pre c = none ∧ Boxed W' w.heap.size 3 (.int .i64 c) ∧ W'.heap[w.heap.size + 1]? = some (.cells zeroB 128) ∧ Boxed W' (w.heap.size + 2) 4 (.bool false) ∧ K w W' ∧ W'.heap[w1.heap.size]? = some (.deferred (some [])))
    (fun cd pre W' => cd = .ret ∧ (∃ p s, freeB pre c = some (p, s) ∧ W'.heap[w.heap.size + 1]? = some (.cells (cellsB p s) 128)) ∧ Boxed W' (w.heap.size + 2) 4 (.bool true) ∧ K w W' ∧ W'.heap[w1.heap.size]? = some (.deferred (some [])))
    (fun pre x a' W' => (freeB pre c = none ∧ Boxed W' w.heap.size 3 (.int .i64 c) ∧ W'.heap[w.heap.size + 1]? = some (.cells zeroB 128) ∧ Boxed W' (w.heap.size + 2) 4 (.bool false) ∧ K w W' ∧ W'.heap[w1.heap.size]? = some (.deferred (some []))) ∧ ∃ B, w1.heap.size + 1 < B ∧ a' = { tmps := #[hp bh, .int .i64 c, undef, .pointer (some ⟨w.heap.size, 0, none⟩), .pointer (some ⟨w.heap.size + 1, 0, none⟩), .pointer (some ⟨w.heap.size + 2, 0, none⟩), .pointer (some ⟨B, 0, none⟩), undef, hp bh, .func (.func 64) #[hp bh] #[], pgV x, undef, undef, undef, undef, undef, undef, undef, undef, undef, undef, undef, undef, undef, undef, undef], defers := [] } ∧ W'.heap[B]? = some (.cells (cellsP x) 125))
    ?hI ?hIx ?hAx ?h0 ?hassign ?hbody ?hdone ?hstop
  case hI =>
    rintro s A B ⟨ha, hb, hc, hd, hk, hf⟩ k
    simp only [World.size_alloc] at k
    exact ⟨ha, k.boxed hb (by omega), k.block hc (by omega), k.boxed hd (by omega), hk.thenKept k (by omega), k.block hf (by omega)⟩
  case hIx =>
    rintro cd s A B ⟨hcd, ⟨p, sl, ha, hc⟩, hd, hk, hf⟩ k
    simp only [World.size_alloc] at k
    exact ⟨hcd, ⟨p, sl, ha, k.block hc (by omega)⟩, k.boxed hd (by omega), hk.thenKept k (by omega), k.block hf (by omega)⟩
  case hAx =>
    rintro s x a' A B ⟨⟨ha, hb, hc, hd, hk, hf⟩, D, hD, he, hx⟩ k
    simp only [World.size_alloc] at k
    exact ⟨⟨ha, k.boxed hb (by omega), k.block hc (by omega), k.boxed hd (by omega), hk.thenKept k (by omega), k.block hf (by omega)⟩, D, hD, he, k.block hx (by omega)⟩
  case h0 => exact ⟨rfl, b0.alloc _, ((K.refl w1).alloc _).block b1, b2.alloc _, kB.alloc _, World.alloc_heap_new _ _⟩
  case hassign =>
    rintro pre x W' _ ⟨ha, hb, hc, hd, hk, hf⟩ hl
    simp only [World.size_alloc] at hl
    gi_wp2
    exact ⟨(Kept.refl _ _).alloc _, ⟨ha, hb.alloc _, ((K.refl W').alloc _).block hc, hd.alloc _, hk.alloc _, ((K.refl W').alloc _).block hf⟩, _, hl, rfl, World.alloc_heap_new _ _⟩
  case hbody =>
    rintro pre x a' W' hpre _ ⟨⟨ha, hb, hc, hd, hk, hf⟩, D, hD, rfl, hx⟩
    have hok := heads_ok h.ar (mem_of_pre hpre)
    obtain ⟨⟨c0, c1, c2, c3, c4, c5⟩, _⟩ := six hx
    have bc := hb.cell
    have ci := fun w => pageIsOf_any x c w
    have hsn := freeB_snoc (x := x) ha
    unfold freeOf at hsn
    cases hof : (x.kind == 1 && x.cls == c) with
    | false =>
      rw [hof] at ci hsn
      simp only [Bool.false_eq_true, if_false] at hsn
      have HS : Hid _ := hsn
      clear hsn ha
      gi_wp2
      refine ⟨trivial, fun h => (by cases h), (CallsIn.inRound _ (callsIn_wide.2 (ci _))).mono ?_⟩
      rintro e W2 ⟨rfl, k2⟩
      gi_wp2
      exact ⟨k2.kept _, HS.out, k2.boxed hb, k2.block hc, k2.boxed hd, hk.trans k2, k2.block hf⟩
    | true =>
      rw [hof] at ci hsn
      simp only [if_true] at hsn
      have hT := (h.keep hk).tab
      have cs := fun w => pageSlots_any x w
      have cf := fun w (T : Bt.Tab w) => Bt.free_any x.taken (Cl.sloI x.cls) hok.u w T
      generalize Bt.freI x.taken (Cl.sloI x.cls) = fr at *
      generalize Cl.sloI x.cls = sl at *
      have HS : Hid _ := hsn
      clear hsn ha
      gi_wp2
      refine ⟨trivial, fun h => (by cases h), (CallsIn.inRound _ (callsIn_wide.2 (ci _))).mono ?_⟩
      rintro e W2 ⟨rfl, k2⟩
      have hx2 := k2.block hx
      have hT2 : Bt.Tab W2.drew := hT.keep (K.drew k2).toBt
      obtain ⟨⟨d0, d1, d2, d3, d4, d5⟩, _⟩ := six hx2
      have hmix : Tryz.prog.follows .mixedOrders = true := by kernel_rfl
      clear bc c0 c1 c2 c3 c4 c5
      gi_wp2
      gi_region_with_o (first
        | (refine ⟨trivial, fun h => (by cases h), ?_⟩; gi_at_call 96; refine (CallsIn.inRound _ (callsIn_wide.2 (cs _))).mono ?_; rintro e W3 ⟨rfl, k3⟩; obtain ⟨⟨e0, e1, e2, e3, e4, e5⟩, _⟩ := six (k3.block hx2))
        | (refine ⟨trivial, fun h => (by cases h), ?_⟩; gi_at_call 172; refine (CallsIn.inRound _ (callsIn_wide.2 (cf _ (hT2.keep k3.toBt)))).mono ?_; rintro e W4 ⟨rfl, k4⟩))
      all_goals
        have k5 : K W' W4 := ((K.drew k2).trans k3).trans (K.bt k4)
        obtain ⟨⟨x0, x1, x2, x3, x4, x5⟩, _⟩ := six (k5.block hx)
        have hc5 := k5.block hc
        obtain ⟨⟨y0, y1, y2, y3, y4, y5, y6⟩, yf⟩ := seven hc5
        have hd5 := k5.boxed hd
        have hf5 := k5.block hf
        have hk5 := hk.trans k5
        have z0 := hd5.cell
        have zf := hd5.frozen
        by_cases hfr : 0 ≤ fr
        · have E1 : Hid (freeB (pre ++ [x]) c = some (x, fr)) := by rw [HS.out, if_pos hfr]; rfl
          have hc6 := set7 hc5 (.int .i64 x.n) (.int .i64 x.kind) (.int .i64 x.cls) (.int .u64 x.taken) (.int .i64 x.words) (.int .i64 x.span) (.int .i64 fr)
          have kp6 := (k5.kept (fun k => k = w.heap.size + 1 ∨ k = w.heap.size + 2)).put7 (b := w.heap.size + 1) (.inl (.inl rfl)) (.int .i64 x.n) (.int .i64 x.kind) (.int .i64 x.cls) (.int .u64 x.taken) (.int .i64 x.words) (.int .i64 x.span) (.int .i64 fr)
          have kw6 := Kept.put7 (O := No) hk5 (b := w.heap.size + 1) (.inr (by omega)) (.int .i64 x.n) (.int .i64 x.kind) (.int .i64 x.cls) (.int .u64 x.taken) (.int .i64 x.words) (.int .i64 x.span) (.int .i64 fr)
          have hd6 : Boxed (put7 W4 (w.heap.size + 1) (.int .i64 x.n) (.int .i64 x.kind) (.int .i64 x.cls) (.int .u64 x.taken) (.int .i64 x.words) (.int .i64 x.span) (.int .i64 fr)) (w.heap.size + 2) 4 (.bool false) := ((Kept.refl (fun k => k = w.heap.size + 1) W4).put7 (.inl rfl) _ _ _ _ _ _ _).boxed hd5 (by omega)
          have z6 := hd6.cell
          have zf6 := hd6.frozen
          have H6 : Aside _ := And.intro hc6 (And.intro kp6 (And.intro kw6 hd6))
          clear hc6 kp6 kw6 hd6 HS
          gi_wp2
          obtain ⟨hc6, kp6, kw6, hd6⟩ := H6.out
          have kt := kp6.setCell (p := ⟨w.heap.size + 2, 0, none⟩) (.bool true) (.inl (.inr rfl))
          exact ⟨kt, rfl, ⟨x, fr, E1.out, ((Kept.refl (fun k => k = w.heap.size + 2) _).setCell (p := ⟨w.heap.size + 2, 0, none⟩) (.bool true) (.inl rfl)).block hc6 (by omega)⟩, hd6.set _, Kept.setCell kw6 _ (.inr (show w.heap.size ≤ w.heap.size + 2 by omega)), kt.block hf (by omega)⟩
        · have E1 : Hid (freeB (pre ++ [x]) c = none) := by rw [HS.out, if_neg hfr]; rfl
          clear HS
          gi_wp2
          exact ⟨k5.kept _, E1.out, k5.boxed hb, hc5, hd5, hk5, hf5⟩
  case hdone =>
    rintro W' ⟨ha, hb, hc, hd, hk, hf⟩
    obtain ⟨⟨y0, y1, y2, y3, y4, y5, y6⟩, yf⟩ := seven hc
    have z0 := hd.cell
    have zf := hd.frozen
    have hc6 := set7 hc (.int .i64 0) (.int .i64 0) (.int .i64 0) (.int .u64 0) (.int .i64 0) (.int .i64 0) (.int .i64 0)
    have hk6 := Kept.put7 (O := No) hk (b := w.heap.size + 1) (.inr (by omega)) (.int .i64 0) (.int .i64 0) (.int .i64 0) (.int .u64 0) (.int .i64 0) (.int .i64 0) (.int .i64 0)
    have kp6 := (Kept.refl (fun k => k = w.heap.size + 1) W').put7 (b := w.heap.size + 1) (.inl rfl) (.int .i64 0) (.int .i64 0) (.int .i64 0) (.int .u64 0) (.int .i64 0) (.int .i64 0) (.int .i64 0)
    have hd6 := kp6.boxed hd (by omega)
    have hf6 := kp6.block hf (by omega)
    have z6 := hd6.cell
    have zf6 := hd6.frozen
    have kq := (Kept.refl (fun k => k = w.heap.size + 2) (put7 W' (w.heap.size + 1) (.int .i64 0) (.int .i64 0) (.int .i64 0) (.int .u64 0) (.int .i64 0) (.int .i64 0) (.int .i64 0))).setCell (p := ⟨w.heap.size + 2, 0, none⟩) (.bool false) (.inl rfl)
    have hf7 := kq.block hf6 (by omega)
    have hc7 := kq.block hc6 (by omega)
    have hd7 := hd6.set (.bool false)
    have hk7 := Kept.setCell hk6 (p := ⟨w.heap.size + 2, 0, none⟩) (.bool false) (.inr (show w.heap.size ≤ w.heap.size + 2 by omega))
    have kz := (Kept.refl (fun k => k = w1.heap.size) ((put7 W' (w.heap.size + 1) (.int .i64 0) (.int .i64 0) (.int .i64 0) (.int .u64 0) (.int .i64 0) (.int .i64 0) (.int .i64 0)).setCell ⟨w.heap.size + 2, 0, none⟩ (.bool false))).putObj (l := w1.heap.size) (.deferred none) (.inl rfl)
    have r0 := (seven (kz.block hc7 (by omega))).1
    have r1 := (kz.boxed hd7 (by omega)).cell
    obtain ⟨q0, q1, q2, q3, q4, q5, q6⟩ := r0
    have H7 : Aside _ := And.intro hf7 (And.intro hk7 (And.intro q0 (And.intro q1 (And.intro q2 (And.intro q3 (And.intro q4 (And.intro q5 (And.intro q6 r1))))))))
    clear hf7 hk7 q0 q1 q2 q3 q4 q5 q6 r1 hc7 hd7 kz kq hf6 hd6 kp6 hk6 hc6
    gi_wp2
    obtain ⟨hf7, hk7, q0, q1, q2, q3, q4, q5, q6, r1⟩ := H7.out
    refine ⟨by simp, .inl ⟨_, _, rfl, run_takeDeferred hf7, .tuple #[.agg zeroB, .bool false], ?_, ?_, ?_⟩⟩
    · simp [results, Tryz.f153, go_sem, q0, q1, q2, q3, q4, q5, q6, r1]
    · rw [ha]; rfl
    · exact Kept.putObj hk7 _ (.inr (by omega))
  case hstop =>
    rintro cd pre W' hpre ⟨rfl, ⟨p, s, ha, hc⟩, hd, hk, hf⟩
    have kz := (Kept.refl (fun k => k = w1.heap.size) W').putObj (l := w1.heap.size) (.deferred none) (.inl rfl)
    obtain ⟨q0, q1, q2, q3, q4, q5, q6⟩ := (seven (kz.block hc (by omega))).1
    have r1 := (kz.boxed hd (by omega)).cell
    gi_wp2
    refine ⟨by simp, .inl ⟨_, _, rfl, run_takeDeferred hf, .tuple #[bkV p s, .bool true], ?_, ?_, ?_⟩⟩
    · simp [results, Tryz.f153, go_sem, q0, q1, q2, q3, q4, q5, q6, r1]
    · rw [freeB_pre hpre ha]; rfl
    · exact Kept.putObj hk _ (.inr (by omega))

theorem leastFree_any (h : Hw w bh bs bm q pg W) (c : Int) : Calls Tryz.prog 153 #[hp bh, .int .i64 c] w fun e w' => e = .returned (lfV (freeB (heads pg W) c)) ∧ K w w' := (callsIn_wide (n := 0)).1 (leastFree_in 0 h c)

end Hp
end Go.Proofs.YtbbjfebdihepnaaGreatDoor

/-
  The walk of package heap's find: the block of an address.
-/
namespace Go.Proofs.YtbbjfebdihepnaaGreatDoor
open Go.RowKit Go.Shelf
attribute [local go_sem] Oper.semAt_some
namespace Hp
variable {w : World} {bh bs bm : Nat} {q : Int} {pg : List (Int × Nat)} {W : Int → Int}

/-- The page of an address. -/
def pgOf (a : Int) (l : List Pg) : Option Pg := l.find? fun p => p.n == a.tdiv 64
/-- The slot of an address on a page. -/
def slOf (a : Int) (p : Pg) (l : List Int) : Option Int := l.find? fun s => addrI p s == a
/-- The block of an address. -/
def findB (l : List Pg) (a : Int) : Option (Pg × Int) := (pgOf a l).bind fun p => (slOf a p (slotsOf p)).map fun s => (p, s)

theorem pgOf_snoc {a : Int} {pre : List Pg} {x : Pg} (h : pgOf a pre = none) : pgOf a (pre ++ [x]) = if (x.n == a.tdiv 64) = true then some x else none := by
  unfold pgOf at *
  rw [List.find?_append, h]
  simp only [List.find?_cons, List.find?_nil, Option.none_or]
  cases (x.n == a.tdiv 64) <;> rfl
theorem pgOf_pre {a : Int} {pre l : List Pg} {p : Pg} (h : pre <+: l) (hr : pgOf a pre = some p) : pgOf a l = some p := by
  obtain ⟨t, rfl⟩ := h
  unfold pgOf at *
  rw [List.find?_append, hr]
  rfl
theorem slOf_snoc {a : Int} {p : Pg} {pre : List Int} {x : Int} (h : slOf a p pre = none) : slOf a p (pre ++ [x]) = if (addrI p x == a) = true then some x else none := by
  unfold slOf at *
  rw [List.find?_append, h]
  simp only [List.find?_cons, List.find?_nil, Option.none_or]
  cases (addrI p x == a) <;> rfl
theorem slOf_pre {a : Int} {p : Pg} {pre l : List Int} {x : Int} (h : pre <+: l) (hr : slOf a p pre = some x) : slOf a p l = some x := by
  obtain ⟨t, rfl⟩ := h
  unfold slOf at *
  rw [List.find?_append, hr]
  rfl

/-- What find answers. -/
def fdV : Option (Pg × Int) → Value
  | none => .tuple #[.agg zeroB, .int .i64 5]
  | some (p, s) => .tuple #[bkV p s, .int .i64 0]

/-- In a loop within a round. -/
theorem inner {P : Program} {fn l : Nat} {tmps : Array Value} {ps : Array Tmp} {assign body : Code} (w : World) (h : ∃ r, w.heap[l]? = some (.loop r)) : ∃ df, (Instr.enterLoop fn tmps ps assign body (some l)).run P w = .ok (w.heap.size, [])
    (w.alloc (.loop { state := .ready, pending := none, fn, tmps := tmps, params := ps, assign, body, defers := df })) := by
  obtain ⟨r, hr⟩ := h
  exact ⟨r.defers, run_enterLoop_inner hr _ _ _ _ _⟩

/-- A number that an int may be. -/
def In64 (a : Int) : Prop := -9223372036854775808 ≤ a ∧ a ≤ 9223372036854775807
theorem In64.of_wf {a : Int} (h : (Lit.int .i64 a).wf = true) : In64 a := by
  simp only [Lit.wf, IntKind.min, IntKind.max, IntKind.signed, IntKind.bits, Bool.and_eq_true] at h
  unfold In64
  simp at h
  omega
theorem tdiv64 {a : Int} (h : In64 a) : wrap64 (a.tdiv 64) = a.tdiv 64 := by
  have h0 := h.1
  have h1 := h.2
  have h2 : -9223372036854775808 ≤ a.tdiv 64 ∧ a.tdiv 64 ≤ 9223372036854775807 := by
    by_cases hs : 0 ≤ a
    · rw [Int.tdiv_eq_ediv_of_nonneg hs]
      omega
    · have e : a.tdiv 64 = -((-a).tdiv 64) := by rw [Int.neg_tdiv]; omega
      rw [e, Int.tdiv_eq_ediv_of_nonneg (by omega)]
      omega
  unfold wrap64
  omega

/-- The boxes of find: the address, the block, the error. -/
def Bx (w : World) (D : Nat) (a : Int) (bk : Array Value) (er : Int) (V : World) : Prop :=
  Boxed V w.heap.size 3 (.int .i64 a) ∧ V.heap[w.heap.size + 1]? = some (.cells bk 128) ∧ Boxed V (w.heap.size + 2) 31 (.int .i64 er) ∧ K w V ∧ V.heap[D]? = some (.deferred (some []))
abbrev O2 (w : World) : Nat → Prop := fun k => k = w.heap.size + 1 ∨ k = w.heap.size + 2

theorem Bx.next {w A B : World} {D : Nat} {a : Int} {bk : Array Value} {er : Int} (h : Bx w D a bk er A) {l : Nat} (hl : w.heap.size + 2 < l) (hD : D ≠ l) (k : Kept (fun j => j = l) A B) : Bx w D a bk er B :=
  ⟨k.boxed h.1 (by omega), k.block h.2.1 (by omega), k.boxed h.2.2.1 (by omega), h.2.2.2.1.thenKept k (by omega), k.block h.2.2.2.2 hD⟩
theorem Bx.keep {w A B : World} {D : Nat} {a : Int} {bk : Array Value} {er : Int} (h : Bx w D a bk er A) (k : K A B) : Bx w D a bk er B :=
  ⟨k.boxed h.1, k.block h.2.1, k.boxed h.2.2.1, h.2.2.2.1.trans k, k.block h.2.2.2.2⟩

set_option maxRecDepth 100000 in
set_option maxHeartbeats 2000000 in
theorem find_in (n : Nat) (h : Hw w bh bs bm q pg W) (a : Int) (hwf : In64 a) : CallsIn Fence.wide n Tryz.prog 91 #[hp bh, .int .i64 a] w fun e w' => e = .returned (fdV (findB (heads pg W) a)) ∧ K w w' := by
  obtain ⟨w1, hw1⟩ : ∃ w1, w1 = ((w.alloc (.cells #[.int .i64 a] 3)).alloc (.cells zeroB 128)).alloc (.cells #[.int .i64 0] 31) := ⟨_, rfl⟩
  have kB : K w w1 := by rw [hw1]; exact (((K.refl w).alloc _).alloc _).alloc _
  have hB := h.keep kB
  have hsz : w1.heap.size ≤ w.heap.size + 3 ∧ w.heap.size + 3 ≤ w1.heap.size := by rw [hw1]; simp
  obtain ⟨hsz1, hsz2⟩ := hsz
  have b0 : Boxed w1 w.heap.size 3 (.int .i64 a) := by rw [hw1]; exact ((Boxed.new _ _ _).alloc _).alloc _
  have b1 : w1.heap[w.heap.size + 1]? = some (.cells zeroB 128) := by
    rw [hw1]
    have := World.alloc_heap_new (w.alloc (.cells #[.int .i64 a] 3)) (.cells zeroB 128)
    rw [World.size_alloc] at this
    exact ((K.refl _).alloc _).block this
  have b2 : Boxed w1 (w.heap.size + 2) 31 (.int .i64 0) := by
    rw [hw1]
    have := Boxed.new ((w.alloc (.cells #[.int .i64 a] 3)).alloc (.cells zeroB 128)) 31 (.int .i64 0)
    simpa using this
  have hlt : bh < w.heap.size := lt_of_cell h.c0
  have hfl : ∀ k, Sl.foot bs bm pg k → k < w.heap.size := fun k hk => h.ar.foot_lt hk
  have h0 := lt0 h.tab
  have hm := made_yes bh bs _ hB.c0
  have htd := tdiv64 hwf
  refine callsIn_of_wp_marks Tryz.func91 rfl trivial ?_ rfl
  simp only [Tryz.ntmps91, List.size_toArray, List.length_cons, List.length_nil, Nat.reduceAdd, Nat.reduceSub, Array.replicate_succ, Array.replicate_zero, List.push_toArray, List.append_toArray, List.nil_append, List.cons_append]
  gi_wp2
  rw [← hw1]
  clear hw1
  refine ⟨trivial, fun h => (by cases h), (callsIn_wide.2 hm).mono ?_⟩
  rintro e w' ⟨rfl, rfl⟩
  gi_wp2
  have hB0 : Bx w w1.heap.size a zeroB 0 (w1.alloc (.deferred (some []))) := ⟨b0.alloc _, ((K.refl w1).alloc _).block b1, b2.alloc _, kB.alloc _, World.alloc_heap_new _ _⟩
  refine range_core (r := none) (w' := w1.alloc (.deferred (some []))) (mark := [{ target := .collected w1.heap.size, args := #[] }]) (gf := 64) (ba := #[hp bh]) rfl (enters_of Tryz.func64 (by kernel_rfl) rfl) (fun fn => outer w1)
    (pages_seq hB (O2 w) (fun k hk => ⟨fun hf => by have := hfl _ hf; rcases hk with hk | hk <;> omega, by rcases hk with hk | hk <;> omega, by rcases hk with hk | hk <;> omega⟩)) ((K.refl w1).alloc _) (fun k hk => by simp; rcases hk with hk | hk <;> omega) (fun _ => rfl)
    (fun pre W' => pgOf a pre = none ∧ Bx w w1.heap.size a zeroB 0 W')
    (fun cd pre W' => (cd = .ret ∧ ∃ p s, pgOf a pre = some p ∧ slOf a p (slotsOf p) = some s ∧ Bx w w1.heap.size a (cellsB p s) 0 W') ∨ (cd = .exit 0 ∧ ∃ p, pgOf a pre = some p ∧ slOf a p (slotsOf p) = none ∧ Bx w w1.heap.size a zeroB 0 W'))
    (fun pre x a' W' => (pgOf a pre = none ∧ Bx w w1.heap.size a zeroB 0 W') ∧ ∃ B, w1.heap.size + 1 < B ∧ a' = { tmps := #[hp bh, .int .i64 a, undef, .pointer (some ⟨w.heap.size, 0, none⟩), .pointer (some ⟨w.heap.size + 1, 0, none⟩), .pointer (some ⟨w.heap.size + 2, 0, none⟩), .pointer (some ⟨B, 0, none⟩), undef, hp bh, .bool true, .bool false, undef, hp bh, .func (.func 64) #[hp bh] #[], pgV x, undef, undef, undef, undef, undef, undef, undef, undef, undef, undef, undef, undef, undef, undef], defers := [] } ∧ W'.heap[B]? = some (.cells (cellsP x) 125))
    ?hI ?hIx ?hAx ?h0 ?hassign ?hbody ?hdone ?hstop
  case hI =>
    rintro s A B ⟨ha, hb⟩ k
    simp only [World.size_alloc] at k
    exact ⟨ha, hb.next (by omega) (by omega) k⟩
  case hIx =>
    rintro cd s A B hx k
    simp only [World.size_alloc] at k
    rcases hx with ⟨hc, p, sl, h1, h2, hb⟩ | ⟨hc, p, h1, h2, hb⟩
    · exact .inl ⟨hc, p, sl, h1, h2, hb.next (by omega) (by omega) k⟩
    · exact .inr ⟨hc, p, h1, h2, hb.next (by omega) (by omega) k⟩
  case hAx =>
    rintro s x a' A B ⟨⟨ha, hb⟩, D, hD, he, hx⟩ k
    simp only [World.size_alloc] at k
    exact ⟨⟨ha, hb.next (by omega) (by omega) k⟩, D, hD, he, k.block hx (by omega)⟩
  case h0 => exact ⟨rfl, hB0⟩
  case hassign =>
    rintro pre x W' _ ⟨ha, hb⟩ hl
    simp only [World.size_alloc] at hl
    gi_wp2
    exact ⟨(Kept.refl _ _).alloc _, ⟨ha, hb.keep ((K.refl W').alloc _)⟩, _, hl, rfl, World.alloc_heap_new _ _⟩
  case hbody =>
    rintro pre x a' W' hpre hrec ⟨⟨ha, hb⟩, D, hD, rfl, hx⟩
    have hok := heads_ok h.ar (mem_of_pre hpre)
    obtain ⟨⟨c0, c1, c2, c3, c4, c5⟩, _⟩ := six hx
    have bc := hb.1.cell
    have hsn := pgOf_snoc (x := x) ha
    cases hof : (x.n == a.tdiv 64) with
    | false =>
      rw [hof] at hsn
      simp only [Bool.false_eq_true, if_false] at hsn
      have HS : Hid _ := hsn
      have hne : (x.n != a.tdiv 64) = true := by simp [bne, hof]
      clear hsn ha hof
      gi_wp2
      exact ⟨Kept.refl _ _, HS.out, hb⟩
    | true =>
      rw [hof] at hsn
      simp only [if_true] at hsn
      have HS : Hid _ := hsn
      have hne : (x.n != a.tdiv 64) = false := by simp [bne, hof]
      clear hsn ha hof
      gi_wp2
      have hltD : D < W'.heap.size := (Array.getElem?_eq_some_iff.1 hx).1
      refine range_core (r := some (w1.alloc (.deferred (some []))).heap.size) (w' := W') (mark := []) (gf := 65) (ba := #[pgV x]) rfl (enters_of Tryz.func65 (by kernel_rfl) rfl) (fun fn => inner W' hrec)
        (blocks_seq W' x (fun _ => hok.u) (O2 w)) (K.refl W') (fun k hk => by rcases hk with hk | hk <;> omega) (fun _ => rfl)
        (fun pr V => slOf a x pr = none ∧ Bx w w1.heap.size a zeroB 0 V ∧ Kept (O2 w) W' V)
        (fun cd pr V => cd = .ret ∧ ∃ s, slOf a x pr = some s ∧ Bx w w1.heap.size a (cellsB x s) 0 V ∧ Kept (O2 w) W' V)
        (fun pr y a' V => (slOf a x pr = none ∧ Bx w w1.heap.size a zeroB 0 V ∧ Kept (O2 w) W' V) ∧ ∃ B, W'.heap.size < B ∧ a' = { tmps := #[hp bh, .int .i64 a, undef, .pointer (some ⟨w.heap.size, 0, none⟩), .pointer (some ⟨w.heap.size + 1, 0, none⟩), .pointer (some ⟨w.heap.size + 2, 0, none⟩), .pointer (some ⟨D, 0, none⟩), .pointer (some ⟨B, 0, none⟩), hp bh, .bool true, .bool false, undef, hp bh, .func (.func 64) #[hp bh] #[], pgV x, .pointer (some ⟨D, 0, none⟩), .int .i64 x.n, .int .i64 a, .int .i64 (a.tdiv 64), .bool false, pgV x, .func (.func 65) #[pgV x] #[], bkV x y, undef, undef, undef, undef, undef, undef], defers := [] } ∧ V.heap[B]? = some (.cells (cellsB x y) 128))
        ?jI ?jIx ?jAx ?j0 ?jassign ?jbody ?jdone ?jstop
      case jI =>
        rintro s A B ⟨h1, hb1, hk1⟩ k
        exact ⟨h1, hb1.next (by omega) (by omega) k, hk1.thenKept k (Nat.le_refl _)⟩
      case jIx =>
        rintro cd s A B ⟨hc, sl, h1, hb1, hk1⟩ k
        exact ⟨hc, sl, h1, hb1.next (by omega) (by omega) k, hk1.thenKept k (Nat.le_refl _)⟩
      case jAx =>
        rintro s y a' A B ⟨⟨h1, hb1, hk1⟩, E, hE, he, hy⟩ k
        exact ⟨⟨h1, hb1.next (by omega) (by omega) k, hk1.thenKept k (Nat.le_refl _)⟩, E, hE, he, k.block hy (by omega)⟩
      case j0 => exact ⟨rfl, hb, Kept.refl _ _⟩
      case jassign =>
        rintro pr y V _ ⟨h1, hb1, hk1⟩ hl
        gi_wp2
        exact ⟨(Kept.refl _ _).alloc _, ⟨h1, hb1.keep ((K.refl V).alloc _), hk1.alloc _⟩, _, hl, rfl, World.alloc_heap_new _ _⟩
      case jbody =>
        rintro pr y a' V hpr _ ⟨⟨h1, hb1, hk1⟩, E, hE, rfl, hy⟩
        obtain ⟨⟨d0, d1, d2, d3, d4, d5, d6⟩, _⟩ := seven hy
        have bv := hb1.1.cell
        have ca := fun w => addr_any x y hok.n0 hok.n1 w
        have hs2 := slOf_snoc (x := y) h1
        have hmix : Tryz.prog.follows .mixedOrders = true := by kernel_rfl
        generalize addrI x y = ad at *
        clear c0 c1 c2 c3 c4 c5 bc hne htd
        cases hq : (ad == a) with
        | true =>
          rw [hq] at hs2
          simp only [if_true] at hs2
          have HS2 : Hid _ := hs2
          clear hs2 h1
          gi_wp2
          gi_region_with_o (refine ⟨trivial, fun h => (by cases h), ?_⟩; gi_at_call 66; refine (CallsIn.inRound _ (callsIn_wide.2 (ca _))).mono ?_; rintro e V2 ⟨rfl, k2⟩; have hv2 := k2.cell bv)
          all_goals
            have k5 : K V V2 := ((K.refl V).drew).trans k2
            obtain ⟨⟨x0, x1, x2, x3, x4, x5, x6⟩, _⟩ := seven (k5.block hy)
            have hb5 := hb1.keep k5
            obtain ⟨⟨y0, y1, y2, y3, y4, y5, y6⟩, yf⟩ := seven hb5.2.1
            have hc6 := set7 hb5.2.1 (.int .i64 x.n) (.int .i64 x.kind) (.int .i64 x.cls) (.int .u64 x.taken) (.int .i64 x.words) (.int .i64 x.span) (.int .i64 y)
            have kp6 := (k5.kept (O2 w)).put7 (b := w.heap.size + 1) (.inl (.inl rfl)) (.int .i64 x.n) (.int .i64 x.kind) (.int .i64 x.cls) (.int .u64 x.taken) (.int .i64 x.words) (.int .i64 x.span) (.int .i64 y)
            have kw6 := Kept.put7 (O := No) hb5.2.2.2.1 (b := w.heap.size + 1) (.inr (by omega)) (.int .i64 x.n) (.int .i64 x.kind) (.int .i64 x.cls) (.int .u64 x.taken) (.int .i64 x.words) (.int .i64 x.span) (.int .i64 y)
            have ko6 := (Kept.refl (fun k => k = w.heap.size + 1) V2).put7 (b := w.heap.size + 1) (.inl rfl) (.int .i64 x.n) (.int .i64 x.kind) (.int .i64 x.cls) (.int .u64 x.taken) (.int .i64 x.words) (.int .i64 x.span) (.int .i64 y)
            have hd6 := ko6.boxed hb5.2.2.1 (by omega)
            have hg6 := ko6.boxed hb5.1 (by omega)
            have z6 := hd6.cell
            have zf6 := hd6.frozen
            have H6 : Aside _ := And.intro hc6 (And.intro kp6 (And.intro kw6 (And.intro hd6 hg6)))
            clear hc6 kp6 kw6 hd6 hg6 ko6
            gi_wp2
            obtain ⟨hc6, kp6, kw6, hd6, hg6⟩ := H6.out
            have kt := kp6.setCell (p := ⟨w.heap.size + 2, 0, none⟩) (.int .i64 0) (.inl (.inr rfl))
            have ku := (Kept.refl (fun k => k = w.heap.size + 2) (put7 V2 (w.heap.size + 1) (.int .i64 x.n) (.int .i64 x.kind) (.int .i64 x.cls) (.int .u64 x.taken) (.int .i64 x.words) (.int .i64 x.span) (.int .i64 y))).setCell (p := ⟨w.heap.size + 2, 0, none⟩) (.int .i64 0) (.inl rfl)
            exact ⟨kt, rfl, y, HS2.out, ⟨ku.boxed hg6 (by omega), ku.block hc6 (by omega), hd6.set _, Kept.setCell kw6 _ (.inr (show w.heap.size ≤ w.heap.size + 2 by omega)), kt.block hb1.2.2.2.2 (by show ¬ (_ ∨ _); omega)⟩, hk1.trans kt⟩
        | false =>
          rw [hq] at hs2
          simp only [Bool.false_eq_true, if_false] at hs2
          have HS2 : Hid _ := hs2
          clear hs2 h1
          gi_wp2
          gi_region_with_o (refine ⟨trivial, fun h => (by cases h), ?_⟩; gi_at_call 66; refine (CallsIn.inRound _ (callsIn_wide.2 (ca _))).mono ?_; rintro e V2 ⟨rfl, k2⟩; have hv2 := k2.cell bv)
          all_goals
            have k5 : K V V2 := ((K.refl V).drew).trans k2
            gi_wp2
            exact ⟨k5.kept _, HS2.out, hb1.keep k5, hk1.trans (k5.kept _)⟩
      case jdone =>
        rintro V ⟨h1, hb1, hk1⟩
        gi_wp2
        exact ⟨hk1, .inr ⟨rfl, x, HS.out, h1, hb1⟩⟩
      case jstop =>
        rintro cd pr V hpr ⟨rfl, sl, h1, hb1, hk1⟩
        gi_wp2
        exact ⟨hk1, .inl ⟨rfl, x, sl, HS.out, slOf_pre hpr h1, hb1⟩⟩
  case hdone =>
    rintro W' ⟨ha, hb⟩
    have hfin : Hid (findB (heads pg W) a = none) := by unfold findB; rw [ha]; exact rfl
    clear ha
    obtain ⟨⟨y0, y1, y2, y3, y4, y5, y6⟩, yf⟩ := seven hb.2.1
    have z0 := hb.2.2.1.cell
    have zf := hb.2.2.1.frozen
    have hc6 := set7 hb.2.1 (.int .i64 0) (.int .i64 0) (.int .i64 0) (.int .u64 0) (.int .i64 0) (.int .i64 0) (.int .i64 0)
    have hk6 := Kept.put7 (O := No) hb.2.2.2.1 (b := w.heap.size + 1) (.inr (by omega)) (.int .i64 0) (.int .i64 0) (.int .i64 0) (.int .u64 0) (.int .i64 0) (.int .i64 0) (.int .i64 0)
    have kp6 := (Kept.refl (fun k => k = w.heap.size + 1) W').put7 (b := w.heap.size + 1) (.inl rfl) (.int .i64 0) (.int .i64 0) (.int .i64 0) (.int .u64 0) (.int .i64 0) (.int .i64 0) (.int .i64 0)
    have hd6 := kp6.boxed hb.2.2.1 (by omega)
    have hf6 := kp6.block hb.2.2.2.2 (by omega)
    have z6 := hd6.cell
    have zf6 := hd6.frozen
    have kq := (Kept.refl (fun k => k = w.heap.size + 2) (put7 W' (w.heap.size + 1) (.int .i64 0) (.int .i64 0) (.int .i64 0) (.int .u64 0) (.int .i64 0) (.int .i64 0) (.int .i64 0))).setCell (p := ⟨w.heap.size + 2, 0, none⟩) (.int .i64 5) (.inl rfl)
    have hf7 := kq.block hf6 (by omega)
    have hc7 := kq.block hc6 (by omega)
    have hd7 := hd6.set (.int .i64 5)
    have hk7 := Kept.setCell hk6 (p := ⟨w.heap.size + 2, 0, none⟩) (.int .i64 5) (.inr (show w.heap.size ≤ w.heap.size + 2 by omega))
    have kz := (Kept.refl (fun k => k = w1.heap.size) ((put7 W' (w.heap.size + 1) (.int .i64 0) (.int .i64 0) (.int .i64 0) (.int .u64 0) (.int .i64 0) (.int .i64 0) (.int .i64 0)).setCell ⟨w.heap.size + 2, 0, none⟩ (.int .i64 5))).putObj (l := w1.heap.size) (.deferred none) (.inl rfl)
    obtain ⟨q0, q1, q2, q3, q4, q5, q6⟩ := (seven (kz.block hc7 (by omega))).1
    have r1 := (kz.boxed hd7 (by omega)).cell
    have H7 : Aside _ := And.intro hf7 (And.intro hk7 (And.intro q0 (And.intro q1 (And.intro q2 (And.intro q3 (And.intro q4 (And.intro q5 (And.intro q6 r1))))))))
    clear hf7 hk7 q0 q1 q2 q3 q4 q5 q6 r1 hc7 hd7 kz kq hf6 hd6 kp6 hk6 hc6
    gi_wp2
    obtain ⟨hf7, hk7, q0, q1, q2, q3, q4, q5, q6, r1⟩ := H7.out
    refine ⟨by simp, .inl ⟨_, _, rfl, run_takeDeferred hf7, .tuple #[.agg zeroB, .int .i64 5], ?_, ?_, ?_⟩⟩
    · simp [results, Tryz.f91, go_sem, q0, q1, q2, q3, q4, q5, q6, r1]
    · rw [hfin.out]; rfl
    · exact Kept.putObj hk7 _ (.inr (by omega))
  case hstop =>
    rintro cd pre W' hpre hx
    rcases hx with ⟨rfl, p, s, h1, h2, hb⟩ | ⟨rfl, p, h1, h2, hb⟩
    · have kz := (Kept.refl (fun k => k = w1.heap.size) W').putObj (l := w1.heap.size) (.deferred none) (.inl rfl)
      obtain ⟨q0, q1, q2, q3, q4, q5, q6⟩ := (seven (kz.block hb.2.1 (by omega))).1
      have r1 := (kz.boxed hb.2.2.1 (by omega)).cell
      have hfin : Hid (findB (heads pg W) a = some (p, s)) := by unfold findB; rw [pgOf_pre hpre h1]; simp [h2, Hid]
      clear h1 h2
      gi_wp2
      refine ⟨by simp, .inl ⟨_, _, rfl, run_takeDeferred hb.2.2.2.2, .tuple #[bkV p s, .int .i64 0], ?_, ?_, ?_⟩⟩
      · simp [results, Tryz.f91, go_sem, q0, q1, q2, q3, q4, q5, q6, r1]
      · rw [hfin.out]; rfl
      · exact Kept.putObj hb.2.2.2.1 _ (.inr (by omega))
    have hfin : Hid (findB (heads pg W) a = none) := by unfold findB; rw [pgOf_pre hpre h1]; simp [h2, Hid]
    clear h1 h2
    obtain ⟨⟨y0, y1, y2, y3, y4, y5, y6⟩, yf⟩ := seven hb.2.1
    have z0 := hb.2.2.1.cell
    have zf := hb.2.2.1.frozen
    have hc6 := set7 hb.2.1 (.int .i64 0) (.int .i64 0) (.int .i64 0) (.int .u64 0) (.int .i64 0) (.int .i64 0) (.int .i64 0)
    have hk6 := Kept.put7 (O := No) hb.2.2.2.1 (b := w.heap.size + 1) (.inr (by omega)) (.int .i64 0) (.int .i64 0) (.int .i64 0) (.int .u64 0) (.int .i64 0) (.int .i64 0) (.int .i64 0)
    have kp6 := (Kept.refl (fun k => k = w.heap.size + 1) W').put7 (b := w.heap.size + 1) (.inl rfl) (.int .i64 0) (.int .i64 0) (.int .i64 0) (.int .u64 0) (.int .i64 0) (.int .i64 0) (.int .i64 0)
    have hd6 := kp6.boxed hb.2.2.1 (by omega)
    have hf6 := kp6.block hb.2.2.2.2 (by omega)
    have z6 := hd6.cell
    have zf6 := hd6.frozen
    have kq := (Kept.refl (fun k => k = w.heap.size + 2) (put7 W' (w.heap.size + 1) (.int .i64 0) (.int .i64 0) (.int .i64 0) (.int .u64 0) (.int .i64 0) (.int .i64 0) (.int .i64 0))).setCell (p := ⟨w.heap.size + 2, 0, none⟩) (.int .i64 5) (.inl rfl)
    have hf7 := kq.block hf6 (by omega)
    have hc7 := kq.block hc6 (by omega)
    have hd7 := hd6.set (.int .i64 5)
    have hk7 := Kept.setCell hk6 (p := ⟨w.heap.size + 2, 0, none⟩) (.int .i64 5) (.inr (show w.heap.size ≤ w.heap.size + 2 by omega))
    have kz := (Kept.refl (fun k => k = w1.heap.size) ((put7 W' (w.heap.size + 1) (.int .i64 0) (.int .i64 0) (.int .i64 0) (.int .u64 0) (.int .i64 0) (.int .i64 0) (.int .i64 0)).setCell ⟨w.heap.size + 2, 0, none⟩ (.int .i64 5))).putObj (l := w1.heap.size) (.deferred none) (.inl rfl)
    obtain ⟨q0, q1, q2, q3, q4, q5, q6⟩ := (seven (kz.block hc7 (by omega))).1
    have r1 := (kz.boxed hd7 (by omega)).cell
    have H7 : Aside _ := And.intro hf7 (And.intro hk7 (And.intro q0 (And.intro q1 (And.intro q2 (And.intro q3 (And.intro q4 (And.intro q5 (And.intro q6 r1))))))))
    clear hf7 hk7 q0 q1 q2 q3 q4 q5 q6 r1 hc7 hd7 kz kq hf6 hd6 kp6 hk6 hc6
    gi_wp2
    obtain ⟨hf7, hk7, q0, q1, q2, q3, q4, q5, q6, r1⟩ := H7.out
    refine ⟨by simp, .inl ⟨_, _, rfl, run_takeDeferred hf7, .tuple #[.agg zeroB, .int .i64 5], ?_, ?_, ?_⟩⟩
    · simp [results, Tryz.f91, go_sem, q0, q1, q2, q3, q4, q5, q6, r1]
    · rw [hfin.out]; rfl
    · exact Kept.putObj hk7 _ (.inr (by omega))

theorem find_any (h : Hw w bh bs bm q pg W) (a : Int) (hwf : In64 a) : Calls Tryz.prog 91 #[hp bh, .int .i64 a] w fun e w' => e = .returned (fdV (findB (heads pg W) a)) ∧ K w w' := (callsIn_wide (n := 0)).1 (find_in 0 h a hwf)

end Hp
end Go.Proofs.YtbbjfebdihepnaaGreatDoor
