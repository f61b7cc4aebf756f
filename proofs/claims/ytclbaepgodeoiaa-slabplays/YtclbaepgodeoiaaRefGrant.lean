/-
  The walk of the reference's Grant.
-/
import Derived.Test.YtclbaepgodeoiaaRefAppend
namespace Go.Proofs.Ytclbaepgodeoiaa
open Go.RowKit Go.Maps
namespace Sl
variable {w : World} {br : Nat} {q : Int} {a : Option Addr} {cap : Nat} {K : List Int} {W : Int → Int}

/-- The reference's arena at block br. -/
structure Ref (w : World) (br : Nat) (q : Int) (a : Option Addr) (cap : Nat) (K : List Int) (W : Int → Int) : Prop where
  s0 : w.heap[br]? = some (.cells #[.int .i64 q, .slice a K.length cap] 30)
  row : w.ownsRow 0 49 65 (.slice a K.length cap) K.length (flat W K)
  len : K.length ≤ 4096
  rise : K.Pairwise (fun x y => x < y)

/-- What a call on the reference may do: block br turns, and new blocks come. -/
structure RStep (br : Nat) (w w' : World) : Prop where
  os : w'.os = w.os
  tape : w'.tape = w.tape
  output : w'.output = w.output
  size : w.heap.size ≤ w'.heap.size
  kept : ∀ k, k < w.heap.size → k ≠ br → w'.heap[k]? = w.heap[k]?

theorem RStep.of_below {w' : World} (h : Below w.heap.size w w') : RStep br w w' := ⟨h.os, h.tape, h.output, h.size, fun k hk _ => h.block k hk⟩
theorem RStep.trans {w' w'' : World} (h : RStep br w w') (k : RStep br w' w'') : RStep br w w'' :=
  ⟨k.os.trans h.os, k.tape.trans h.tape, k.output.trans h.output, Nat.le_trans h.size k.size, fun j hj hne => (k.kept j (Nat.lt_of_lt_of_le hj h.size) hne).trans (h.kept j hj hne)⟩
theorem RStep.setCell (i : Nat) (v : Value) : RStep br w (w.setCell ⟨br, i, none⟩ v) := ⟨rfl, rfl, rfl, by simp, fun k _ hne => Below.heap_setCell _ _ _ _ hne⟩

theorem ownsRow_zero {base n : Nat} {v : Value} {xs : List Value} (h : w.ownsRow base 49 65 v n xs) : w.ownsRow 0 49 65 v n xs :=
  ⟨h.1, h.2.imp id fun ⟨g, c, cur, h1, _, r⟩ => ⟨g, c, cur, h1, Nat.zero_le _, r⟩⟩

theorem Ref.c0 (h : Ref w br q a cap K W) : w.cell? ⟨br, 0, none⟩ = some (.int .i64 q) := by simp [World.cell?, h.s0]
theorem Ref.c1 (h : Ref w br q a cap K W) : w.cell? ⟨br, 1, none⟩ = some (.slice a K.length cap) := by simp [World.cell?, h.s0]
theorem Ref.fz (h : Ref w br q a cap K W) : w.frozen? ⟨br, 1, none⟩ = false := by simp [World.frozen?, h.s0]
theorem Ref.lt (h : Ref w br q a cap K W) : br < w.heap.size := lt_of_get h.s0

/-- The reference stays where neither its block nor its row's turns. -/
theorem Ref.stays {w' : World} (h : Ref w br q a cap K W) (hb : w'.heap[br]? = w.heap[br]?) (hr : ∀ k, (Value.slice a K.length cap).ownBlock = some k → w'.heap[k]? = w.heap[k]?) : Ref w' br q a cap K W := by
  refine ⟨hb.trans h.s0, ⟨h.row.1, ?_⟩, h.len, h.rise⟩
  rcases h.row.2 with h2 | ⟨g, c, cur, hv, hg, hh, r⟩
  · exact Or.inl h2
  · exact Or.inr ⟨g, c, cur, hv, hg, (hr g (by rw [hv]; rfl)).trans hh, r⟩

theorem Ref.own_lt (h : Ref w br q a cap K W) {k : Nat} (hk : (Value.slice a K.length cap).ownBlock = some k) : k < w.heap.size := (h.row.lt k hk).2

theorem Ref.below {w' : World} (h : Ref w br q a cap K W) (hb : Below w.heap.size w w') : Ref w' br q a cap K W :=
  h.stays (hb.block br h.lt) (fun k hk => hb.block k (h.own_lt hk))

/-- Its slice is stored anew. -/
theorem Ref.store {w1 : World} {K' : List Int} {W' : Int → Int} {v : Value} {base : Nat} (h : Ref w br q a cap K W) (hb : Below w.heap.size w w1) (hrow : w1.ownsRow base 49 65 v K'.length (flat W' K')) (hne : ∀ k, v.ownBlock = some k → w.heap.size ≤ k) (hl : K'.length ≤ 4096) (hs : K'.Pairwise (fun x y => x < y)) :
    ∃ a' cap', v = .slice a' K'.length cap' ∧ Ref (w1.setCell ⟨br, 1, none⟩ v) br q a' cap' K' W' ∧ RStep br w (w1.setCell ⟨br, 1, none⟩ v) := by
  have hv : ∃ a' cap', v = .slice a' K'.length cap' := by
    rcases hrow.2 with ⟨hv, h0⟩ | ⟨g, c, cur, hv, _⟩
    · exact ⟨none, 0, by rw [hv, h0]⟩
    · exact ⟨_, _, hv⟩
  obtain ⟨a', cap', rfl⟩ := hv
  have hbr : w1.heap[br]? = some (.cells #[.int .i64 q, .slice a K.length cap] 30 (0, 0)) := (hb.block br h.lt).trans h.s0
  refine ⟨a', cap', rfl, ⟨?_, ⟨hrow.1, ?_⟩, hl, hs⟩, (RStep.of_below hb).trans (RStep.setCell 1 _)⟩
  · rw [heap_setCell_same hbr]
    rfl
  · rcases hrow.2 with h2 | ⟨g, c, cur, hv, hg, hh, r⟩
    · exact Or.inl h2
    · refine Or.inr ⟨g, c, cur, hv, Nat.zero_le _, ?_, r⟩
      rw [Below.heap_setCell _ _ _ _ (by have h1 := hne g (by rw [hv]; rfl); have h2 := h.lt; show g ≠ br; omega)]
      exact hh

/-- n pages from r on. -/
def run (r : Int) (n : Nat) : List Int := (List.range n).map fun i : Nat => r + (i : Int)
theorem run_length (r : Int) (n : Nat) : (run r n).length = n := by simp [run]
theorem run_succ (r : Int) (n : Nat) : run r (n + 1) = run r n ++ [r + n] := by simp [run, List.range_succ]
theorem mem_run {r x : Int} {n : Nat} : x ∈ run r n ↔ r ≤ x ∧ x < r + n := by
  simp only [run, List.mem_map, List.mem_range]
  constructor
  · rintro ⟨i, h1, rfl⟩
    omega
  · intro h
    exact ⟨(x - r).toNat, by omega, by omega⟩
theorem run_rise (r : Int) (n : Nat) : (run r n).Pairwise (fun x y => x < y) := by
  unfold run
  rw [List.pairwise_map]
  exact List.pairwise_lt_range.imp fun h => by omega

/-- Rising lists of the same numbers are the same. -/
theorem rise_ext : ∀ {K L : List Int}, K.Pairwise (fun x y => x < y) → L.Pairwise (fun x y => x < y) → (∀ x, x ∈ K ↔ x ∈ L) → K = L
  | [], [], _, _, _ => rfl
  | [], y :: L, _, _, h => by have := (h y).2 (by simp); simp at this
  | x :: K, [], _, _, h => by have := (h x).1 (by simp); simp at this
  | x :: K, y :: L, hK, hL, h => by
    obtain ⟨k1, k2⟩ := List.pairwise_cons.1 hK
    obtain ⟨l1, l2⟩ := List.pairwise_cons.1 hL
    have hxy : x = y := by
      rcases List.mem_cons.1 ((h x).1 (by simp)) with e | e
      · exact e
      · rcases List.mem_cons.1 ((h y).2 (by simp)) with e2 | e2
        · exact e2.symm
        · have := l1 x e
          have := k1 y e2
          omega
    subst hxy
    congr 1
    refine rise_ext k2 l2 fun z => ⟨fun hz => ?_, fun hz => ?_⟩
    · rcases List.mem_cons.1 ((h z).1 (List.mem_cons_of_mem _ hz)) with e | e
      · have := k1 z hz
        omega
      · exact e
    · rcases List.mem_cons.1 ((h z).2 (List.mem_cons_of_mem _ hz)) with e | e
      · have := l1 z hz
        omega
      · exact e

/-- The place at which pages from r on go in. -/
structure Cut (K : List Int) (r : Int) (k : Nat) : Prop where
  le : k ≤ K.length
  lo : ∀ x ∈ K.take k, x < r
  hi : ∀ x ∈ K.drop k, r ≤ x

theorem cut_of {r : Int} {k : Nat} (hs : K.Pairwise (fun x y => x < y)) (hk : k ≤ K.length) (lo : ∀ x ∈ K.take k, x < r) (hi : ∀ N, K[k]? = some N → r ≤ N) : Cut K r k := by
  refine ⟨hk, lo, fun x hx => ?_⟩
  have hd : (K.drop k).Pairwise (fun x y => x < y) := hs.sublist (List.drop_sublist _ _)
  cases hK : K.drop k with
  | nil => rw [hK] at hx; simp at hx
  | cons y L =>
    have hy : K[k]? = some y := by
      have : (K.drop k)[0]? = some y := by rw [hK]; rfl
      rw [List.getElem?_drop] at this
      simpa using this
    have h1 := hi y hy
    rw [hK] at hx hd
    rcases List.mem_cons.1 hx with e | e
    · omega
    · have := (List.pairwise_cons.1 hd).1 x e
      omega

theorem cut_rise {r : Int} {n k : Nat} (hs : K.Pairwise (fun x y => x < y)) (hc : Cut K r k) (hf : freeK K r n) : (K.take k ++ run r n ++ K.drop k).Pairwise (fun x y => x < y) := by
  rw [List.pairwise_append, List.pairwise_append]
  refine ⟨⟨hs.sublist (List.take_sublist _ _), run_rise r n, fun x hx y hy => ?_⟩, hs.sublist (List.drop_sublist _ _), fun x hx y hy => ?_⟩
  · have := hc.lo x hx
    have := (mem_run.1 hy).1
    omega
  · have h1 := hc.hi y hy
    have h2 := hf y (List.mem_of_mem_drop hy)
    rcases List.mem_append.1 hx with h3 | h3
    · have := hc.lo x h3
      omega
    · have := (mem_run.1 h3).2
      omega

theorem cut_mem {r x : Int} {n k : Nat} : x ∈ K.take k ++ run r n ++ K.drop k ↔ x ∈ K ∨ (r ≤ x ∧ x < r + n) := by
  rw [List.mem_append, List.mem_append, mem_run]
  constructor
  · rintro ((h | h) | h)
    · exact Or.inl (List.mem_of_mem_take h)
    · exact Or.inr h
    · exact Or.inl (List.mem_of_mem_drop h)
  · rintro (h | h)
    · have h2 : x ∈ K.take k ++ K.drop k := by rw [List.take_append_drop]; exact h
      rcases List.mem_append.1 h2 with h3 | h3
      · exact Or.inl (Or.inl h3)
      · exact Or.inr h3
    · exact Or.inl (Or.inr h)


theorem run_cut_lo (a : Option Addr) (g len cap k : Nat) (ha : a = some ⟨g, 0, none⟩ ∨ (a = none ∧ len = 0 ∧ cap = 0)) (h1 : k ≤ len) (h2 : len ≤ cap) (w : World) : (Instr.slice 28 (.slice a len cap) none (some (.int .i64 (k : Int))) none).run Try.prog w = .ok (.slice a k cap) w := by
  have hel : Try.prog.elem 28 = 49 := by kernel_rfl
  have hsz : (sizeOf 49).run Try.prog w = .ok 65 w := by kernel_rfl
  have hu : Try.prog.underlying 28 = some (.slice (Try.prog.elem 28)) := by kernel_rfl
  rw [run_slice_h (P := Try.prog) w 28 a len cap hu .i64 k (by omega) (by omega), hel, hsz]
  simp only [Result.andThen_ok, sliced, Int.toNat_natCast, Nat.zero_mul, Nat.sub_zero]
  rcases ha with rfl | ⟨rfl, _, rfl⟩
  · split <;> simp [Addr.add]
  · simp

/-- The pages from k on are there behind s.L[k:]. -/
theorem run_cut_hi (a : Option Addr) (g len cap k : Nat) (ha : a = some ⟨g, 0, none⟩ ∨ (a = none ∧ len = 0 ∧ cap = 0)) (h1 : k ≤ len) (h2 : len ≤ cap) :
    ∃ oa, (∀ w, (Instr.slice 28 (.slice a len cap) (some (.int .i64 (k : Int))) none none).run Try.prog w = .ok (.slice oa (len - k) (cap - k)) w) ∧ ((oa = none ∧ len = k) ∨ oa = some ⟨g, k * 65, none⟩ ∨ (len = k ∧ ∃ x, oa = some x)) := by
  have hel : Try.prog.elem 28 = 49 := by kernel_rfl
  have hsz : ∀ w, (sizeOf 49).run Try.prog w = .ok 65 w := fun w => by kernel_rfl
  have hu : Try.prog.underlying 28 = some (.slice (Try.prog.elem 28)) := by kernel_rfl
  refine ⟨if cap = k then a else a.map (fun x => x.add (k * 65)), fun w => ?_, ?_⟩
  · rw [run_slice_l (P := Try.prog) w 28 a len cap hu .i64 k (by omega) (by omega), hel, hsz]
    simp only [Result.andThen_ok, sliced, Int.toNat_natCast]
  · rcases ha with rfl | ⟨rfl, rfl, rfl⟩
    · by_cases e : cap = k
      · rw [if_pos e]
        exact Or.inr (Or.inr ⟨by omega, _, rfl⟩)
      · rw [if_neg e]
        refine Or.inr (Or.inl ?_)
        simp only [Option.map_some]
        rw [Go.WideShapes.add_plain, Nat.zero_add]
    · refine Or.inl ⟨?_, by omega⟩
      split <;> rfl

theorem Ref.cap_le (h : Ref w br q a cap K W) : K.length ≤ cap := by
  rcases h.row.2 with ⟨hv, h0⟩ | ⟨g, c, cur, hv, _, _, h1, _⟩
  · omega
  · cases hv
    exact h1

/-- The row's cells, as a source of pages: from k on. -/
theorem src_of (h : w.ownsRow 0 49 65 (.slice a K.length cap) K.length (flat W K)) {g : Nat} (ha : a = some ⟨g, 0, none⟩) (k m : Nat) (hk : k + m ≤ K.length) : ∀ j u, (flat W ((K.drop k).take m))[j]? = some u → w.cell? ⟨g, k * 65 + j, none⟩ = some u := by
  intro j u hu
  rcases h.2 with ⟨hv, _⟩ | ⟨g', c, cur, hv, _, hbk, h1, h2, h3, h4⟩
  · rw [ha] at hv
    cases hv
  · rw [ha] at hv
    simp at hv
    obtain ⟨rfl, rfl⟩ := hv
    have hj : j < m * 65 := by
      have := (List.getElem?_eq_some_iff.1 hu).1
      rw [flat_length, List.length_take, List.length_drop] at this
      omega
    have e : (flat W K)[k * 65 + j]? = some u := by
      rw [← flat_take _ _ _ (by rw [List.length_drop]; omega), ← flat_drop _ _ _ (by omega), List.getElem?_take_of_lt hj, List.getElem?_drop] at hu
      exact hu
    rw [← h4, List.getElem?_take_of_lt (by omega)] at e
    simp only [World.cell?, hbk]
    simpa using e

theorem src_lo (h : w.ownsRow 0 49 65 (.slice a K.length cap) K.length (flat W K)) {g : Nat} (ha : a = some ⟨g, 0, none⟩ ∨ (a = none ∧ K.length = 0 ∧ cap = 0)) (k : Nat) (hk : k ≤ K.length) : SrcRow w a k (flat W (K.take k)) := by
  rcases ha with ha | ⟨ha, h0, _⟩
  · refine Or.inr ⟨_, ha, fun j u hu => ?_⟩
    rw [Go.WideShapes.add_plain]
    have := src_of h ha 0 k (by omega) j u (by simpa using hu)
    simpa using this
  · obtain rfl : k = 0 := by omega
    exact Or.inl ⟨ha, rfl, rfl⟩

theorem src_hi (h : w.ownsRow 0 49 65 (.slice a K.length cap) K.length (flat W K)) {g : Nat} (ha : a = some ⟨g, 0, none⟩ ∨ (a = none ∧ K.length = 0 ∧ cap = 0)) (k : Nat) (hk : k ≤ K.length) {oa : Option Addr} (ho : (oa = none ∧ K.length = k) ∨ oa = some ⟨g, k * 65, none⟩ ∨ (K.length = k ∧ ∃ x, oa = some x)) : SrcRow w oa (K.length - k) (flat W (K.drop k)) := by
  have hnil : K.length = k → flat W (K.drop k) = [] := fun e => by rw [List.drop_eq_nil_of_le (by omega)]; rfl
  rcases ho with ⟨rfl, e⟩ | rfl | ⟨e, x, rfl⟩
  · exact Or.inl ⟨rfl, by omega, hnil e⟩
  · refine Or.inr ⟨_, rfl, fun j u hu => ?_⟩
    rw [Go.WideShapes.add_plain]
    rcases ha with ha | ⟨_, h0, _⟩
    · refine src_of h ha k (K.length - k) (by omega) j u ?_
      rw [List.take_of_length_le (by rw [List.length_drop]; omega)]
      exact hu
    · rw [hnil (by omega)] at hu
      simp at hu
  · refine Or.inr ⟨x, rfl, fun j u hu => ?_⟩
    rw [hnil e] at hu
    simp at hu

theorem ref_form (h : Ref w br q a cap K W) : ∃ g, RowAt w g a cap K W ∧ (a = some ⟨g, 0, none⟩ ∨ (a = none ∧ K.length = 0 ∧ cap = 0)) := by
  obtain ⟨g, h1, h2⟩ := row_at h.row
  refine ⟨g, h1, h2.imp id ?_⟩
  rintro ⟨e1, rfl, e2⟩
  exact ⟨e1, rfl, e2⟩

/-- What a grant of n pages answers where k are granted, ahead of looking for a run. -/
def rgE (q : Int) (k : Nat) (n : Int) : Int := if isCountB n = false then 2 else if ((k : Int) + n) * 64 ≤ q then 0 else 3

theorem rGrant_no (h : Ref w br q a cap K W) (n : Int) (hne : rgE q K.length n ≠ 0) :
    Calls Try.prog 26 #[.pointer (some ⟨br, 0, none⟩), .int .i64 n] w fun e w' => e = .returned (.tuple #[.int .i64 0, .int .i64 (rgE q K.length n)]) ∧ Below w.heap.size w w' := by
  have hl := h.len
  cases hc : isCountB n with
  | false =>
    have HE : Hid (rgE q K.length n = 2) := by simp [rgE, hc, Hid]
    simp [isCountB] at hc
    clear hne
    by_cases h1 : n < 1
    · go_enter Try.func26, Try.ntmps26
      go_wp2
      go_ret2
      exact ⟨by rw [HE.out]; rfl, Below.refl _ _⟩
    · have h2 : 4096 < n := by omega
      go_enter Try.func26, Try.ntmps26
      go_wp2
      go_ret2
      exact ⟨by rw [HE.out]; rfl, Below.refl _ _⟩
  | true =>
    have hq : ¬ ((K.length : Int) + n) * 64 ≤ q := fun hq => hne (by simp [rgE, hc, hq])
    have HE : Hid (rgE q K.length n = 3) := by simp [rgE, hc, hq, Hid]
    have hb : 1 ≤ n ∧ n ≤ 4096 := by simpa [isCountB] using hc
    have hq2 : q < 64 * ((K.length : Int) + n) := by omega
    have c0 := h.c0
    have c1 := h.c1
    clear hc hne hq
    go_enter Try.func26, Try.ntmps26
    go_wp2
    go_quiet (fail)
    go_wp2
    go_ret2
    exact ⟨by rw [HE.out]; rfl, ⟨rfl, rfl, rfl, Nat.le_refl _, fun _ _ => rfl⟩⟩

theorem src_page (cells : Array Value) (w : World) : SrcRow (w.alloc (.cells cells 49)) (some ⟨w.heap.size, 0, none⟩) 1 cells.toList := by
  refine Or.inr ⟨_, rfl, fun j u hu => ?_⟩
  rw [Go.WideShapes.add_plain, Nat.zero_add, World.cell?_alloc_new, ← Array.getElem?_toList]
  exact hu

theorem page_len (W : Int → Int) (N : Int) : (pageArr W N).toList.length = 1 * 65 := by rw [Array.length_toList, pageArr_size]
theorem page_one (W : Int → Int) (N : Int) : ∀ u ∈ (pageArr W N).toList, u.oneCell' = true := fun u hu => flat_oneCell W [N] u (by rw [flat_one]; exact hu)

theorem row_form {base n : Nat} {v : Value} {xs : List Value} (h : w.ownsRow base 49 65 v n xs) : ∃ a cap, v = .slice a n cap := by
  rcases h.2 with ⟨hv, h0⟩ | ⟨g, c, cur, hv, _⟩
  · exact ⟨none, 0, by rw [hv, h0]⟩
  · exact ⟨_, _, hv⟩

theorem page_zero {N : Int} (h : ∀ j : Nat, j < 64 → W (64 * N + j) = 0) : pageArr (fun _ => 0) N = pageArr W N := by
  unfold pageArr
  rw [words_zero h]
  rfl

set_option maxHeartbeats 1500000 in
set_option maxRecDepth 100000 in
theorem rGrant_ok (h : Ref w br q a cap K W) (n r : Int) (hn0 : 1 ≤ n) (hn1 : n ≤ 4096) (hq : 64 * ((K.length : Int) + n) ≤ q) (hlen : (K.length : Int) + n ≤ 4096) (hr0 : 0 ≤ r) (hr1 : r ≤ 1048576) (hfree : freeK K r n) (hleast : ∀ f, 0 ≤ f → f < r → ¬ freeK K f n)
    (hz : ∀ (N : Int) (j : Nat), r ≤ N → N < r + n → j < 64 → W (64 * N + j) = 0) (K' : List Int) (hK' : K'.Pairwise (fun x y => x < y)) (hmem : ∀ x, x ∈ K' ↔ x ∈ K ∨ (r ≤ x ∧ x < r + n)) (hl' : K'.length ≤ 4096) :
    Calls Try.prog 26 #[.pointer (some ⟨br, 0, none⟩), .int .i64 n] w fun e w' => e = .returned (.tuple #[.int .i64 r, .int .i64 0]) ∧ ∃ a' cap', Ref w' br q a' cap' K' W ∧ RStep br w w' ∧ ∀ k, (Value.slice a' K'.length cap').ownBlock = some k → w.heap.size ≤ k := by
  have c0 := h.c0
  have c1 := h.c1
  have hl := h.len
  have hbr := h.lt
  have HR : Aside (Ref w br q a cap K W) := h
  have HF : Aside (freeK K r n ∧ (∀ f, 0 ≤ f → f < r → ¬ freeK K f n) ∧ (∀ (N : Int) (j : Nat), r ≤ N → N < r + n → j < 64 → W (64 * N + j) = 0)) := ⟨hfree, hleast, hz⟩
  have HK : Aside (K'.Pairwise (fun x y => x < y) ∧ (∀ x, x ∈ K' ↔ x ∈ K ∨ (r ≤ x ∧ x < r + n)) ∧ K'.length ≤ 4096) := ⟨hK', hmem, hl'⟩
  clear h hfree hleast hz hK' hmem hl'
  go_enter Try.func26, Try.ntmps26
  go_wp2
  go_quiet (fail)
  go_wp2
  clear c0 c1
  go_loopg [6] (r.toNat + 1) (fun gh t wx => ∃ f : Int, 0 ≤ f ∧ f + gh = r + 1 ∧ f ≤ r ∧ t = .int .i64 f ∧ Below w.heap.size w wx)
  case atStart => exact ⟨0, by omega, by omega, by omega, rfl, ⟨rfl, rfl, rfl, Nat.le_refl _, fun _ _ => rfl⟩⟩
  case round =>
    obtain ⟨f, hf0, hfg, hfr, rfl, hbel⟩ := hrel
    have hR2 := HR.out.below hbel
    have c0 := hR2.c0
    have c1 := hR2.c1
    obtain ⟨g, hrow, hform⟩ := ref_form hR2
    have hfree := rFree_any hrow q f n hl hf0 (by omega) hn0 hn1
    go_wp2_with fail
    refine hfree.mono ?_
    rintro e w2 ⟨(⟨rfl, hyes⟩ | ⟨rfl, hno⟩), rfl⟩
    rotate_left
    · have hlt : f < r := by
        by_cases e : f = r
        · subst e; exact absurd HF.out.1 hno
        · omega
      clear hno
      go_wp2
      go_roundg (r + 1 - (f + 1)).toNat
      case measure => omega
      case rel => exact ⟨f + 1, by omega, by omega, by omega, by go_num, hbel.alloc (hbel.size) _⟩
    · obtain rfl : f = r := by
        by_cases e : f = r
        · exact e
        · exact absurd hyes (HF.out.2.1 f hf0 (by omega))
      have hbel2 := hbel.alloc hbel.size (.cells #[.int .i64 q, .slice a K.length cap] 30)
      clear hyes hfree hrow hform hR2 c0 c1
      go_wp2
      go_loopg [7] K.length (fun gh t wx => ∃ k : Nat, k + gh = K.length ∧ t = .int .i64 k ∧ Aside (∀ x ∈ K.take k, x < f) ∧ Below w.heap.size w wx)
      case atStart => exact ⟨0, by omega, rfl, fun x hx => by simp at hx, hbel2⟩
      case round =>
        obtain ⟨k, hkg, rfl, HT, hbel3⟩ := hrel
        clear hbel hbel2
        have hR3 := HR.out.below hbel3
        have c1 := hR3.c1
        obtain ⟨g, hrow, hform⟩ := ref_form hR3
        by_cases hstop : ∃ N, K[k]? = some N ∧ N < f
        · obtain ⟨N, hN, hNf⟩ := hstop
          have hkl : k < K.length := (List.getElem?_eq_some_iff.1 hN).1
          have hix := hrow.ix k hkl
          have hc := hrow.num k N hN
          have HN : Aside _ := hN
          clear hN
          go_wp2
          go_roundg (K.length - (k + 1))
          case measure => omega
          case rel =>
            refine ⟨k + 1, by omega, by go_num, fun x hx => ?_, hbel3⟩
            rcases (mem_take_succ HN.out).1 hx with h1 | h1
            · exact HT.out x h1
            · omega
        · have HC : Aside (Cut K f k) := cut_of HR.out.rise (by omega) HT.out (fun N hN => by
            by_cases e : N < f
            · exact absurd ⟨N, hN, e⟩ hstop
            · omega)
          have hcap := hR3.cap_le
          have hsz := hbel3.size
          have hcl := run_cut_lo a g K.length cap k hform (by omega) hcap
          obtain ⟨oa, hch, hoa⟩ := run_cut_hi a g K.length cap k hform (by omega) hcap
          have hbel4 := hbel3.alloc hbel3.size (.cells #[] 49)
          have hR4 := HR.out.below hbel4
          have hlt0 : (flat W (K.take k)).length = k * 65 := by rw [flat_length, List.length_take, Nat.min_eq_left (by omega)]
          have HL0 : Aside _ := hlt0
          have HO : Aside _ := hoa
          have HSRC : Aside (SrcRow (wr.alloc (.cells #[] 49)) a k (flat W (K.take k))) := src_lo hR4.row hform k (by omega)
          clear hlt0 hoa hR4
          have hkle : k ≤ K.length := by omega
          have hbrx := hR3.lt
          by_cases hkl : k < K.length
          all_goals
            try (
              obtain ⟨N, hN⟩ := get_lt hkl
              have hNf : f ≤ N := by
                by_cases e : N < f
                · exact absurd ⟨N, hN, e⟩ hstop
                · omega
              have hix := hrow.ix k hkl
              have hc := hrow.num k N hN
              clear hN)
            clear hstop HT hrow
            go_wp2_with (at_builtin; refine wpList_append_pages _ rfl _ _ rfl w.heap.size _ 0 [] rfl (World.ownsRow_made wr #[] 0 hsz (by unfold maxLen; omega) rfl) rfl a k cap (flat W (K.take k)) rfl HL0.out HSRC.out (flat_oneCell _ _) (by omega) (by simp; omega) ?_; intro v1 w3 hown1 hgrow1 hloc1)
            have hb3 : Below w.heap.size w w3 := hbel4.grown hgrow1 hbel4.size (fun j hj => by cases hj; exact hsz)
            have hv1 : v1.ownBlock.isSome = true := by
              rcases hloc1 with e | e
              · rw [e]; rfl
              · rw [e]; rfl
            go_loopg [8, 9] n.toNat (fun gh t8 t9 wx => ∃ i : Nat, (i : Int) + gh = n ∧ t9 = .int .i64 i ∧ wx.ownsRow w.heap.size 49 65 t8 (k + i) (flat W (K.take k ++ run f i)) ∧ t8.ownBlock.isSome = true ∧ Below w.heap.size w wx)
            case atStart => exact ⟨0, by omega, rfl, by simpa [run] using hown1, hv1, hb3⟩
            case round =>
              obtain ⟨i, hig, rfl, hown, hv, hbx⟩ := hrel
              clear hown1 hgrow1 hloc1 hb3 hv1 hbel4 hbel3 hsz hbrx
              have hszx := hbx.size
              by_cases hlt : (i : Int) < n
              · have hpz := page_zero (W := W) (N := f + i) (fun j hj => HF.out.2.2 (f + i) j (by omega) (by omega) hj)
                have HPZ : Aside _ := hpz
                clear hpz
                go_wp2_with (first
                  | ((with_reducible refine wpList_build_page (f + i) ?_ ?_); · rfl)
                  | ((with_reducible refine wpList_one_page (pageArr (fun _ => 0) (f + i)) (pageArr_size _ _) ?_ ?_); · rfl)
                  | (at_builtin; refine wpList_append_pages _ rfl _ _ rfl w.heap.size _ _ _ rfl (hown.alloc _) hv (some ⟨wr.heap.size, 0, none⟩) 1 1 (pageArr (fun _ => 0) (f + i)).toList rfl (page_len _ _) (src_page _ _) (page_one _ _) (by omega) (by simp; omega) ?_; intro v2 w4 hown2 hgrow2 hloc2))
                go_roundg (n - (i + 1)).toNat
                case measure => omega
                case rel =>
                  refine ⟨i + 1, by omega, by go_num, ?_, ?_, ?_⟩
                  · rw [run_succ, ← List.append_assoc, flat_append, flat_one, ← HPZ.out]
                    exact hown2
                  · rcases hloc2 with e | e
                    · rw [e]; exact hv
                    · rw [e]; rfl
                  · exact (hbx.alloc hszx _).grown hgrow2 (by simp; omega) (fun j hj => (hown.lt j hj).1)
              · obtain ⟨i2, hi2⟩ : ∃ i2 : Nat, (i2 : Int) = n := ⟨n.toNat, by omega⟩
                obtain rfl : i = i2 := by omega
                have hRx := HR.out.below hbx
                have c1 := hRx.c1
                have hfz := hRx.fz
                have hbrx := hRx.lt
                have HS2 : Aside _ := src_hi hRx.row hform k hkle HO.out
                have HL2 : Aside ((flat W (K.drop k)).length = (K.length - k) * 65) := by
                  show _ = _
                  rw [flat_length, List.length_drop]
                clear hRx
                go_wp2_with (at_builtin; refine wpList_append_pages _ rfl _ _ rfl w.heap.size _ _ _ rfl hown hv oa (K.length - k) (cap - k) (flat W (K.drop k)) rfl HL2.out HS2.out (flat_oneCell _ _) (by omega) hszx ?_; intro v2 w4 hown2 hgrow2 hloc2; obtain ⟨a2, cap2, hv2⟩ := row_form hown2; rw [hv2] at hown2 ⊢; clear hloc2 hv2; have hb4 : Below w.heap.size w w4 := hbx.grown hgrow2 hszx (fun j hj => (hown.lt j hj).1); have c4 := (HR.out.below hb4).c1; have f4 := (HR.out.below hb4).fz)
                have hf : freeK K f (i : Int) := by rw [hi2]; exact HF.out.1
                have hKK : K.take k ++ run f i ++ K.drop k = K' := rise_ext (cut_rise HR.out.rise HC.out hf) HK.out.1 (fun x => by rw [cut_mem, HK.out.2.1 x, hi2])
                have e : k + i + (K.length - k) = K'.length := by
                  rw [← hKK, List.length_append, List.length_append, run_length, List.length_take, List.length_drop, Nat.min_eq_left hkle]
                have hrow' : w4.ownsRow w.heap.size 49 65 (.slice a2 K'.length cap2) K'.length (flat W K') := by
                  rw [← e, ← hKK, flat_append]
                  exact hown2
                obtain ⟨a', cap', hv2, hRef, hRS⟩ := HR.out.store hb4 hrow' (fun j hj => (hrow'.lt j hj).1) HK.out.2.2 HK.out.1
                rw [e]
                have HFIN : Aside (∃ a' cap', Ref (w4.setCell ⟨br, 1, none⟩ (.slice a2 K'.length cap2)) br q a' cap' K' W ∧ RStep br w (w4.setCell ⟨br, 1, none⟩ (.slice a2 K'.length cap2)) ∧ ∀ j, (Value.slice a' K'.length cap').ownBlock = some j → w.heap.size ≤ j) := ⟨a', cap', hRef, hRS, fun j hj => by rw [← hv2] at hj; exact (hrow'.lt j hj).1⟩
                clear hRef hRS hrow' hKK hv2 e
                go_wp2
                go_ret2
                exact ⟨rfl, HFIN.out⟩

end Sl
end Go.Proofs.Ytclbaepgodeoiaa
