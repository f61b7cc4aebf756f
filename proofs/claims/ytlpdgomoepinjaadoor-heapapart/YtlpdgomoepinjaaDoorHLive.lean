/-
  The walk of package heap's Live: the addresses of all blocks, rising.
-/
import Derived.Test.YtlpdgomoepinjaaDoorHAwake
import Derived.Maps.AppendAt
namespace Go.Proofs.YtlpdgomoepinjaaDoor
open Go.RowKit Go.Shelf
attribute [local go_sem] Oper.semAt_some
namespace Hp
variable {w : World} {bh bs bm : Nat} {q : Int} {pg : List (Int × Nat)} {W : Int → Int}

/-- An append, in a region that draws its order: its run is known. -/
theorem oper_append {F : Fence} {n : Nat} {P : Program} {o : Oper} {a : Act} {w w' : World} {K : Act → World → Prop} {Q : Exit → Act → World → Prop} {s x : Operand} {t : TypeId} (hop : o.op = Op.call { callee := Callee.builtin Builtin.append, args := #[s, x], argTypes := #[t, t] })
    {v u v' : Value} (hs : a.eval s = v) (hx : a.eval x = u) (hrun : (Builtin.append_ #[t, t] o.type #[v, u]).run P w = .ok v' w') (hK : K (a.put o.dst v') w') : o.wpIn F n P a w K Q := by
  unfold Oper.wpIn
  refine ⟨by simp [Oper.about, hop, resolve, Target.leads, Sem.run_pure], ?_⟩
  rw [Oper.semAt_plain F _ _ (by rw [hop]; intro c hc; cases hc)]
  simp [execOp, hop, resolve, invoke, builtin, hs, hx, hrun, Result.andThen]
  exact hK

/-- The addresses of all blocks. -/
def liveP (p : Pg) (l : List Int) : List Int := l.map fun s => addrI p s
def liveL (L : List Pg) : List Int := L.flatMap fun p => liveP p (slotsOf p)
theorem liveL_snoc (pre : List Pg) (x : Pg) : liveL (pre ++ [x]) = liveL pre ++ liveP x (slotsOf x) := by simp [liveL]
theorem liveP_snoc (p : Pg) (pr : List Int) (y : Int) : liveP p (pr ++ [y]) = liveP p pr ++ [addrI p y] := by simp [liveP]
theorem liveL_len {pre l : List Pg} (h : pre <+: l) : (liveL pre).length ≤ (liveL l).length := by
  obtain ⟨t, rfl⟩ := h
  simp [liveL]
theorem liveP_len (p : Pg) {pr l : List Int} (h : pr <+: l) : (liveP p pr).length ≤ (liveP p l).length := by
  obtain ⟨t, rfl⟩ := h
  simp [liveP]

abbrev encI (x : Int) : Value := .int .i64 x
abbrev mine (B : Nat) (v : Value) : Nat → Prop := fun k => k = B ∨ some k = v.ownBlock
/-- The box at B holds a row of these; M: the box and the row. -/
def RowB (n₀ B : Nat) (xs : List Int) (M : Nat → Prop) (V : World) : Prop := ∃ v, Boxed V B 42 v ∧ V.ownsRow n₀ 3 1 v xs.length (xs.map encI) ∧ M = mine B v

theorem ownsRow_kept {A C : World} {n₀ k : Nat} {t : TypeId} {v : Value} {xs : List Value} (h : A.ownsRow n₀ t 1 v k xs) {O : Nat → Prop} (kk : Kept O A C) (hO : ∀ g, some g = v.ownBlock → ¬ O g) : C.ownsRow n₀ t 1 v k xs := by
  obtain ⟨h1, h2⟩ := h
  refine ⟨h1, ?_⟩
  rcases h2 with h2 | ⟨g, cap, cur, rfl, hb, hg, rest⟩
  · exact .inl h2
  · exact .inr ⟨g, cap, cur, rfl, hb, kk.block hg (hO g rfl), rest⟩
theorem RowB.next {n₀ B : Nat} {xs : List Int} {M : Nat → Prop} {A C : World} (h : RowB n₀ B xs M A) {O : Nat → Prop} (kk : Kept O A C) (hO : ∀ g, M g → ¬ O g) : RowB n₀ B xs M C := by
  obtain ⟨v, h1, h2, rfl⟩ := h
  exact ⟨v, kk.boxed h1 (hO _ (.inl rfl)), ownsRow_kept h2 kk (fun g hg => hO g (.inr hg)), rfl⟩
theorem RowB.keep {n₀ B : Nat} {xs : List Int} {M : Nat → Prop} {A C : World} (h : RowB n₀ B xs M A) (kk : K A C) : RowB n₀ B xs M C := h.next (O := No) kk (fun _ _ x => x)
theorem RowB.lt {n₀ B : Nat} {xs : List Int} {M : Nat → Prop} {A : World} (h : RowB n₀ B xs M A) {k : Nat} (hk : M k) : k < A.heap.size ∧ (k = B ∨ n₀ ≤ k) := by
  obtain ⟨v, h1, h2, rfl⟩ := h
  rcases hk with rfl | hk
  · exact ⟨h1.lt, .inl rfl⟩
  · rcases h2.2 with ⟨rfl, _⟩ | ⟨g, cap, cur, rfl, hb, hg, _⟩
    · cases hk
    · obtain rfl : k = g := by simpa [Value.ownBlock] using hk
      exact ⟨(Array.getElem?_eq_some_iff.1 hg).1, .inr hb⟩

/-- What an append into the box makes. -/
theorem RowB.append {n₀ B : Nat} {xs : List Int} {M : Nat → Prop} {V V2 : World} (h : RowB n₀ B xs M V) (k2 : K V V2) (hB : B < n₀) (hn : n₀ ≤ V.heap.size) (hl : xs.length ≤ 200000) (ad : Int) {w0 : World} (hk : K w0 V) (hw0 : w0.heap.size ≤ B) {D : Nat} {o : Obj} (hD : V.heap[D]? = some o) (hDn : D < n₀) (hDB : D ≠ B) :
    ∃ v g' cap' W3, V.cell? ⟨B, 0, none⟩ = some v ∧ (∀ ty, (Builtin.append_ #[42, 42] ty #[v, .slice (some ⟨V2.heap.size, 0, none⟩) 1 1]).run Tryd.prog (V2.alloc (.cells #[.int .i64 ad] 3)) = .ok (.slice (some ⟨g', 0, none⟩) (xs.length + 1) cap') W3) ∧
      Boxed W3 B 42 v ∧ Kept M V (W3.setCell ⟨B, 0, none⟩ (.slice (some ⟨g', 0, none⟩) (xs.length + 1) cap')) ∧ RowB n₀ B (xs ++ [ad]) (mine B (.slice (some ⟨g', 0, none⟩) (xs.length + 1) cap')) (W3.setCell ⟨B, 0, none⟩ (.slice (some ⟨g', 0, none⟩) (xs.length + 1) cap')) ∧ K w0 (W3.setCell ⟨B, 0, none⟩ (.slice (some ⟨g', 0, none⟩) (xs.length + 1) cap')) ∧ (W3.setCell ⟨B, 0, none⟩ (.slice (some ⟨g', 0, none⟩) (xs.length + 1) cap')).heap[D]? = some o ∧ Grows M (mine B (.slice (some ⟨g', 0, none⟩) (xs.length + 1) cap')) V := by
  have hlt := fun {k} (hk : M k) => h.lt hk
  have h' := h
  obtain ⟨v, h1, h2, rfl⟩ := h'
  have hi : (Tryd.prog.info? 3).map (fun i => (i.zero, i.size, i.bytes)) = some (some (.int .i64 0), 1, 8) := by kernel_rfl
  obtain ⟨i0, hi1, hz0, hz1, hz2⟩ := info_parts hi
  have r2 : V2.ownsRow n₀ 3 1 v xs.length (xs.map encI) := ownsRow_kept (O := No) h2 k2 (fun _ _ x => x)
  have ka : K V2 (V2.alloc (.cells #[.int .i64 ad] 3)) := (K.refl V2).alloc _
  have r3 := ownsRow_kept (O := No) r2 ka (fun _ _ x => x)
  have hsz := k2.size
  have hcell : (V2.alloc (.cells #[.int .i64 ad] 3)).heap[V2.heap.size]? = some (.cells #[.int .i64 ad] 3) := World.alloc_heap_new _ _
  have ap := fun ty => run_append_own_at (P := Tryd.prog) (V2.alloc (.cells #[.int .i64 ad] 3)) n₀ 42 ty 3 i0 (.int .i64 0) 1 8 Tryd.underlying42 hi1 hz0 hz1 hz2 rfl (by decide) v xs.length (xs.map encI) r3 ⟨V2.heap.size, 0, none⟩ 1 1 [.int .i64 ad] rfl
    (fun j u hu => by
      cases j with
      | zero =>
        simp at hu
        subst hu
        show (V2.alloc (.cells #[.int .i64 ad] 3)).cell? ⟨V2.heap.size, 0, none⟩ = _
        simp only [World.cell?]
        rw [hcell]
        rfl
      | succ j => simp at hu) (fun u hu => by simp at hu; subst hu; rfl) (by unfold maxLen; omega) (by omega) (by simp; omega)
  obtain ⟨v', W3, hrun, hown, hgrow, _, hat⟩ := ap 42
  obtain ⟨g', cap', rfl⟩ := ownsRow_succ hown
  have hb2 : Boxed V2 B 42 v := k2.boxed h1
  have hgB : some B ≠ v.ownBlock := fun e => by
    rcases h2.2 with ⟨rfl, _⟩ | ⟨g, cap, cur, rfl, hb, _⟩
    · cases e
    · have : B = g := by simpa [Value.ownBlock] using e
      omega
  have hb3 : Boxed W3 B 42 v := (ka.boxed hb2).kept hgrow hgB
  have hg'n : n₀ ≤ g' := by
    rcases hown.2 with ⟨e, _⟩ | ⟨g, cap, cur, e, hb, _⟩
    · cases e
    · cases e
      exact hb
  have k3 : Kept (mine B v) V W3 := ⟨hgrow.os.trans k2.os, hgrow.tape.trans k2.tape, hgrow.output.trans k2.output, by have := hgrow.size; simp at this; omega, fun k hk hn => by
    have e1 : some k ≠ v.ownBlock := fun e => hn (.inr e)
    rw [hgrow.block k (by simp; omega) e1, ka.same k (by omega) (fun x => x)]
    exact k2.same k hk (fun x => x)⟩
  have k4 := k3.setCell (p := ⟨B, 0, none⟩) (.slice (some ⟨g', 0, none⟩) (xs.length + 1) cap') (.inl (.inl rfl))
  have ks := (Kept.refl (fun k => k = B) W3).setCell (p := ⟨B, 0, none⟩) (.slice (some ⟨g', 0, none⟩) (xs.length + 1) cap') (.inl rfl)
  refine ⟨v, g', cap', W3, h1.cell, fun ty => ?_, hb3, k4, ⟨_, hb3.set _, ?_, rfl⟩, ?_, ?_, ?_⟩
  · rw [← hrun]
    rfl
  · rw [List.length_append, List.map_append]
    exact ownsRow_kept hown ks (fun g hg => by
      have : g = g' := by simpa [Value.ownBlock] using hg
      omega)
  · exact ⟨k4.os.trans hk.os, k4.tape.trans hk.tape, k4.output.trans hk.output, Nat.le_trans hk.size k4.size, fun j hj hn => (k4.same j (Nat.lt_of_lt_of_le hj hk.size) (fun hm => by have := (hlt hm).2; omega)).trans (hk.same j hj hn)⟩
  · refine k4.block hD (fun hm => ?_)
    have := (hlt hm).2
    omega
  · intro k hk
    rcases hk with rfl | hk
    · exact .inl (.inl rfl)
    · have : k = g' := by simpa [Value.ownBlock] using hk
      subst this
      rcases hat with e | e
      · exact .inl (.inr (by rw [← e]; rfl))
      · right
        simp [Value.ownBlock] at e
        omega

theorem Kept.grow {M M2 : Nat → Prop} {A V V' : World} (h : Kept M A V) (g : Grows M M2 A) (k : Kept M2 V V') : Kept M A V' :=
  ⟨k.os.trans h.os, k.tape.trans h.tape, k.output.trans h.output, Nat.le_trans h.size k.size, fun j hj hn => (k.same j (Nat.lt_of_lt_of_le hj h.size) (fun hm => by
    rcases g j hm with h1 | h1
    · exact hn h1
    · omega)).trans (h.same j hj hn)⟩
theorem Grows.trans {M M2 M3 : Nat → Prop} {A V : World} (g : Grows M M2 A) (hs : A.heap.size ≤ V.heap.size) (g2 : Grows M2 M3 V) : Grows M M3 A := fun k hk => by
  rcases g2 k hk with h | h
  · exact g k h
  · exact .inr (Nat.le_trans hs h)

set_option maxRecDepth 100000 in
set_option maxHeartbeats 2000000 in
theorem live_in (n : Nat) (h : Hw w bh bs bm q pg W) (hlen : (liveL (heads pg W)).length ≤ 200000) : CallsIn Fence.wide n Tryd.prog 12 #[hp bh] w fun e w' => ∃ v, e = .returned v ∧ w'.ownsRow w.heap.size 3 1 v (liveL (heads pg W)).length ((liveL (heads pg W)).map encI) ∧ K w w' := by
  obtain ⟨w1, hw1⟩ : ∃ w1, w1 = w.alloc (.cells #[.slice none 0 0] 42) := ⟨_, rfl⟩
  have b0 : Boxed w1 w.heap.size 42 (.slice none 0 0) := by rw [hw1]; exact Boxed.new w 42 (.slice none 0 0)
  have kB : K w w1 := by rw [hw1]; exact (K.refl w).alloc _
  have hB := h.keep kB
  have hm := made_yes bh bs _ h.c0
  have hlt : bh < w.heap.size := lt_of_cell h.c0
  have hfl : ∀ k, Sl.foot bs bm pg k → k < w.heap.size := fun k hk => h.ar.foot_lt hk
  have hsz : w1.heap.size ≤ w.heap.size + 1 ∧ w.heap.size + 1 ≤ w1.heap.size := by rw [hw1]; simp
  obtain ⟨hsz1, hsz2⟩ := hsz
  have h0 := lt0 h.tab
  refine callsIn_of_wp_marks Tryd.func12 rfl trivial ?_ rfl
  simp only [Tryd.ntmps12, List.size_toArray, List.length_cons, List.length_nil, Nat.reduceAdd, Nat.reduceSub, Array.replicate_succ, Array.replicate_zero, List.push_toArray, List.append_toArray, List.nil_append, List.cons_append]
  gi_wp2
  refine ⟨trivial, fun h => (by cases h), (callsIn_wide.2 hm).mono ?_⟩
  rintro e w' ⟨rfl, rfl⟩
  gi_wp2
  rw [← hw1]
  clear hw1
  refine range_coreM (r := none) (w' := w1.alloc (.deferred (some []))) (mark := [{ target := .collected w1.heap.size, args := #[] }]) (gf := 25) (ba := #[hp bh]) rfl (enters_of Tryd.func25 (by kernel_rfl) rfl) (fun fn => outer w1)
    (pages_seq hB (mine w.heap.size (.slice none 0 0)) (fun k hk => by
      rcases hk with rfl | hk
      · exact ⟨fun hf => by have := hfl _ hf; omega, by omega, by omega⟩
      · cases hk)) ((K.refl w1).alloc _) (fun k hk => by
      rcases hk with rfl | hk
      · simp; omega
      · cases hk) (fun _ => rfl)
    (fun pre M V => RowB (w.heap.size + 3) w.heap.size (liveL pre) M V ∧ K w V ∧ V.heap[w1.heap.size]? = some (.deferred (some [])))
    (fun _ _ _ => False)
    (fun pre x M a' V => (RowB (w.heap.size + 3) w.heap.size (liveL pre) M V ∧ K w V ∧ V.heap[w1.heap.size]? = some (.deferred (some []))) ∧ ∃ D, w1.heap.size + 1 < D ∧ a' = { tmps := #[hp bh, undef, .slice none 0 0, .pointer (some ⟨w.heap.size, 0, none⟩), .pointer (some ⟨D, 0, none⟩), undef, hp bh, .bool true, .bool false, hp bh, .func (.func 25) #[hp bh] #[], pgV x, undef, undef, undef, undef, undef, undef, undef, undef, undef], defers := [] } ∧ V.heap[D]? = some (.cells (cellsP x) 56))
    ?hI ?hIx ?hAx ?h0 ?hassign ?hbody ?hdone ?hstop
  case hI =>
    rintro s M A C ⟨hr, hk, hd⟩ hM k
    simp only [World.size_alloc] at k hM
    exact ⟨hr.next k (fun g hg e => by subst e; exact hM hg), hk.thenKept k (by omega), k.block hd (by omega)⟩
  case hIx =>
    rintro c s A C hf k
    exact hf
  case hAx =>
    rintro s x M a' A C ⟨⟨hr, hk, hd⟩, D, hD, he, hx⟩ hM k
    simp only [World.size_alloc] at k hM
    exact ⟨⟨hr.next k (fun g hg e => by subst e; exact hM hg), hk.thenKept k (by omega), k.block hd (by omega)⟩, D, hD, he, k.block hx (by omega)⟩
  case h0 => exact ⟨⟨_, b0.alloc _, World.ownsRow_nil _ _ _ _, rfl⟩, kB.alloc _, World.alloc_heap_new _ _⟩
  case hassign =>
    rintro pre x M V _ ⟨hr, hk, hd⟩ _ hl
    simp only [World.size_alloc] at hl
    gi_wp2
    exact ⟨(Kept.refl _ _).alloc _, ⟨hr.keep ((K.refl V).alloc _), hk.alloc _, ((K.refl V).alloc _).block hd⟩, _, hl, rfl, World.alloc_heap_new _ _⟩
  case hbody =>
    rintro pre x M a' V hpre hrec hM ⟨⟨hr, hk, hd⟩, D, hD, rfl, hx⟩
    have hok := heads_ok h.ar (mem_of_pre hpre)
    obtain ⟨⟨c0, c1, c2, c3, c4, c5⟩, _⟩ := six hx
    have hltD : D < V.heap.size := (Array.getElem?_eq_some_iff.1 hx).1
    have hL1 := liveL_len hpre
    rw [liveL_snoc] at hL1
    have HL1 : Aside _ := hL1
    clear hL1
    gi_wp2
    refine range_coreM (r := some (w1.alloc (.deferred (some []))).heap.size) (w' := V) (mark := []) (gf := 26) (ba := #[pgV x]) rfl (enters_of Tryd.func26 (by kernel_rfl) rfl) (fun fn => inner V hrec)
      (blocks_seq V x (fun _ => hok.u) M) (K.refl V) (fun k hk => (hr.lt hk).1) (fun _ => rfl)
      (fun pr M2 Y => RowB (w.heap.size + 3) w.heap.size (liveL pre ++ liveP x pr) M2 Y ∧ K w Y ∧ Y.heap[w1.heap.size]? = some (.deferred (some [])) ∧ Kept M V Y ∧ Grows M M2 V)
      (fun _ _ _ => False)
      (fun pr y M2 a' Y => (RowB (w.heap.size + 3) w.heap.size (liveL pre ++ liveP x pr) M2 Y ∧ K w Y ∧ Y.heap[w1.heap.size]? = some (.deferred (some [])) ∧ Kept M V Y ∧ Grows M M2 V) ∧ ∃ E, V.heap.size < E ∧ a' = { tmps := #[hp bh, undef, .slice none 0 0, .pointer (some ⟨w.heap.size, 0, none⟩), .pointer (some ⟨D, 0, none⟩), .pointer (some ⟨E, 0, none⟩), hp bh, .bool true, .bool false, hp bh, .func (.func 25) #[hp bh] #[], pgV x, pgV x, .func (.func 26) #[pgV x] #[], bkV x y, undef, undef, undef, undef, undef, undef], defers := [] } ∧ Y.heap[E]? = some (.cells (cellsB x y) 58))
      ?jI ?jIx ?jAx ?j0 ?jassign ?jbody ?jdone ?jstop
    case jI =>
      rintro s M2 A C ⟨hr1, hk1, hd1, hv1, hg1⟩ hM2 k
      exact ⟨hr1.next k (fun g hg e => by subst e; exact hM2 hg), hk1.thenKept k (by omega), k.block hd1 (by omega), hv1.thenKept k (Nat.le_refl _), hg1⟩
    case jIx =>
      rintro c s A C hf k
      exact hf
    case jAx =>
      rintro s y M2 a' A C ⟨⟨hr1, hk1, hd1, hv1, hg1⟩, E, hE, he, hy⟩ hM2 k
      exact ⟨⟨hr1.next k (fun g hg e => by subst e; exact hM2 hg), hk1.thenKept k (by omega), k.block hd1 (by omega), hv1.thenKept k (Nat.le_refl _), hg1⟩, E, hE, he, k.block hy (by omega)⟩
    case j0 => exact ⟨by simpa [liveP] using hr, hk, hd, Kept.refl _ _, fun k hk => .inl hk⟩
    case jassign =>
      rintro pr y M2 Y _ ⟨hr1, hk1, hd1, hv1, hg1⟩ _ hl
      gi_wp2
      exact ⟨(Kept.refl _ _).alloc _, ⟨hr1.keep ((K.refl Y).alloc _), hk1.alloc _, ((K.refl Y).alloc _).block hd1, hv1.alloc _, hg1⟩, _, hl, rfl, World.alloc_heap_new _ _⟩
    case jbody =>
      rintro pr y M2 a' Y hpr _ hM2 ⟨⟨hr1, hk1, hd1, hv1, hg1⟩, E, hE, rfl, hy⟩
      obtain ⟨⟨d0, d1, d2, d3, d4, d5, d6⟩, _⟩ := seven hy
      have ca := fun w => addr_any x y hok.n0 hok.n1 w
      have hmix : Tryd.prog.follows .mixedOrders = true := by kernel_rfl
      have hlp := liveP_len x hpr
      have hvy := hv1.size
      have Hr : Aside _ := hr1
      obtain ⟨v, hb, hrow, hM⟩ := hr1
      have bc := hb.cell
      have bf := hb.frozen
      have HAP : Aside (∀ V2, K Y.drew V2 → ∃ g' L cap' W3, (∀ ty, (Builtin.append_ #[42, 42] ty #[v, .slice (some ⟨V2.heap.size, 0, none⟩) 1 1]).run Tryd.prog (V2.alloc (.cells #[.int .i64 (addrI x y)] 3)) = .ok (.slice (some ⟨g', 0, none⟩) L cap') W3) ∧
          Boxed W3 w.heap.size 42 v ∧ Kept M2 Y (W3.setCell ⟨w.heap.size, 0, none⟩ (.slice (some ⟨g', 0, none⟩) L cap')) ∧ RowB (w.heap.size + 3) w.heap.size ((liveL pre ++ liveP x pr) ++ [addrI x y]) (mine w.heap.size (.slice (some ⟨g', 0, none⟩) L cap')) (W3.setCell ⟨w.heap.size, 0, none⟩ (.slice (some ⟨g', 0, none⟩) L cap')) ∧ K w (W3.setCell ⟨w.heap.size, 0, none⟩ (.slice (some ⟨g', 0, none⟩) L cap')) ∧ (W3.setCell ⟨w.heap.size, 0, none⟩ (.slice (some ⟨g', 0, none⟩) L cap')).heap[w1.heap.size]? = some (.deferred (some [])) ∧ Grows M2 (mine w.heap.size (.slice (some ⟨g', 0, none⟩) L cap')) Y) := fun V2 k2 => by
        obtain ⟨v2, g', cap', W3, e1, r⟩ := RowB.append (n₀ := w.heap.size + 3) (V := Y) Hr.out (show K Y V2 from ((K.refl Y).drew).trans k2) (by omega) (by omega) (by have := HL1.out; rw [liveP_snoc] at hlp; simp only [List.length_append, List.length_cons, List.length_nil] at hlp this ⊢; omega) (addrI x y) hk1 (Nat.le_refl _) hd1 (by omega) (by omega)
        rw [bc] at e1
        cases e1
        exact ⟨g', _, cap', W3, r⟩
      have fin : ∀ {v' : Value} {W3 : World} {M' : Nat → Prop}, (Boxed W3 w.heap.size 42 v ∧ Kept M2 Y (W3.setCell ⟨w.heap.size, 0, none⟩ v') ∧ RowB (w.heap.size + 3) w.heap.size ((liveL pre ++ liveP x pr) ++ [addrI x y]) M' (W3.setCell ⟨w.heap.size, 0, none⟩ v') ∧ K w (W3.setCell ⟨w.heap.size, 0, none⟩ v') ∧ (W3.setCell ⟨w.heap.size, 0, none⟩ v').heap[w1.heap.size]? = some (.deferred (some [])) ∧ Grows M2 M' Y) →
          Kept M2 Y (W3.setCell ⟨w.heap.size, 0, none⟩ v') ∧ ∃ M', (RowB (w.heap.size + 3) w.heap.size (liveL pre ++ liveP x (pr ++ [y])) M' (W3.setCell ⟨w.heap.size, 0, none⟩ v') ∧ K w (W3.setCell ⟨w.heap.size, 0, none⟩ v') ∧ (W3.setCell ⟨w.heap.size, 0, none⟩ v').heap[w1.heap.size]? = some (.deferred (some [])) ∧ Kept M V (W3.setCell ⟨w.heap.size, 0, none⟩ v') ∧ Grows M M' V) ∧ Grows M2 M' Y := by
        rintro v' W3 M' ⟨_, f1, f2, f3, f4, f5⟩
        refine ⟨f1, M', ⟨?_, f3, f4, Kept.grow hv1 hg1 f1, Grows.trans hg1 hvy f5⟩, f5⟩
        rw [liveP_snoc, ← List.append_assoc]
        exact f2
      refine wpIn_block ?_
      refine wpIn_region_any hmix ?_
      change wpAnyIn _ _ _ _ _ _ _ _ _ (World.drew _)
      refine wpAnyIn_ready (rs := [0, 1]) (by kernel_rfl) (by simp) ?_
      refine AllReadyIn.cons rfl (fun K hK => ?_) (AllReadyIn.cons rfl (fun K hK => ?_) AllReadyIn.nil)
      · go_simp
        refine hK _ _ ?_
        clear hK K
        refine wpAnyIn_ready (rs := [1]) (by kernel_rfl) (by simp) ?_
        refine AllReadyIn.cons rfl (fun K hK => ?_) AllReadyIn.nil
        go_simp
        refine hK _ _ ?_
        clear hK K
        refine wpAnyIn_ready (rs := [2]) (by kernel_rfl) (by simp) ?_
        refine AllReadyIn.cons rfl (fun K hK => ?_) AllReadyIn.nil
        go_simp
        refine ⟨trivial, fun h => (by cases h), ?_⟩
        refine (CallsIn.inRound _ (callsIn_wide.2 (ca _))).mono ?_
        rintro e V2 ⟨rfl, k2⟩
        refine hK _ _ ?_
        clear hK K
        obtain ⟨g', L, cap', W3, hrun, hfin⟩ := HAP.out V2 k2
        have bc2 := k2.cell bc
        have bc3 := fun o => (k2.alloc o).cell bc
        have HFIN : Aside _ := hfin
        clear hfin
        refine wpAnyIn_ready (rs := [3]) (by kernel_rfl) (by simp) ?_
        refine AllReadyIn.cons rfl (fun K hK => ?_) AllReadyIn.nil
        go_simp
        refine hK _ _ ?_
        clear hK K
        refine wpAnyIn_ready (rs := [4]) (by kernel_rfl) (by simp) ?_
        refine AllReadyIn.cons rfl (fun K hK => ?_) AllReadyIn.nil
        refine oper_append (by rfl) (by rfl) (by rfl) (hrun _) ?_
        refine hK _ _ ?_
        clear hK K
        have hc3 := HFIN.out.1.cell
        have hf3 := HFIN.out.1.frozen
        refine wpAnyIn_ready (rs := [5]) (by kernel_rfl) (by simp) ?_
        refine AllReadyIn.cons rfl (fun K hK => ?_) AllReadyIn.nil
        go_simp
        refine hK _ _ ?_
        clear hK K
        refine wpAnyIn_done (by kernel_rfl) ?_ _
        exact fin HFIN.out
      · go_simp
        refine hK _ _ ?_
        clear hK K
        refine wpAnyIn_ready (rs := [0, 2]) (by kernel_rfl) (by simp) ?_
        refine AllReadyIn.cons rfl (fun K hK => ?_) (AllReadyIn.cons rfl (fun K hK => ?_) AllReadyIn.nil)
        · go_simp
          refine hK _ _ ?_
          clear hK K
          refine wpAnyIn_ready (rs := [2]) (by kernel_rfl) (by simp) ?_
          refine AllReadyIn.cons rfl (fun K hK => ?_) AllReadyIn.nil
          go_simp
          refine ⟨trivial, fun h => (by cases h), ?_⟩
          refine (CallsIn.inRound _ (callsIn_wide.2 (ca _))).mono ?_
          rintro e V2 ⟨rfl, k2⟩
          refine hK _ _ ?_
          clear hK K
          obtain ⟨g', L, cap', W3, hrun, hfin⟩ := HAP.out V2 k2
          have bc2 := k2.cell bc
          have bc3 := fun o => (k2.alloc o).cell bc
          have HFIN : Aside _ := hfin
          clear hfin
          refine wpAnyIn_ready (rs := [3]) (by kernel_rfl) (by simp) ?_
          refine AllReadyIn.cons rfl (fun K hK => ?_) AllReadyIn.nil
          go_simp
          refine hK _ _ ?_
          clear hK K
          refine wpAnyIn_ready (rs := [4]) (by kernel_rfl) (by simp) ?_
          refine AllReadyIn.cons rfl (fun K hK => ?_) AllReadyIn.nil
          refine oper_append (by rfl) (by rfl) (by rfl) (hrun _) ?_
          refine hK _ _ ?_
          clear hK K
          have hc3 := HFIN.out.1.cell
          have hf3 := HFIN.out.1.frozen
          refine wpAnyIn_ready (rs := [5]) (by kernel_rfl) (by simp) ?_
          refine AllReadyIn.cons rfl (fun K hK => ?_) AllReadyIn.nil
          go_simp
          refine hK _ _ ?_
          clear hK K
          refine wpAnyIn_done (by kernel_rfl) ?_ _
          exact fin HFIN.out
        · go_simp
          refine ⟨trivial, fun h => (by cases h), ?_⟩
          refine (CallsIn.inRound _ (callsIn_wide.2 (ca _))).mono ?_
          rintro e V2 ⟨rfl, k2⟩
          refine hK _ _ ?_
          clear hK K
          obtain ⟨g', L, cap', W3, hrun, hfin⟩ := HAP.out V2 k2
          have bc2 := k2.cell bc
          have bc3 := fun o => (k2.alloc o).cell bc
          have HFIN : Aside _ := hfin
          clear hfin
          refine wpAnyIn_ready (rs := [0, 3]) (by kernel_rfl) (by simp) ?_
          refine AllReadyIn.cons rfl (fun K hK => ?_) (AllReadyIn.cons rfl (fun K hK => ?_) AllReadyIn.nil)
          · go_simp
            refine hK _ _ ?_
            clear hK K
            refine wpAnyIn_ready (rs := [3]) (by kernel_rfl) (by simp) ?_
            refine AllReadyIn.cons rfl (fun K hK => ?_) AllReadyIn.nil
            go_simp
            refine hK _ _ ?_
            clear hK K
            refine wpAnyIn_ready (rs := [4]) (by kernel_rfl) (by simp) ?_
            refine AllReadyIn.cons rfl (fun K hK => ?_) AllReadyIn.nil
            refine oper_append (by rfl) (by rfl) (by rfl) (hrun _) ?_
            refine hK _ _ ?_
            clear hK K
            have hc3 := HFIN.out.1.cell
            have hf3 := HFIN.out.1.frozen
            refine wpAnyIn_ready (rs := [5]) (by kernel_rfl) (by simp) ?_
            refine AllReadyIn.cons rfl (fun K hK => ?_) AllReadyIn.nil
            go_simp
            refine hK _ _ ?_
            clear hK K
            refine wpAnyIn_done (by kernel_rfl) ?_ _
            exact fin HFIN.out
          · go_simp
            refine hK _ _ ?_
            clear hK K
            refine wpAnyIn_ready (rs := [0]) (by kernel_rfl) (by simp) ?_
            refine AllReadyIn.cons rfl (fun K hK => ?_) AllReadyIn.nil
            go_simp
            refine hK _ _ ?_
            clear hK K
            refine wpAnyIn_ready (rs := [4]) (by kernel_rfl) (by simp) ?_
            refine AllReadyIn.cons rfl (fun K hK => ?_) AllReadyIn.nil
            refine oper_append (by rfl) (by rfl) (by rfl) (hrun _) ?_
            refine hK _ _ ?_
            clear hK K
            have hc3 := HFIN.out.1.cell
            have hf3 := HFIN.out.1.frozen
            refine wpAnyIn_ready (rs := [5]) (by kernel_rfl) (by simp) ?_
            refine AllReadyIn.cons rfl (fun K hK => ?_) AllReadyIn.nil
            go_simp
            refine hK _ _ ?_
            clear hK K
            refine wpAnyIn_done (by kernel_rfl) ?_ _
            exact fin HFIN.out
    case jdone =>
      rintro M2 Y ⟨hr1, hk1, hd1, hv1, hg1⟩
      gi_wp2
      exact ⟨hv1, M2, ⟨by rw [liveL_snoc]; exact hr1, hk1, hd1⟩, hg1⟩
    case jstop =>
      rintro cd pr Y _ hf
      exact hf.elim
  case hdone =>
    rintro M V ⟨⟨v, hb, hr, rfl⟩, hk, hd⟩
    have bc := hb.cell
    have kz := (Kept.refl (fun k => k = w1.heap.size) V).putObj (l := w1.heap.size) (.deferred none) (.inl rfl)
    have hr2 := ownsRow_kept hr kz (fun g hg e => by
      rcases hr.2 with ⟨rfl, _⟩ | ⟨g2, cap, cur, rfl, hb2, _⟩
      · cases hg
      · have : g = g2 := by simpa [Value.ownBlock] using hg
        omega)
    gi_wp2
    refine ⟨by simp, .inl ⟨_, _, rfl, run_takeDeferred hd, _, results_tmp rfl _ _ _, v, rfl, ⟨hr2.1, ?_⟩, Kept.putObj hk _ (.inr (by omega))⟩⟩
    rcases hr2.2 with h1 | ⟨g, cap, cur, h1, h2, h3⟩
    · exact .inl h1
    · exact .inr ⟨g, cap, cur, h1, by omega, h3⟩
  case hstop =>
    rintro cd pre V _ hf
    exact hf.elim

/-- Live, where the entries are told. -/
theorem live_any {L : List Pg} (h : St w bh bs bm q pg W L) (hl : (liveL L).length ≤ 200000) : Calls Tryd.prog 12 #[hp bh] w fun e w' => ∃ v, e = .returned v ∧ w'.ownsRow w.heap.size 3 1 v (liveL L).length ((liveL L).map encI) ∧ K w w' := by
  have := live_in 0 h.hw (by rw [h.heads]; exact hl)
  rw [h.heads] at this
  exact (callsIn_wide (n := 0)).1 this

end Hp
end Go.Proofs.YtlpdgomoepinjaaDoor
