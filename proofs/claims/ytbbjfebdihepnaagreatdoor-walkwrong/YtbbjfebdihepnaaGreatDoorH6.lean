/-
  The walk of package heap's Live: the addresses of all blocks, rising.
-/
import Derived.Test.YtbbjfebdihepnaaGreatDoorH5
import Derived.Maps.AppendAt
namespace Go.Proofs.YtbbjfebdihepnaaGreatDoor
open Go.RowKit Go.Shelf
attribute [local go_sem] Oper.semAt_some
namespace Hp
variable {w : World} {bh bs bm : Nat} {q : Int} {pg : List (Int × Nat)} {W : Int → Int}

/-- An append, in a region that draws its order: its run is known. -/
theorem oper_append {F : Fence} {n : Nat} {P : Program} {o : Oper} {a : Act} {w w' : World} {K : Act → World → Prop} {Q : Exit → Act → World → Prop} {s x : Operand} {t : TypeId} (hop : o.op = Op.call { callee := Callee.builtin Builtin.append, args := #[s, x], argTypes := #[t, t] })
    {v u v' : Value} (hs : a.eval s = v) (hx : a.eval x = u) (hrun : (Builtin.append_ #[t, t] o.type #[v, u]).run P w = .ok v' w') (hK : K (a.put o.dst v') w') : o.wpIn F n P a w K Q := by
  unfold Oper.wpIn
  refine ⟨by simp [Oper.about, hop, resolve, Target.leads, Sem.run_pure], ?_⟩
  rw [Oper.semAt_plain F _ _ (by rw [hop]; intro c hc; cases hc)]
  simp [execOp, hop, resolve, invoke, builtin, hs, hx, hrun, Result.andThen]
  exact hK

/-- The addresses of all blocks. -/
def liveP (p : Pg) (l : List Int) : List Int := l.map fun s => addrI p s
def liveL (L : List Pg) : List Int := L.flatMap fun p => liveP p (slotsOf p)
theorem liveL_snoc (pre : List Pg) (x : Pg) : liveL (pre ++ [x]) = liveL pre ++ liveP x (slotsOf x) := by simp [liveL]
theorem liveP_snoc (p : Pg) (pr : List Int) (y : Int) : liveP p (pr ++ [y]) = liveP p pr ++ [addrI p y] := by simp [liveP]
theorem liveL_len {pre l : List Pg} (h : pre <+: l) : (liveL pre).length ≤ (liveL l).length := by
  obtain ⟨t, rfl⟩ := h
  simp [liveL]
theorem liveP_len (p : Pg) {pr l : List Int} (h : pr <+: l) : (liveP p pr).length ≤ (liveP p l).length := by
  obtain ⟨t, rfl⟩ := h
  simp [liveP]

abbrev encI (x : Int) : Value := .int .i64 x
abbrev mine (B : Nat) (v : Value) : Nat → Prop := fun k => k = B ∨ some k = v.ownBlock
/-- The box at B holds a row of these; M: the box and the row. -/
def RowB (n₀ B : Nat) (xs : List Int) (M : Nat → Prop) (V : World) : Prop := ∃ v, Boxed V B 23 v ∧ V.ownsRow n₀ 3 1 v xs.length (xs.map encI) ∧ M = mine B v

theorem ownsRow_kept {A C : World} {n₀ k : Nat} {t : TypeId} {v : Value} {xs : List Value} (h : A.ownsRow n₀ t 1 v k xs) {O : Nat → Prop} (kk : Kept O A C) (hO : ∀ g, some g = v.ownBlock → ¬ O g) : C.ownsRow n₀ t 1 v k xs := by
  obtain ⟨h1, h2⟩ := h
  refine ⟨h1, ?_⟩
  rcases h2 with h2 | ⟨g, cap, cur, rfl, hb, hg, rest⟩
  · exact .inl h2
  · exact .inr ⟨g, cap, cur, rfl, hb, kk.block hg (hO g rfl), rest⟩
theorem RowB.next {n₀ B : Nat} {xs : List Int} {M : Nat → Prop} {A C : World} (h : RowB n₀ B xs M A) {O : Nat → Prop} (kk : Kept O A C) (hO : ∀ g, M g → ¬ O g) : RowB n₀ B xs M C := by
  obtain ⟨v, h1, h2, rfl⟩ := h
  exact ⟨v, kk.boxed h1 (hO _ (.inl rfl)), ownsRow_kept h2 kk (fun g hg => hO g (.inr hg)), rfl⟩
theorem RowB.keep {n₀ B : Nat} {xs : List Int} {M : Nat → Prop} {A C : World} (h : RowB n₀ B xs M A) (kk : K A C) : RowB n₀ B xs M C := h.next (O := No) kk (fun _ _ x => x)
theorem RowB.lt {n₀ B : Nat} {xs : List Int} {M : Nat → Prop} {A : World} (h : RowB n₀ B xs M A) {k : Nat} (hk : M k) : k < A.heap.size ∧ (k = B ∨ n₀ ≤ k) := by
  obtain ⟨v, h1, h2, rfl⟩ := h
  rcases hk with rfl | hk
  · exact ⟨h1.lt, .inl rfl⟩
  · rcases h2.2 with ⟨rfl, _⟩ | ⟨g, cap, cur, rfl, hb, hg, _⟩
    · cases hk
    · obtain rfl : k = g := by simpa [Value.ownBlock] using hk
      exact ⟨(Array.getElem?_eq_some_iff.1 hg).1, .inr hb⟩

/-- What an append into the box makes. -/
theorem RowB.append {n₀ B : Nat} {xs : List Int} {M : Nat → Prop} {V V2 : World} (h : RowB n₀ B xs M V) (k2 : K V V2) (hB : B < n₀) (hn : n₀ ≤ V.heap.size) (hl : xs.length ≤ 200000) (ad : Int) {w0 : World} (hk : K w0 V) (hw0 : w0.heap.size ≤ B) {D : Nat} {o : Obj} (hD : V.heap[D]? = some o) (hDn : D < n₀) (hDB : D ≠ B) :
    ∃ v g' cap' W3, V.cell? ⟨B, 0, none⟩ = some v ∧ (∀ ty, (Builtin.append_ #[23, 23] ty #[v, .slice (some ⟨V2.heap.size, 0, none⟩) 1 1]).run Tryz.prog (V2.alloc (.cells #[.int .i64 ad] 3)) = .ok (.slice (some ⟨g', 0, none⟩) (xs.length + 1) cap') W3) ∧
      Boxed W3 B 23 v ∧ Kept M V (W3.setCell ⟨B, 0, none⟩ (.slice (some ⟨g', 0, none⟩) (xs.length + 1) cap')) ∧ RowB n₀ B (xs ++ [ad]) (mine B (.slice (some ⟨g', 0, none⟩) (xs.length + 1) cap')) (W3.setCell ⟨B, 0, none⟩ (.slice (some ⟨g', 0, none⟩) (xs.length + 1) cap')) ∧ K w0 (W3.setCell ⟨B, 0, none⟩ (.slice (some ⟨g', 0, none⟩) (xs.length + 1) cap')) ∧ (W3.setCell ⟨B, 0, none⟩ (.slice (some ⟨g', 0, none⟩) (xs.length + 1) cap')).heap[D]? = some o ∧ Grows M (mine B (.slice (some ⟨g', 0, none⟩) (xs.length + 1) cap')) V := by
  have hlt := fun {k} (hk : M k) => h.lt hk
  have h' := h
  obtain ⟨v, h1, h2, rfl⟩ := h'
  have hi : (Tryz.prog.info? 3).map (fun i => (i.zero, i.size, i.bytes)) = some (some (.int .i64 0), 1, 8) := by kernel_rfl
  obtain ⟨i0, hi1, hz0, hz1, hz2⟩ := info_parts hi
  have r2 : V2.ownsRow n₀ 3 1 v xs.length (xs.map encI) := ownsRow_kept (O := No) h2 k2 (fun _ _ x => x)
  have ka : K V2 (V2.alloc (.cells #[.int .i64 ad] 3)) := (K.refl V2).alloc _
  have r3 := ownsRow_kept (O := No) r2 ka (fun _ _ x => x)
  have hsz := k2.size
  have hcell : (V2.alloc (.cells #[.int .i64 ad] 3)).heap[V2.heap.size]? = some (.cells #[.int .i64 ad] 3) := World.alloc_heap_new _ _
  have ap := fun ty => run_append_own_at (P := Tryz.prog) (V2.alloc (.cells #[.int .i64 ad] 3)) n₀ 23 ty 3 i0 (.int .i64 0) 1 8 Tryz.underlying23 hi1 hz0 hz1 hz2 rfl (by decide) v xs.length (xs.map encI) r3 ⟨V2.heap.size, 0, none⟩ 1 1 [.int .i64 ad] rfl
    (fun j u hu => by
      cases j with
      | zero =>
        simp at hu
        subst hu
        show (V2.alloc (.cells #[.int .i64 ad] 3)).cell? ⟨V2.heap.size, 0, none⟩ = _
        simp only [World.cell?]
        rw [hcell]
        rfl
      | succ j => simp at hu) (fun u hu => by simp at hu; subst hu; rfl) (by unfold maxLen; omega) (by omega) (by simp; omega)
  obtain ⟨v', W3, hrun, hown, hgrow, _, hat⟩ := ap 23
  obtain ⟨g', cap', rfl⟩ := ownsRow_succ hown
  have hb2 : Boxed V2 B 23 v := k2.boxed h1
  have hgB : some B ≠ v.ownBlock := fun e => by
    rcases h2.2 with ⟨rfl, _⟩ | ⟨g, cap, cur, rfl, hb, _⟩
    · cases e
    · have : B = g := by simpa [Value.ownBlock] using e
      omega
  have hb3 : Boxed W3 B 23 v := (ka.boxed hb2).kept hgrow hgB
  have hg'n : n₀ ≤ g' := by
    rcases hown.2 with ⟨e, _⟩ | ⟨g, cap, cur, e, hb, _⟩
    · cases e
    · cases e
      exact hb
  have k3 : Kept (mine B v) V W3 := ⟨hgrow.os.trans k2.os, hgrow.tape.trans k2.tape, hgrow.output.trans k2.output, by have := hgrow.size; simp at this; omega, fun k hk hn => by
    have e1 : some k ≠ v.ownBlock := fun e => hn (.inr e)
    rw [hgrow.block k (by simp; omega) e1, ka.same k (by omega) (fun x => x)]
    exact k2.same k hk (fun x => x)⟩
  have k4 := k3.setCell (p := ⟨B, 0, none⟩) (.slice (some ⟨g', 0, none⟩) (xs.length + 1) cap') (.inl (.inl rfl))
  have ks := (Kept.refl (fun k => k = B) W3).setCell (p := ⟨B, 0, none⟩) (.slice (some ⟨g', 0, none⟩) (xs.length + 1) cap') (.inl rfl)
  refine ⟨v, g', cap', W3, h1.cell, fun ty => ?_, hb3, k4, ⟨_, hb3.set _, ?_, rfl⟩, ?_, ?_, ?_⟩
  · rw [← hrun]
    rfl
  · rw [List.length_append, List.map_append]
    exact ownsRow_kept hown ks (fun g hg => by
      have : g = g' := by simpa [Value.ownBlock] using hg
      omega)
  · exact ⟨k4.os.trans hk.os, k4.tape.trans hk.tape, k4.output.trans hk.output, Nat.le_trans hk.size k4.size, fun j hj hn => (k4.same j (Nat.lt_of_lt_of_le hj hk.size) (fun hm => by have := (hlt hm).2; omega)).trans (hk.same j hj hn)⟩
  · refine k4.block hD (fun hm => ?_)
    have := (hlt hm).2
    omega
  · intro k hk
    rcases hk with rfl | hk
    · exact .inl (.inl rfl)
    · have : k = g' := by simpa [Value.ownBlock] using hk
      subst this
      rcases hat with e | e
      · exact .inl (.inr (by rw [← e]; rfl))
      · right
        simp [Value.ownBlock] at e
        omega

theorem Kept.grow {M M2 : Nat → Prop} {A V V' : World} (h : Kept M A V) (g : Grows M M2 A) (k : Kept M2 V V') : Kept M A V' :=
  ⟨k.os.trans h.os, k.tape.trans h.tape, k.output.trans h.output, Nat.le_trans h.size k.size, fun j hj hn => (k.same j (Nat.lt_of_lt_of_le hj h.size) (fun hm => by
    rcases g j hm with h1 | h1
    · exact hn h1
    · omega)).trans (h.same j hj hn)⟩
theorem Grows.trans {M M2 M3 : Nat → Prop} {A V : World} (g : Grows M M2 A) (hs : A.heap.size ≤ V.heap.size) (g2 : Grows M2 M3 V) : Grows M M3 A := fun k hk => by
  rcases g2 k hk with h | h
  · exact g k h
  · exact .inr (Nat.le_trans hs h)

set_option maxRecDepth 100000 in
set_option maxHeartbeats 2000000 in
theorem live_in (n : Nat) (h : Hw w bh bs bm q pg W) (hlen : (liveL (heads pg W)).length ≤ 200000) : CallsIn Fence.wide n Tryz.prog 44 #[hp bh] w fun e w' => ∃ v, e = .returned v ∧ w'.ownsRow w.heap.size 3 1 v (liveL (heads pg W)).length ((liveL (heads pg W)).map encI) ∧ K w w' := by
  obtain ⟨w1, hw1⟩ : ∃ w1, w1 = w.alloc (.cells #[.slice none 0 0] 23) := ⟨_, rfl⟩
  have b0 : Boxed w1 w.heap.size 23 (.slice none 0 0) := by rw [hw1]; exact Boxed.new w 23 (.slice none 0 0)
  have kB : K w w1 := by rw [hw1]; exact (K.refl w).alloc _
  have hB := h.keep kB
  have hm := made_yes bh bs _ h.c0
  have hlt : bh < w.heap.size := lt_of_cell h.c0
  have hfl : ∀ k, Sl.foot bs bm pg k → k < w.heap.size := fun k hk => h.ar.foot_lt hk
  have hsz : w1.heap.size ≤ w.heap.size + 1 ∧ w.heap.size + 1 ≤ w1.heap.size := by rw [hw1]; simp
  obtain ⟨hsz1, hsz2⟩ := hsz
  have h0 := lt0 h.tab
  refine callsIn_of_wp_marks Tryz.func44 rfl trivial ?_ rfl
  simp only [Tryz.ntmps44, List.size_toArray, List.length_cons, List.length_nil, Nat.reduceAdd, Nat.reduceSub, Array.replicate_succ, Array.replicate_zero, List.push_toArray, List.append_toArray, List.nil_append, List.cons_append]
  gi_wp2
  refine ⟨trivial, fun h => (by cases h), (callsIn_wide.2 hm).mono ?_⟩
  rintro e w' ⟨rfl, rfl⟩
  gi_wp2
  rw [← hw1]
  clear hw1
  refine range_coreM (r := none) (w' := w1.alloc (.deferred (some []))) (mark := [{ target := .collected w1.heap.size, args := #[] }]) (gf := 64) (ba := #[hp bh]) rfl (enters_of Tryz.func64 (by kernel_rfl) rfl) (fun fn => outer w1)
    (pages_seq hB (mine w.heap.size (.slice none 0 0)) (fun k hk => by
      rcases hk with rfl | hk
      · exact ⟨fun hf => by have := hfl _ hf; omega, by omega, by omega⟩
      · cases hk)) ((K.refl w1).alloc _) (fun k hk => by
      rcases hk with rfl | hk
      · simp; omega
      · cases hk) (fun _ => rfl)
    (fun pre M V => RowB (w.heap.size + 3) w.heap.size (liveL pre) M V ∧ K w V ∧ V.heap[w1.heap.size]? = some (.deferred (some [])))
    (fun _ _ _ => False)
    (fun pre x M a' V => (RowB (w.heap.size + 3) w.heap.size (liveL pre) M V ∧ K w V ∧ V.heap[w1.heap.size]? = some (.deferred (some []))) ∧ ∃ D, w1.heap.size + 1 < D ∧ a' = { tmps := #[hp bh, undef, .slice none 0 0, .pointer (some ⟨w.heap.size, 0, none⟩), .pointer (some ⟨D, 0, none⟩), undef, hp bh, .bool true, .bool false, hp bh, .func (.func 64) #[hp bh] #[], pgV x, undef, undef, undef, undef, undef, undef, undef, undef, undef], defers := [] } ∧ V.heap[D]? = some (.cells (cellsP x) 125))
    ?hI ?hIx ?hAx ?h0 ?hassign ?hbody ?hdone ?hstop
  case hI =>
    rintro s M A C ⟨hr, hk, hd⟩ hM k
    simp only [World.size_alloc] at k hM
    exact ⟨hr.next k (fun g hg e => by subst e; exact hM hg), hk.thenKept k (by omega), k.block hd (by omega)⟩
  case hIx =>
    rintro c s A C hf k
    exact hf
  case hAx =>
    rintro s x M a' A C ⟨⟨hr, hk, hd⟩, D, hD, he, hx⟩ hM k
    simp only [World.size_alloc] at k hM
    exact ⟨⟨hr.next k (fun g hg e => by subst e; exact hM hg), hk.thenKept k (by omega), k.block hd (by omega)⟩, D, hD, he, k.block hx (by omega)⟩
  case h0 => exact ⟨⟨_, b0.alloc _, World.ownsRow_nil _ _ _ _, rfl⟩, kB.alloc _, World.alloc_heap_new _ _⟩
  case hassign =>
    rintro pre x M V _ ⟨hr, hk, hd⟩ _ hl
    simp only [World.size_alloc] at hl
    gi_wp2
    exact ⟨(Kept.refl _ _).alloc _, ⟨hr.keep ((K.refl V).alloc _), hk.alloc _, ((K.refl V).alloc _).block hd⟩, _, hl, rfl, World.alloc_heap_new _ _⟩
  case hbody =>
    rintro pre x M a' V hpre hrec hM ⟨⟨hr, hk, hd⟩, D, hD, rfl, hx⟩
    have hok := heads_ok h.ar (mem_of_pre hpre)
    obtain ⟨⟨c0, c1, c2, c3, c4, c5⟩, _⟩ := six hx
    have hltD : D < V.heap.size := (Array.getElem?_eq_some_iff.1 hx).1
    have hL1 := liveL_len hpre
    rw [liveL_snoc] at hL1
    have HL1 : Aside _ := hL1
    clear hL1
    gi_wp2
    refine range_coreM (r := some (w1.alloc (.deferred (some []))).heap.size) (w' := V) (mark := []) (gf := 65) (ba := #[pgV x]) rfl (enters_of Tryz.func65 (by kernel_rfl) rfl) (fun fn => inner V hrec)
      (blocks_seq V x (fun _ => hok.u) M) (K.refl V) (fun k hk => (hr.lt hk).1) (fun _ => rfl)
      (fun pr M2 Y => RowB (w.heap.size + 3) w.heap.size (liveL pre ++ liveP x pr) M2 Y ∧ K w Y ∧ Y.heap[w1.heap.size]? = some (.deferred (some [])) ∧ Kept M V Y ∧ Grows M M2 V)
      (fun _ _ _ => False)
      (fun pr y M2 a' Y => (RowB (w.heap.size + 3) w.heap.size (liveL pre ++ liveP x pr) M2 Y ∧ K w Y ∧ Y.heap[w1.heap.size]? = some (.deferred (some [])) ∧ Kept M V Y ∧ Grows M M2 V) ∧ ∃ E, V.heap.size < E ∧ a' = { tmps := #[hp bh, undef, .slice none 0 0, .pointer (some ⟨w.heap.size, 0, none⟩), .pointer (some ⟨D, 0, none⟩), .pointer (some ⟨E, 0, none⟩), hp bh, .bool true, .bool false, hp bh, .func (.func 64) #[hp bh] #[], pgV x, pgV x, .func (.func 65) #[pgV x] #[], bkV x y, undef, undef, undef, undef, undef, undef], defers := [] } ∧ Y.heap[E]? = some (.cells (cellsB x y) 128))
      ?jI ?jIx ?jAx ?j0 ?jassign ?jbody ?jdone ?jstop
    case jI =>
      rintro s M2 A C ⟨hr1, hk1, hd1, hv1, hg1⟩ hM2 k
      exact ⟨hr1.next k (fun g hg e => by subst e; exact hM2 hg), hk1.thenKept k (by omega), k.block hd1 (by omega), hv1.thenKept k (Nat.le_refl _), hg1⟩
    case jIx =>
      rintro c s A C hf k
      exact hf
    case jAx =>
      rintro s y M2 a' A C ⟨⟨hr1, hk1, hd1, hv1, hg1⟩, E, hE, he, hy⟩ hM2 k
      exact ⟨⟨hr1.next k (fun g hg e => by subst e; exact hM2 hg), hk1.thenKept k (by omega), k.block hd1 (by omega), hv1.thenKept k (Nat.le_refl _), hg1⟩, E, hE, he, k.block hy (by omega)⟩
    case j0 => exact ⟨by simpa [liveP] using hr, hk, hd, Kept.refl _ _, fun k hk => .inl hk⟩
    case jassign =>
      rintro pr y M2 Y _ ⟨hr1, hk1, hd1, hv1, hg1⟩ _ hl
      gi_wp2
      exact ⟨(Kept.refl _ _).alloc _, ⟨hr1.keep ((K.refl Y).alloc _), hk1.alloc _, ((K.refl Y).alloc _).block hd1, hv1.alloc _, hg1⟩, _, hl, rfl, World.alloc_heap_new _ _⟩
    case jbody =>
      rintro pr y M2 a' Y hpr _ hM2 ⟨⟨hr1, hk1, hd1, hv1, hg1⟩, E, hE, rfl, hy⟩
      obtain ⟨⟨d0, d1, d2, d3, d4, d5, d6⟩, _⟩ := seven hy
      have ca := fun w => addr_any x y hok.n0 hok.n1 w
      have hmix : Tryz.prog.follows .mixedOrders = true := by kernel_rfl
      have hlp := liveP_len x hpr
      have hvy := hv1.size
      have Hr : Aside _ := hr1
      obtain ⟨v, hb, hrow, hM⟩ := hr1
      have bc := hb.cell
      have bf := hb.frozen
      have HAP : Aside (∀ V2, K Y.drew V2 → ∃ g' L cap' W3, (∀ ty, (Builtin.append_ #[23, 23] ty #[v, .slice (some ⟨V2.heap.size, 0, none⟩) 1 1]).run Tryz.prog (V2.alloc (.cells #[.int .i64 (addrI x y)] 3)) = .ok (.slice (some ⟨g', 0, none⟩) L cap') W3) ∧
          Boxed W3 w.heap.size 23 v ∧ Kept M2 Y (W3.setCell ⟨w.heap.size, 0, none⟩ (.slice (some ⟨g', 0, none⟩) L cap')) ∧ RowB (w.heap.size + 3) w.heap.size ((liveL pre ++ liveP x pr) ++ [addrI x y]) (mine w.heap.size (.slice (some ⟨g', 0, none⟩) L cap')) (W3.setCell ⟨w.heap.size, 0, none⟩ (.slice (some ⟨g', 0, none⟩) L cap')) ∧ K w (W3.setCell ⟨w.heap.size, 0, none⟩ (.slice (some ⟨g', 0, none⟩) L cap')) ∧ (W3.setCell ⟨w.heap.size, 0, none⟩ (.slice (some ⟨g', 0, none⟩) L cap')).heap[w1.heap.size]? = some (.deferred (some [])) ∧ Grows M2 (mine w.heap.size (.slice (some ⟨g', 0, none⟩) L cap')) Y) := fun V2 k2 => by
        obtain ⟨v2, g', cap', W3, e1, r⟩ := RowB.append (n₀ := w.heap.size + 3) (V := Y) Hr.out (show K Y V2 from ((K.refl Y).drew).trans k2) (by omega) (by omega) (by have := HL1.out; rw [liveP_snoc] at hlp; simp only [List.length_append, List.length_cons, List.length_nil] at hlp this ⊢; omega) (addrI x y) hk1 (Nat.le_refl _) hd1 (by omega) (by omega)
        rw [bc] at e1
        cases e1
        exact ⟨g', _, cap', W3, r⟩
      have fin : ∀ {v' : Value} {W3 : World} {M' : Nat → Prop}, (Boxed W3 w.heap.size 23 v ∧ Kept M2 Y (W3.setCell ⟨w.heap.size, 0, none⟩ v') ∧ RowB (w.heap.size + 3) w.heap.size ((liveL pre ++ liveP x pr) ++ [addrI x y]) M' (W3.setCell ⟨w.heap.size, 0, none⟩ v') ∧ K w (W3.setCell ⟨w.heap.size, 0, none⟩ v') ∧ (W3.setCell ⟨w.heap.size, 0, none⟩ v').heap[w1.heap.size]? = some (.deferred (some [])) ∧ Grows M2 M' Y) →
          Kept M2 Y (W3.setCell ⟨w.heap.size, 0, none⟩ v') ∧ ∃ M', (RowB (w.heap.size + 3) w.heap.size (liveL pre ++ liveP x (pr ++ [y])) M' (W3.setCell ⟨w.heap.size, 0, none⟩ v') ∧ K w (W3.setCell ⟨w.heap.size, 0, none⟩ v') ∧ (W3.setCell ⟨w.heap.size, 0, none⟩ v').heap[w1.heap.size]? = some (.deferred (some [])) ∧ Kept M V (W3.setCell ⟨w.heap.size, 0, none⟩ v') ∧ Grows M M' V) ∧ Grows M2 M' Y := by
        rintro v' W3 M' ⟨_, f1, f2, f3, f4, f5⟩
        refine ⟨f1, M', ⟨?_, f3, f4, Kept.grow hv1 hg1 f1, Grows.trans hg1 hvy f5⟩, f5⟩
        rw [liveP_snoc, ← List.append_assoc]
        exact f2
      refine wpIn_block ?_
      refine wpIn_region_any hmix ?_
      change wpAnyIn _ _ _ _ _ _ _ _ _ (World.drew _)
      refine wpAnyIn_ready (rs := [0, 1]) (by kernel_rfl) (by simp) ?_
      refine AllReadyIn.cons rfl (fun K hK => ?_) (AllReadyIn.cons rfl (fun K hK => ?_) AllReadyIn.nil)
      · go_simp
        refine hK _ _ ?_
        clear hK K
        refine wpAnyIn_ready (rs := [1]) (by kernel_rfl) (by simp) ?_
        refine AllReadyIn.cons rfl (fun K hK => ?_) AllReadyIn.nil
        go_simp
        refine hK _ _ ?_
        clear hK K
        refine wpAnyIn_ready (rs := [2]) (by kernel_rfl) (by simp) ?_
        refine AllReadyIn.cons rfl (fun K hK => ?_) AllReadyIn.nil
        go_simp
        refine ⟨trivial, fun h => (by cases h), ?_⟩
        refine (CallsIn.inRound _ (callsIn_wide.2 (ca _))).mono ?_
        rintro e V2 ⟨rfl, k2⟩
        refine hK _ _ ?_
        clear hK K
        obtain ⟨g', L, cap', W3, hrun, hfin⟩ := HAP.out V2 k2
        have bc2 := k2.cell bc
        have bc3 := fun o => (k2.alloc o).cell bc
        have HFIN : Aside _ := hfin
        clear hfin
        refine wpAnyIn_ready (rs := [3]) (by kernel_rfl) (by simp) ?_
        refine AllReadyIn.cons rfl (fun K hK => ?_) AllReadyIn.nil
        go_simp
        refine hK _ _ ?_
        clear hK K
        refine wpAnyIn_ready (rs := [4]) (by kernel_rfl) (by simp) ?_
        refine AllReadyIn.cons rfl (fun K hK => ?_) AllReadyIn.nil
        refine oper_append (by rfl) (by rfl) (by rfl) (hrun _) ?_
        refine hK _ _ ?_
        clear hK K
        have hc3 := HFIN.out.1.cell
        have hf3 := HFIN.out.1.frozen
        refine wpAnyIn_ready (rs := [5]) (by kernel_rfl) (by simp) ?_
        refine AllReadyIn.cons rfl (fun K hK => ?_) AllReadyIn.nil
        go_simp
        refine hK _ _ ?_
        clear hK K
        refine wpAnyIn_done (by kernel_rfl) ?_ _
        exact fin HFIN.out
      · go_simp
        refine hK _ _ ?_
        clear hK K
        refine wpAnyIn_ready (rs := [0, 2]) (by kernel_rfl) (by simp) ?_
        refine AllReadyIn.cons rfl (fun K hK => ?_) (AllReadyIn.cons rfl (fun K hK => ?_) AllReadyIn.nil)
        · go_simp
          refine hK _ _ ?_
          clear hK K
          refine wpAnyIn_ready (rs := [2]) (by kernel_rfl) (by simp) ?_
          refine AllReadyIn.cons rfl (fun K hK => ?_) AllReadyIn.nil
          go_simp
          refine ⟨trivial, fun h => (by cases h), ?_⟩
          refine (CallsIn.inRound _ (callsIn_wide.2 (ca _))).mono ?_
          rintro e V2 ⟨rfl, k2⟩
          refine hK _ _ ?_
          clear hK K
          obtain ⟨g', L, cap', W3, hrun, hfin⟩ := HAP.out V2 k2
          have bc2 := k2.cell bc
          have bc3 := fun o => (k2.alloc o).cell bc
          have HFIN : Aside _ := hfin
          clear hfin
          refine wpAnyIn_ready (rs := [3]) (by kernel_rfl) (by simp) ?_
          refine AllReadyIn.cons rfl (fun K hK => ?_) AllReadyIn.nil
          go_simp
          refine hK _ _ ?_
          clear hK K
          refine wpAnyIn_ready (rs := [4]) (by kernel_rfl) (by simp) ?_
          refine AllReadyIn.cons rfl (fun K hK => ?_) AllReadyIn.nil
          refine oper_append (by rfl) (by rfl) (by rfl) (hrun _) ?_
          refine hK _ _ ?_
          clear hK K
          have hc3 := HFIN.out.1.cell
          have hf3 := HFIN.out.1.frozen
          refine wpAnyIn_ready (rs := [5]) (by kernel_rfl) (by simp) ?_
          refine AllReadyIn.cons rfl (fun K hK => ?_) AllReadyIn.nil
          go_simp
          refine hK _ _ ?_
          clear hK K
          refine wpAnyIn_done (by kernel_rfl) ?_ _
          exact fin HFIN.out
        · go_simp
          refine ⟨trivial, fun h => (by cases h), ?_⟩
          refine (CallsIn.inRound _ (callsIn_wide.2 (ca _))).mono ?_
          rintro e V2 ⟨rfl, k2⟩
          refine hK _ _ ?_
          clear hK K
          obtain ⟨g', L, cap', W3, hrun, hfin⟩ := HAP.out V2 k2
          have bc2 := k2.cell bc
          have bc3 := fun o => (k2.alloc o).cell bc
          have HFIN : Aside _ := hfin
          clear hfin
          refine wpAnyIn_ready (rs := [0, 3]) (by kernel_rfl) (by simp) ?_
          refine AllReadyIn.cons rfl (fun K hK => ?_) (AllReadyIn.cons rfl (fun K hK => ?_) AllReadyIn.nil)
          · go_simp
            refine hK _ _ ?_
            clear hK K
            refine wpAnyIn_ready (rs := [3]) (by kernel_rfl) (by simp) ?_
            refine AllReadyIn.cons rfl (fun K hK => ?_) AllReadyIn.nil
            go_simp
            refine hK _ _ ?_
            clear hK K
            refine wpAnyIn_ready (rs := [4]) (by kernel_rfl) (by simp) ?_
            refine AllReadyIn.cons rfl (fun K hK => ?_) AllReadyIn.nil
            refine oper_append (by rfl) (by rfl) (by rfl) (hrun _) ?_
            refine hK _ _ ?_
            clear hK K
            have hc3 := HFIN.out.1.cell
            have hf3 := HFIN.out.1.frozen
            refine wpAnyIn_ready (rs := [5]) (by kernel_rfl) (by simp) ?_
            refine AllReadyIn.cons rfl (fun K hK => ?_) AllReadyIn.nil
            go_simp
            refine hK _ _ ?_
            clear hK K
            refine wpAnyIn_done (by kernel_rfl) ?_ _
            exact fin HFIN.out
          · go_simp
            refine hK _ _ ?_
            clear hK K
            refine wpAnyIn_ready (rs := [0]) (by kernel_rfl) (by simp) ?_
            refine AllReadyIn.cons rfl (fun K hK => ?_) AllReadyIn.nil
            go_simp
            refine hK _ _ ?_
            clear hK K
            refine wpAnyIn_ready (rs := [4]) (by kernel_rfl) (by simp) ?_
            refine AllReadyIn.cons rfl (fun K hK => ?_) AllReadyIn.nil
            refine oper_append (by rfl) (by rfl) (by rfl) (hrun _) ?_
            refine hK _ _ ?_
            clear hK K
            have hc3 := HFIN.out.1.cell
            have hf3 := HFIN.out.1.frozen
            refine wpAnyIn_ready (rs := [5]) (by kernel_rfl) (by simp) ?_
            refine AllReadyIn.cons rfl (fun K hK => ?_) AllReadyIn.nil
            go_simp
            refine hK _ _ ?_
            clear hK K
            refine wpAnyIn_done (by kernel_rfl) ?_ _
            exact fin HFIN.out
    case jdone =>
      rintro M2 Y ⟨hr1, hk1, hd1, hv1, hg1⟩
      gi_wp2
      exact ⟨hv1, M2, ⟨by rw [liveL_snoc]; exact hr1, hk1, hd1⟩, hg1⟩
    case jstop =>
      rintro cd pr Y _ hf
      exact hf.elim
  case hdone =>
    rintro M V ⟨⟨v, hb, hr, rfl⟩, hk, hd⟩
    have bc := hb.cell
    have kz := (Kept.refl (fun k => k = w1.heap.size) V).putObj (l := w1.heap.size) (.deferred none) (.inl rfl)
    have hr2 := ownsRow_kept hr kz (fun g hg e => by
      rcases hr.2 with ⟨rfl, _⟩ | ⟨g2, cap, cur, rfl, hb2, _⟩
      · cases hg
      · have : g = g2 := by simpa [Value.ownBlock] using hg
        omega)
    gi_wp2
    refine ⟨by simp, .inl ⟨_, _, rfl, run_takeDeferred hd, _, results_tmp rfl _ _ _, v, rfl, ⟨hr2.1, ?_⟩, Kept.putObj hk _ (.inr (by omega))⟩⟩
    rcases hr2.2 with h1 | ⟨g, cap, cur, h1, h2, h3⟩
    · exact .inl h1
    · exact .inr ⟨g, cap, cur, h1, by omega, h3⟩
  case hstop =>
    rintro cd pre V _ hf
    exact hf.elim

/-- Live, where the entries are told. -/
theorem live_any {L : List Pg} (h : St w bh bs bm q pg W L) (hl : (liveL L).length ≤ 200000) : Calls Tryz.prog 44 #[hp bh] w fun e w' => ∃ v, e = .returned v ∧ w'.ownsRow w.heap.size 3 1 v (liveL L).length ((liveL L).map encI) ∧ K w w' := by
  have := live_in 0 h.hw (by rw [h.heads]; exact hl)
  rw [h.heads] at this
  exact (callsIn_wide (n := 0)).1 this

end Hp
end Go.Proofs.YtbbjfebdihepnaaGreatDoor

/-
  A heap made since w0, and a row of addresses of one's own beside it.
-/
namespace Go.Proofs.YtbbjfebdihepnaaGreatDoor
open Go.RowKit
attribute [local go_sem ↓] Go.wp_at_zero Go.wp_at_succ
namespace Hp
variable {w0 w w' : World} {bh bs bm : Nat} {q : Int} {pg pg' : List (Int × Nat)} {W W' : Int → Int} {L L' : List Pg} {v : Value} {xs : List Int}

theorem Rn.kept (h : Rn w0 w bh bs bm q pg W L) {O : Nat → Prop} (k : Kept O w w') (hO : ∀ k, O k → ¬ Sl.foot bs bm pg k ∧ k ≠ bh ∧ k ≠ 1 ∧ w0.heap.size ≤ k) : Rn w0 w' bh bs bm q pg W L :=
  ⟨⟨h.st.hw.kept k fun j hj => ⟨(hO j hj).1, (hO j hj).2.1, (hO j hj).2.2.1⟩, h.st.ly⟩, ⟨k.os.trans h.k.os, k.tape.trans h.k.tape, k.output.trans h.k.output, Nat.le_trans h.k.size k.size, fun j hj hn => (k.same j (Nat.lt_of_lt_of_le hj h.k.size) (fun hx => by have := (hO j hx).2.2.2; omega)).trans (h.k.same j hj hn)⟩, h.lo⟩

structure Rr (w0 w : World) (bh bs bm : Nat) (q : Int) (pg : List (Int × Nat)) (W : Int → Int) (L : List Pg) (v : Value) (xs : List Int) : Prop where
  rn : Rn w0 w bh bs bm q pg W L
  row : w.ownsRow w0.heap.size 3 1 v xs.length (xs.map encI)
  ap : ∀ g, some g = v.ownBlock → ¬ Sl.foot bs bm pg g ∧ g ≠ bh
  pos : 1 < w0.heap.size

theorem own_lt {n₀ k : Nat} {t : TypeId} {ys : List Value} (h : w.ownsRow n₀ t 1 v k ys) {g : Nat} (hg : some g = v.ownBlock) : n₀ ≤ g ∧ g < w.heap.size := by
  rcases h.2 with ⟨rfl, _⟩ | ⟨g2, cap, cur, rfl, hb, hh, _⟩
  · cases hg
  · obtain rfl : g = g2 := by simpa [Value.ownBlock] using hg
    exact ⟨hb, (Array.getElem?_eq_some_iff.1 hh).1⟩

theorem Rr.first (h : Rn w0 w bh bs bm q pg W L) (h0 : 1 < w0.heap.size) : Rr w0 w bh bs bm q pg W L (.slice none 0 0) [] := ⟨h, World.ownsRow_nil _ _ _ _, (fun _ hg => nomatch hg), h0⟩

theorem Rr.keep (h : Rr w0 w bh bs bm q pg W L v xs) (k : K w w') : Rr w0 w' bh bs bm q pg W L v xs := ⟨h.rn.keep k, ownsRow_kept (O := No) h.row k (fun _ _ x => x), h.ap, h.pos⟩
theorem Rr.step (h : Rr w0 w bh bs bm q pg W L v xs) (s : St w' bh bs bm q pg' W' L') (t : Sl.Step bs bm pg pg' w w') : Rr w0 w' bh bs bm q pg' W' L' v xs := by
  refine ⟨h.rn.step s t, ownsRow_kept (O := Sl.foot bs bm pg) h.row ⟨t.os, t.tape, t.output, t.size, t.kept⟩ (fun g hg => (h.ap g hg).1), fun g hg => ⟨fun hf => ?_, (h.ap g hg).2⟩, h.pos⟩
  rcases t.inn g hf with h2 | h2
  · exact (h.ap g hg).1 h2
  · have := (own_lt h.row hg).2
    omega

/-- Behind an append. -/
theorem Rr.app (h : Rr w0 w bh bs bm q pg W L v xs) {a : Int} {o : Obj} {v' : Value} (hown : w'.ownsRow w0.heap.size 3 1 v' (xs.length + 1) (xs.map encI ++ [.int .i64 a])) (hgrow : (w.alloc o).grownBy w' v.ownBlock) (hat : v'.ownBlock = v.ownBlock ∨ v'.ownBlock = some (w.alloc o).heap.size) : Rr w0 w' bh bs bm q pg W L v' (xs ++ [a]) := by
  have hsz := hgrow.size
  simp at hsz
  have hbh : bh < w.heap.size := (Array.getElem?_eq_some_iff.1 h.rn.st.hw.hd).1
  have kk : Kept (fun k => some k = v.ownBlock) w w' := ⟨hgrow.os, hgrow.tape, hgrow.output, by omega, fun k hk hn => by
    rw [hgrow.block k (by simp; omega) hn]
    exact Below.heap_alloc w o k hk⟩
  refine ⟨h.rn.kept kk (fun k hk => ⟨(h.ap k hk).1, (h.ap k hk).2, by have := (own_lt h.row hk).1; have := h.pos; omega, (own_lt h.row hk).1⟩), ?_, fun g hg => ?_, h.pos⟩
  · rw [List.length_append, List.map_append]
    exact hown
  · rcases hat with e | e
    · exact h.ap g (by rw [← e]; exact hg)
    · rw [e] at hg
      obtain rfl : g = w.heap.size + 1 := by simpa using hg
      exact ⟨fun hf => by have := h.rn.st.hw.ar.foot_lt hf; omega, by omega⟩

theorem Rr.alloc (h : Rr w0 w bh bs bm q pg W L v xs) (x a er : Int) (L' : List Pg) (e : allocL q L x = (a, er, L')) : Calls Tryz.prog 85 #[hp bh, .int .i64 x] w fun e w' => e = .returned (.tuple #[.int .i64 a, .int .i64 er]) ∧ ∃ pg' W', Rr w0 w' bh bs bm q pg' W' L' v xs := by
  have := alloc_any h.rn.st x
  rw [e] at this
  refine this.mono ?_
  rintro e w1 ⟨rfl, pg1, W1, s1, t1, _, _⟩
  exact ⟨rfl, pg1, W1, h.step s1 t1⟩
theorem Rr.free (h : Rr w0 w bh bs bm q pg W L v xs) (a : Int) (ha : In64 a) (p : Pg) (s : Int) (L' : List Pg) (e : findB L a = some (p, s)) (e2 : dropL L p s = L') : Calls Tryz.prog 61 #[hp bh, .int .i64 a] w fun e w' => e = .returned (.int .i64 0) ∧ ∃ pg' W', Rr w0 w' bh bs bm q pg' W' L' v xs := by
  have hfr : (freeL L a).1 = 0 := by unfold freeL; rw [e]
  have := free_any h.rn.st a ha
  rw [hfr] at this
  refine this.mono ?_
  rintro e3 w1 ⟨rfl, (⟨h1, _⟩ | ⟨p', s', h1, pg1, W1, s1, t1, _⟩)⟩
  · rw [e] at h1; cases h1
  · rw [e] at h1
    obtain ⟨rfl, rfl⟩ := Prod.mk.inj (Option.some.inj h1)
    rw [e2] at s1
    exact ⟨rfl, pg1, W1, h.step s1 t1⟩
theorem Rr.room (h : Rr w0 w bh bs bm q pg W L v xs) (a : Int) (ha : In64 a) (r er : Int) (e : roomL L a = (r, er)) : Calls Tryz.prog 110 #[hp bh, .int .i64 a] w fun e w' => e = .returned (.tuple #[.int .i64 r, .int .i64 er]) ∧ Rr w0 w' bh bs bm q pg W L v xs := by
  have := room_call h.rn.st a ha
  rw [e] at this
  refine this.mono ?_
  rintro e3 w1 ⟨rfl, k1⟩
  exact ⟨rfl, h.keep k1⟩

/-- An address of the row. -/
theorem Rr.at (h : Rr w0 w bh bs bm q pg W L v xs) {i : Nat} (hi : i < xs.length) : ∃ g cap, v = .slice (some ⟨g, 0, none⟩) xs.length cap ∧ w.cell? ⟨g, i, none⟩ = some (encI xs[i]) := by
  rcases h.row.2 with ⟨_, e⟩ | ⟨g, cap, cur, e, _, hg, _, _, _, ht⟩
  · omega
  · refine ⟨g, cap, e, ?_⟩
    have h1 : (cur.toList.take (xs.length * 1))[i]? = some (encI xs[i]) := by rw [ht]; simp [hi]
    rw [List.getElem?_take] at h1
    rw [if_pos (by omega)] at h1
    simp only [World.cell?, hg]
    rw [if_neg (by simp)]
    rw [← Array.getElem?_toList]
    exact h1

end Hp
end Go.Proofs.YtbbjfebdihepnaaGreatDoor

/-
  Which addresses are blocks', on entries: what Alloc and Free do to them.
-/
namespace Go.Proofs.YtbbjfebdihepnaaGreatDoor
open Go.RowKit
namespace Hp
variable {w : World} {bh bs bm : Nat} {q : Int} {pg : List (Int × Nat)} {W : Int → Int} {L L' : List Pg}

/-- Entries as they stand in an arena. -/
structure Wl (L : List Pg) : Prop where
  ent : ∀ p ∈ L, Ent p
  srt : Srt L
  n0 : ∀ p ∈ L, 0 ≤ p.n
theorem St.wl (h : St w bh bs bm q pg W L) : Wl L := ⟨h.ly.ent, h.ly.srt, fun _ hp => (h.range hp).1⟩

/-- A block's address. -/
def Bl (L : List Pg) (a : Int) : Prop := ∃ p ∈ L, ∃ s ∈ slotsOf p, addrI p s = a

theorem slo_le (c : Int) : 0 ≤ Cl.sloI c ∧ Cl.sloI c ≤ 31 := by
  rcases Cl.siz_cases c with ⟨_, _, _, h⟩ | ⟨_, _, _, h⟩ | ⟨_, _, _, h⟩ | ⟨_, _, _, h⟩ | ⟨_, _, _, h⟩ | ⟨_, _, _, h⟩ | ⟨_, _, _, h⟩ | ⟨_, _, _, h⟩ | ⟨_, _, _, h⟩ <;> omega

theorem addr_page {p : Pg} (he : Ent p) {s : Int} (hs : s ∈ slotsOf p) : 64 * p.n + 2 ≤ addrI p s ∧ addrI p s < 64 * p.n + 64 := by
  have h1 := place_in he (slot_ok hs)
  rcases he.kind with k | k
  · have := (he.small k).2.2.2.2.2.2
    unfold addrI
    omega
  · have e : atI p s = 2 := if_pos k
    unfold addrI
    omega

theorem Wl.inj (l : Wl L) {p r : Pg} (hp : p ∈ L) (hr : r ∈ L) (e : p.n = r.n) : p = r := by
  by_cases h : p = r
  · exact h
  · have h1 := srt_apart l.srt hp hr h
    have h2 := (l.ent p hp).span
    have h3 := (l.ent r hr).span
    omega

theorem slot_inj {p : Pg} (he : Ent p) {s r : Int} (hs : s ∈ slotsOf p) (hr : r ∈ slotsOf p) (e : addrI p s = addrI p r) : s = r := by
  rcases he.kind with k | k
  · by_cases h : s = r
    · exact h
    · have h1 := slots_apart he k (slot_ok hs k) (slot_ok hr k) h
      have h2 := place_in he (slot_ok hs)
      unfold addrI at e
      omega
  · rcases mem_slots.1 hs with ⟨_, h1⟩ | ⟨h1, _⟩
    · rcases mem_slots.1 hr with ⟨_, h2⟩ | ⟨h2, _⟩
      · omega
      · omega
    · omega

theorem Wl.uniq (l : Wl L) {p r : Pg} (hp : p ∈ L) (hr : r ∈ L) {s k : Int} (hs : s ∈ slotsOf p) (hk : k ∈ slotsOf r) (e : addrI p s = addrI r k) : p = r ∧ s = k := by
  have h1 := addr_page (l.ent p hp) hs
  have h2 := addr_page (l.ent r hr) hk
  have h3 := l.inj hp hr (by omega)
  subst h3
  exact ⟨rfl, slot_inj (l.ent p hp) hs hk e⟩

theorem find_some_of {α : Type} {f : α → Bool} : ∀ {l : List α} {x : α}, x ∈ l → f x = true → ∃ y, l.find? f = some y
  | a :: l, x, hx, hf => by
    rw [List.find?_cons]
    cases h : f a with
    | true => exact ⟨a, rfl⟩
    | false =>
      rcases List.mem_cons.1 hx with rfl | hx
      · rw [hf] at h; cases h
      · exact find_some_of hx hf

theorem Wl.find (l : Wl L) {p : Pg} (hp : p ∈ L) {s : Int} (hs : s ∈ slotsOf p) : findB L (addrI p s) = some (p, s) := by
  have h1 := addr_page (l.ent p hp) hs
  have h0 := l.n0 p hp
  have hd : (addrI p s).tdiv 64 = p.n := by
    rw [Int.tdiv_eq_ediv_of_nonneg (by omega)]
    omega
  obtain ⟨r, hr⟩ := find_some_of (f := fun r : Pg => r.n == (addrI p s).tdiv 64) hp (by rw [hd]; simp)
  obtain ⟨k, hk⟩ := find_some_of (f := fun k : Int => addrI p k == addrI p s) hs (by simp)
  have e1 : r = p := l.inj (List.mem_of_find?_eq_some hr) hp (by have := List.find?_some hr; rw [hd] at this; simpa using this)
  subst e1
  have e2 : k = s := slot_inj (l.ent r hp) (List.mem_of_find?_eq_some hk) hs (by simpa using List.find?_some hk)
  subst e2
  unfold findB pgOf slOf
  rw [hr, Option.bind_some, hk]
  rfl

theorem Wl.find_iff (l : Wl L) {a : Int} : Bl L a ↔ ∃ ps, findB L a = some ps := by
  constructor
  · rintro ⟨p, hp, s, hs, rfl⟩
    exact ⟨_, l.find hp hs⟩
  · rintro ⟨⟨p, s⟩, h⟩
    obtain ⟨h1, h2, h3⟩ := findB_some h
    exact ⟨p, h1, s, h2, h3⟩
theorem Wl.none (l : Wl L) {a : Int} (h : ¬ Bl L a) : findB L a = none := by
  cases e : findB L a with
  | none => rfl
  | some ps => exact absurd (l.find_iff.2 ⟨ps, e⟩) h

theorem Wl.empty (l : Wl L) (h : ∀ a, ¬ Bl L a) : L = [] := by
  cases L with
  | nil => rfl
  | cons p L =>
    exfalso
    have hp : p ∈ p :: L := by simp
    have he := l.ent p hp
    rcases he.kind with k | k
    · obtain ⟨c0, c1, t0, u, hc, _⟩ := he.small k
      have hsl := slo_le p.cls
      refine t0 ((zero_iff u hsl.1 hsl.2 hc).2 fun j j0 j1 => ?_)
      cases hj : Bt.hasI p.taken j with
      | false => rfl
      | true => exact absurd ⟨p, hp, j, mem_slots.2 (.inr ⟨k, j0, j1, hj⟩), rfl⟩ (h (addrI p j))
    · exact h _ ⟨p, hp, 0, mem_slots.2 (.inl ⟨k, rfl⟩), rfl⟩

theorem Wl.upd_mem (l : Wl L) {p p' : Pg} (hp : p ∈ L) {r : Pg} : r ∈ updL L p.n p' ↔ r = p' ∨ (r ∈ L ∧ r ≠ p) := by
  constructor
  · intro h
    rcases mem_upd h with h | ⟨h, hne⟩
    · exact .inl h
    · exact .inr ⟨h, fun e => hne (by rw [e])⟩
  · intro h
    unfold updL
    rw [List.mem_map]
    rcases h with rfl | ⟨h, hne⟩
    · exact ⟨p, hp, if_pos rfl⟩
    · exact ⟨r, h, if_neg fun e => hne (l.inj h hp e)⟩

theorem mem_slots_set {p : Pg} (h1 : p.kind = 1) {s k : Int} (s0 : 0 ≤ s) (s1 : s < Cl.sloI p.cls) : k ∈ slotsOf (withT p (Bt.setI p.taken s)) ↔ k = s ∨ k ∈ slotsOf p := by
  have hsl := (slo_le p.cls).2
  rw [mem_slots, mem_slots]
  show (p.kind = 2 ∧ _) ∨ (p.kind = 1 ∧ 0 ≤ k ∧ k < Cl.sloI p.cls ∧ Bt.hasI (Bt.setI p.taken s) k = true) ↔ _
  constructor
  · rintro (⟨h, _⟩ | ⟨_, k0, k1, h⟩)
    · omega
    · rw [has_set (N_of s0 s1 hsl) (N_of k0 k1 hsl)] at h
      simp only [Bool.or_eq_true, decide_eq_true_eq] at h
      rcases h with h | h
      · exact .inr (.inr ⟨h1, k0, k1, h⟩)
      · exact .inl h
  · rintro (rfl | ⟨h, _⟩ | ⟨_, k0, k1, h⟩)
    · refine .inr ⟨h1, s0, s1, ?_⟩
      rw [has_set (N_of s0 s1 hsl) (N_of s0 s1 hsl)]
      simp
    · omega
    · refine .inr ⟨h1, k0, k1, ?_⟩
      rw [has_set (N_of s0 s1 hsl) (N_of k0 k1 hsl), h]
      rfl
theorem mem_slots_clr {p : Pg} (h1 : p.kind = 1) {s k : Int} (s0 : 0 ≤ s) (s1 : s < Cl.sloI p.cls) : k ∈ slotsOf (withT p (Bt.clrI p.taken s)) ↔ k ≠ s ∧ k ∈ slotsOf p := by
  have hsl := (slo_le p.cls).2
  rw [mem_slots, mem_slots]
  show (p.kind = 2 ∧ _) ∨ (p.kind = 1 ∧ 0 ≤ k ∧ k < Cl.sloI p.cls ∧ Bt.hasI (Bt.clrI p.taken s) k = true) ↔ _
  constructor
  · rintro (⟨h, _⟩ | ⟨_, k0, k1, h⟩)
    · omega
    · rw [has_clr (N_of s0 s1 hsl) (N_of k0 k1 hsl)] at h
      simp only [Bool.and_eq_true, Bool.not_eq_true', decide_eq_false_iff_not] at h
      exact ⟨h.2, .inr ⟨h1, k0, k1, h.1⟩⟩
  · rintro ⟨hne, (⟨h, _⟩ | ⟨_, k0, k1, h⟩)⟩
    · omega
    · refine .inr ⟨h1, k0, k1, ?_⟩
      rw [has_clr (N_of s0 s1 hsl) (N_of k0 k1 hsl), h]
      simp [hne]

/-- A free place is no block's. -/
theorem Wl.free_not (l : Wl L) {p : Pg} (hp : p ∈ L) (h1 : p.kind = 1) {s : Int} (s0 : 0 ≤ s) (s1 : s < Cl.sloI p.cls) (hf : Bt.hasI p.taken s = false) : ¬ Bl L (addrI p s) := by
  rintro ⟨r, hr, k, hk, e⟩
  have h2 := addr_page (l.ent r hr) hk
  have h3 := place_in (l.ent p hp) (s := s) (fun _ => ⟨s0, s1⟩)
  have h4 := ((l.ent p hp).small h1).2.2.2.2.2.2
  have h5 : r = p := l.inj hr hp (by unfold addrI at e h2; omega)
  subst h5
  have h6 := slot_ok hk h1
  by_cases hks : k = s
  · subst hks
    rcases mem_slots.1 hk with ⟨h, _⟩ | ⟨_, _, _, h⟩
    · omega
    · rw [hf] at h; cases h
  · have h7 := slots_apart (l.ent r hr) h1 h6 ⟨s0, s1⟩ hks
    have h8 := place_in (l.ent r hr) (s := k) (fun _ => h6)
    unfold addrI at e
    omega

theorem Wl.bl_set (l : Wl L) {p : Pg} (hp : p ∈ L) (h1 : p.kind = 1) {s : Int} (s0 : 0 ≤ s) (s1 : s < Cl.sloI p.cls) (b : Int) : Bl (updL L p.n (withT p (Bt.setI p.taken s))) b ↔ b = addrI p s ∨ Bl L b := by
  constructor
  · rintro ⟨r, hr, k, hk, e⟩
    rcases (l.upd_mem hp).1 hr with rfl | ⟨h, hne⟩
    · rcases (mem_slots_set h1 s0 s1).1 hk with rfl | hk
      · exact .inl e.symm
      · exact .inr ⟨p, hp, k, hk, e⟩
    · exact .inr ⟨r, h, k, hk, e⟩
  · rintro (rfl | ⟨r, hr, k, hk, e⟩)
    · exact ⟨_, (l.upd_mem hp).2 (.inl rfl), s, (mem_slots_set h1 s0 s1).2 (.inl rfl), rfl⟩
    · by_cases hrp : r = p
      · subst hrp
        exact ⟨_, (l.upd_mem hp).2 (.inl rfl), k, (mem_slots_set h1 s0 s1).2 (.inr hk), e⟩
      · exact ⟨r, (l.upd_mem hp).2 (.inr ⟨hr, hrp⟩), k, hk, e⟩

theorem bl_ins {p : Pg} (hs : ∀ k, k ∈ slotsOf p ↔ k = 0) (b : Int) : Bl (insL p L) b ↔ b = addrI p 0 ∨ Bl L b := by
  constructor
  · rintro ⟨r, hr, k, hk, e⟩
    rcases mem_insL.1 hr with rfl | h
    · rw [(hs k).1 hk] at e
      exact .inl e.symm
    · exact .inr ⟨r, h, k, hk, e⟩
  · rintro (rfl | ⟨r, hr, k, hk, e⟩)
    · exact ⟨p, mem_insL.2 (.inl rfl), 0, (hs 0).2 rfl, rfl⟩
    · exact ⟨r, mem_insL.2 (.inr hr), k, hk, e⟩

theorem Wl.fit_not (l : Wl L) {m : Int} (hm : 1 ≤ m) {a : Int} (h0 : 64 * fit m 0 L ≤ a) (h1 : a < 64 * fit m 0 L + 64) : ¬ Bl L a := by
  rintro ⟨p, hp, s, hs, rfl⟩
  have h2 := addr_page (l.ent p hp) hs
  have h3 := (l.ent p hp).span
  obtain ⟨_, h4, _⟩ := fit_spec hm L 0 l.srt (fun p hp => (l.ent p hp).span.1) l.n0
  exact h4 (fit m 0 L) (Int.le_refl _) (by omega) ⟨p, hp, by omega, by omega⟩

theorem slots_smallPg {c n : Int} (h0 : 0 ≤ c) (h1 : c ≤ 7) (k : Int) : k ∈ slotsOf (smallPg n c) ↔ k = 0 := by
  have e : slotsOf (smallPg n c) = slotsOf (smallPg 0 c) := rfl
  rw [e]
  have e2 : slotsOf (smallPg 0 c) = [0] := by
    have hc : c = 0 ∨ c = 1 ∨ c = 2 ∨ c = 3 ∨ c = 4 ∨ c = 5 ∨ c = 6 ∨ c = 7 := by omega
    rcases hc with rfl | rfl | rfl | rfl | rfl | rfl | rfl | rfl <;> decide +kernel
  rw [e2]
  simp

theorem granted_add (p : Pg) : ∀ L, granted (insL p L) = granted L + p.span
  | [] => by simp [insL, granted]
  | r :: L => by
    unfold insL
    split
    · simp [granted]; omega
    · have := granted_add p L
      simp [granted] at this ⊢
      omega
theorem granted_upd {n : Int} {p' : Pg} : ∀ {L : List Pg}, (∀ r ∈ L, r.n = n → r.span = p'.span) → granted (updL L n p') = granted L
  | [], _ => rfl
  | r :: L, h => by
    have ih := granted_upd (n := n) (p' := p') (L := L) (fun r hr => h r (by simp [hr]))
    have h1 := h r (by simp)
    simp only [granted, updL, List.map_cons, List.sum_cons] at ih ⊢
    rw [ih]
    split
    · rename_i hn
      rw [h1 hn]
    · rfl

/-- What Alloc does to the blocks' addresses. -/
theorem Wl.alloc (l : Wl L) {q x a er : Int} {L' : List Pg} (hx : 1 ≤ x ∧ x ≤ 4000) (hq : (granted L + 63) * 64 ≤ q) (e : allocL q L x = (a, er, L')) : er = 0 ∧ ¬ Bl L a ∧ (∀ b, Bl L' b ↔ b = a ∨ Bl L b) ∧ granted L' ≤ granted L + 63 ∧ ∃ p s, (p ∈ L' ∧ s ∈ slotsOf p ∧ addrI p s = a) ∧ x ≤ roomI p := by
  unfold allocL at e
  rw [if_pos hx] at e
  cases hs : Cl.smaI x with
  | true =>
    rw [hs] at e
    simp only [if_true] at e
    obtain ⟨c0, c1, c2⟩ := cls_in hx hs
    cases hf : freeB L (Cl.clsI x) with
    | some ps =>
      obtain ⟨p, s⟩ := ps
      rw [hf] at e
      obtain ⟨hp, h1, hc, s0, s1, hh⟩ := freeB_some hf
      rw [← hc] at s1
      simp only [Prod.mk.injEq] at e
      obtain ⟨rfl, rfl, rfl⟩ := e
      refine ⟨rfl, l.free_not hp h1 s0 s1 hh, l.bl_set hp h1 s0 s1, ?_, withT p (Bt.setI p.taken s), s, ⟨(l.upd_mem hp).2 (.inl rfl), (mem_slots_set h1 s0 s1).2 (.inl rfl), rfl⟩, ?_⟩
      · rw [granted_upd fun r hr e => by rw [l.inj hr hp e]; rfl]
        omega
      · show x ≤ if p.kind = 2 then _ else Cl.sizI p.cls
        rw [if_neg (by omega), hc]
        exact c2
    | none =>
      rw [hf] at e
      simp only [] at e
      rw [if_pos (by omega)] at e
      simp only [Prod.mk.injEq] at e
      obtain ⟨rfl, rfl, rfl⟩ := e
      have ha := addr_page (ent_smallPg (fit 1 0 L) c0 c1) ((slots_smallPg c0 c1 0).2 rfl)
      have hn : (smallPg (fit 1 0 L) (Cl.clsI x)).n = fit 1 0 L := rfl
      refine ⟨rfl, l.fit_not (m := 1) (by omega) (by omega) (by omega), bl_ins (slots_smallPg c0 c1), ?_, _, 0, ⟨mem_insL.2 (.inl rfl), (slots_smallPg c0 c1 0).2 rfl, rfl⟩, c2⟩
      rw [granted_add]
      show granted L + 1 ≤ _
      omega
  | false =>
    rw [hs] at e
    have hpg : Cl.pagI x = (x + 65) / 64 := if_pos hx
    simp only [Bool.false_eq_true, if_false] at e
    rw [if_pos (by omega)] at e
    simp only [Prod.mk.injEq] at e
    obtain ⟨rfl, rfl, rfl⟩ := e
    have hsl : ∀ k, k ∈ slotsOf (largePg (fit (Cl.pagI x) 0 L) x) ↔ k = 0 := fun k => by
      rw [mem_slots]
      simp [largePg]
    have ha : addrI (largePg (fit (Cl.pagI x) 0 L) x) 0 = fit (Cl.pagI x) 0 L * 64 + 2 := rfl
    refine ⟨rfl, l.fit_not (m := Cl.pagI x) (by omega) (by omega) (by omega), bl_ins hsl, ?_, _, 0, ⟨mem_insL.2 (.inl rfl), (hsl 0).2 rfl, rfl⟩, Int.le_refl _⟩
    rw [granted_add]
    show granted L + Cl.pagI x ≤ _
    omega

/-- What Free does to them. -/
theorem Wl.free (l : Wl L) {a : Int} {p : Pg} {s : Int} (h : findB L a = some (p, s)) (b : Int) : Bl (dropL L p s) b ↔ b ≠ a ∧ Bl L b := by
  obtain ⟨hp, hs, rfl⟩ := findB_some h
  have he := l.ent p hp
  have del : (∀ k, k ∈ slotsOf p → k = s) → (Bl (delL L p.n) b ↔ b ≠ addrI p s ∧ Bl L b) := fun hall => by
    constructor
    · rintro ⟨r, hr, k, hk, rfl⟩
      obtain ⟨h1, h2⟩ := mem_delL.1 hr
      exact ⟨fun e => h2 (by rw [(l.uniq h1 hp hk hs e).1]), r, h1, k, hk, rfl⟩
    · rintro ⟨hne, r, hr, k, hk, rfl⟩
      refine ⟨r, mem_delL.2 ⟨hr, fun e => ?_⟩, k, hk, rfl⟩
      have := l.inj hr hp e
      subst this
      exact hne (by rw [hall k hk])
  unfold dropL
  rcases he.kind with k1 | k2
  · rw [if_neg (by omega)]
    obtain ⟨s0, s1⟩ := slot_ok hs k1
    obtain ⟨c0, c1, t0, u, hc, _⟩ := he.small k1
    have hsl := slo_le p.cls
    split
    · rename_i hz
      refine del fun k hk => ?_
      by_cases hks : k = s
      · exact hks
      · have h3 := (mem_slots_clr k1 s0 s1 (k := k)).2 ⟨hks, hk⟩
        rw [hz] at h3
        rcases mem_slots.1 h3 with ⟨h4, _⟩ | ⟨_, k0, k1', h4⟩
        · have : p.kind = 2 := h4
          omega
        · have h5 : Bt.hasI 0 k = true := h4
          have h6 := (zero_iff (t := 0) (n := Cl.sloI p.cls) ⟨by decide, by decide⟩ hsl.1 hsl.2 (by rw [← hz]; exact cut_clr u hsl.1 hsl.2 hc s0 s1)).1 rfl k k0 k1'
          rw [h5] at h6
          cases h6
    · constructor
      · rintro ⟨r, hr, k, hk, rfl⟩
        rcases (l.upd_mem hp).1 hr with rfl | ⟨h1, hne⟩
        · obtain ⟨h2, h3⟩ := (mem_slots_clr k1 s0 s1).1 hk
          exact ⟨fun e => h2 (slot_inj he h3 hs e), p, hp, k, h3, rfl⟩
        · exact ⟨fun e => hne (l.uniq h1 hp hk hs e).1, r, h1, k, hk, rfl⟩
      · rintro ⟨hne, r, hr, k, hk, rfl⟩
        by_cases hrp : r = p
        · subst hrp
          exact ⟨_, (l.upd_mem hp).2 (.inl rfl), k, (mem_slots_clr k1 s0 s1).2 ⟨fun e => hne (by rw [e]), hk⟩, rfl⟩
        · exact ⟨r, (l.upd_mem hp).2 (.inr ⟨hr, hrp⟩), k, hk, rfl⟩
  · rw [if_pos k2]
    refine del fun k hk => ?_
    rcases mem_slots.1 hk with ⟨_, h1⟩ | ⟨h1, _⟩
    · rcases mem_slots.1 hs with ⟨_, h2⟩ | ⟨h2, _⟩
      · omega
      · omega
    · omega

end Hp
end Go.Proofs.YtbbjfebdihepnaaGreatDoor
