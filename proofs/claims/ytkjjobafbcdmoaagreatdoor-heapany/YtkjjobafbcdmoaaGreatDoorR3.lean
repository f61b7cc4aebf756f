/-
  The reference's heap at a block: what a call on it may turn; its row of entries cut, appended to, stored anew.
-/
import Derived.Test.YtkjjobafbcdmoaaGreatDoorR2
import Derived.Deep.AppendSrc
namespace Go.Proofs.YtkjjobafbcdmoaaGreatDoor
open Go.RowKit Go.Maps
namespace Hp
variable {w w' : World} {br : Nat} {q : Int} {a : Option Addr} {cap : Nat} {E E' : List Re}

/-- The reference's heap at block br. -/
structure Rf (w : World) (br : Nat) (q : Int) (a : Option Addr) (cap : Nat) (E : List Re) : Prop where
  s0 : w.heap[br]? = some (.cells #[.int .i64 q, .slice a E.length cap] 46)
  row : w.ownsRow 0 94 36 (.slice a E.length cap) E.length (reVals E)

/-- What a call on the reference may do: block br turns, and new blocks come. -/
abbrev RSt (br : Nat) (w w' : World) : Prop := Kept (fun k => k = br) w w'
theorem RSt.ofK (h : K w w') : RSt br w w' := Kept.mono h (fun _ _ hk => hk.elim)

theorem Rf.c0 (h : Rf w br q a cap E) : w.cell? ⟨br, 0, none⟩ = some (.int .i64 q) := by simp [World.cell?, h.s0]
theorem Rf.c1 (h : Rf w br q a cap E) : w.cell? ⟨br, 1, none⟩ = some (.slice a E.length cap) := by simp [World.cell?, h.s0]
theorem Rf.fz (h : Rf w br q a cap E) : w.frozen? ⟨br, 1, none⟩ = false := by simp [World.frozen?, h.s0]
theorem Rf.lt (h : Rf w br q a cap E) : br < w.heap.size := (Array.getElem?_eq_some_iff.1 h.s0).1
/-- The row lies in no block of the struct's. -/
theorem Rf.ne (h : Rf w br q a cap E) {k : Nat} (hk : (Value.slice a E.length cap).ownBlock = some k) : k ≠ br := by
  rcases h.row.2 with ⟨hv, _⟩ | ⟨g, c, cur, hv, _, hh, _⟩
  · rw [hv] at hk
    cases hk
  · rw [hv] at hk
    obtain rfl : g = k := Option.some.inj hk
    intro e
    subst e
    rw [h.s0] at hh
    injection hh with hh
    injection hh with _ h2 _
    exact absurd h2 (by decide)
theorem Rf.keep (h : Rf w br q a cap E) (k : K w w') : Rf w' br q a cap E := ⟨k.block h.s0, ownsRow_keepR h.row k⟩
theorem rowE_of {B : Nat} (h : w.ownsRow B 94 36 (.slice a E.length cap) E.length (reVals E)) : ∃ g, RowE w g a cap E ∧ (a = some ⟨g, 0, none⟩ ∨ (a = none ∧ E.length = 0 ∧ cap = 0)) ∧ E.length ≤ cap := by
  obtain ⟨g, a', cap', hv, hr, hf, hc, _⟩ := rowE_form h
  cases hv
  refine ⟨g, hr, ?_, hc⟩
  rcases hf with ⟨h1, _⟩ | ⟨h1, h2, h3⟩
  · exact .inl h1
  · exact .inr ⟨h1, by rw [h2]; rfl, h3⟩
theorem Rf.form (h : Rf w br q a cap E) : ∃ g, RowE w g a cap E ∧ (a = some ⟨g, 0, none⟩ ∨ (a = none ∧ E.length = 0 ∧ cap = 0)) ∧ E.length ≤ cap := rowE_of h.row

theorem row_zero {base n : Nat} {v : Value} {xs : List Value} (h : w.ownsRow base 94 36 v n xs) : w.ownsRow 0 94 36 v n xs :=
  ⟨h.1, h.2.imp id fun ⟨g, c, cur, h1, _, r⟩ => ⟨g, c, cur, h1, Nat.zero_le _, r⟩⟩

/-- Its slice is stored anew. -/
theorem Rf.store {w1 : World} {v : Value} {base : Nat} (h : Rf w br q a cap E) (hb : K w w1) (hrow : w1.ownsRow base 94 36 v E'.length (reVals E')) (hne : ∀ k, v.ownBlock = some k → w.heap.size ≤ k) :
    ∃ a' cap', v = .slice a' E'.length cap' ∧ Rf (w1.setCell ⟨br, 1, none⟩ v) br q a' cap' E' ∧ RSt br w (w1.setCell ⟨br, 1, none⟩ v) := by
  have hv : ∃ a' cap', v = .slice a' E'.length cap' := by
    rcases hrow.2 with ⟨hv, h0⟩ | ⟨g, c, cur, hv, _⟩
    · exact ⟨none, 0, by rw [hv, h0]⟩
    · exact ⟨_, _, hv⟩
  obtain ⟨a', cap', rfl⟩ := hv
  have hbr : w1.heap[br]? = some (.cells #[.int .i64 q, .slice a E.length cap] 46) := hb.block h.s0
  refine ⟨a', cap', rfl, ⟨?_, ⟨hrow.1, ?_⟩⟩, Kept.setCell (RSt.ofK hb) _ (.inl rfl)⟩
  · rw [heap_setCell_same w1 br 1 _ _ _ hbr]
    rfl
  · rcases hrow.2 with h2 | ⟨g, c, cur, hv, hg, hh, r⟩
    · exact Or.inl h2
    · refine Or.inr ⟨g, c, cur, hv, Nat.zero_le _, ?_, r⟩
      rw [Below.heap_setCell _ _ _ _ (by have h1 := hne g (by rw [hv]; rfl); have h2 := h.lt; show g ≠ br; omega)]
      exact hh

theorem run_cut_lo (a : Option Addr) (g len cap k : Nat) (ha : a = some ⟨g, 0, none⟩ ∨ (a = none ∧ len = 0 ∧ cap = 0)) (h1 : k ≤ len) (h2 : len ≤ cap) (w : World) : (Instr.slice 44 (.slice a len cap) none (some (.int .i64 (k : Int))) none).run Tryz.prog w = .ok (.slice a k cap) w := by
  have hel : Tryz.prog.elem 44 = 94 := by kernel_rfl
  have hsz : (sizeOf 94).run Tryz.prog w = .ok 36 w := by kernel_rfl
  have hu : Tryz.prog.underlying 44 = some (.slice (Tryz.prog.elem 44)) := by kernel_rfl
  rw [run_slice_h (P := Tryz.prog) w 44 a len cap hu .i64 k (by omega) (by omega), hel, hsz]
  simp only [Result.andThen_ok, sliced, Int.toNat_natCast, Nat.zero_mul, Nat.sub_zero]
  rcases ha with rfl | ⟨rfl, _, rfl⟩
  · split <;> simp [Addr.add]
  · simp

/-- The entries from k on are there behind L[k:]. -/
theorem run_cut_hi (a : Option Addr) (g len cap k : Nat) (ha : a = some ⟨g, 0, none⟩ ∨ (a = none ∧ len = 0 ∧ cap = 0)) (h1 : k ≤ len) (h2 : len ≤ cap) :
    ∃ oa, (∀ w, (Instr.slice 44 (.slice a len cap) (some (.int .i64 (k : Int))) none none).run Tryz.prog w = .ok (.slice oa (len - k) (cap - k)) w) ∧ ((oa = none ∧ len = k) ∨ oa = some ⟨g, k * 36, none⟩ ∨ (len = k ∧ ∃ x, oa = some x)) := by
  have hel : Tryz.prog.elem 44 = 94 := by kernel_rfl
  have hsz : ∀ w, (sizeOf 94).run Tryz.prog w = .ok 36 w := fun w => by kernel_rfl
  have hu : Tryz.prog.underlying 44 = some (.slice (Tryz.prog.elem 44)) := by kernel_rfl
  refine ⟨if cap = k then a else a.map (fun x => x.add (k * 36)), fun w => ?_, ?_⟩
  · rw [run_slice_l (P := Tryz.prog) w 44 a len cap hu .i64 k (by omega) (by omega), hel, hsz]
    simp only [Result.andThen_ok, sliced, Int.toNat_natCast]
  · rcases ha with rfl | ⟨rfl, rfl, rfl⟩
    · by_cases e : cap = k
      · rw [if_pos e]
        exact Or.inr (Or.inr ⟨by omega, _, rfl⟩)
      · rw [if_neg e]
        refine Or.inr (Or.inl ?_)
        simp only [Option.map_some]
        rw [Go.WideShapes.add_plain, Nat.zero_add]
    · refine Or.inl ⟨?_, by omega⟩
      split <;> rfl

/-- What is appended: no entry of a nil slice, or the cells behind an address. -/
def SrcR (w : World) (oa : Option Addr) (m : Nat) (news : List Value) : Prop := (oa = none ∧ m = 0 ∧ news = []) ∨ ∃ ad, oa = some ad ∧ ∀ j u, news[j]? = some u → w.cell? (ad.add j) = some u

theorem src_lo {g : Nat} (h : RowE w g a cap E) (ha : a = some ⟨g, 0, none⟩ ∨ (a = none ∧ E.length = 0 ∧ cap = 0)) (k : Nat) (hk : k ≤ E.length) : SrcR w a k (reVals (E.take k)) := by
  rcases ha with ha | ⟨ha, h0, _⟩
  · refine Or.inr ⟨_, ha, fun j u hu => ?_⟩
    rw [Go.WideShapes.add_plain, Nat.zero_add]
    have hj := (List.getElem?_eq_some_iff.1 hu).1
    rw [← reVals_take E k hk] at hu hj
    rw [List.getElem?_take_of_lt (by have := List.length_take_le (k * 36) (reVals E); omega)] at hu
    exact h.cell j u hu
  · obtain rfl : k = 0 := by omega
    exact Or.inl ⟨ha, rfl, rfl⟩

theorem src_hi {g : Nat} (h : RowE w g a cap E) (k : Nat) (hk : k ≤ E.length) {oa : Option Addr} (ho : (oa = none ∧ E.length = k) ∨ oa = some ⟨g, k * 36, none⟩ ∨ (E.length = k ∧ ∃ x, oa = some x)) : SrcR w oa (E.length - k) (reVals (E.drop k)) := by
  have hnil : E.length = k → reVals (E.drop k) = [] := fun e => by rw [List.drop_eq_nil_of_le (by omega)]; rfl
  rcases ho with ⟨rfl, e⟩ | rfl | ⟨e, x, rfl⟩
  · exact Or.inl ⟨rfl, by omega, hnil e⟩
  · refine Or.inr ⟨_, rfl, fun j u hu => ?_⟩
    rw [Go.WideShapes.add_plain]
    rw [← reVals_drop E k hk, List.getElem?_drop] at hu
    exact h.cell _ u hu
  · refine Or.inr ⟨x, rfl, fun j u hu => ?_⟩
    rw [hnil e] at hu
    simp at hu

theorem info_refpage : ∃ i0, Tryz.prog.info? 94 = some i0 ∧ i0.size = 36 ∧ i0.bytes = 64 ∧ ∃ z, i0.zero = some z ∧ z.cells.size = 36 := by
  have hi : (Tryz.prog.info? 94).map (fun i => (i.zero.map (fun z => z.cells.size), i.size, i.bytes)) = some (some 36, 36, 64) := by kernel_rfl
  obtain ⟨i0, h1, h2⟩ := Option.map_eq_some_iff.1 hi
  simp only [Prod.mk.injEq] at h2
  obtain ⟨h3, h4, h5⟩ := h2
  obtain ⟨z, h6, h7⟩ := Option.map_eq_some_iff.1 h3
  exact ⟨i0, h1, h4, h5, z, h6, h7⟩

theorem run_append_nil (g n cap c : Nat) (hn : n ≤ cap) (ty : TypeId) (w : World) : (Builtin.append_ #[44, 44] ty #[.slice (some ⟨g, 0, none⟩) n cap, .slice none 0 c]).run Tryz.prog w = .ok (.slice (some ⟨g, 0, none⟩) n cap) w := by
  obtain ⟨i0, hi, hs, _, _⟩ := info_refpage
  have := run_append_room_src (P := Tryz.prog) w 44 44 ty 94 i0 Tryz.underlying44 hi g 0 n cap (.slice none 0 c) 0 [] (Src.ofNil w Tryz.underlying44 c) (by omega) (fun j hj => by simp at hj) (fun j hj => by simp at hj)
  simpa [World.setCells] using this

theorem wpList_append_res {ops : Array Oper} {rest : List Oper} {o : Oper} {ac : Act} {Q : Exit → Act → World → Prop} (w : World) (hgd : o.guard = none) (s x : Operand)
    (ho : o.op = .call { callee := .builtin .append, args := #[s, x], argTypes := #[44, 44] })
    (base : Nat) (v : Value) (n : Nat) (xs : List Value) (hs : ac.eval s = v) (hown : w.ownsRow base 94 36 v n xs) (hv : v.ownBlock.isSome = true)
    (oa : Option Addr) (m c : Nat) (news : List Value) (hx : ac.eval x = .slice oa m c) (hl : news.length = m * 36) (hsrc : SrcR w oa m news) (h1 : ∀ u ∈ news, u.oneCell' = true) (hb : n + m ≤ 100000) (hbase : base ≤ w.heap.size)
    (h : ∀ v' w', w'.ownsRow base 94 36 v' (n + m) (xs ++ news) → w.grownBy w' v.ownBlock → (v'.ownBlock = v.ownBlock ∨ v'.ownBlock = some w.heap.size) → wpList Tryz.prog ops Q rest (ac.put o.dst v') w') :
    wpList Tryz.prog ops Q (o :: rest) ac w := by
  obtain ⟨i0, hi, hsz, hby, z, hz, hzs⟩ := info_refpage
  rcases hsrc with ⟨rfl, rfl, rfl⟩ | ⟨ad, rfl, hc⟩
  · refine wpList_plain hgd fun K hK => ?_
    rcases hown.2 with ⟨rfl, _⟩ | ⟨g, cap, cur, hvv, r1, r2, r3, r4⟩
    · cases hv
    · have hrun := run_append_nil g n cap c r3 o.type w
      rw [← hvv] at hrun
      unfold Oper.wp execOp
      simp only [ho, resolve, invoke, builtin, Sem.run_bind, Sem.run_pure, Result.andThen_ok, List.map_toArray, List.map_cons, List.map_nil, hs, hx, hrun]
      refine hK _ _ (h v w ?_ ⟨rfl, rfl, rfl, Nat.le_refl _, fun _ _ _ => rfl⟩ (Or.inl rfl))
      simpa using hown
  · exact wpList_append_own_at w hgd s x 44 ho base 94 i0 z 36 64 Tryz.underlying44 hi hz hsz hby hzs (by decide) v n xs hs hown ad m c news hx hl hc h1 (by unfold maxLen; omega) (by omega) hbase (fun v' w' r1 r2 _ r4 => h v' w' r1 r2 r4)

/-- One part that covers all: it is what is laid. -/
theorem fold_set (l : List Value) : ∀ (k : Nat) (cs : Array Value), k + l.length ≤ cs.size →
    ((l.zipIdx k).foldl (fun cs p => cs.setIfInBounds p.2 p.1) cs).size = cs.size ∧ ∀ i, ((l.zipIdx k).foldl (fun cs p => cs.setIfInBounds p.2 p.1) cs)[i]? = if k ≤ i ∧ i < k + l.length then l[i - k]? else cs[i]? := by
  induction l with
  | nil =>
    intro k cs h
    refine ⟨rfl, fun i => ?_⟩
    rw [if_neg (by simp)]
    rfl
  | cons c l ih =>
    intro k cs h
    simp only [List.length_cons] at h
    simp only [List.zipIdx_cons, List.foldl_cons]
    obtain ⟨h1, h2⟩ := ih (k + 1) (cs.setIfInBounds k c) (by simp; omega)
    refine ⟨by rw [h1]; simp, fun i => ?_⟩
    rw [h2 i]
    by_cases e : i = k
    · subst e
      rw [if_neg (by omega), if_pos (by simp)]
      simp [Array.getElem?_setIfInBounds]
      omega
    · by_cases hi : k + 1 ≤ i ∧ i < k + 1 + l.length
      · rw [if_pos hi, if_pos (by simp; omega), show i - k = (i - (k + 1)) + 1 from by omega]
        simp
      · rw [if_neg hi, if_neg (by simp; omega), Array.getElem?_setIfInBounds, if_neg (by omega)]

theorem run_buildSlice_re (cells : Array Value) (hsz : cells.size = 36) (w : World) : (Instr.buildSlice 44 1 #[(0, .agg cells)]).run Tryz.prog w = .ok (.slice (some ⟨w.heap.size, 0, none⟩) 1 1) (w.alloc (.cells cells 94)) := by
  have hs : (sizeOf 94).run Tryz.prog w = .ok 36 w := by kernel_rfl
  obtain ⟨i0, hi, _, _, z, hz, hzs⟩ := info_refpage
  have hzv : (zeroValue 94).run Tryz.prog w = .ok z w := by simp [zeroValue, typeInfo, hi, hz]
  have hf : Instr.fill (fun i => some (i * 36, 36)) ((Array.range (1 * 36)).map (z.cells[· % z.cells.size]!)) [(0, .agg cells)] = some cells := by
    have hc : (Value.agg cells).cells = cells := rfl
    simp only [Instr.fill, hc, hsz]
    have e : (cells.zipIdx.foldl (fun cs p => cs.setIfInBounds (0 * 36 + p.2) p.1) ((Array.range (1 * 36)).map (z.cells[· % z.cells.size]!))) = cells := by
      rw [← Array.foldl_toList, Array.toList_zipIdx]
      simp only [Nat.zero_mul, Nat.zero_add]
      obtain ⟨h1, h2⟩ := fold_set cells.toList 0 ((Array.range (1 * 36)).map (z.cells[· % z.cells.size]!)) (by simp [hsz])
      apply Array.ext_getElem?
      intro i
      rw [h2 i]
      by_cases hi : i < 36
      · rw [if_pos (by simp [hsz]; exact hi)]
        simp
      · rw [if_neg (by simp [hsz]; omega), Array.getElem?_eq_none (by simp; omega), Array.getElem?_eq_none (by omega)]
    simp at e ⊢
    exact e
  simp only [Instr.buildSlice, Sem.run_bind, run_underlying Tryz.underlying44, Result.andThen_ok, hs]
  simp [hzv, hf, newRow, Result.andThen]

theorem wpList_one_re {ops : Array Oper} {rest : List Oper} {ac : Act} {w : World} {Q : Exit → Act → World → Prop} {d : Option Tmp} {ty : TypeId} {ps : String} {af : Array Edge} {x : Operand} (cells : Array Value) (hsz : cells.size = 36) (hx : ac.eval x = .agg cells)
    (h : wpList Tryz.prog ops Q rest (ac.put d (.slice (some ⟨w.heap.size, 0, none⟩) 1 1)) (w.alloc (.cells cells 94))) : wpList Tryz.prog ops Q ({ dst := d, op := Op.buildSlice 44 1 #[(0, x)], type := ty, pos := ps, after := af, guard := none } :: rest) ac w := by
  refine wpList_plain rfl fun K hK => ?_
  unfold Oper.wp
  simp only [execOp, List.map_toArray, List.map_cons, List.map_nil, hx, run_buildSlice_re cells hsz, Sem.run_bind, Result.andThen_ok]
  exact hK _ _ h

theorem arr_size (e : Re) : (reList e).toArray.size = 36 := by rw [List.size_toArray, reList_len]
theorem src_re (e : Re) (w : World) : SrcR (w.alloc (.cells (reList e).toArray 94)) (some ⟨w.heap.size, 0, none⟩) 1 (reList e) := by
  refine Or.inr ⟨_, rfl, fun j u hu => ?_⟩
  rw [Go.WideShapes.add_plain, Nat.zero_add, World.cell?_alloc_new]
  simpa using hu

end Hp
end Go.Proofs.YtkjjobafbcdmoaaGreatDoor

/-
  The reference's put and drop.
-/
namespace Go.Proofs.YtkjjobafbcdmoaaGreatDoor
open Go.RowKit Go.Maps
namespace Hp
variable {w w' : World} {br : Nat} {q : Int} {a : Option Addr} {cap : Nat} {E E' : List Re}

theorem K.grownR {w a b : World} {row : Option Nat} (h : K w a) (hg : a.grownBy b row) (hr : ∀ g, some g = row → w.heap.size ≤ g) : K w b :=
  ⟨hg.os.trans (Kept.os (w := w) (w' := a) h), hg.tape.trans (Kept.tape (w := w) (w' := a) h), hg.output.trans (Kept.output (w := w) (w' := a) h), Nat.le_trans (Kept.size (w := w) (w' := a) h) hg.size, fun j hj hn => by
    have hjw := Nat.lt_of_lt_of_le hj (Kept.size (w := w) (w' := a) h)
    rw [hg.block j hjw (fun e => by have := hr j e; omega)]
    exact Kept.same (w := w) (w' := a) h j hj hn⟩
theorem row_formR {base n : Nat} {v : Value} {xs : List Value} (h : w.ownsRow base 94 36 v n xs) : ∃ a cap, v = .slice a n cap := by
  rcases h.2 with ⟨hv, h0⟩ | ⟨g, c, cur, hv, _⟩
  · exact ⟨none, 0, by rw [hv, h0]⟩
  · exact ⟨_, _, hv⟩

/-- What a call on the reference leaves: its struct at br, entries E', and what has turned. -/
def RPost (w : World) (br : Nat) (q : Int) (E' : List Re) (w' : World) : Prop := ∃ a' cap', Rf w' br q a' cap' E' ∧ RSt br w w'

def Wrapd (p : Prop) : Prop := p
theorem wrapd {p : Prop} (h : Wrapd p) : p := h
set_option maxRecDepth 100000 in
set_option maxHeartbeats 2000000 in
theorem rdrop_any (h : Rf w br q a cap E) (hl : E.length ≤ 64) (k : Nat) (hk : k < E.length) : Calls Tryz.prog 60 #[.pointer (some ⟨br, 0, none⟩), .int .i64 (k : Int)] w fun e w' => (∃ v, e = .returned v) ∧ RPost w br q (E.take k ++ E.drop (k + 1)) w' := by
  have c1 := h.c1
  have hbr := h.lt
  obtain ⟨g, hrow, hform, hcap⟩ := h.form
  have hcl := run_cut_lo a g E.length cap k hform (by omega) hcap
  obtain ⟨oa, hch, hoa⟩ := run_cut_hi a g E.length cap (k + 1) hform (by omega) hcap
  have e1 : ((k + 1 : Nat) : Int) = (k : Int) + 1 := by omega
  rw [e1] at hch
  have kz : K w (w.alloc (.cells #[] 94)) := (K.refl w).alloc _
  have HSRC : Aside (SrcR (w.alloc (.cells #[] 94)) a k (reVals (E.take k))) := src_lo (hrow.keep kz) hform k (by omega)
  have HL0 : Aside ((reVals (E.take k)).length = k * 36) := by show _ = _; rw [reVals_len, List.length_take, Nat.min_eq_left (by omega)]
  have HL2 : Aside ((reVals (E.drop (k + 1))).length = (E.length - (k + 1)) * 36) := by show _ = _; rw [reVals_len, List.length_drop]
  have HS2 : Aside (∀ wx, K w wx → SrcR wx oa (E.length - (k + 1)) (reVals (E.drop (k + 1)))) := fun wx kx => src_hi (hrow.keep kx) (k + 1) (by omega) hoa
  have HR : Aside _ := h
  have RZ : Aside ((w.alloc (.cells #[] 94)).ownsRow w.heap.size 94 36 (.slice (some ⟨w.heap.size, 0, none⟩) 0 0) 0 []) := World.ownsRow_lit (base := w.heap.size) (e := 94) (size := 36) w #[] 0 (Nat.le_refl _) (by simp [maxLen]) rfl
  have KZ : Aside _ := kz
  obtain ⟨n, hn⟩ : ∃ n, E.length = n := ⟨_, rfl⟩
  have HN : Aside _ := hn
  rw [hn] at hl hk c1 hch hcl hcap HL2 HS2
  clear h hrow hform hoa kz e1 hn
  have hcl0 := hcl
  go_enter Tryz.func60, Tryz.ntmps60
  go_wp2_with (first
    | (at_builtin; refine wpList_append_res _ rfl _ _ rfl w.heap.size _ 0 [] rfl RZ.out rfl a k cap (reVals (E.take k)) rfl HL0.out HSRC.out (reVals_one _) (by omega) (by simp) ?_; intro v1 w3 hown1 hgrow1 hloc1; rw [Nat.zero_add, List.nil_append] at hown1; have k3 : K w w3 := K.grownR KZ.out hgrow1 (fun j hj => by cases hj; exact Nat.le_refl _); have hv1 : v1.ownBlock.isSome = true := (by rcases hloc1 with e | e <;> (rw [e]; rfl)); have c3 := k3.cell c1; have hsz3 : w.heap.size ≤ w3.heap.size := Kept.size (w := w) (w' := w3) k3; have O1 : Aside _ := hown1; obtain ⟨a1, cap1, hv2⟩ := row_formR hown1; subst hv2; clear hown1 hgrow1 hloc1 RZ HSRC)
    | (at_builtin; apply wrapd))
  unfold Wrapd
  refine wpList_append_res _ rfl _ _ rfl w.heap.size _ k _ rfl O1.out hv1 oa (n - (k + 1)) (cap - (k + 1)) (reVals (E.drop (k + 1))) rfl HL2.out (HS2.out _ k3) (reVals_one _) (by omega) hsz3 ?_
  intro v2 w4 hown2 hgrow2 hloc2
  have k4 : K w w4 := K.grownR k3 hgrow2 (fun j hj => (World.ownsRow.lt O1.out j hj.symm).1)
  have hne2 : ∀ kk, v2.ownBlock = some kk → w.heap.size ≤ kk := fun kk hkk => by
    rcases hloc2 with e | e
    · rw [e] at hkk
      exact (World.ownsRow.lt O1.out kk hkk).1
    · rw [e] at hkk
      have := Option.some.inj hkk
      omega
  have HLE : (E.take k ++ E.drop (k + 1)).length = k + (n - (k + 1)) := by
    rw [List.length_append, List.length_take, List.length_drop, HN.out, Nat.min_eq_left (by omega)]
  have hown3 : w4.ownsRow w.heap.size 94 36 v2 (E.take k ++ E.drop (k + 1)).length (reVals (E.take k ++ E.drop (k + 1))) := by
    rw [HLE, reVals_app]
    exact hown2
  obtain ⟨a2, cap2, rfl, R2, KB2⟩ := HR.out.store k4 hown3 hne2
  have HFZ := (HR.out.keep k4).fz
  have c4 := k4.cell c1
  rw [HLE] at R2 KB2
  go_wp2
  go_end0
  exact ⟨⟨_, rfl⟩, _, _, R2, KB2⟩

end Hp
end Go.Proofs.YtkjjobafbcdmoaaGreatDoor

/-
  The reference's put.
-/
namespace Go.Proofs.YtkjjobafbcdmoaaGreatDoor
open Go.RowKit Go.Maps
namespace Hp
variable {w w' : World} {br : Nat} {q : Int} {a : Option Addr} {cap : Nat} {E E' : List Re}

set_option maxRecDepth 100000 in
set_option maxHeartbeats 2000000 in
theorem rput_any (h : Rf w br q a cap E) (hl : E.length ≤ 64) (e : Re) : Calls Tryz.prog 57 #[.pointer (some ⟨br, 0, none⟩), .agg (reList e).toArray] w fun ed w' => (∃ v, ed = .returned v) ∧ ∃ k, k ≤ E.length ∧ (∀ x ∈ E.take k, x.1.n < e.1.n) ∧ (∀ x, E[k]? = some x → e.1.n ≤ x.1.n) ∧ RPost w br q (E.take k ++ e :: E.drop k) w' := by
  have HK0 : Aside (K w (w.alloc (.cells (reList e).toArray 94))) := (K.refl _).alloc _
  have hb : (w.alloc (.cells (reList e).toArray 94)).heap[w.heap.size]? = some (.cells (reList e).toArray 94) := (MapKept.heap_alloc w _).1
  have BOX : Aside (∀ wx, K (w.alloc (.cells (reList e).toArray 94)) wx → wx.cell? ⟨w.heap.size, 0, none⟩ = some (.int .i64 e.1.n) ∧ wx.rangeAt w.heap.size 0 (reList e)) := fun wx k => by
    have hbx := k.block hb
    have hr : wx.rangeAt w.heap.size 0 (reList e) := fun j u hu => by
      simp [World.cell?, hbx, hu]
    exact ⟨by have := hr 0 _ rfl; simpa using this, hr⟩
  have HWs : Aside ((w.alloc (.cells (reList e).toArray 94)).heap.size = w.heap.size + 1) := by show _ = _; simp
  have HR : Aside (Rf (w.alloc (.cells (reList e).toArray 94)) br q a cap E) := h.keep HK0.out
  have hbr := h.lt
  have HLEN : Aside ((reList e).length = 1 * 36) := reList_len e
  obtain ⟨n, hn⟩ : ∃ n, E.length = n := ⟨_, rfl⟩
  have HN : Aside _ := hn
  obtain ⟨g, hrow, hform, hcap⟩ := HR.out.form
  have HIX : Aside _ := hrow.ix
  have HC1 : Aside (∀ wx, K (w.alloc (.cells (reList e).toArray 94)) wx → wx.cell? ⟨br, 1, none⟩ = some (.slice a n cap)) := fun wx k => by rw [← hn]; exact (HR.out.keep k).c1
  have HAT : Aside (∀ wx, K (w.alloc (.cells (reList e).toArray 94)) wx → ∀ (i : Nat) x, E[i]? = some x → wx.cell? ⟨g, i * 36, none⟩ = some (.int .i64 x.1.n)) := fun wx k i x hx => ((hrow.keep k).at hx).1
  have HCUT : Aside (∀ k, k ≤ n → ∃ oa, (∀ w, (Instr.slice 44 (.slice a n cap) none (some (.int .i64 (k : Int))) none).run Tryz.prog w = .ok (.slice a k cap) w) ∧ (∀ w, (Instr.slice 44 (.slice a n cap) (some (.int .i64 (k : Int))) none none).run Tryz.prog w = .ok (.slice oa (n - k) (cap - k)) w) ∧ (∀ wx, K (w.alloc (.cells (reList e).toArray 94)) wx → SrcR wx a k (reVals (E.take k))) ∧ (∀ wx, K (w.alloc (.cells (reList e).toArray 94)) wx → SrcR wx oa (n - k) (reVals (E.drop k)))) := by
    show ∀ k, _
    intro k hk
    subst hn
    obtain ⟨oa, h1, h2⟩ := run_cut_hi a g E.length cap k hform hk hcap
    exact ⟨oa, run_cut_lo a g E.length cap k hform hk hcap, h1, fun wx kx => src_lo (hrow.keep kx) hform k hk, fun wx kx => src_hi (hrow.keep kx) k hk h2⟩
  rw [hn] at HIX hl hcap
  clear h hb hrow hform
  go_enter Tryz.func57, Tryz.ntmps57
  go_wp2
  generalize w.alloc (.cells (reList e).toArray 94) = W at *
  go_loopg [5] n (fun gh t wx => ∃ k : Nat, k + gh = n ∧ t = .int .i64 k ∧ Aside (∀ x ∈ E.take k, x.1.n < e.1.n) ∧ K W wx)
  case atStart => exact ⟨0, by omega, rfl, fun x hx => by simp at hx, K.refl _⟩
  case round =>
    obtain ⟨k, hkg, rfl, HT, hk⟩ := hrel
    obtain ⟨b0, br0⟩ := BOX.out _ hk
    have c1 := HC1.out _ hk
    by_cases hstop : ∃ x, E[k]? = some x ∧ x.1.n < e.1.n
    · obtain ⟨x, hx, hxn⟩ := hstop
      have hkl : k < n := by have := (List.getElem?_eq_some_iff.1 hx).1; omega
      have hix := HIX.out k hkl
      have d0 := HAT.out _ hk k x hx
      have HX : Aside _ := hx
      clear hx br0 hn
      go_wp2
      go_quiet (fail)
      go_wp2
      go_roundg (n - (k + 1))
      case measure => omega
      case rel =>
        refine ⟨k + 1, by omega, by go_num, fun y hy => ?_, hk.drewN _⟩
        rw [List.take_add_one, HX.out] at hy
        rcases List.mem_append.1 hy with h1 | h1
        · exact HT.out y h1
        · simp at h1
          subst h1
          exact hxn
    · have HC : Aside (∀ x, E[k]? = some x → e.1.n ≤ x.1.n) := fun x hx => by
        by_cases e2 : x.1.n < e.1.n
        · exact absurd ⟨x, hx, e2⟩ hstop
        · omega
      obtain ⟨oa, hcl, hch, HS1', HS2'⟩ := HCUT.out k (by omega)
      have HS1 : Aside _ := HS1'
      have HS2 : Aside _ := HS2'
      have HL0 : Aside ((reVals (E.take k)).length = k * 36) := by show _ = _; rw [reVals_len, List.length_take, Nat.min_eq_left (by omega)]
      have HL2 : Aside ((reVals (E.drop k)).length = (n - k) * 36) := by show _ = _; rw [reVals_len, List.length_drop, hn]
      have RZ : Aside (∀ wx, K W wx → (wx.alloc (.cells #[] 94)).ownsRow W.heap.size 94 36 (.slice (some ⟨wx.heap.size, 0, none⟩) 0 0) 0 []) := fun wx kx => World.ownsRow_lit (base := W.heap.size) (e := 94) (size := 36) wx #[] 0 (Kept.size kx) (by simp [maxLen]) rfl
      have hkn : k ≤ n := by omega
      clear HS1' HS2' br0 hn hkg
      by_cases hkl : k < n
      · have hix := HIX.out k hkl
        obtain ⟨x, hx⟩ : ∃ x, E[k]? = some x := ⟨_, List.getElem?_eq_getElem (by have := HN.out; omega)⟩
        have hxn := HC.out x hx
        have d0 := HAT.out _ hk k x hx
        clear hx hstop
        go_wp2
        go_quiet (fail)
        have kq := hk.drewN nq
        clear hk c1 b0
        generalize wr.drewN nq = wq at *
        have c1 := HC1.out _ kq
        clear nq
        have hbrq : br < wq.heap.size := by have := Kept.size kq; have := HWs.out; omega
        have KZ : Aside (K W (wq.alloc (.cells #[] 94))) := kq.alloc _
        go_wp2_with (first
          | (at_builtin; refine wpList_append_res _ rfl _ _ rfl W.heap.size _ 0 [] rfl (RZ.out _ kq) rfl a k cap (reVals (E.take k)) rfl HL0.out (HS1.out _ KZ.out) (reVals_one _) (by omega) (by have := Kept.size kq; simp; omega) ?_; apply wrapd))
        unfold Wrapd
        intro v1 w3 hown1 hgrow1 hloc1
        have k3 : K W w3 := K.grownR KZ.out hgrow1 (fun j hj => by cases hj; exact Kept.size kq)
        have hv1 : v1.ownBlock.isSome = true := (by rcases hloc1 with e | e <;> (rw [e]; rfl))
        have c3 := HC1.out _ k3
        have hsz3 : W.heap.size ≤ w3.heap.size := Kept.size k3
        have O1 : Aside _ := hown1
        obtain ⟨b3, r3⟩ := BOX.out _ k3
        obtain ⟨a1, cap1, hv2⟩ := row_formR hown1
        subst hv2
        clear hown1 hgrow1 hloc1 RZ HS1 KZ c1 kq
        go_wp2_with (first
          | ((with_reducible refine wpList_load_re w.heap.size 0 e r3 ?_ ?_); · rfl)
          | ((with_reducible refine wpList_one_re (reList e).toArray (arr_size e) ?_ ?_); · rfl)
          | (at_builtin; apply wrapd))
        unfold Wrapd
        refine wpList_append_res _ rfl _ _ rfl W.heap.size _ k _ rfl (World.ownsRow.alloc O1.out _) hv1 (some ⟨w3.heap.size, 0, none⟩) 1 1 (reList e) rfl HLEN.out (src_re e w3) (reList_one e) (by omega) (by simp; omega) ?_
        intro v2 w4 hown2 hgrow2 hloc2
        have k4 : K W w4 := K.grownR (k3.alloc _) hgrow2 (fun j hj => (World.ownsRow.lt O1.out j hj.symm).1)
        have hsz4 : W.heap.size ≤ w4.heap.size := Kept.size k4
        have hv2 : v2.ownBlock.isSome = true := (by rcases hloc2 with e | e <;> (rw [e]; first | exact hv1 | rfl))
        have O2 : Aside _ := hown2
        have c4 := HC1.out _ k4
        obtain ⟨a2, cap2, hv3⟩ := row_formR hown2
        subst hv3
        clear hown2 hgrow2 hloc2 c3 b3 r3
        go_wp2_with (first
          | (at_builtin; apply wrapd))
        unfold Wrapd
        refine wpList_append_res _ rfl _ _ rfl W.heap.size _ (k + 1) _ rfl O2.out hv2 oa (n - k) (cap - k) (reVals (E.drop k)) rfl HL2.out (HS2.out _ k4) (reVals_one _) (by omega) hsz4 ?_
        intro v3 w5 hown3 hgrow3 hloc3
        have k5 : K W w5 := K.grownR k4 hgrow3 (fun j hj => (World.ownsRow.lt O2.out j hj.symm).1)
        have hne3 : ∀ kk, v3.ownBlock = some kk → W.heap.size ≤ kk := fun kk hkk => by
          rcases hloc3 with e | e
          · rw [e] at hkk
            exact (World.ownsRow.lt O2.out kk hkk).1
          · rw [e] at hkk
            have := Option.some.inj hkk
            omega
        have HLE : (E.take k ++ e :: E.drop k).length = k + 1 + (n - k) := by
          rw [List.length_append, List.length_cons, List.length_take, List.length_drop, HN.out, Nat.min_eq_left (by omega)]
          omega
        have hown4 : w5.ownsRow W.heap.size 94 36 v3 (E.take k ++ e :: E.drop k).length (reVals (E.take k ++ e :: E.drop k)) := by
          rw [HLE, reVals_app]
          have e1 : reVals (e :: E.drop k) = reList e ++ reVals (E.drop k) := rfl
          rw [e1, ← List.append_assoc]
          exact hown3
        obtain ⟨a3, cap3, rfl, R3, KB3⟩ := HR.out.store k5 hown4 hne3
        have HFZ := (HR.out.keep k5).fz
        have c5 := HC1.out _ k5
        rw [HLE] at R3 KB3
        go_wp2
        go_ret
        exact ⟨⟨_, rfl⟩, k, by rw [HN.out]; exact hkn, HT.out, HC.out, _, _, R3, (RSt.ofK HK0.out).trans KB3⟩
      · clear hstop
        go_wp2
        go_quiet (fail)
        have kq := hk.drewN nq
        clear hk c1 b0
        generalize wr.drewN nq = wq at *
        have c1 := HC1.out _ kq
        clear nq
        have hbrq : br < wq.heap.size := by have := Kept.size kq; have := HWs.out; omega
        have KZ : Aside (K W (wq.alloc (.cells #[] 94))) := kq.alloc _
        go_wp2_with (first
          | (at_builtin; refine wpList_append_res _ rfl _ _ rfl W.heap.size _ 0 [] rfl (RZ.out _ kq) rfl a k cap (reVals (E.take k)) rfl HL0.out (HS1.out _ KZ.out) (reVals_one _) (by omega) (by have := Kept.size kq; simp; omega) ?_; apply wrapd))
        unfold Wrapd
        intro v1 w3 hown1 hgrow1 hloc1
        have k3 : K W w3 := K.grownR KZ.out hgrow1 (fun j hj => by cases hj; exact Kept.size kq)
        have hv1 : v1.ownBlock.isSome = true := (by rcases hloc1 with e | e <;> (rw [e]; rfl))
        have c3 := HC1.out _ k3
        have hsz3 : W.heap.size ≤ w3.heap.size := Kept.size k3
        have O1 : Aside _ := hown1
        obtain ⟨b3, r3⟩ := BOX.out _ k3
        obtain ⟨a1, cap1, hv2⟩ := row_formR hown1
        subst hv2
        clear hown1 hgrow1 hloc1 RZ HS1 KZ c1 kq
        go_wp2_with (first
          | ((with_reducible refine wpList_load_re w.heap.size 0 e r3 ?_ ?_); · rfl)
          | ((with_reducible refine wpList_one_re (reList e).toArray (arr_size e) ?_ ?_); · rfl)
          | (at_builtin; apply wrapd))
        unfold Wrapd
        refine wpList_append_res _ rfl _ _ rfl W.heap.size _ k _ rfl (World.ownsRow.alloc O1.out _) hv1 (some ⟨w3.heap.size, 0, none⟩) 1 1 (reList e) rfl HLEN.out (src_re e w3) (reList_one e) (by omega) (by simp; omega) ?_
        intro v2 w4 hown2 hgrow2 hloc2
        have k4 : K W w4 := K.grownR (k3.alloc _) hgrow2 (fun j hj => (World.ownsRow.lt O1.out j hj.symm).1)
        have hsz4 : W.heap.size ≤ w4.heap.size := Kept.size k4
        have hv2 : v2.ownBlock.isSome = true := (by rcases hloc2 with e | e <;> (rw [e]; first | exact hv1 | rfl))
        have O2 : Aside _ := hown2
        have c4 := HC1.out _ k4
        obtain ⟨a2, cap2, hv3⟩ := row_formR hown2
        subst hv3
        clear hown2 hgrow2 hloc2 c3 b3 r3
        go_wp2_with (first
          | (at_builtin; apply wrapd))
        unfold Wrapd
        refine wpList_append_res _ rfl _ _ rfl W.heap.size _ (k + 1) _ rfl O2.out hv2 oa (n - k) (cap - k) (reVals (E.drop k)) rfl HL2.out (HS2.out _ k4) (reVals_one _) (by omega) hsz4 ?_
        intro v3 w5 hown3 hgrow3 hloc3
        have k5 : K W w5 := K.grownR k4 hgrow3 (fun j hj => (World.ownsRow.lt O2.out j hj.symm).1)
        have hne3 : ∀ kk, v3.ownBlock = some kk → W.heap.size ≤ kk := fun kk hkk => by
          rcases hloc3 with e | e
          · rw [e] at hkk
            exact (World.ownsRow.lt O2.out kk hkk).1
          · rw [e] at hkk
            have := Option.some.inj hkk
            omega
        have HLE : (E.take k ++ e :: E.drop k).length = k + 1 + (n - k) := by
          rw [List.length_append, List.length_cons, List.length_take, List.length_drop, HN.out, Nat.min_eq_left (by omega)]
          omega
        have hown4 : w5.ownsRow W.heap.size 94 36 v3 (E.take k ++ e :: E.drop k).length (reVals (E.take k ++ e :: E.drop k)) := by
          rw [HLE, reVals_app]
          have e1 : reVals (e :: E.drop k) = reList e ++ reVals (E.drop k) := rfl
          rw [e1, ← List.append_assoc]
          exact hown3
        obtain ⟨a3, cap3, rfl, R3, KB3⟩ := HR.out.store k5 hown4 hne3
        have HFZ := (HR.out.keep k5).fz
        have c5 := HC1.out _ k5
        rw [HLE] at R3 KB3
        go_wp2
        go_ret
        exact ⟨⟨_, rfl⟩, k, by rw [HN.out]; exact hkn, HT.out, HC.out, _, _, R3, (RSt.ofK HK0.out).trans KB3⟩

end Hp
end Go.Proofs.YtkjjobafbcdmoaaGreatDoor
