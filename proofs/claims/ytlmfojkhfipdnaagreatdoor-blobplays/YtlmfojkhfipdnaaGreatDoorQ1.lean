/-
  The reference's heap at a block: what a call on it may turn; its row of entries cut, appended to, stored anew.
-/
import Derived.Test.YtlmfojkhfipdnaaGreatDoorP1
import Derived.Deep.AppendSrc
namespace Go.Proofs.YtlmfojkhfipdnaaGreatDoor
open Go.RowKit Go.Maps
namespace Hp

/-- The other cells of the reference's store. -/
structure Fr where
  x2 : Value
  x3 : Value
  x4 : Value
  x5 : Value

variable {X : Fr} {w w' : World} {br : Nat} {q : Int} {a : Option Addr} {cap : Nat} {E E' : List Re}

/-- The reference's heap at block br. -/
structure Rf (X : Fr) (w : World) (br : Nat) (q : Int) (a : Option Addr) (cap : Nat) (E : List Re) : Prop where
  s0 : w.heap[br]? = some (.cells #[.int .i64 q, .slice a E.length cap, X.x2, X.x3, X.x4, X.x5] 37)
  row : w.ownsRow 0 176 36 (.slice a E.length cap) E.length (reVals E)

/-- What a call on the reference may do: block br turns, and new blocks come. -/
abbrev RSt (br : Nat) (w w' : World) : Prop := Kept (fun k => k = br) w w'
theorem RSt.ofK (h : K w w') : RSt br w w' := Kept.mono h (fun _ _ hk => hk.elim)

theorem Rf.c0 (h : Rf X w br q a cap E) : w.cell? ⟨br, 0, none⟩ = some (.int .i64 q) := by simp [World.cell?, h.s0]
theorem Rf.c1 (h : Rf X w br q a cap E) : w.cell? ⟨br, 1, none⟩ = some (.slice a E.length cap) := by simp [World.cell?, h.s0]
theorem Rf.fz (h : Rf X w br q a cap E) : w.frozen? ⟨br, 1, none⟩ = false := by simp [World.frozen?, h.s0]
theorem Rf.lt (h : Rf X w br q a cap E) : br < w.heap.size := (Array.getElem?_eq_some_iff.1 h.s0).1
/-- The row lies in no block of the struct's. -/
theorem Rf.ne (h : Rf X w br q a cap E) {k : Nat} (hk : (Value.slice a E.length cap).ownBlock = some k) : k ≠ br := by
  rcases h.row.2 with ⟨hv, _⟩ | ⟨g, c, cur, hv, _, hh, _⟩
  · rw [hv] at hk
    cases hk
  · rw [hv] at hk
    obtain rfl : g = k := Option.some.inj hk
    intro e
    subst e
    rw [h.s0] at hh
    injection hh with hh
    injection hh with _ h2 _
    exact absurd h2 (by decide)
theorem Rf.keep (h : Rf X w br q a cap E) (k : K w w') : Rf X w' br q a cap E := ⟨k.block h.s0, ownsRow_keepR h.row k⟩
theorem rowE_of {B : Nat} (h : w.ownsRow B 176 36 (.slice a E.length cap) E.length (reVals E)) : ∃ g, RowE w g a cap E ∧ (a = some ⟨g, 0, none⟩ ∨ (a = none ∧ E.length = 0 ∧ cap = 0)) ∧ E.length ≤ cap := by
  obtain ⟨g, a', cap', hv, hr, hf, hc, _⟩ := rowE_form h
  cases hv
  refine ⟨g, hr, ?_, hc⟩
  rcases hf with ⟨h1, _⟩ | ⟨h1, h2, h3⟩
  · exact .inl h1
  · exact .inr ⟨h1, by rw [h2]; rfl, h3⟩
theorem Rf.form (h : Rf X w br q a cap E) : ∃ g, RowE w g a cap E ∧ (a = some ⟨g, 0, none⟩ ∨ (a = none ∧ E.length = 0 ∧ cap = 0)) ∧ E.length ≤ cap := rowE_of h.row

/-- Its slice is stored anew. -/
theorem Rf.store {w1 : World} {v : Value} {base : Nat} (h : Rf X w br q a cap E) (hb : K w w1) (hrow : w1.ownsRow base 176 36 v E'.length (reVals E')) (hne : ∀ k, v.ownBlock = some k → w.heap.size ≤ k) :
    ∃ a' cap', v = .slice a' E'.length cap' ∧ Rf X (w1.setCell ⟨br, 1, none⟩ v) br q a' cap' E' ∧ RSt br w (w1.setCell ⟨br, 1, none⟩ v) := by
  have hv : ∃ a' cap', v = .slice a' E'.length cap' := by
    rcases hrow.2 with ⟨hv, h0⟩ | ⟨g, c, cur, hv, _⟩
    · exact ⟨none, 0, by rw [hv, h0]⟩
    · exact ⟨_, _, hv⟩
  obtain ⟨a', cap', rfl⟩ := hv
  have hbr : w1.heap[br]? = some (.cells #[.int .i64 q, .slice a E.length cap, X.x2, X.x3, X.x4, X.x5] 37) := hb.block h.s0
  refine ⟨a', cap', rfl, ⟨?_, ⟨hrow.1, ?_⟩⟩, Kept.setCell (RSt.ofK hb) _ (.inl rfl)⟩
  · rw [heap_setCell_same w1 br 1 _ _ _ hbr]
    rfl
  · rcases hrow.2 with h2 | ⟨g, c, cur, hv, hg, hh, r⟩
    · exact Or.inl h2
    · refine Or.inr ⟨g, c, cur, hv, Nat.zero_le _, ?_, r⟩
      rw [Below.heap_setCell _ _ _ _ (by have h1 := hne g (by rw [hv]; rfl); have h2 := h.lt; show g ≠ br; omega)]
      exact hh

theorem run_cut_lo (a : Option Addr) (g len cap k : Nat) (ha : a = some ⟨g, 0, none⟩ ∨ (a = none ∧ len = 0 ∧ cap = 0)) (h1 : k ≤ len) (h2 : len ≤ cap) (w : World) : (Instr.slice 29 (.slice a len cap) none (some (.int .i64 (k : Int))) none).run Tryz.prog w = .ok (.slice a k cap) w := by
  have hel : Tryz.prog.elem 29 = 176 := by kernel_rfl
  have hsz : (sizeOf 176).run Tryz.prog w = .ok 36 w := by kernel_rfl
  have hu : Tryz.prog.underlying 29 = some (.slice (Tryz.prog.elem 29)) := by kernel_rfl
  rw [run_slice_h (P := Tryz.prog) w 29 a len cap hu .i64 k (by omega) (by omega), hel, hsz]
  simp only [Result.andThen_ok, sliced, Int.toNat_natCast, Nat.zero_mul, Nat.sub_zero]
  rcases ha with rfl | ⟨rfl, _, rfl⟩
  · split <;> simp [Addr.add]
  · simp

/-- The entries from k on are there behind L[k:]. -/
theorem run_cut_hi (a : Option Addr) (g len cap k : Nat) (ha : a = some ⟨g, 0, none⟩ ∨ (a = none ∧ len = 0 ∧ cap = 0)) (h1 : k ≤ len) (h2 : len ≤ cap) :
    ∃ oa, (∀ w, (Instr.slice 29 (.slice a len cap) (some (.int .i64 (k : Int))) none none).run Tryz.prog w = .ok (.slice oa (len - k) (cap - k)) w) ∧ ((oa = none ∧ len = k) ∨ oa = some ⟨g, k * 36, none⟩ ∨ (len = k ∧ ∃ x, oa = some x)) := by
  have hel : Tryz.prog.elem 29 = 176 := by kernel_rfl
  have hsz : ∀ w, (sizeOf 176).run Tryz.prog w = .ok 36 w := fun w => by kernel_rfl
  have hu : Tryz.prog.underlying 29 = some (.slice (Tryz.prog.elem 29)) := by kernel_rfl
  refine ⟨if cap = k then a else a.map (fun x => x.add (k * 36)), fun w => ?_, ?_⟩
  · rw [run_slice_l (P := Tryz.prog) w 29 a len cap hu .i64 k (by omega) (by omega), hel, hsz]
    simp only [Result.andThen_ok, sliced, Int.toNat_natCast]
  · rcases ha with rfl | ⟨rfl, rfl, rfl⟩
    · by_cases e : cap = k
      · rw [if_pos e]
        exact Or.inr (Or.inr ⟨by omega, _, rfl⟩)
      · rw [if_neg e]
        refine Or.inr (Or.inl ?_)
        simp only [Option.map_some]
        rw [Go.WideShapes.add_plain, Nat.zero_add]
    · refine Or.inl ⟨?_, by omega⟩
      split <;> rfl

/-- What is appended: no entry of a nil slice, or the cells behind an address. -/
def SrcR (w : World) (oa : Option Addr) (m : Nat) (news : List Value) : Prop := (oa = none ∧ m = 0 ∧ news = []) ∨ ∃ ad, oa = some ad ∧ ∀ j u, news[j]? = some u → w.cell? (ad.add j) = some u

theorem src_lo {g : Nat} (h : RowE w g a cap E) (ha : a = some ⟨g, 0, none⟩ ∨ (a = none ∧ E.length = 0 ∧ cap = 0)) (k : Nat) (hk : k ≤ E.length) : SrcR w a k (reVals (E.take k)) := by
  rcases ha with ha | ⟨ha, h0, _⟩
  · refine Or.inr ⟨_, ha, fun j u hu => ?_⟩
    rw [Go.WideShapes.add_plain, Nat.zero_add]
    have hj := (List.getElem?_eq_some_iff.1 hu).1
    rw [← reVals_take E k hk] at hu hj
    rw [List.getElem?_take_of_lt (by have := List.length_take_le (k * 36) (reVals E); omega)] at hu
    exact h.cell j u hu
  · obtain rfl : k = 0 := by omega
    exact Or.inl ⟨ha, rfl, rfl⟩

theorem src_hi {g : Nat} (h : RowE w g a cap E) (k : Nat) (hk : k ≤ E.length) {oa : Option Addr} (ho : (oa = none ∧ E.length = k) ∨ oa = some ⟨g, k * 36, none⟩ ∨ (E.length = k ∧ ∃ x, oa = some x)) : SrcR w oa (E.length - k) (reVals (E.drop k)) := by
  have hnil : E.length = k → reVals (E.drop k) = [] := fun e => by rw [List.drop_eq_nil_of_le (by omega)]; rfl
  rcases ho with ⟨rfl, e⟩ | rfl | ⟨e, x, rfl⟩
  · exact Or.inl ⟨rfl, by omega, hnil e⟩
  · refine Or.inr ⟨_, rfl, fun j u hu => ?_⟩
    rw [Go.WideShapes.add_plain]
    rw [← reVals_drop E k hk, List.getElem?_drop] at hu
    exact h.cell _ u hu
  · refine Or.inr ⟨x, rfl, fun j u hu => ?_⟩
    rw [hnil e] at hu
    simp at hu

theorem info_refpage : ∃ i0, Tryz.prog.info? 176 = some i0 ∧ i0.size = 36 ∧ i0.bytes = 64 ∧ ∃ z, i0.zero = some z ∧ z.cells.size = 36 := by
  have hi : (Tryz.prog.info? 176).map (fun i => (i.zero.map (fun z => z.cells.size), i.size, i.bytes)) = some (some 36, 36, 64) := by kernel_rfl
  obtain ⟨i0, h1, h2⟩ := Option.map_eq_some_iff.1 hi
  simp only [Prod.mk.injEq] at h2
  obtain ⟨h3, h4, h5⟩ := h2
  obtain ⟨z, h6, h7⟩ := Option.map_eq_some_iff.1 h3
  exact ⟨i0, h1, h4, h5, z, h6, h7⟩

theorem run_append_nil (g n cap c : Nat) (hn : n ≤ cap) (ty : TypeId) (w : World) : (Builtin.append_ #[29, 29] ty #[.slice (some ⟨g, 0, none⟩) n cap, .slice none 0 c]).run Tryz.prog w = .ok (.slice (some ⟨g, 0, none⟩) n cap) w := by
  obtain ⟨i0, hi, hs, _, _⟩ := info_refpage
  have := run_append_room_src (P := Tryz.prog) w 29 29 ty 176 i0 Tryz.underlying29 hi g 0 n cap (.slice none 0 c) 0 [] (Src.ofNil w Tryz.underlying29 c) (by omega) (fun j hj => by simp at hj) (fun j hj => by simp at hj)
  simpa [World.setCells] using this

theorem wpList_append_res {ops : Array Oper} {rest : List Oper} {o : Oper} {ac : Act} {Q : Exit → Act → World → Prop} (w : World) (hgd : o.guard = none) (s x : Operand)
    (ho : o.op = .call { callee := .builtin .append, args := #[s, x], argTypes := #[29, 29] })
    (base : Nat) (v : Value) (n : Nat) (xs : List Value) (hs : ac.eval s = v) (hown : w.ownsRow base 176 36 v n xs) (hv : v.ownBlock.isSome = true)
    (oa : Option Addr) (m c : Nat) (news : List Value) (hx : ac.eval x = .slice oa m c) (hl : news.length = m * 36) (hsrc : SrcR w oa m news) (h1 : ∀ u ∈ news, u.oneCell' = true) (hb : n + m ≤ 100000) (hbase : base ≤ w.heap.size)
    (h : ∀ v' w', w'.ownsRow base 176 36 v' (n + m) (xs ++ news) → w.grownBy w' v.ownBlock → (v'.ownBlock = v.ownBlock ∨ v'.ownBlock = some w.heap.size) → wpList Tryz.prog ops Q rest (ac.put o.dst v') w') :
    wpList Tryz.prog ops Q (o :: rest) ac w := by
  obtain ⟨i0, hi, hsz, hby, z, hz, hzs⟩ := info_refpage
  rcases hsrc with ⟨rfl, rfl, rfl⟩ | ⟨ad, rfl, hc⟩
  · refine wpList_plain hgd fun K hK => ?_
    rcases hown.2 with ⟨rfl, _⟩ | ⟨g, cap, cur, hvv, r1, r2, r3, r4⟩
    · cases hv
    · have hrun := run_append_nil g n cap c r3 o.type w
      rw [← hvv] at hrun
      unfold Oper.wp execOp
      simp only [ho, resolve, invoke, builtin, Sem.run_bind, Sem.run_pure, Result.andThen_ok, List.map_toArray, List.map_cons, List.map_nil, hs, hx, hrun]
      refine hK _ _ (h v w ?_ ⟨rfl, rfl, rfl, Nat.le_refl _, fun _ _ _ => rfl⟩ (Or.inl rfl))
      simpa using hown
  · exact wpList_append_own_at w hgd s x 29 ho base 176 i0 z 36 64 Tryz.underlying29 hi hz hsz hby hzs (by decide) v n xs hs hown ad m c news hx hl hc h1 (by unfold maxLen; omega) (by omega) hbase (fun v' w' r1 r2 _ r4 => h v' w' r1 r2 r4)

/-- One part that covers all: it is what is laid. -/
theorem fold_set (l : List Value) : ∀ (k : Nat) (cs : Array Value), k + l.length ≤ cs.size →
    ((l.zipIdx k).foldl (fun cs p => cs.setIfInBounds p.2 p.1) cs).size = cs.size ∧ ∀ i, ((l.zipIdx k).foldl (fun cs p => cs.setIfInBounds p.2 p.1) cs)[i]? = if k ≤ i ∧ i < k + l.length then l[i - k]? else cs[i]? := by
  induction l with
  | nil =>
    intro k cs h
    refine ⟨rfl, fun i => ?_⟩
    rw [if_neg (by simp)]
    rfl
  | cons c l ih =>
    intro k cs h
    simp only [List.length_cons] at h
    simp only [List.zipIdx_cons, List.foldl_cons]
    obtain ⟨h1, h2⟩ := ih (k + 1) (cs.setIfInBounds k c) (by simp; omega)
    refine ⟨by rw [h1]; simp, fun i => ?_⟩
    rw [h2 i]
    by_cases e : i = k
    · subst e
      rw [if_neg (by omega), if_pos (by simp)]
      simp [Array.getElem?_setIfInBounds]
      omega
    · by_cases hi : k + 1 ≤ i ∧ i < k + 1 + l.length
      · rw [if_pos hi, if_pos (by simp; omega), show i - k = (i - (k + 1)) + 1 from by omega]
        simp
      · rw [if_neg hi, if_neg (by simp; omega), Array.getElem?_setIfInBounds, if_neg (by omega)]

theorem run_buildSlice_re (cells : Array Value) (hsz : cells.size = 36) (w : World) : (Instr.buildSlice 29 1 #[(0, .agg cells)]).run Tryz.prog w = .ok (.slice (some ⟨w.heap.size, 0, none⟩) 1 1) (w.alloc (.cells cells 176)) := by
  have hs : (sizeOf 176).run Tryz.prog w = .ok 36 w := by kernel_rfl
  obtain ⟨i0, hi, _, _, z, hz, hzs⟩ := info_refpage
  have hzv : (zeroValue 176).run Tryz.prog w = .ok z w := by simp [zeroValue, typeInfo, hi, hz]
  have hf : Instr.fill (fun i => some (i * 36, 36)) ((Array.range (1 * 36)).map (z.cells[· % z.cells.size]!)) [(0, .agg cells)] = some cells := by
    have hc : (Value.agg cells).cells = cells := rfl
    simp only [Instr.fill, hc, hsz]
    have e : (cells.zipIdx.foldl (fun cs p => cs.setIfInBounds (0 * 36 + p.2) p.1) ((Array.range (1 * 36)).map (z.cells[· % z.cells.size]!))) = cells := by
      rw [← Array.foldl_toList, Array.toList_zipIdx]
      simp only [Nat.zero_mul, Nat.zero_add]
      obtain ⟨h1, h2⟩ := fold_set cells.toList 0 ((Array.range (1 * 36)).map (z.cells[· % z.cells.size]!)) (by simp [hsz])
      apply Array.ext_getElem?
      intro i
      rw [h2 i]
      by_cases hi : i < 36
      · rw [if_pos (by simp [hsz]; exact hi)]
        simp
      · rw [if_neg (by simp [hsz]; omega), Array.getElem?_eq_none (by simp; omega), Array.getElem?_eq_none (by omega)]
    simp at e ⊢
    exact e
  simp only [Instr.buildSlice, Sem.run_bind, run_underlying Tryz.underlying29, Result.andThen_ok, hs]
  simp [hzv, hf, newRow, Result.andThen]

theorem wpList_one_re {ops : Array Oper} {rest : List Oper} {ac : Act} {w : World} {Q : Exit → Act → World → Prop} {d : Option Tmp} {ty : TypeId} {ps : String} {af : Array Edge} {x : Operand} (cells : Array Value) (hsz : cells.size = 36) (hx : ac.eval x = .agg cells)
    (h : wpList Tryz.prog ops Q rest (ac.put d (.slice (some ⟨w.heap.size, 0, none⟩) 1 1)) (w.alloc (.cells cells 176))) : wpList Tryz.prog ops Q ({ dst := d, op := Op.buildSlice 29 1 #[(0, x)], type := ty, pos := ps, after := af, guard := none } :: rest) ac w := by
  refine wpList_plain rfl fun K hK => ?_
  unfold Oper.wp
  simp only [execOp, List.map_toArray, List.map_cons, List.map_nil, hx, run_buildSlice_re cells hsz, Sem.run_bind, Result.andThen_ok]
  exact hK _ _ h

theorem arr_size (e : Re) : (reList e).toArray.size = 36 := by rw [List.size_toArray, reList_len]
theorem src_re (e : Re) (w : World) : SrcR (w.alloc (.cells (reList e).toArray 176)) (some ⟨w.heap.size, 0, none⟩) 1 (reList e) := by
  refine Or.inr ⟨_, rfl, fun j u hu => ?_⟩
  rw [Go.WideShapes.add_plain, Nat.zero_add, World.cell?_alloc_new]
  simpa using hu

end Hp
end Go.Proofs.YtlmfojkhfipdnaaGreatDoor

/-
  The reference's put and drop.
-/
namespace Go.Proofs.YtlmfojkhfipdnaaGreatDoor
open Go.RowKit Go.Maps
namespace Hp
variable {X : Fr} {w w' : World} {br : Nat} {q : Int} {a : Option Addr} {cap : Nat} {E E' : List Re}

theorem K.grownR {w a b : World} {row : Option Nat} (h : K w a) (hg : a.grownBy b row) (hr : ∀ g, some g = row → w.heap.size ≤ g) : K w b :=
  ⟨hg.os.trans (Kept.os (w := w) (w' := a) h), hg.tape.trans (Kept.tape (w := w) (w' := a) h), hg.output.trans (Kept.output (w := w) (w' := a) h), Nat.le_trans (Kept.size (w := w) (w' := a) h) hg.size, fun j hj hn => by
    have hjw := Nat.lt_of_lt_of_le hj (Kept.size (w := w) (w' := a) h)
    rw [hg.block j hjw (fun e => by have := hr j e; omega)]
    exact Kept.same (w := w) (w' := a) h j hj hn⟩
theorem row_formR {base n : Nat} {v : Value} {xs : List Value} (h : w.ownsRow base 176 36 v n xs) : ∃ a cap, v = .slice a n cap := by
  rcases h.2 with ⟨hv, h0⟩ | ⟨g, c, cur, hv, _⟩
  · exact ⟨none, 0, by rw [hv, h0]⟩
  · exact ⟨_, _, hv⟩

/-- What a call on the reference leaves: its struct at br, entries E', and what has turned. -/
def RPost (X : Fr) (w : World) (br : Nat) (q : Int) (E' : List Re) (w' : World) : Prop := ∃ a' cap', Rf X w' br q a' cap' E' ∧ RSt br w w'

def Wrapd (p : Prop) : Prop := p
theorem wrapd {p : Prop} (h : Wrapd p) : p := h
set_option maxRecDepth 100000 in
set_option maxHeartbeats 2000000 in
theorem rdrop_any (h : Rf X w br q a cap E) (hl : E.length ≤ 64) (k : Nat) (hk : k < E.length) : Calls Tryz.prog 110 #[.pointer (some ⟨br, 0, none⟩), .int .i64 (k : Int)] w fun e w' => (∃ v, e = .returned v) ∧ RPost X w br q (E.take k ++ E.drop (k + 1)) w' := by
  have c1 := h.c1
  have hbr := h.lt
  obtain ⟨g, hrow, hform, hcap⟩ := h.form
  have hcl := run_cut_lo a g E.length cap k hform (by omega) hcap
  obtain ⟨oa, hch, hoa⟩ := run_cut_hi a g E.length cap (k + 1) hform (by omega) hcap
  have e1 : ((k + 1 : Nat) : Int) = (k : Int) + 1 := by omega
  rw [e1] at hch
  have kz : K w (w.alloc (.cells #[] 176)) := (K.refl w).alloc _
  have HSRC : Aside (SrcR (w.alloc (.cells #[] 176)) a k (reVals (E.take k))) := src_lo (hrow.keep kz) hform k (by omega)
  have HL0 : Aside ((reVals (E.take k)).length = k * 36) := by show _ = _; rw [reVals_len, List.length_take, Nat.min_eq_left (by omega)]
  have HL2 : Aside ((reVals (E.drop (k + 1))).length = (E.length - (k + 1)) * 36) := by show _ = _; rw [reVals_len, List.length_drop]
  have HS2 : Aside (∀ wx, K w wx → SrcR wx oa (E.length - (k + 1)) (reVals (E.drop (k + 1)))) := fun wx kx => src_hi (hrow.keep kx) (k + 1) (by omega) hoa
  have HR : Aside _ := h
  have RZ : Aside ((w.alloc (.cells #[] 176)).ownsRow w.heap.size 176 36 (.slice (some ⟨w.heap.size, 0, none⟩) 0 0) 0 []) := World.ownsRow_lit (base := w.heap.size) (e := 176) (size := 36) w #[] 0 (Nat.le_refl _) (by simp [maxLen]) rfl
  have KZ : Aside _ := kz
  obtain ⟨n, hn⟩ : ∃ n, E.length = n := ⟨_, rfl⟩
  have HN : Aside _ := hn
  rw [hn] at hl hk c1 hch hcl hcap HL2 HS2
  clear h hrow hform hoa kz e1 hn
  have hcl0 := hcl
  go_enter Tryz.func110, Tryz.ntmps110
  go_wp2_with (first
    | (at_builtin; refine wpList_append_res _ rfl _ _ rfl w.heap.size _ 0 [] rfl RZ.out rfl a k cap (reVals (E.take k)) rfl HL0.out HSRC.out (reVals_one _) (by omega) (by simp) ?_; intro v1 w3 hown1 hgrow1 hloc1; rw [Nat.zero_add, List.nil_append] at hown1; have k3 : K w w3 := K.grownR KZ.out hgrow1 (fun j hj => by cases hj; exact Nat.le_refl _); have hv1 : v1.ownBlock.isSome = true := (by rcases hloc1 with e | e <;> (rw [e]; rfl)); have c3 := k3.cell c1; have hsz3 : w.heap.size ≤ w3.heap.size := Kept.size (w := w) (w' := w3) k3; have O1 : Aside _ := hown1; obtain ⟨a1, cap1, hv2⟩ := row_formR hown1; subst hv2; clear hown1 hgrow1 hloc1 RZ HSRC)
    | (at_builtin; apply wrapd))
  unfold Wrapd
  refine wpList_append_res _ rfl _ _ rfl w.heap.size _ k _ rfl O1.out hv1 oa (n - (k + 1)) (cap - (k + 1)) (reVals (E.drop (k + 1))) rfl HL2.out (HS2.out _ k3) (reVals_one _) (by omega) hsz3 ?_
  intro v2 w4 hown2 hgrow2 hloc2
  have k4 : K w w4 := K.grownR k3 hgrow2 (fun j hj => (World.ownsRow.lt O1.out j hj.symm).1)
  have hne2 : ∀ kk, v2.ownBlock = some kk → w.heap.size ≤ kk := fun kk hkk => by
    rcases hloc2 with e | e
    · rw [e] at hkk
      exact (World.ownsRow.lt O1.out kk hkk).1
    · rw [e] at hkk
      have := Option.some.inj hkk
      omega
  have HLE : (E.take k ++ E.drop (k + 1)).length = k + (n - (k + 1)) := by
    rw [List.length_append, List.length_take, List.length_drop, HN.out, Nat.min_eq_left (by omega)]
  have hown3 : w4.ownsRow w.heap.size 176 36 v2 (E.take k ++ E.drop (k + 1)).length (reVals (E.take k ++ E.drop (k + 1))) := by
    rw [HLE, reVals_app]
    exact hown2
  obtain ⟨a2, cap2, rfl, R2, KB2⟩ := HR.out.store k4 hown3 hne2
  have HFZ := (HR.out.keep k4).fz
  have c4 := k4.cell c1
  rw [HLE] at R2 KB2
  go_wp2
  go_end0
  exact ⟨⟨_, rfl⟩, _, _, R2, KB2⟩

end Hp
end Go.Proofs.YtlmfojkhfipdnaaGreatDoor

/-
  The reference's put.
-/
namespace Go.Proofs.YtlmfojkhfipdnaaGreatDoor
open Go.RowKit Go.Maps
namespace Hp
variable {X : Fr} {w w' : World} {br : Nat} {q : Int} {a : Option Addr} {cap : Nat} {E E' : List Re}

set_option maxRecDepth 100000 in
set_option maxHeartbeats 2000000 in
theorem rput_any (h : Rf X w br q a cap E) (hl : E.length ≤ 64) (e : Re) : Calls Tryz.prog 103 #[.pointer (some ⟨br, 0, none⟩), .agg (reList e).toArray] w fun ed w' => (∃ v, ed = .returned v) ∧ ∃ k, k ≤ E.length ∧ (∀ x ∈ E.take k, x.1.n < e.1.n) ∧ (∀ x, E[k]? = some x → e.1.n ≤ x.1.n) ∧ RPost X w br q (E.take k ++ e :: E.drop k) w' := by
  have HK0 : Aside (K w (w.alloc (.cells (reList e).toArray 176))) := (K.refl _).alloc _
  have hb : (w.alloc (.cells (reList e).toArray 176)).heap[w.heap.size]? = some (.cells (reList e).toArray 176) := (MapKept.heap_alloc w _).1
  have BOX : Aside (∀ wx, K (w.alloc (.cells (reList e).toArray 176)) wx → wx.cell? ⟨w.heap.size, 0, none⟩ = some (.int .i64 e.1.n) ∧ wx.rangeAt w.heap.size 0 (reList e)) := fun wx k => by
    have hbx := k.block hb
    have hr : wx.rangeAt w.heap.size 0 (reList e) := fun j u hu => by
      simp [World.cell?, hbx, hu]
    exact ⟨by have := hr 0 _ rfl; simpa using this, hr⟩
  have HWs : Aside ((w.alloc (.cells (reList e).toArray 176)).heap.size = w.heap.size + 1) := by show _ = _; simp
  have HR : Aside (Rf X (w.alloc (.cells (reList e).toArray 176)) br q a cap E) := h.keep HK0.out
  have hbr := h.lt
  have HLEN : Aside ((reList e).length = 1 * 36) := reList_len e
  obtain ⟨n, hn⟩ : ∃ n, E.length = n := ⟨_, rfl⟩
  have HN : Aside _ := hn
  obtain ⟨g, hrow, hform, hcap⟩ := HR.out.form
  have HIX : Aside _ := hrow.ix
  have HC1 : Aside (∀ wx, K (w.alloc (.cells (reList e).toArray 176)) wx → wx.cell? ⟨br, 1, none⟩ = some (.slice a n cap)) := fun wx k => by rw [← hn]; exact (HR.out.keep k).c1
  have HAT : Aside (∀ wx, K (w.alloc (.cells (reList e).toArray 176)) wx → ∀ (i : Nat) x, E[i]? = some x → wx.cell? ⟨g, i * 36, none⟩ = some (.int .i64 x.1.n)) := fun wx k i x hx => ((hrow.keep k).at hx).1
  have HCUT : Aside (∀ k, k ≤ n → ∃ oa, (∀ w, (Instr.slice 29 (.slice a n cap) none (some (.int .i64 (k : Int))) none).run Tryz.prog w = .ok (.slice a k cap) w) ∧ (∀ w, (Instr.slice 29 (.slice a n cap) (some (.int .i64 (k : Int))) none none).run Tryz.prog w = .ok (.slice oa (n - k) (cap - k)) w) ∧ (∀ wx, K (w.alloc (.cells (reList e).toArray 176)) wx → SrcR wx a k (reVals (E.take k))) ∧ (∀ wx, K (w.alloc (.cells (reList e).toArray 176)) wx → SrcR wx oa (n - k) (reVals (E.drop k)))) := by
    show ∀ k, _
    intro k hk
    subst hn
    obtain ⟨oa, h1, h2⟩ := run_cut_hi a g E.length cap k hform hk hcap
    exact ⟨oa, run_cut_lo a g E.length cap k hform hk hcap, h1, fun wx kx => src_lo (hrow.keep kx) hform k hk, fun wx kx => src_hi (hrow.keep kx) k hk h2⟩
  rw [hn] at HIX hl hcap
  clear h hb hrow hform
  go_enter Tryz.func103, Tryz.ntmps103
  go_wp2
  generalize w.alloc (.cells (reList e).toArray 176) = W at *
  go_loopg [5] n (fun gh t wx => ∃ k : Nat, k + gh = n ∧ t = .int .i64 k ∧ Aside (∀ x ∈ E.take k, x.1.n < e.1.n) ∧ K W wx)
  case atStart => exact ⟨0, by omega, rfl, fun x hx => by simp at hx, K.refl _⟩
  case round =>
    obtain ⟨k, hkg, rfl, HT, hk⟩ := hrel
    obtain ⟨b0, br0⟩ := BOX.out _ hk
    have c1 := HC1.out _ hk
    by_cases hstop : ∃ x, E[k]? = some x ∧ x.1.n < e.1.n
    · obtain ⟨x, hx, hxn⟩ := hstop
      have hkl : k < n := by have := (List.getElem?_eq_some_iff.1 hx).1; omega
      have hix := HIX.out k hkl
      have d0 := HAT.out _ hk k x hx
      have HX : Aside _ := hx
      clear hx br0 hn
      go_wp2
      go_quiet (fail)
      go_wp2
      go_roundg (n - (k + 1))
      case measure => omega
      case rel =>
        refine ⟨k + 1, by omega, by go_num, fun y hy => ?_, hk.drewN _⟩
        rw [List.take_add_one, HX.out] at hy
        rcases List.mem_append.1 hy with h1 | h1
        · exact HT.out y h1
        · simp at h1
          subst h1
          exact hxn
    · have HC : Aside (∀ x, E[k]? = some x → e.1.n ≤ x.1.n) := fun x hx => by
        by_cases e2 : x.1.n < e.1.n
        · exact absurd ⟨x, hx, e2⟩ hstop
        · omega
      obtain ⟨oa, hcl, hch, HS1', HS2'⟩ := HCUT.out k (by omega)
      have HS1 : Aside _ := HS1'
      have HS2 : Aside _ := HS2'
      have HL0 : Aside ((reVals (E.take k)).length = k * 36) := by show _ = _; rw [reVals_len, List.length_take, Nat.min_eq_left (by omega)]
      have HL2 : Aside ((reVals (E.drop k)).length = (n - k) * 36) := by show _ = _; rw [reVals_len, List.length_drop, hn]
      have RZ : Aside (∀ wx, K W wx → (wx.alloc (.cells #[] 176)).ownsRow W.heap.size 176 36 (.slice (some ⟨wx.heap.size, 0, none⟩) 0 0) 0 []) := fun wx kx => World.ownsRow_lit (base := W.heap.size) (e := 176) (size := 36) wx #[] 0 (Kept.size kx) (by simp [maxLen]) rfl
      have hkn : k ≤ n := by omega
      clear HS1' HS2' br0 hn hkg
      by_cases hkl : k < n
      · have hix := HIX.out k hkl
        obtain ⟨x, hx⟩ : ∃ x, E[k]? = some x := ⟨_, List.getElem?_eq_getElem (by have := HN.out; omega)⟩
        have hxn := HC.out x hx
        have d0 := HAT.out _ hk k x hx
        clear hx hstop
        go_wp2
        go_quiet (fail)
        have kq := hk.drewN nq
        clear hk c1 b0
        generalize wr.drewN nq = wq at *
        have c1 := HC1.out _ kq
        clear nq
        have hbrq : br < wq.heap.size := by have := Kept.size kq; have := HWs.out; omega
        have KZ : Aside (K W (wq.alloc (.cells #[] 176))) := kq.alloc _
        go_wp2_with (first
          | (at_builtin; refine wpList_append_res _ rfl _ _ rfl W.heap.size _ 0 [] rfl (RZ.out _ kq) rfl a k cap (reVals (E.take k)) rfl HL0.out (HS1.out _ KZ.out) (reVals_one _) (by omega) (by have := Kept.size kq; simp; omega) ?_; apply wrapd))
        unfold Wrapd
        intro v1 w3 hown1 hgrow1 hloc1
        have k3 : K W w3 := K.grownR KZ.out hgrow1 (fun j hj => by cases hj; exact Kept.size kq)
        have hv1 : v1.ownBlock.isSome = true := (by rcases hloc1 with e | e <;> (rw [e]; rfl))
        have c3 := HC1.out _ k3
        have hsz3 : W.heap.size ≤ w3.heap.size := Kept.size k3
        have O1 : Aside _ := hown1
        obtain ⟨b3, r3⟩ := BOX.out _ k3
        obtain ⟨a1, cap1, hv2⟩ := row_formR hown1
        subst hv2
        clear hown1 hgrow1 hloc1 RZ HS1 KZ c1 kq
        go_wp2_with (first
          | ((with_reducible refine wpList_load_re w.heap.size 0 e r3 ?_ ?_); · rfl)
          | ((with_reducible refine wpList_one_re (reList e).toArray (arr_size e) ?_ ?_); · rfl)
          | (at_builtin; apply wrapd))
        unfold Wrapd
        refine wpList_append_res _ rfl _ _ rfl W.heap.size _ k _ rfl (World.ownsRow.alloc O1.out _) hv1 (some ⟨w3.heap.size, 0, none⟩) 1 1 (reList e) rfl HLEN.out (src_re e w3) (reList_one e) (by omega) (by simp; omega) ?_
        intro v2 w4 hown2 hgrow2 hloc2
        have k4 : K W w4 := K.grownR (k3.alloc _) hgrow2 (fun j hj => (World.ownsRow.lt O1.out j hj.symm).1)
        have hsz4 : W.heap.size ≤ w4.heap.size := Kept.size k4
        have hv2 : v2.ownBlock.isSome = true := (by rcases hloc2 with e | e <;> (rw [e]; first | exact hv1 | rfl))
        have O2 : Aside _ := hown2
        have c4 := HC1.out _ k4
        obtain ⟨a2, cap2, hv3⟩ := row_formR hown2
        subst hv3
        clear hown2 hgrow2 hloc2 c3 b3 r3
        go_wp2_with (first
          | (at_builtin; apply wrapd))
        unfold Wrapd
        refine wpList_append_res _ rfl _ _ rfl W.heap.size _ (k + 1) _ rfl O2.out hv2 oa (n - k) (cap - k) (reVals (E.drop k)) rfl HL2.out (HS2.out _ k4) (reVals_one _) (by omega) hsz4 ?_
        intro v3 w5 hown3 hgrow3 hloc3
        have k5 : K W w5 := K.grownR k4 hgrow3 (fun j hj => (World.ownsRow.lt O2.out j hj.symm).1)
        have hne3 : ∀ kk, v3.ownBlock = some kk → W.heap.size ≤ kk := fun kk hkk => by
          rcases hloc3 with e | e
          · rw [e] at hkk
            exact (World.ownsRow.lt O2.out kk hkk).1
          · rw [e] at hkk
            have := Option.some.inj hkk
            omega
        have HLE : (E.take k ++ e :: E.drop k).length = k + 1 + (n - k) := by
          rw [List.length_append, List.length_cons, List.length_take, List.length_drop, HN.out, Nat.min_eq_left (by omega)]
          omega
        have hown4 : w5.ownsRow W.heap.size 176 36 v3 (E.take k ++ e :: E.drop k).length (reVals (E.take k ++ e :: E.drop k)) := by
          rw [HLE, reVals_app]
          have e1 : reVals (e :: E.drop k) = reList e ++ reVals (E.drop k) := rfl
          rw [e1, ← List.append_assoc]
          exact hown3
        obtain ⟨a3, cap3, rfl, R3, KB3⟩ := HR.out.store k5 hown4 hne3
        have HFZ := (HR.out.keep k5).fz
        have c5 := HC1.out _ k5
        rw [HLE] at R3 KB3
        go_wp2
        go_ret
        exact ⟨⟨_, rfl⟩, k, by rw [HN.out]; exact hkn, HT.out, HC.out, _, _, R3, (RSt.ofK HK0.out).trans KB3⟩
      · clear hstop
        go_wp2
        go_quiet (fail)
        have kq := hk.drewN nq
        clear hk c1 b0
        generalize wr.drewN nq = wq at *
        have c1 := HC1.out _ kq
        clear nq
        have hbrq : br < wq.heap.size := by have := Kept.size kq; have := HWs.out; omega
        have KZ : Aside (K W (wq.alloc (.cells #[] 176))) := kq.alloc _
        go_wp2_with (first
          | (at_builtin; refine wpList_append_res _ rfl _ _ rfl W.heap.size _ 0 [] rfl (RZ.out _ kq) rfl a k cap (reVals (E.take k)) rfl HL0.out (HS1.out _ KZ.out) (reVals_one _) (by omega) (by have := Kept.size kq; simp; omega) ?_; apply wrapd))
        unfold Wrapd
        intro v1 w3 hown1 hgrow1 hloc1
        have k3 : K W w3 := K.grownR KZ.out hgrow1 (fun j hj => by cases hj; exact Kept.size kq)
        have hv1 : v1.ownBlock.isSome = true := (by rcases hloc1 with e | e <;> (rw [e]; rfl))
        have c3 := HC1.out _ k3
        have hsz3 : W.heap.size ≤ w3.heap.size := Kept.size k3
        have O1 : Aside _ := hown1
        obtain ⟨b3, r3⟩ := BOX.out _ k3
        obtain ⟨a1, cap1, hv2⟩ := row_formR hown1
        subst hv2
        clear hown1 hgrow1 hloc1 RZ HS1 KZ c1 kq
        go_wp2_with (first
          | ((with_reducible refine wpList_load_re w.heap.size 0 e r3 ?_ ?_); · rfl)
          | ((with_reducible refine wpList_one_re (reList e).toArray (arr_size e) ?_ ?_); · rfl)
          | (at_builtin; apply wrapd))
        unfold Wrapd
        refine wpList_append_res _ rfl _ _ rfl W.heap.size _ k _ rfl (World.ownsRow.alloc O1.out _) hv1 (some ⟨w3.heap.size, 0, none⟩) 1 1 (reList e) rfl HLEN.out (src_re e w3) (reList_one e) (by omega) (by simp; omega) ?_
        intro v2 w4 hown2 hgrow2 hloc2
        have k4 : K W w4 := K.grownR (k3.alloc _) hgrow2 (fun j hj => (World.ownsRow.lt O1.out j hj.symm).1)
        have hsz4 : W.heap.size ≤ w4.heap.size := Kept.size k4
        have hv2 : v2.ownBlock.isSome = true := (by rcases hloc2 with e | e <;> (rw [e]; first | exact hv1 | rfl))
        have O2 : Aside _ := hown2
        have c4 := HC1.out _ k4
        obtain ⟨a2, cap2, hv3⟩ := row_formR hown2
        subst hv3
        clear hown2 hgrow2 hloc2 c3 b3 r3
        go_wp2_with (first
          | (at_builtin; apply wrapd))
        unfold Wrapd
        refine wpList_append_res _ rfl _ _ rfl W.heap.size _ (k + 1) _ rfl O2.out hv2 oa (n - k) (cap - k) (reVals (E.drop k)) rfl HL2.out (HS2.out _ k4) (reVals_one _) (by omega) hsz4 ?_
        intro v3 w5 hown3 hgrow3 hloc3
        have k5 : K W w5 := K.grownR k4 hgrow3 (fun j hj => (World.ownsRow.lt O2.out j hj.symm).1)
        have hne3 : ∀ kk, v3.ownBlock = some kk → W.heap.size ≤ kk := fun kk hkk => by
          rcases hloc3 with e | e
          · rw [e] at hkk
            exact (World.ownsRow.lt O2.out kk hkk).1
          · rw [e] at hkk
            have := Option.some.inj hkk
            omega
        have HLE : (E.take k ++ e :: E.drop k).length = k + 1 + (n - k) := by
          rw [List.length_append, List.length_cons, List.length_take, List.length_drop, HN.out, Nat.min_eq_left (by omega)]
          omega
        have hown4 : w5.ownsRow W.heap.size 176 36 v3 (E.take k ++ e :: E.drop k).length (reVals (E.take k ++ e :: E.drop k)) := by
          rw [HLE, reVals_app]
          have e1 : reVals (e :: E.drop k) = reList e ++ reVals (E.drop k) := rfl
          rw [e1, ← List.append_assoc]
          exact hown3
        obtain ⟨a3, cap3, rfl, R3, KB3⟩ := HR.out.store k5 hown4 hne3
        have HFZ := (HR.out.keep k5).fz
        have c5 := HC1.out _ k5
        rw [HLE] at R3 KB3
        go_wp2
        go_ret
        exact ⟨⟨_, rfl⟩, k, by rw [HN.out]; exact hkn, HT.out, HC.out, _, _, R3, (RSt.ofK HK0.out).trans KB3⟩

end Hp
end Go.Proofs.YtlmfojkhfipdnaaGreatDoor

/-
  A slot of an entry of the reference's is turned; entries that go, come, or turn, as the heap's lists say it.
-/
namespace Go.Proofs.YtlmfojkhfipdnaaGreatDoor
open Go.RowKit Go.Maps
namespace Hp
variable {X : Fr} {w w' : World} {br : Nat} {q : Int} {a : Option Addr} {cap : Nat} {E E' : List Re}

/-- Where a row of entries lies. -/
theorem Rf.addr (h : Rf X w br q a cap E) {i : Nat} (hi : i < E.length) : ∃ g, a = some ⟨g, 0, none⟩ ∧ g ≠ br ∧ RowE w g a cap E := by
  obtain ⟨g, hr, hf, hc⟩ := h.form
  rcases hf with rfl | ⟨_, h0, _⟩
  · exact ⟨g, rfl, h.ne rfl, hr⟩
  · omega

theorem Rf.turn {g : Nat} (h : Rf X w br q (some ⟨g, 0, none⟩) cap E) {i : Nat} {e e' : Re} (he : E[i]? = some e) {k : Nat} {v : Value} (hk : k < 36) (hset : (reList e).set k v = reList e') : Rf X (w.setCell ⟨g, i * 36 + k, none⟩ v) br q (some ⟨g, 0, none⟩) cap (E.set i e') := by
  have hi : i < E.length := (List.getElem?_eq_some_iff.1 he).1
  have hne := h.ne (k := g) rfl
  refine ⟨?_, ⟨by rw [reVals_len], ?_⟩⟩
  · rw [Below.heap_setCell _ _ _ _ (by show br ≠ g; omega), List.length_set]
    exact h.s0
  · rcases h.row.2 with ⟨hv, h0⟩ | ⟨g2, c, cur, hv, hb, hh, h1, h2, h3, h4⟩
    · cases hv
    · injection hv with e1 e2 e3
      injection e1 with e1
      injection e1 with e1
      subst e1 e3
      refine .inr ⟨g, cap, cur.setIfInBounds (i * 36 + k) v, by rw [List.length_set], hb, by rw [heap_setCell_same w g (i * 36 + k) _ _ _ hh], by rw [List.length_set]; exact h1, h2, by simpa using h3, ?_⟩
      rw [List.length_set, Array.toList_setIfInBounds, List.take_set, h4]
      exact reVals_set he e' k v hk hset

/-- A cell of a slot is there, and is not frozen. -/
theorem Rf.cellT {g : Nat} (h : Rf X w br q (some ⟨g, 0, none⟩) cap E) {i : Nat} {e : Re} (he : E[i]? = some e) {k : Nat} (hk : k < 31) : w.cell? ⟨g, i * 36 + 5 + k, none⟩ = some (.bool (tkB e.1 k)) ∧ w.frozen? ⟨g, i * 36 + 5 + k, none⟩ = false := by
  have hi : i < E.length := (List.getElem?_eq_some_iff.1 he).1
  rcases h.row.2 with ⟨hv, h0⟩ | ⟨g2, c, cur, hv, hb, hh, h1, h2, h3, h4⟩
  · cases hv
  · injection hv with e1 e2 e3
    injection e1 with e1
    injection e1 with e1
    subst e1
    refine ⟨?_, by simp [World.frozen?, hh]⟩
    have h5 : (reVals E)[i * 36 + (5 + k)]? = some (.bool (tkB e.1 k)) := by rw [reVals_at he _ (by omega), reList_tk hk]
    rw [← h4, List.getElem?_take_of_lt (by omega)] at h5
    simp [World.cell?, hh]
    rw [Nat.add_assoc]
    simpa using h5

theorem entsR_app (A B : List Re) : entsR (A ++ B) = entsR A ++ entsR B := by simp [entsR]
theorem split_at {i : Nat} {e : Re} (he : E[i]? = some e) : E = E.take i ++ e :: E.drop (i + 1) := by
  obtain ⟨hi, h2⟩ := List.getElem?_eq_some_iff.1 he
  rw [← h2, List.getElem_cons_drop, List.take_append_drop]
theorem apart_n {A B : List Pg} {p : Pg} (h : Srt (A ++ p :: B)) (hs : ∀ r ∈ A ++ p :: B, 1 ≤ r.span) : (∀ r ∈ A, r.n ≠ p.n) ∧ ∀ r ∈ B, r.n ≠ p.n := by
  obtain ⟨_, h2, h3⟩ := List.pairwise_append.1 h
  have hp := hs p (by simp)
  refine ⟨fun r hr => ?_, fun r hr => ?_⟩
  · have h4 := h3 r hr p (by simp)
    have h5 := hs r (by simp [hr])
    omega
  · have h4 := (List.pairwise_cons.1 h2).1 r hr
    omega
/-- An entry goes. -/
theorem entsR_del {i : Nat} {e : Re} (hE : Eo E) (he : E[i]? = some e) : entsR (E.take i ++ E.drop (i + 1)) = delL (entsR E) e.1.n := by
  have hs : entsR E = entsR (E.take i) ++ e.1 :: entsR (E.drop (i + 1)) := by
    conv => lhs; rw [split_at he, entsR_app]
    rfl
  have hsrt := hE.wl.srt
  have hsp : ∀ r ∈ entsR E, 1 ≤ r.span := fun r hr => (hE.wl.ent r hr).span.1
  rw [hs] at hsrt hsp
  obtain ⟨h1, h2⟩ := apart_n hsrt hsp
  rw [hs, entsR_app]
  unfold delL
  rw [List.filter_append, List.filter_cons_of_neg (by simp), List.filter_eq_self.2 (fun r hr => by simpa using h1 r hr), List.filter_eq_self.2 (fun r hr => by simpa using h2 r hr)]
/-- An entry turns. -/
theorem entsR_upd {i : Nat} {e e' : Re} (hE : Eo E) (he : E[i]? = some e) : entsR (E.set i e') = updL (entsR E) e.1.n e'.1 := by
  have hs : entsR E = entsR (E.take i) ++ e.1 :: entsR (E.drop (i + 1)) := by
    conv => lhs; rw [split_at he, entsR_app]
    rfl
  have hi : i < E.length := (List.getElem?_eq_some_iff.1 he).1
  have hsrt := hE.wl.srt
  have hsp : ∀ r ∈ entsR E, 1 ≤ r.span := fun r hr => (hE.wl.ent r hr).span.1
  rw [hs] at hsrt hsp
  obtain ⟨h1, h2⟩ := apart_n hsrt hsp
  have e1 : E.set i e' = E.take i ++ e' :: E.drop (i + 1) := by rw [List.set_eq_take_append_cons_drop, if_pos hi]
  rw [hs, e1, entsR_app]
  unfold updL
  rw [List.map_append, List.map_cons, if_pos rfl]
  congr 1
  · exact (List.map_id'' (fun r => by rfl) _).symm.trans (List.map_congr_left fun r hr => by simp [h1 r hr])
  · show e'.1 :: entsR (E.drop (i + 1)) = _
    congr 1
    exact (List.map_id'' (fun r => by rfl) _).symm.trans (List.map_congr_left fun r hr => by simp [h2 r hr])
/-- An entry comes. -/
theorem entsR_ins {e : Re} : ∀ {E : List Re} {k : Nat}, (∀ x ∈ E.take k, x.1.n < e.1.n) → (∀ x, E[k]? = some x → e.1.n < x.1.n) → k ≤ E.length → entsR (E.take k ++ e :: E.drop k) = insL e.1 (entsR E)
  | [], k, _, _, hk => by
    obtain rfl : k = 0 := by simpa using hk
    rfl
  | x :: E, 0, _, h2, _ => by
    have := h2 x rfl
    show e.1 :: x.1 :: entsR E = insL e.1 (x.1 :: entsR E)
    unfold insL
    rw [if_pos this]
  | x :: E, k + 1, h1, h2, hk => by
    have h3 := h1 x (by simp)
    have ih := entsR_ins (e := e) (E := E) (k := k) (fun y hy => h1 y (by simp [hy])) (fun y hy => h2 y (by simpa using hy)) (by simpa using hk)
    show x.1 :: entsR (E.take k ++ e :: E.drop k) = insL e.1 (x.1 :: entsR E)
    unfold insL
    rw [if_neg (by omega), ih]

end Hp
end Go.Proofs.YtlmfojkhfipdnaaGreatDoor

/-
  The reference's leave.
-/
namespace Go.Proofs.YtlmfojkhfipdnaaGreatDoor
open Go.RowKit Go.Maps
namespace Hp
variable {X : Fr} {w w' : World} {br : Nat} {q : Int} {a : Option Addr} {cap : Nat} {E E' : List Re}

/-- An entry with a slot left. -/
def clrP (p : Pg) (k : Nat) : Pg := withT p (if p.kind = 2 then 1 else Bt.clrI p.taken k)
theorem tkB_small {p : Pg} (h : p.kind = 1) (i : Nat) : tkB p i = Bt.hasI p.taken i := if_neg (by omega)
theorem tkB_large {p : Pg} (h : p.kind = 2) (i : Nat) : tkB p i = decide (i = 0 ∧ p.taken = 0) := if_pos h
theorem clrP_small {p : Pg} (h : p.kind = 1) (k : Nat) : clrP p k = withT p (Bt.clrI p.taken k) := by
  unfold clrP
  rw [if_neg (by omega)]
theorem clrP_large {p : Pg} (h : p.kind = 2) (k : Nat) : clrP p k = withT p 1 := by
  unfold clrP
  rw [if_pos h]
/-- What is there behind leave. -/
def leaveE (E : List Re) (i : Nat) (p : Pg) (j : Int) (k : Nat) : List Re := if p.kind = 2 ∨ Bt.clrI p.taken k = 0 then E.take i ++ E.drop (i + 1) else E.set i (withT p (Bt.clrI p.taken k), j)

theorem clr_tkB {p : Pg} (hp : Ent p) {k : Nat} (hk : (k : Int) < nslI p) (i : Nat) (hi : i < 31) : tkB (clrP p k) i = if i = k then false else tkB p i := by
  have hr := nsl_range hp
  rcases hp.kind with h1 | h2
  · rw [clrP_small h1, tkB_small (p := withT p (Bt.clrI p.taken k)) h1, tkB_small h1]
    show Bt.hasI (Bt.clrI p.taken k) i = _
    rw [has_clr ⟨by omega, by omega⟩ ⟨by omega, by omega⟩]
    by_cases e : i = k
    · subst e
      simp
    · rw [if_neg e]
      have : ¬ ((i : Int) = (k : Int)) := by omega
      simp [this]
  · have hn : nslI p = 1 := if_pos h2
    obtain rfl : k = 0 := by omega
    rw [clrP_large h2, tkB_large (show (withT p 1).kind = 2 from h2), tkB_large h2]
    by_cases e : i = 0
    · simp [e, withT]
    · simp [e]
theorem clr_set {p : Pg} (hp : Ent p) {k : Nat} (hk : (k : Int) < nslI p) (j : Int) : (reList (p, j)).set (5 + k) (.bool false) = reList (clrP p k, j) := by
  have hr := nsl_range hp
  exact reList_turnG (by omega) fun i hi => clr_tkB hp hk i hi

def emptyTo (p : Pg) (n : Nat) : Bool := (List.range n).all fun m => !tkB p m
theorem emptyTo_succ (p : Pg) (n : Nat) : emptyTo p (n + 1) = (emptyTo p n && !tkB p n) := by
  unfold emptyTo
  rw [List.range_succ, List.all_append]
  simp
theorem empty_clr {p : Pg} (hp : Ent p) {k : Nat} (hk : (k : Int) < nslI p) : emptyTo (clrP p k) (nslI p).toNat = decide (p.kind = 2 ∨ Bt.clrI p.taken k = 0) := by
  have hr := nsl_range hp
  rw [Bool.eq_iff_iff, decide_eq_true_iff]
  unfold emptyTo
  rw [List.all_eq_true]
  rcases hp.kind with h1 | h2
  · obtain ⟨c0, c1, _, hU, hc, _⟩ := hp.small h1
    have hn : nslI p = Cl.sloI p.cls := if_neg (by omega)
    rw [hn] at hk hr ⊢
    have hz := zero_iff (t := Bt.clrI p.taken k) (n := Cl.sloI p.cls) (Bt.clrI_U hU) (by omega) (by omega) (cut_clr hU (by omega) (by omega) hc (by omega) hk)
    have ht : ∀ m : Nat, tkB (clrP p k) m = Bt.hasI (Bt.clrI p.taken k) m := fun m => by
      rw [clrP_small h1, tkB_small (p := withT p (Bt.clrI p.taken k)) h1]
      rfl
    rw [hz]
    constructor
    · intro h
      refine .inr fun m m0 m1 => ?_
      obtain ⟨m, rfl⟩ : ∃ x : Nat, m = (x : Int) := ⟨m.toNat, by omega⟩
      have := h m (List.mem_range.2 (by omega))
      rw [ht] at this
      simpa using this
    · rintro (h | h) m hm
      · omega
      · rw [ht, h m (by omega) (by have := List.mem_range.1 hm; omega)]
        rfl
  · refine ⟨fun _ => .inl h2, fun _ m hm => ?_⟩
    rw [clrP_large h2, tkB_large (show (withT p 1).kind = 2 from h2)]
    simp [withT]

set_option maxRecDepth 100000 in
set_option maxHeartbeats 2000000 in
theorem rleave_any (h : Rf X w br q a cap E) (hl : E.length ≤ 64) {i : Nat} {p : Pg} {j : Int} (he : E[i]? = some (p, j)) (hp : Ent p) (k : Nat) (hk : (k : Int) < nslI p) :
    Calls Tryz.prog 111 #[.pointer (some ⟨br, 0, none⟩), .int .i64 (i : Int), .int .i64 (k : Int)] w fun ed w' => (∃ v, ed = .returned v) ∧ RPost X w br q (leaveE E i p j k) w' := by
  have c1 := h.c1
  have hbr := h.lt
  have hi : i < E.length := (List.getElem?_eq_some_iff.1 he).1
  have hr := nsl_range hp
  have k31 : k < 31 := by omega
  obtain ⟨g0, hrow, hform, hcap⟩ := h.form
  have HKD : Aside (p.kind = 1 ∨ p.kind = 2) := hp.kind
  have kz : K w (w.alloc (.cells #[] 176)) := (K.refl w).alloc _
  have HSRC : Aside (SrcR (w.alloc (.cells #[] 176)) a E.length (reVals E)) := by
    have := src_lo (hrow.keep kz) hform E.length (Nat.le_refl _)
    rw [List.take_length] at this
    exact this
  have HL0 : Aside ((reVals E).length = E.length * 36) := reVals_len E
  have HR : Aside _ := h
  have HE : Aside _ := he
  have HSET : Aside ((reList (p, j)).set (5 + k) (.bool false) = reList (clrP p k, j)) := clr_set hp hk j
  have HEM : Aside (emptyTo (clrP p k) (nslI p).toNat = decide (p.kind = 2 ∨ Bt.clrI p.taken k = 0)) := empty_clr hp hk
  have RZ : Aside ((w.alloc (.cells #[] 176)).ownsRow w.heap.size 176 36 (.slice (some ⟨w.heap.size, 0, none⟩) 0 0) 0 []) := World.ownsRow_lit (base := w.heap.size) (e := 176) (size := 36) w #[] 0 (Nat.le_refl _) (by simp [maxLen]) rfl
  have KZ : Aside _ := kz
  obtain ⟨n, hn⟩ : ∃ n, E.length = n := ⟨_, rfl⟩
  have HN : Aside _ := hn
  rw [hn] at hl hi c1 hcap HL0 HSRC
  clear h hrow hform kz hn he hp hcap
  go_enter Tryz.func111, Tryz.ntmps111
  go_wp2_with (first
    | (at_builtin; refine wpList_append_res _ rfl _ _ rfl w.heap.size _ 0 [] rfl RZ.out rfl a n cap (reVals E) rfl HL0.out HSRC.out (reVals_one _) (by omega) (by simp) ?_; apply wrapd))
  unfold Wrapd
  intro v1 w3 hown1 hgrow1 hloc1
  have k3 : K w w3 := K.grownR KZ.out hgrow1 (fun j hj => by cases hj; exact Nat.le_refl _)
  have hne1 : ∀ kk, v1.ownBlock = some kk → w.heap.size ≤ kk := fun kk hkk => by
    rcases hloc1 with e | e
    · rw [e] at hkk
      cases hkk
      exact Nat.le_refl _
    · rw [e] at hkk
      have := Option.some.inj hkk
      have := Kept.size KZ.out
      omega
  have hown2 : w3.ownsRow w.heap.size 176 36 v1 E.length (reVals E) := by
    rw [HN.out]
    exact hown1
  obtain ⟨a2, cap2, rfl, R2, KB2⟩ := HR.out.store k3 hown2 hne1
  have HFZ := (HR.out.keep k3).fz
  have c3 := k3.cell c1
  have hfr : ∀ g, a2 = some ⟨g, 0, none⟩ → w.heap.size ≤ g := fun g e => hne1 g (by rw [e]; rfl)
  obtain ⟨g, rfl, hgne, hrow2⟩ := R2.addr (by rw [HN.out]; exact hi)
  have hg0 := hfr g rfl
  have R3 := R2.turn (k := 5 + k) HE.out (by omega) HSET.out
  have HR2 : Aside _ := R2
  have HKB2 : Aside _ := KB2
  have hi' : i < E.length := by rw [HN.out]; exact hi
  have hix := hrow2.ix i hi'
  obtain ⟨hct, hcf⟩ := R2.cellT HE.out k31
  have hct : w3.cell? ⟨g, i * 36 + 5 + k, none⟩ = some (.bool (tkB p k)) := (World.cell?_of_block (a := ⟨g, i * 36 + 5 + k, none⟩) (Below.heap_setCell w3 ⟨br, 1, none⟩ _ g hgne)).symm.trans hct
  have hcf : w3.frozen? ⟨g, i * 36 + 5 + k, none⟩ = false := (World.frozen?_of_block (a := ⟨g, i * 36 + 5 + k, none⟩) (Below.heap_setCell w3 ⟨br, 1, none⟩ _ g hgne)).symm.trans hcf
  have hixT := run_ixT g (i * 36 + 5) k k31
  clear hown1 hown2 hgrow1 hloc1 hne1 hfr hrow2 R2 KB2 c1 RZ HSRC
  rw [← Nat.add_assoc] at R3
  have KB3 := Kept.setCell HKB2.out (p := ⟨g, i * 36 + 5 + k, none⟩) (.bool false) (.inr hg0)
  go_wp2
  generalize ((w3.setCell ⟨br, 1, none⟩ (.slice (some ⟨g, 0, none⟩) E.length cap2)).setCell ⟨g, i * 36 + 5 + k, none⟩ (.bool false)) = W at *
  have HR3 : Aside _ := R3
  have HKB3 : Aside _ := KB3
  have HE1 : (E.set i (clrP p k, j))[i]? = some (clrP p k, j) := by rw [List.getElem?_set_self hi']
  have HL1 : (E.set i (clrP p k, j)).length = n := by rw [List.length_set]; exact HN.out
  have HD1 : Aside ((E.set i (clrP p k, j)).take i ++ (E.set i (clrP p k, j)).drop (i + 1) = E.take i ++ E.drop (i + 1)) := by
    show _ = _
    rw [List.take_set_of_le (by omega), List.drop_set_of_lt (by omega)]
  have HSM : Aside (¬ (p.kind = 2 ∨ Bt.clrI p.taken k = 0) → clrP p k = withT p (Bt.clrI p.taken k)) := fun h => clrP_small (HKD.out.resolve_right fun h1 => h (.inl h1)) k
  have HC1 : Aside (∀ wx, K W wx → wx.cell? ⟨br, 1, none⟩ = some (.slice (some ⟨g, 0, none⟩) n cap2)) := fun wx kx => by
    rw [← HL1]
    exact (R3.keep kx).c1
  obtain ⟨g', hg', _, hrow3⟩ := R3.addr (i := i) (by rw [HL1]; exact hi)
  obtain rfl : g = g' := by injection hg' with e; injection e
  have hix : ∀ w', (Instr.indexAt 29 (.slice (some ⟨g, 0, none⟩) n cap2) (.int .i64 (i : Int))).run Tryz.prog w' = .ok (.pointer (some ⟨g, i * 36, none⟩)) w' := by
    rw [← HL1]
    exact hrow3.ix i (by rw [HL1]; exact hi)
  have HRG : Aside (∀ wx, K W wx → wx.rangeAt g (i * 36) (reList (clrP p k, j))) := fun wx kx => (hrow3.keep kx).range HE1
  have HTK : Aside (∀ wx, K W wx → ∀ m, m < 31 → wx.cell? ⟨g, i * 36 + 5 + m, none⟩ = some (.bool (tkB (clrP p k) m))) := fun wx kx m hm => (hrow3.keep kx).tk HE1 hm
  have csl := fun w => rslots_kd (clrP p k) j HKD.out w
  have HNS : nslI (clrP p k) = nslI p := rfl
  rw [HNS] at csl
  have HI1 : i < (E.set i (clrP p k, j)).length := by rw [HL1]; exact hi
  have HLE : Aside (leaveE E i p j k = if p.kind = 2 ∨ Bt.clrI p.taken k = 0 then E.take i ++ E.drop (i + 1) else E.set i (withT p (Bt.clrI p.taken k), j)) := rfl
  generalize hE1 : E.set i (clrP p k, j) = E1 at *
  have HE1e : Aside _ := hE1
  generalize clrP p k = p2 at *
  clear R3 KB3 hrow3 HE1 hct hcf hixT c3 HFZ k3 KZ HL0 hgne hg0 hbr HNS HSET hE1 HKB2 HR2
  go_loopg [6, 7] (nslI p).toNat (fun gh t6 t7 wx => ∃ m : Nat, (m : Int) + gh = nslI p ∧ t7 = .int .i64 m ∧ t6 = .bool (emptyTo p2 m) ∧ K W wx)
  case atStart => exact ⟨0, by omega, rfl, rfl, K.refl _⟩
  case round =>
    obtain ⟨m, hmg, rfl, rfl, hk2⟩ := hrel
    have c1 := HC1.out _ hk2
    by_cases hmn : (m : Int) < nslI p
    · have hm31 : m < 31 := by omega
      have hixT := run_ixT g (i * 36 + 5) m hm31
      cases hem : emptyTo p2 m with
      | false =>
        go_wp2_with (first
          | ((with_reducible refine wpList_load_re g (i * 36) (p2, j) ?_ ?_ ?_); (· exact HRG.out _ hk2); (· rfl))
          | (go_at_call 138; refine (csl _).mono ?_; rintro e w2 ⟨rfl, k2⟩; have hk3 := hk2.trans k2; have c4 := HC1.out _ hk3; have ht := HTK.out _ hk3 m hm31))
        go_roundg ((nslI p).toNat - (m + 1))
        case measure => omega
        case rel => exact ⟨m + 1, by omega, by go_num, by rw [emptyTo_succ, hem]; rfl, hk3⟩
      | true =>
        go_wp2_with (first
          | ((with_reducible refine wpList_load_re g (i * 36) (p2, j) ?_ ?_ ?_); (· exact HRG.out _ hk2); (· rfl))
          | (go_at_call 138; refine (csl _).mono ?_; rintro e w2 ⟨rfl, k2⟩; have hk3 := hk2.trans k2; have c4 := HC1.out _ hk3; have ht := HTK.out _ hk3 m hm31))
        go_roundg ((nslI p).toNat - (m + 1))
        case measure => omega
        case rel => exact ⟨m + 1, by omega, by go_num, by rw [emptyTo_succ, hem]; rfl, hk3⟩
    · have hme : m = (nslI p).toNat := by omega
      by_cases hz : p.kind = 2 ∨ Bt.clrI p.taken k = 0
      · have hem : emptyTo p2 m = true := by rw [hme, HEM.out]; exact decide_eq_true hz
        have HZ : Aside _ := hz
        clear hz hme
        rw [hem]
        go_wp2_with (first
          | ((with_reducible refine wpList_load_re g (i * 36) (p2, j) ?_ ?_ ?_); (· exact HRG.out _ hk2); (· rfl))
          | (go_at_call 138; refine (csl _).mono ?_; rintro e w2 ⟨rfl, k2⟩; have hk3 := hk2.trans k2; have c4 := HC1.out _ hk3)
          | (go_at_call 110; refine (rdrop_any (HR3.out.keep hk3) (by rw [HL1]; exact hl) i HI1).mono ?_; rintro e w5 ⟨⟨v, rfl⟩, a5, cap5, R5, KB5⟩))
        go_end0
        exact ⟨⟨_, rfl⟩, a5, cap5, by rw [HLE.out, if_pos HZ.out, ← HD1.out]; exact R5, (HKB3.out.trans (RSt.ofK hk3)).trans KB5⟩
      · have hem : emptyTo p2 m = false := by rw [hme, HEM.out]; exact decide_eq_false hz
        have HZ : Aside _ := hz
        clear hz hme
        rw [hem]
        go_wp2_with (first
          | ((with_reducible refine wpList_load_re g (i * 36) (p2, j) ?_ ?_ ?_); (· exact HRG.out _ hk2); (· rfl))
          | (go_at_call 138; refine (csl _).mono ?_; rintro e w2 ⟨rfl, k2⟩; have hk3 := hk2.trans k2; have c4 := HC1.out _ hk3))
        go_end0
        exact ⟨⟨_, rfl⟩, _, _, by rw [HLE.out, if_neg HZ.out, ← HSM.out HZ.out, HE1e.out]; exact HR3.out.keep hk3, HKB3.out.trans (RSt.ofK hk3)⟩

end Hp
end Go.Proofs.YtlmfojkhfipdnaaGreatDoor

/-
  The reference's Free.
-/
namespace Go.Proofs.YtlmfojkhfipdnaaGreatDoor
open Go.RowKit Go.Maps
namespace Hp
variable {X : Fr} {w w' : World} {br : Nat} {q : Int} {a : Option Addr} {cap : Nat} {E E' : List Re}

/-- What leave makes of the entries, as the heap's list says it. -/
theorem entsR_leave (hE : Eo E) {i : Nat} {p : Pg} {j : Int} (he : E[i]? = some (p, j)) (k : Nat) : entsR (leaveE E i p j k) = dropL (entsR E) p k := by
  unfold leaveE dropL
  by_cases h2 : p.kind = 2
  · rw [if_pos (.inl h2), if_pos h2]
    exact entsR_del hE he
  · by_cases hz : Bt.clrI p.taken k = 0
    · rw [if_pos (.inr hz), if_neg h2, if_pos hz]
      exact entsR_del hE he
    · rw [if_neg (fun h => h.elim h2 hz), if_neg h2, if_neg hz]
      exact entsR_upd (e' := (withT p (Bt.clrI p.taken k), j)) hE he

set_option maxRecDepth 100000 in
set_option maxHeartbeats 1000000 in
theorem rFree_call (h : Rf X w br q a cap E) (hE : Eo E) (x : Int) : Calls Tryz.prog 88 #[.pointer (some ⟨br, 0, none⟩), .int .i64 x] w fun e w' => e = .returned (.int .i64 (freeL (entsR E) x).1) ∧ ∃ E', entsR E' = (freeL (entsR E) x).2 ∧ RPost X w br q E' w' := by
  obtain ⟨g, hrow, hform, hcap⟩ := h.form
  have cf := rFind_any (q := q) hrow hE x
  have c0 := h.c0
  have c1 := h.c1
  have s0 := h.s0
  have HR : Aside _ := h
  have HE : Aside _ := hE
  clear h hE hrow hform hcap
  go_enter Tryz.func88, Tryz.ntmps88
  go_wp2_with fail
  refine cf.mono ?_
  rintro e w1 ⟨(⟨i, k, rfl, hh⟩ | ⟨rfl, hn⟩), k1⟩
  · obtain ⟨⟨p, j⟩, he, hk, ht, hf⟩ := hit_find HE.out hh
    obtain ⟨hp, _⟩ := HE.out.at he
    have HF : Hid (freeL (entsR E) x = (0, dropL (entsR E) p k)) := by
      show freeL (entsR E) x = _
      unfold freeL
      rw [hf]
    have cl := rleave_any (HR.out.keep k1) HE.out.len he hp k hk
    have HEL : Aside _ := entsR_leave HE.out he k
    clear hh hf he hp ht hk c0 c1 s0 cf
    go_wp2_with fail
    refine cl.mono ?_
    rintro e w2 ⟨⟨v, rfl⟩, P2⟩
    go_wp2
    go_ret
    obtain ⟨a2, cap2, R2, K2⟩ := P2
    exact ⟨by rw [HF.out]; rfl, _, by rw [HF.out]; exact HEL.out, a2, cap2, R2, (RSt.ofK k1).trans K2⟩
  · have hf := nohit_find HE.out hn
    have HF : Hid (freeL (entsR E) x = (5, entsR E)) := by
      show freeL (entsR E) x = _
      unfold freeL
      rw [hf]
    clear hf hn cf c0 c1 s0
    go_wp2
    go_ret
    exact ⟨by rw [HF.out]; rfl, E, by rw [HF.out], a, cap, HR.out.keep k1, RSt.ofK k1⟩

end Hp
end Go.Proofs.YtlmfojkhfipdnaaGreatDoor

/-
  A new entry of the reference's: where it comes, how it is built.
-/
namespace Go.Proofs.YtlmfojkhfipdnaaGreatDoor
open Go.RowKit Go.Maps
namespace Hp
variable {X : Fr} {w w' : World} {br : Nat} {q : Int} {a : Option Addr} {cap : Nat} {E E' : List Re}

theorem run_build_re (n s c x : Int) (b : Bool) (w : World) : (Instr.build 176 #[(0, .int .i64 n), (1, .int .i64 s), (2, .int .i64 c), (3, .int .i64 x), (4, .bool b)]).run Tryz.prog w = .ok (.agg ([Value.int .i64 n, .int .i64 s, .int .i64 c, .int .i64 x, .bool b] ++ (List.range 31).map fun _ => Value.bool false).toArray) w := by kernel_rfl

/-- An entry with no slot taken, as it is built. -/
theorem list_built {p : Pg} {j : Int} (h : ∀ i : Nat, i < 31 → tkB p i = false) : ([Value.int .i64 p.n, .int .i64 p.span, .int .i64 p.cls, .int .i64 (wdI p j), .bool (lgB p)] ++ (List.range 31).map fun _ => Value.bool false) = reList (p, j) := by
  unfold reList
  congr 1
  apply List.map_congr_left
  intro i hi
  rw [h i (List.mem_range.1 hi)]

/-- No entry hits the pages from f on: they are free. -/
theorem frB_iff (hs : ∀ r ∈ entsR E, 1 ≤ r.span) {f m : Int} (hm : 1 ≤ m) : frB E f m (-1) ↔ ∀ k, f ≤ k → k < f + m → ¬ In (entsR E) k := by
  constructor
  · rintro h k k0 k1 ⟨p, hp, h1, h2⟩
    obtain ⟨e, he, rfl⟩ := List.mem_map.1 hp
    obtain ⟨i, hi⟩ := List.getElem?_of_mem he
    have := h i e hi (by omega)
    simp [hitsB] at this
    omega
  · intro h i e he _
    have hp : e.1 ∈ entsR E := List.mem_map.2 ⟨e, List.mem_of_getElem? he, rfl⟩
    have hsp := hs _ hp
    cases hh : hitsB f m e.1 with
    | false => rfl
    | true =>
      simp [hitsB] at hh
      by_cases e1 : f ≤ e.1.n
      · exact absurd ⟨e.1, hp, by omega, by omega⟩ (h e.1.n e1 (by omega))
      · exact absurd ⟨e.1, hp, by omega, by omega⟩ (h f (by omega) (by omega))
theorem Eo.spans (h : Eo E) : ∀ r ∈ entsR E, 1 ≤ r.span ∧ r.span ≤ 63 := fun r hr => (h.wl.ent r hr).span
theorem Eo.fitOk (h : Eo E) {m : Int} (m0 : 1 ≤ m) : 0 ≤ fit m 0 (entsR E) ∧ fit m 0 (entsR E) ≤ 5000 ∧ frB E (fit m 0 (entsR E)) m (-1) ∧ ∀ g, 0 ≤ g → g < fit m 0 (entsR E) → ¬ frB E g m (-1) := by
  have hs : ∀ r ∈ entsR E, 1 ≤ r.span := fun r hr => (h.spans r hr).1
  obtain ⟨h1, h2, h3⟩ := fit_spec m0 (entsR E) 0 h.wl.srt hs h.wl.n0
  refine ⟨h1, ?_, (frB_iff hs m0).2 h2, fun g g0 g1 hf => ?_⟩
  · by_cases e : fit m 0 (entsR E) ≤ 5000
    · exact e
    · obtain ⟨k, k0, _, p, hp, p1, p2⟩ := h3 5000 (by omega) (by omega)
      obtain ⟨e, he, rfl⟩ := List.mem_map.1 hp
      have := h.n1 e he
      have := (h.spans _ hp).2
      omega
  · obtain ⟨k, k0, k1, hk⟩ := h3 g g0 g1
    exact (frB_iff hs m0).1 hf k k0 k1 hk
theorem granted_boundR : ∀ {L : List Pg}, (∀ r ∈ L, 1 ≤ r.span ∧ r.span ≤ 63) → 0 ≤ granted L ∧ granted L ≤ 63 * L.length
  | [], _ => by simp [granted]
  | p :: L, h => by
    have h1 := h p (by simp)
    have ih := granted_boundR (L := L) fun r hr => h r (by simp [hr])
    have e : granted (p :: L) = p.span + granted L := by simp [granted]
    rw [e, List.length_cons]
    omega
theorem Eo.grantedOk (h : Eo E) : 0 ≤ granted (entsR E) ∧ granted (entsR E) ≤ 4032 := by
  have h1 := granted_boundR h.spans
  have h2 : (entsR E).length = E.length := by simp [entsR]
  have := h.len
  omega

theorem ent_setR {p : Pg} (he : Ent p) (h1 : p.kind = 1) {s : Int} (s0 : 0 ≤ s) (s1 : s < Cl.sloI p.cls) : Ent (withT p (Bt.setI p.taken s)) := by
  obtain ⟨c0, c1, t0, u, hc, hw, hs⟩ := he.small h1
  have hsl := sz_range c0 c1
  exact .inl ⟨h1, c0, c1, set_ne _ _, Bt.setI_U u ⟨by omega, by omega⟩, cut_set (n := Cl.sloI p.cls) u (by omega) (by omega) hc s0 s1, hw, hs⟩

theorem cls_facts {x : Int} (h : 1 ≤ x ∧ x ≤ 4000) : (Cl.smaI x = true → Cl.pagI x = 1 ∧ 0 ≤ Cl.clsI x ∧ Cl.clsI x ≤ 7) ∧ (Cl.smaI x = false → Cl.clsI x = 0) := by
  have hp := Cl.pagI_in h
  have hc := Cl.of_cases x h
  refine ⟨fun hs => ?_, fun hs => ?_⟩
  · rw [hs] at hc
    rw [hp]
    simp at hc
    omega
  · rw [hs] at hc
    simp at hc
    omega

/-- The entry that comes. -/
def newP (E : List Re) (x : Int) : Pg := if Cl.smaI x = true then smallPg (fit 1 0 (entsR E)) (Cl.clsI x) else largePg (fit (Cl.pagI x) 0 (entsR E)) x
def newT (x : Int) : Int := if Cl.smaI x = true then 0 else 1
structure NewOk (E : List Re) (x : Int) (p : Pg) (t : Int) : Prop where
  n : p.n = fit (Cl.pagI x) 0 (entsR E)
  span : p.span = Cl.pagI x
  cls : p.cls = Cl.clsI x
  wd : wdI p x = x
  lg : lgB p = !Cl.smaI x
  ent : Ent p
  nsl : (0 : Int) < nslI p
  built : ∀ i : Nat, i < 31 → tkB (withT p t) i = false
  turn : (reList (withT p t, x)).set (5 + 0) (.bool true) = reList (p, x)
theorem hasI_zero (i : Int) : Bt.hasI 0 i = false := by simp [Bt.hasI]
theorem hasI_one {i : Nat} (hi : i < 31) : Bt.hasI 1 (i : Int) = decide (i = 0) := by
  unfold Bt.hasI
  have h1 : (1 : Int).toNat = 2 ^ 0 := rfl
  rw [h1, Nat.testBit_two_pow]
  have : decide ((i : Int) ≤ 63) = true := decide_eq_true (by omega)
  rw [this]
  simp
  exact eq_comm
theorem new_ok {x : Int} (h : 1 ≤ x ∧ x ≤ 4000) : NewOk E x (newP E x) (newT x) := by
  obtain ⟨f1, f2⟩ := cls_facts h
  cases hs : Cl.smaI x with
  | true =>
    obtain ⟨hp, c0, c1⟩ := f1 hs
    have en : newP E x = smallPg (fit 1 0 (entsR E)) (Cl.clsI x) := if_pos hs
    have et : newT x = 0 := if_pos hs
    have hb : ∀ i : Nat, i < 31 → tkB (withT (newP E x) (newT x)) i = false := fun i _ => by
      rw [en, et, tkB_small rfl]
      exact hasI_zero _
    refine ⟨by rw [en, hp]; rfl, by rw [en, hp]; rfl, by rw [en]; rfl, by rw [en]; rfl, by rw [en, hs]; rfl, by rw [en]; exact ent_smallPg _ c0 c1, ?_, hb, ?_⟩
    · rw [en]
      show 0 < Cl.sloI (Cl.clsI x)
      have := sz_range c0 c1
      omega
    · have e1 : withT (withT (newP E x) (newT x)) 1 = newP E x := by rw [en]; rfl
      have := reList_turnG (p := withT (newP E x) (newT x)) (j := x) (t' := 1) (k := 0) (b := true) (by omega) fun i hi => by
        rw [hb i hi, e1, en, tkB_small rfl]
        show Bt.hasI 1 i = _
        rw [hasI_one hi]
        by_cases e : i = 0 <;> simp [e]
      rw [e1] at this
      exact this
  | false =>
    have hc := f2 hs
    have en : newP E x = largePg (fit (Cl.pagI x) 0 (entsR E)) x := if_neg (by rw [hs]; decide)
    have et : newT x = 1 := if_neg (by rw [hs]; decide)
    have hb : ∀ i : Nat, i < 31 → tkB (withT (newP E x) (newT x)) i = false := fun i _ => by
      rw [en, et, tkB_large rfl]
      simp [withT]
    refine ⟨by rw [en]; rfl, by rw [en]; rfl, by rw [en, hc]; rfl, by rw [en]; rfl, by rw [en, hs]; rfl, by rw [en]; exact ent_largePg _ h.1 h.2 hs, ?_, hb, ?_⟩
    · rw [en]
      show (0 : Int) < 1
      decide
    · have e1 : withT (withT (newP E x) (newT x)) 0 = newP E x := by rw [en]; rfl
      have := reList_turnG (p := withT (newP E x) (newT x)) (j := x) (t' := 0) (k := 0) (b := true) (by omega) fun i hi => by
        rw [hb i hi, e1, en, tkB_large rfl]
        by_cases e : i = 0 <;> simp [e, largePg]
      rw [e1] at this
      exact this
theorem alloc_new {x : Int} (h : 1 ≤ x ∧ x ≤ 4000) (hf : Cl.smaI x = true → freeB (entsR E) (Cl.clsI x) = none) : allocL q (entsR E) x = if (granted (entsR E) + Cl.pagI x) * 64 ≤ q then (addrI (newP E x) 0, 0, insL (newP E x) (entsR E)) else (0, 3, entsR E) := by
  unfold allocL newP
  rw [if_pos h]
  cases hs : Cl.smaI x with
  | true =>
    rw [if_pos rfl, hf hs, ((cls_facts h).1 hs).1]
    rfl
  | false =>
    rw [if_neg (by decide)]
    rfl

end Hp
end Go.Proofs.YtlmfojkhfipdnaaGreatDoor
