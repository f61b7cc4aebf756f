/-
  A new entry of the reference's: where it comes, how it is built.
-/
import Derived.Test.YtkjjobafbcdmoaaGreatDoorR4
namespace Go.Proofs.YtkjjobafbcdmoaaGreatDoor
open Go.RowKit Go.Maps
namespace Hp
variable {w w' : World} {br : Nat} {q : Int} {a : Option Addr} {cap : Nat} {E E' : List Re}

theorem run_build_re (n s c x : Int) (b : Bool) (w : World) : (Instr.build 94 #[(0, .int .i64 n), (1, .int .i64 s), (2, .int .i64 c), (3, .int .i64 x), (4, .bool b)]).run Tryz.prog w = .ok (.agg ([Value.int .i64 n, .int .i64 s, .int .i64 c, .int .i64 x, .bool b] ++ (List.range 31).map fun _ => Value.bool false).toArray) w := by kernel_rfl

/-- An entry with no slot taken, as it is built. -/
theorem list_built {p : Pg} {j : Int} (h : ∀ i : Nat, i < 31 → tkB p i = false) : ([Value.int .i64 p.n, .int .i64 p.span, .int .i64 p.cls, .int .i64 (wdI p j), .bool (lgB p)] ++ (List.range 31).map fun _ => Value.bool false) = reList (p, j) := by
  unfold reList
  congr 1
  apply List.map_congr_left
  intro i hi
  rw [h i (List.mem_range.1 hi)]

/-- No entry hits the pages from f on: they are free. -/
theorem frB_iff (hs : ∀ r ∈ entsR E, 1 ≤ r.span) {f m : Int} (hm : 1 ≤ m) : frB E f m (-1) ↔ ∀ k, f ≤ k → k < f + m → ¬ In (entsR E) k := by
  constructor
  · rintro h k k0 k1 ⟨p, hp, h1, h2⟩
    obtain ⟨e, he, rfl⟩ := List.mem_map.1 hp
    obtain ⟨i, hi⟩ := List.getElem?_of_mem he
    have := h i e hi (by omega)
    simp [hitsB] at this
    omega
  · intro h i e he _
    have hp : e.1 ∈ entsR E := List.mem_map.2 ⟨e, List.mem_of_getElem? he, rfl⟩
    have hsp := hs _ hp
    cases hh : hitsB f m e.1 with
    | false => rfl
    | true =>
      simp [hitsB] at hh
      by_cases e1 : f ≤ e.1.n
      · exact absurd ⟨e.1, hp, by omega, by omega⟩ (h e.1.n e1 (by omega))
      · exact absurd ⟨e.1, hp, by omega, by omega⟩ (h f (by omega) (by omega))
theorem Eo.spans (h : Eo E) : ∀ r ∈ entsR E, 1 ≤ r.span ∧ r.span ≤ 63 := fun r hr => (h.wl.ent r hr).span
theorem Eo.fitOk (h : Eo E) {m : Int} (m0 : 1 ≤ m) : 0 ≤ fit m 0 (entsR E) ∧ fit m 0 (entsR E) ≤ 5000 ∧ frB E (fit m 0 (entsR E)) m (-1) ∧ ∀ g, 0 ≤ g → g < fit m 0 (entsR E) → ¬ frB E g m (-1) := by
  have hs : ∀ r ∈ entsR E, 1 ≤ r.span := fun r hr => (h.spans r hr).1
  obtain ⟨h1, h2, h3⟩ := fit_spec m0 (entsR E) 0 h.wl.srt hs h.wl.n0
  refine ⟨h1, ?_, (frB_iff hs m0).2 h2, fun g g0 g1 hf => ?_⟩
  · by_cases e : fit m 0 (entsR E) ≤ 5000
    · exact e
    · obtain ⟨k, k0, _, p, hp, p1, p2⟩ := h3 5000 (by omega) (by omega)
      obtain ⟨e, he, rfl⟩ := List.mem_map.1 hp
      have := h.n1 e he
      have := (h.spans _ hp).2
      omega
  · obtain ⟨k, k0, k1, hk⟩ := h3 g g0 g1
    exact (frB_iff hs m0).1 hf k k0 k1 hk
theorem granted_boundR : ∀ {L : List Pg}, (∀ r ∈ L, 1 ≤ r.span ∧ r.span ≤ 63) → 0 ≤ granted L ∧ granted L ≤ 63 * L.length
  | [], _ => by simp [granted]
  | p :: L, h => by
    have h1 := h p (by simp)
    have ih := granted_boundR (L := L) fun r hr => h r (by simp [hr])
    have e : granted (p :: L) = p.span + granted L := by simp [granted]
    rw [e, List.length_cons]
    omega
theorem Eo.grantedOk (h : Eo E) : 0 ≤ granted (entsR E) ∧ granted (entsR E) ≤ 4032 := by
  have h1 := granted_boundR h.spans
  have h2 : (entsR E).length = E.length := by simp [entsR]
  have := h.len
  omega

theorem ent_setR {p : Pg} (he : Ent p) (h1 : p.kind = 1) {s : Int} (s0 : 0 ≤ s) (s1 : s < Cl.sloI p.cls) : Ent (withT p (Bt.setI p.taken s)) := by
  obtain ⟨c0, c1, t0, u, hc, hw, hs⟩ := he.small h1
  have hsl := sz_range c0 c1
  exact .inl ⟨h1, c0, c1, set_ne _ _, Bt.setI_U u ⟨by omega, by omega⟩, cut_set (n := Cl.sloI p.cls) u (by omega) (by omega) hc s0 s1, hw, hs⟩

theorem cls_facts {x : Int} (h : 1 ≤ x ∧ x ≤ 4000) : (Cl.smaI x = true → Cl.pagI x = 1 ∧ 0 ≤ Cl.clsI x ∧ Cl.clsI x ≤ 7) ∧ (Cl.smaI x = false → Cl.clsI x = 0) := by
  have hp := Cl.pagI_in h
  have hc := Cl.of_cases x h
  refine ⟨fun hs => ?_, fun hs => ?_⟩
  · rw [hs] at hc
    rw [hp]
    simp at hc
    omega
  · rw [hs] at hc
    simp at hc
    omega

/-- The entry that comes. -/
def newP (E : List Re) (x : Int) : Pg := if Cl.smaI x = true then smallPg (fit 1 0 (entsR E)) (Cl.clsI x) else largePg (fit (Cl.pagI x) 0 (entsR E)) x
def newT (x : Int) : Int := if Cl.smaI x = true then 0 else 1
structure NewOk (E : List Re) (x : Int) (p : Pg) (t : Int) : Prop where
  n : p.n = fit (Cl.pagI x) 0 (entsR E)
  span : p.span = Cl.pagI x
  cls : p.cls = Cl.clsI x
  wd : wdI p x = x
  lg : lgB p = !Cl.smaI x
  ent : Ent p
  nsl : (0 : Int) < nslI p
  built : ∀ i : Nat, i < 31 → tkB (withT p t) i = false
  turn : (reList (withT p t, x)).set (5 + 0) (.bool true) = reList (p, x)
theorem hasI_zero (i : Int) : Bt.hasI 0 i = false := by simp [Bt.hasI]
theorem hasI_one {i : Nat} (hi : i < 31) : Bt.hasI 1 (i : Int) = decide (i = 0) := by
  unfold Bt.hasI
  have h1 : (1 : Int).toNat = 2 ^ 0 := rfl
  rw [h1, Nat.testBit_two_pow]
  have : decide ((i : Int) ≤ 63) = true := decide_eq_true (by omega)
  rw [this]
  simp
  exact eq_comm
theorem new_ok {x : Int} (h : 1 ≤ x ∧ x ≤ 4000) : NewOk E x (newP E x) (newT x) := by
  obtain ⟨f1, f2⟩ := cls_facts h
  cases hs : Cl.smaI x with
  | true =>
    obtain ⟨hp, c0, c1⟩ := f1 hs
    have en : newP E x = smallPg (fit 1 0 (entsR E)) (Cl.clsI x) := if_pos hs
    have et : newT x = 0 := if_pos hs
    have hb : ∀ i : Nat, i < 31 → tkB (withT (newP E x) (newT x)) i = false := fun i _ => by
      rw [en, et, tkB_small rfl]
      exact hasI_zero _
    refine ⟨by rw [en, hp]; rfl, by rw [en, hp]; rfl, by rw [en]; rfl, by rw [en]; rfl, by rw [en, hs]; rfl, by rw [en]; exact ent_smallPg _ c0 c1, ?_, hb, ?_⟩
    · rw [en]
      show 0 < Cl.sloI (Cl.clsI x)
      have := sz_range c0 c1
      omega
    · have e1 : withT (withT (newP E x) (newT x)) 1 = newP E x := by rw [en]; rfl
      have := reList_turnG (p := withT (newP E x) (newT x)) (j := x) (t' := 1) (k := 0) (b := true) (by omega) fun i hi => by
        rw [hb i hi, e1, en, tkB_small rfl]
        show Bt.hasI 1 i = _
        rw [hasI_one hi]
        by_cases e : i = 0 <;> simp [e]
      rw [e1] at this
      exact this
  | false =>
    have hc := f2 hs
    have en : newP E x = largePg (fit (Cl.pagI x) 0 (entsR E)) x := if_neg (by rw [hs]; decide)
    have et : newT x = 1 := if_neg (by rw [hs]; decide)
    have hb : ∀ i : Nat, i < 31 → tkB (withT (newP E x) (newT x)) i = false := fun i _ => by
      rw [en, et, tkB_large rfl]
      simp [withT]
    refine ⟨by rw [en]; rfl, by rw [en]; rfl, by rw [en, hc]; rfl, by rw [en]; rfl, by rw [en, hs]; rfl, by rw [en]; exact ent_largePg _ h.1 h.2 hs, ?_, hb, ?_⟩
    · rw [en]
      show (0 : Int) < 1
      decide
    · have e1 : withT (withT (newP E x) (newT x)) 0 = newP E x := by rw [en]; rfl
      have := reList_turnG (p := withT (newP E x) (newT x)) (j := x) (t' := 0) (k := 0) (b := true) (by omega) fun i hi => by
        rw [hb i hi, e1, en, tkB_large rfl]
        by_cases e : i = 0 <;> simp [e, largePg]
      rw [e1] at this
      exact this
theorem alloc_new {x : Int} (h : 1 ≤ x ∧ x ≤ 4000) (hf : Cl.smaI x = true → freeB (entsR E) (Cl.clsI x) = none) : allocL q (entsR E) x = if (granted (entsR E) + Cl.pagI x) * 64 ≤ q then (addrI (newP E x) 0, 0, insL (newP E x) (entsR E)) else (0, 3, entsR E) := by
  unfold allocL newP
  rw [if_pos h]
  cases hs : Cl.smaI x with
  | true =>
    rw [if_pos rfl, hf hs, ((cls_facts h).1 hs).1]
    rfl
  | false =>
    rw [if_neg (by decide)]
    rfl

end Hp
end Go.Proofs.YtkjjobafbcdmoaaGreatDoor

/-
  A new entry of the reference's: its steps.
-/
namespace Go.Proofs.YtkjjobafbcdmoaaGreatDoor
open Go.RowKit Go.Maps
namespace Hp
variable {w w' : World}

theorem setCells_new (w : World) (ty : TypeId) : ∀ (l : List Value) (o : Nat) (c : Array Value), (w.alloc (.cells c ty)).setCells w.heap.size o l = w.alloc (.cells ((l.zipIdx o).foldl (fun cs p => cs.setIfInBounds p.2 p.1) c) ty)
  | [], o, c => rfl
  | v :: l, o, c => by
    rw [World.setCells, World.setCell_alloc_new, setCells_new w ty l (o + 1)]
    rfl
theorem fold_all (c : Array Value) (l : List Value) (h : c.size = l.length) : (l.zipIdx 0).foldl (fun cs p => cs.setIfInBounds p.2 p.1) c = l.toArray := by
  obtain ⟨h1, h2⟩ := fold_set l 0 c (by omega)
  apply Array.ext_getElem?
  intro i
  rw [h2 i]
  by_cases hi : i < l.length
  · rw [if_pos (by omega)]
    simp
  · rw [if_neg (by omega), Array.getElem?_eq_none (by omega), Array.getElem?_eq_none (by simp; omega)]

def rawRe (n s c x : Int) (b : Bool) : List Value := [Value.int .i64 n, .int .i64 s, .int .i64 c, .int .i64 x, .bool b] ++ (List.range 31).map fun _ => Value.bool false
theorem rawRe_len (n s c x : Int) (b : Bool) : (rawRe n s c x b).length = 36 := by simp [rawRe]

theorem wpList_build_re {ops : Array Oper} {rest : List Oper} {ac : Act} {w : World} {Q : Exit → Act → World → Prop} {d : Option Tmp} {ty : TypeId} {ps : String} {af : Array Edge} {x0 x1 x2 x3 x4 : Operand} (n s c x : Int) (b : Bool) (e : Re) (he : rawRe n s c x b = reList e)
    (h0 : ac.eval x0 = .int .i64 n) (h1 : ac.eval x1 = .int .i64 s) (h2 : ac.eval x2 = .int .i64 c) (h3 : ac.eval x3 = .int .i64 x) (h4 : ac.eval x4 = .bool b)
    (h : wpList Tryz.prog ops Q rest (ac.put d (.agg (reList e).toArray)) w) : wpList Tryz.prog ops Q ({ dst := d, op := Op.build 94 #[(0, x0), (1, x1), (2, x2), (3, x3), (4, x4)], type := ty, pos := ps, after := af, guard := none } :: rest) ac w := by
  refine wpList_plain rfl fun K hK => ?_
  unfold Oper.wp
  have hr := run_build_re n s c x b w
  rw [show ([Value.int .i64 n, .int .i64 s, .int .i64 c, .int .i64 x, .bool b] ++ (List.range 31).map fun _ => Value.bool false) = reList e from he] at hr
  simp only [execOp, List.map_toArray, List.map_cons, List.map_nil, h0, h1, h2, h3, h4, hr, Sem.run_bind, Result.andThen_ok]
  exact hK _ _ h

theorem run_alloc_re (w : World) : (Instr.alloc 94 true (.tuple #[])).run Tryz.prog w = .ok (.pointer (some ⟨w.heap.size, 0, none⟩)) (w.alloc (.cells (rawRe 0 0 0 0 false).toArray 94)) := by kernel_rfl
theorem wpList_alloc_re {ops : Array Oper} {rest : List Oper} {a : Act} {w : World} {Q : Exit → Act → World → Prop} {d : Option Tmp} {ty : TypeId} {ps : String} {af : Array Edge}
    (h : wpList Tryz.prog ops Q rest (a.put d (.pointer (some ⟨w.heap.size, 0, none⟩))) (w.alloc (.cells (rawRe 0 0 0 0 false).toArray 94))) : wpList Tryz.prog ops Q ({ dst := d, op := Op.alloc 94, type := ty, pos := ps, after := af, guard := none } :: rest) a w := by
  refine wpList_plain rfl fun K hK => ?_
  unfold Oper.wp
  simp only [execOp, run_alloc_re, Sem.run_bind, Result.andThen_ok]
  exact hK _ _ h

theorem there_new (w : World) (c : Array Value) (ty : TypeId) : (w.alloc (.cells c ty)).there w.heap.size 0 c.size := fun j hj => ⟨by rw [World.cell?_alloc_new]; simp; omega, World.frozen?_alloc_new w c ty _⟩

theorem wpList_store_re {ops : Array Oper} {rest : List Oper} {ac : Act} {w : World} {Q : Exit → Act → World → Prop} {ty : TypeId} {ps : String} {af : Array Edge} {x y : Operand} (c : Array Value) (hc : c.size = 36) (e : Re) (hx : ac.eval x = .pointer (some ⟨w.heap.size, 0, none⟩)) (hy : ac.eval y = .agg (reList e).toArray)
    (h : wpList Tryz.prog ops Q rest (ac.put none undef) (w.alloc (.cells (reList e).toArray 94))) : wpList Tryz.prog ops Q ({ dst := none, op := Op.store 94 x y, type := ty, pos := ps, after := af, guard := none } :: rest) ac (w.alloc (.cells c 94)) := by
  have hs : (reList e).toArray.size = c.size := by rw [arr_size, hc]
  refine wpList_store_mid rfl 94 x y rfl w.heap.size 0 (reList e).toArray hx hy (by rw [hs]; exact there_new w c 94) (by rw [arr_size]; kernel_rfl) (all_oneCell_toArray (reList_one e)) ?_
  rw [setCells_new, fold_all _ _ (by rw [hc, List.toList_toArray, reList_len])]
  simpa using h

theorem run_store_tk (w : World) (b o : Nat) (v : Bool) {old : Value} (hc : w.cell? ⟨b, o, none⟩ = some old) (hf : w.frozen? ⟨b, o, none⟩ = false) : (Instr.storeAt 4 (.pointer (some ⟨b, o, none⟩)) (.bool v)).run Tryz.prog w = .ok () (w.setCell ⟨b, o, none⟩ (.bool v)) := by
  have hs : (sizeOf 4).run Tryz.prog w = .ok 1 w := by kernel_rfl
  have hr := run_store_bool (P := Tryz.prog) (w := w) (a := ⟨b, o, none⟩) (m := .plain) v
  simp only [stored, hc, hf] at hr
  have ha : (⟨b, o, none⟩ : Addr).add 0 = ⟨b, o, none⟩ := by rw [Go.WideShapes.add_plain, Nat.add_zero]
  simp [Instr.storeAt, Instr.sureAddr, storeVar, hs, Value.cells, storeCells, ha, hr]
theorem wpList_store_tk {ops : Array Oper} {rest : List Oper} {ac : Act} {w : World} {Q : Exit → Act → World → Prop} {ps : String} {af : Array Edge} {ty : TypeId} {x : Operand} {v : Bool} (e e' : Re) (he : (reList e).set (5 + 0) (.bool v) = reList e') (hx : ac.eval x = .pointer (some ⟨w.heap.size, 5, none⟩))
    (h : wpList Tryz.prog ops Q rest (ac.put none undef) (w.alloc (.cells (reList e').toArray 94))) : wpList Tryz.prog ops Q ({ dst := none, op := Op.store 4 x (.const (.bool v)), type := ty, pos := ps, after := af, guard := none } :: rest) ac (w.alloc (.cells (reList e).toArray 94)) := by
  refine wpList_plain rfl fun K hK => ?_
  have hr := run_store_tk (w.alloc (.cells (reList e).toArray 94)) w.heap.size 5 v (old := .bool (tkB e.1 0)) (by rw [World.cell?_alloc_new, List.getElem?_toArray]; exact reList_tk (k := 0) (by omega)) (World.frozen?_alloc_new w _ _ _)
  have e1 : ((reList e).toArray).setIfInBounds 5 (.bool v) = (reList e').toArray := by
    rw [← he]
    simp
  rw [World.setCell_alloc_new, e1] at hr
  unfold Oper.wp
  have hv : ac.eval (.const (.bool v)) = .bool v := rfl
  simp only [execOp, hx, hv, hr, Sem.run_bind, Result.andThen_ok]
  exact hK _ _ h

end Hp
end Go.Proofs.YtkjjobafbcdmoaaGreatDoor

/-
  The reference's Alloc.
-/
namespace Go.Proofs.YtkjjobafbcdmoaaGreatDoor
open Go.RowKit Go.Maps
namespace Hp
variable {w w' : World} {br : Nat} {q : Int} {a : Option Addr} {cap : Nat} {E E' : List Re}

theorem rangeAt_new (w : World) (e : Re) : (w.alloc (.cells (reList e).toArray 94)).rangeAt w.heap.size 0 (reList e) := fun j u hu => by
  rw [Nat.zero_add, World.cell?_alloc_new]
  simpa using hu
theorem rangeAt_post {w w' : World} {e : Re} {E' : List Re} {br : Nat} {q : Int} (h : RPost (w.alloc (.cells (reList e).toArray 94)) br q E' w') (hb : br ≠ w.heap.size) : w'.rangeAt w.heap.size 0 (reList e) := by
  obtain ⟨_, _, _, k⟩ := h
  have hs : w'.heap[w.heap.size]? = (w.alloc (.cells (reList e).toArray 94)).heap[w.heap.size]? := Kept.same k _ (by simp) (fun e => hb e.symm)
  intro j u hu
  rw [World.cell?_of_block (a := ⟨w.heap.size, 0 + j, none⟩) hs]
  exact rangeAt_new w e j u hu

set_option maxRecDepth 100000 in
set_option maxHeartbeats 4000000 in
theorem rAlloc_call (h : Rf w br q a cap E) (hE : Eo E) (x : Int) : Calls Tryz.prog 32 #[.pointer (some ⟨br, 0, none⟩), .int .i64 x] w fun e w' => e = .returned (.tuple #[.int .i64 (allocL q (entsR E) x).1, .int .i64 (allocL q (entsR E) x).2.1]) ∧ ∃ E', entsR E' = (allocL q (entsR E) x).2.2 ∧ RPost w br q E' w' := by
  have co := fun w => Cl.rOf_any x w
  have cp := fun w => Cl.rPages_any x w
  have HR : Aside _ := h
  have HE : Aside _ := hE
  have hbr := h.lt
  by_cases hx : 1 ≤ x ∧ x ≤ 4000
  · have he : Cl.errW x = 0 := Cl.errW_in hx
    rw [he] at co cp
    have C1 : Aside (∀ wx, K w wx → wx.cell? ⟨br, 1, none⟩ = some (.slice a E.length cap)) := fun wx k => (h.keep k).c1
    obtain ⟨g0, hrow, hform, hcap⟩ := h.form
    have HL0 : Aside ((reVals E).length = E.length * 36) := reVals_len E
    have HL : Aside (E.length ≤ 64) := hE.len
    have HSRC : Aside (∀ wx, K w wx → SrcR wx a E.length (reVals E)) := fun wx k => by
      have := src_lo (hrow.keep k) hform E.length (Nat.le_refl _)
      rw [List.take_length] at this
      exact this
    have RZ : Aside (∀ wx, K w wx → (wx.alloc (.cells #[] 94)).ownsRow w.heap.size 94 36 (.slice (some ⟨wx.heap.size, 0, none⟩) 0 0) 0 []) := fun wx kx => World.ownsRow_lit (base := w.heap.size) (e := 94) (size := 36) wx #[] 0 (Kept.size kx) (by simp [maxLen]) rfl
    clear h hE hrow hform hcap he
    go_enter Tryz.func32, Tryz.ntmps32
    go_wp2_with (first
      | (go_at_call 52; refine (co _).mono ?_; rintro e w1 ⟨rfl, kc1⟩; have k1 : K w w1 := K.of_below kc1.bel)
      | (go_at_call 53; refine (cp _).mono ?_; rintro e w2 ⟨rfl, kc2⟩; have k2 : K w w2 := k1.trans (K.of_below kc2.bel); have hb2 : br < w2.heap.size := (by have := Kept.size k2; omega); have c2 := C1.out _ k2; have KZ : Aside (K w (w2.alloc (.cells #[] 94))) := k2.alloc _)
      | (at_builtin; apply wrapd))
    unfold Wrapd
    have hsz2 := Kept.size k2
    refine wpList_append_res _ rfl _ _ rfl w.heap.size _ 0 [] rfl (RZ.out _ k2) rfl a E.length cap (reVals E) rfl HL0.out (HSRC.out _ KZ.out) (reVals_one _) (by have := HL.out; omega) (by simp; omega) ?_
    intro v1 w3 hown1 hgrow1 hloc1
    rw [Nat.zero_add, List.nil_append] at hown1
    have k3 : K w w3 := K.grownR KZ.out hgrow1 (fun j hj => by cases hj; exact hsz2)
    have hne1 : ∀ kk, v1.ownBlock = some kk → w.heap.size ≤ kk := fun kk hkk => by
      rcases hloc1 with e | e
      · rw [e] at hkk
        cases hkk
        exact hsz2
      · rw [e] at hkk
        have := Option.some.inj hkk
        have := Kept.size KZ.out
        omega
    obtain ⟨a2, cap2, rfl, R2, KB2⟩ := HR.out.store k3 hown1 hne1
    have HFZ := (HR.out.keep k3).fz
    have c3 := C1.out _ k3
    have hfr : Aside (∀ g, a2 = some ⟨g, 0, none⟩ → w.heap.size ≤ g) := fun g e => hne1 g (by rw [e]; rfl)
    clear hown1 hgrow1 hloc1 hne1 hsz2 RZ HSRC KZ k1 k2 kc1 kc2 c2 hb2
    have c30 := (HR.out.keep k3).c0
    have HR2 : Aside _ := R2
    have HKB2 : Aside _ := KB2
    have hbW := R2.lt
    obtain ⟨g1, hrow, hform, hcap⟩ := R2.form
    have HROW : Aside _ := hrow
    have csp := rspot_any (q := q) hrow HE.out (Cl.clsI x)
    clear R2 KB2 hrow hform hcap
    cases hs : Cl.smaI x with
    | true =>
      go_wp2_with fail
      clear HFZ c3 k3 C1 c30
      generalize w3.setCell ⟨br, 1, none⟩ (.slice a2 E.length cap2) = W at *
      refine csp.mono ?_
      rintro e w5 ⟨(⟨i, k, p, j, rfl, he, hf⟩ | ⟨rfl, hf⟩), k5⟩
      · obtain ⟨hpm, h1, hc, s0', s1', hbit⟩ := freeB_some hf
        obtain ⟨hp0, n0', n1', _, _⟩ := HE.out.at he
        have hp : Ent p := hp0
        have n0 : 0 ≤ p.n := n0'
        have n1 : p.n ≤ 4096 := n1'
        have hi : i < E.length := (List.getElem?_eq_some_iff.1 he).1
        obtain ⟨c0', c1', _⟩ := hp.small h1
        have hsz := sz_range c0' c1'
        have k31 : k < 31 := by rw [← hc] at s1'; omega
        have R5 := HR2.out.keep k5
        obtain ⟨g, rfl, hgne, hrow5⟩ := R5.addr hi
        have hg0 := hfr.out g rfl
        have hix := hrow5.ix i hi
        have hixT := run_ixT g (i * 36 + 5) k k31
        obtain ⟨hct, hcf⟩ := R5.cellT he k31
        have hsN : (k : Int) < nslI (withT p (Bt.setI p.taken k)) := by
          show (k : Int) < nslI p
          unfold nslI
          rw [if_neg (by omega), hc]
          exact s1'
        have hset : (reList (p, j)).set (5 + k) (.bool true) = reList (withT p (Bt.setI p.taken k), j) := reList_turn h1 k31 fun m hm => by
          rw [has_set ⟨by omega, by omega⟩ ⟨by omega, by omega⟩]
          by_cases e : m = k
          · subst e
            simp
          · have : ¬ ((m : Int) = (k : Int)) := by omega
            simp [this, e]
        have R6 := R5.turn (k := 5 + k) he (by omega) hset
        rw [← Nat.add_assoc] at R6
        have he6 : (E.set i (withT p (Bt.setI p.taken k), j))[i]? = some (withT p (Bt.setI p.taken k), j) := by rw [List.getElem?_set_self hi]
        obtain ⟨g', hg', _, hrow6⟩ := R6.addr (i := i) (by rw [List.length_set]; exact hi)
        obtain rfl : g = g' := by injection hg' with e; injection e
        have HRG : Aside _ := hrow6.range he6
        have HR6 : Aside _ := R6
        have KB6 : Aside (RSt br w (w5.setCell ⟨g, i * 36 + 5 + k, none⟩ (.bool true))) := Kept.setCell (HKB2.out.trans (RSt.ofK k5)) (.bool true) (.inr hg0)
        have cpl := fun w => rPlace_any (withT p (Bt.setI p.taken k)) j k (ent_setR hp h1 (by omega) (by rw [hc]; exact s1')) n0 (by show p.n ≤ 8192; omega) hsN w
        have HA : Hid (allocL q (entsR E) x = (addrI p k, 0, updL (entsR E) p.n (withT p (Bt.setI p.taken k)))) := by
          show allocL q (entsR E) x = _
          unfold allocL
          rw [if_pos hx, if_pos hs, hf]
        have HUP : Aside _ := entsR_upd (e' := (withT p (Bt.setI p.taken k), j)) HE.out he
        have c1 := R5.c1
        have hb5 := R5.lt
        have HPA : Hid (addrI (withT p (Bt.setI p.taken k)) (k : Int) = addrI p k) := by show _ = _; rfl
        clear he he6 hrow6 hg' hpm hf hp0 n0' n1' hp R5 R6 hrow5 csp HROW hx hs hset hbit hsN HL0
        go_wp2_with (first
          | ((with_reducible refine wpList_load_re g (i * 36) (withT p (Bt.setI p.taken k), j) ?_ ?_ ?_); (· exact HRG.out); (· rfl))
          | (go_at_call 51; refine (cpl _).mono ?_; rintro e w7 ⟨rfl, k7⟩))
        go_ret2
        exact ⟨by rw [HA.out]; rfl, _, by rw [HA.out]; exact HUP.out, _, _, HR6.out.keep k7, KB6.out.trans (RSt.ofK k7)⟩
      · clear csp
        go_wp2_with fail
        have kW : K W w5 := k5
        obtain ⟨hG0, hG1⟩ := HE.out.grantedOk
        obtain ⟨m0, m1⟩ := pag_range hx.1 hx.2
        obtain ⟨hf0, hf1, hfr1, hfr2⟩ := HE.out.fitOk m0
        have NO : Aside (NewOk E x (newP E x) (newT x)) := new_ok hx
        have HA : Aside _ := alloc_new (E := E) (q := q) hx (fun _ => hf)
        have RAW : Aside (rawRe (fit (Cl.pagI x) 0 (entsR E)) (Cl.pagI x) (Cl.clsI x) x false = reList (withT (newP E x) (newT x), x)) := by
          have e := list_built (j := x) NO.out.built
          change [Value.int .i64 (newP E x).n, .int .i64 (newP E x).span, .int .i64 (newP E x).cls, .int .i64 (wdI (newP E x) x), .bool (lgB (newP E x))] ++ _ = _ at e
          rw [NO.out.n, NO.out.span, NO.out.cls, NO.out.wd, NO.out.lg, hs] at e
          exact e
        have HNE : Aside (∀ e ∈ E, e.1.n ≠ (newP E x).n) := fun e he hn => by
          obtain ⟨i, hi⟩ := List.getElem?_of_mem he
          have h1 := hfr1 i e hi (by omega)
          have h2 := (HE.out.spans e.1 (List.mem_map.2 ⟨e, he, rfl⟩)).1
          rw [NO.out.n] at hn
          simp [hitsB] at h1
          omega
        have CPL : Aside (∀ w, Calls Tryz.prog 51 #[.agg (reList (newP E x, x)).toArray, .int .i64 0] w fun e w' => e = .returned (.int .i64 (addrI (newP E x) 0)) ∧ K w w') := fun w => rPlace_any (newP E x) x 0 NO.out.ent (by rw [NO.out.n]; omega) (by rw [NO.out.n]; omega) NO.out.nsl w
        have CG : Aside (∀ wx, K W wx → Calls Tryz.prog 55 #[.agg #[.int .i64 q, .slice a2 E.length cap2]] wx fun e w' => e = .returned (.int .i64 (granted (entsR E))) ∧ K wx w') := fun wx kx => rGranted_any (HROW.out.keep kx) HE.out
        have CL : Aside (∀ wx, K W wx → Calls Tryz.prog 56 #[.agg #[.int .i64 q, .slice a2 E.length cap2], .int .i64 (Cl.pagI x), .int .i64 (-1)] wx fun e w' => e = .returned (.int .i64 (fit (Cl.pagI x) 0 (entsR E))) ∧ K wx w') := fun wx kx => rLowest_any (HROW.out.keep kx) HE.out (Cl.pagI x) (-1) _ hf0 (by omega) m0 m1 hfr1 hfr2
        have CQ : Aside (∀ wx, K W wx → wx.cell? ⟨br, 0, none⟩ = some (.int .i64 q) ∧ wx.cell? ⟨br, 1, none⟩ = some (.slice a2 E.length cap2)) := fun wx kx => ⟨(HR2.out.keep kx).c0, (HR2.out.keep kx).c1⟩
        have HPUT : Aside (∀ wx, K W wx → Calls Tryz.prog 57 #[.pointer (some ⟨br, 0, none⟩), .agg (reList (newP E x, x)).toArray] wx fun ed w' => (∃ v, ed = .returned v) ∧ ∃ k, k ≤ E.length ∧ (∀ y ∈ E.take k, y.1.n < (newP E x).n) ∧ (∀ y, E[k]? = some y → (newP E x).n ≤ y.1.n) ∧ RPost wx br q (E.take k ++ (newP E x, x) :: E.drop k) w') := fun wx kx => rput_any (HR2.out.keep kx) HL.out (newP E x, x)
        clear hx hs hf hfr1 hfr2 co cp HL0 HROW
        generalize granted (entsR E) = G at *
        generalize fit (Cl.pagI x) 0 (entsR E) = f at *
        generalize Cl.pagI x = m at *
        obtain ⟨c0, c1⟩ := CQ.out _ kW
        by_cases hqq : (G + m) * 64 ≤ q
        · have hq2 : IntKind.i64.wrap (64 * IntKind.i64.wrap (G + m)) ≤ q := by
            rw [wrap_i64 (x := G + m) (by omega) (by omega), wrap_i64 (by omega) (by omega)]
            omega
          have hyq : Hid ((G + m) * 64 ≤ q) := hqq
          clear hqq
          go_region_with (go_at_call 55; refine (CG.out _ (by first | exact kW | exact kW.drewN _ | exact kW.drew)).mono ?_; rintro e w6 ⟨rfl, k6⟩; have k7 : K W w6 := (by first | exact kW.trans k6 | exact (kW.drewN _).trans k6 | exact kW.drew.trans k6); have c06 := (CQ.out _ k7).1)
          all_goals
            clear CG
            have c16 := (CQ.out _ k7).2
            go_wp2_with fail
          all_goals
            refine (CL.out _ k7).mono ?_
            rintro e w8 ⟨rfl, k8⟩
            have k9 := k7.trans k8
            clear k8 k7 c06 c16 c0 c1 hq2
            have hbw : br ≠ w8.heap.size := by have := Kept.size k9; omega
            go_wp2_with (first
              | ((with_reducible refine wpList_build_re f m (Cl.clsI x) x false (withT (newP E x) (newT x), x) RAW.out ?_ ?_ ?_ ?_ ?_ ?_); (· rfl); (· rfl); (· rfl); (· rfl); (· rfl))
              | with_reducible refine wpList_alloc_re ?_
              | ((with_reducible refine wpList_store_re _ ?_ (withT (newP E x) (newT x), x) ?_ ?_ ?_); (· rfl); (· rfl); (· rfl))
              | ((with_reducible refine wpList_store_tk (withT (newP E x) (newT x), x) (newP E x, x) NO.out.turn ?_ ?_); (· rfl))
              | ((with_reducible refine wpList_load_re w8.heap.size 0 (newP E x, x) ?_ ?_ ?_); (· first | exact rangeAt_new _ _ | exact hrg); (· rfl))
              | (go_at_call 57; refine (HPUT.out _ (k9.alloc _)).mono ?_; rintro e w10 ⟨⟨v, rfl⟩, kk, hk1, hk2, hk3, P10⟩; have hrg := rangeAt_post P10 hbw; have HP10 : Aside _ := P10; have HK123 : Aside (kk ≤ E.length ∧ (∀ y ∈ E.take kk, y.1.n < (newP E x).n) ∧ (∀ y, E[kk]? = some y → (newP E x).n ≤ y.1.n)) := ⟨hk1, hk2, hk3⟩; clear P10 hk1 hk2 hk3)
              | (go_at_call 51; refine (CPL.out _).mono ?_; rintro e w11 ⟨rfl, k11⟩))
          all_goals
            go_ret2
            obtain ⟨a10, cap10, R10, K10⟩ := HP10.out
            have HA2 : allocL q (entsR E) x = (addrI (newP E x) 0, 0, insL (newP E x) (entsR E)) := by rw [HA.out, if_pos hyq.out]
            refine ⟨by rw [HA2]; rfl, E.take kk ++ (newP E x, x) :: E.drop kk, ?_, a10, cap10, R10.keep k11, HKB2.out.trans (((RSt.ofK (k9.alloc _)).trans K10).trans (RSt.ofK k11))⟩
            rw [HA2]
            exact entsR_ins HK123.out.2.1 (fun y hy => by have h1 := HK123.out.2.2 y hy; have h2 := HNE.out y (List.mem_of_getElem? hy); show (newP E x).n < _; omega) HK123.out.1
        · have hq2 : q < IntKind.i64.wrap (64 * IntKind.i64.wrap (G + m)) := by
            rw [wrap_i64 (x := G + m) (by omega) (by omega), wrap_i64 (by omega) (by omega)]
            omega
          have HA2 : Aside (allocL q (entsR E) x = (0, 3, entsR E)) := by
            show allocL q (entsR E) x = _
            rw [HA.out, if_neg (by omega)]
          clear hqq
          go_region_with (go_at_call 55; refine (CG.out _ (by first | exact kW | exact kW.drewN _ | exact kW.drew)).mono ?_; rintro e w6 ⟨rfl, k6⟩; have k7 : K W w6 := (by first | exact kW.trans k6 | exact (kW.drewN _).trans k6 | exact kW.drew.trans k6); have c06 := (CQ.out _ k7).1)
          all_goals
            go_wp2
            go_ret2
            exact ⟨by rw [HA2.out]; rfl, E, by rw [HA2.out], _, _, HR2.out.keep k7, HKB2.out.trans (RSt.ofK k7)⟩
    | false =>
      clear csp
      go_wp2_with fail
      clear HFZ c3 k3 C1 c30
      generalize w3.setCell ⟨br, 1, none⟩ (.slice a2 E.length cap2) = W at *
      have kW : K W W := K.refl W
      obtain ⟨hG0, hG1⟩ := HE.out.grantedOk
      obtain ⟨m0, m1⟩ := pag_range hx.1 hx.2
      obtain ⟨hf0, hf1, hfr1, hfr2⟩ := HE.out.fitOk m0
      have NO : Aside (NewOk E x (newP E x) (newT x)) := new_ok hx
      have HA : Aside _ := alloc_new (E := E) (q := q) hx (by rw [hs]; intro h; cases h)
      have RAW : Aside (rawRe (fit (Cl.pagI x) 0 (entsR E)) (Cl.pagI x) (Cl.clsI x) x true = reList (withT (newP E x) (newT x), x)) := by
        have e := list_built (j := x) NO.out.built
        change [Value.int .i64 (newP E x).n, .int .i64 (newP E x).span, .int .i64 (newP E x).cls, .int .i64 (wdI (newP E x) x), .bool (lgB (newP E x))] ++ _ = _ at e
        rw [NO.out.n, NO.out.span, NO.out.cls, NO.out.wd, NO.out.lg, hs] at e
        exact e
      have HNE : Aside (∀ e ∈ E, e.1.n ≠ (newP E x).n) := fun e he hn => by
        obtain ⟨i, hi⟩ := List.getElem?_of_mem he
        have h1 := hfr1 i e hi (by omega)
        have h2 := (HE.out.spans e.1 (List.mem_map.2 ⟨e, he, rfl⟩)).1
        rw [NO.out.n] at hn
        simp [hitsB] at h1
        omega
      have CPL : Aside (∀ w, Calls Tryz.prog 51 #[.agg (reList (newP E x, x)).toArray, .int .i64 0] w fun e w' => e = .returned (.int .i64 (addrI (newP E x) 0)) ∧ K w w') := fun w => rPlace_any (newP E x) x 0 NO.out.ent (by rw [NO.out.n]; omega) (by rw [NO.out.n]; omega) NO.out.nsl w
      have CG : Aside (∀ wx, K W wx → Calls Tryz.prog 55 #[.agg #[.int .i64 q, .slice a2 E.length cap2]] wx fun e w' => e = .returned (.int .i64 (granted (entsR E))) ∧ K wx w') := fun wx kx => rGranted_any (HROW.out.keep kx) HE.out
      have CL : Aside (∀ wx, K W wx → Calls Tryz.prog 56 #[.agg #[.int .i64 q, .slice a2 E.length cap2], .int .i64 (Cl.pagI x), .int .i64 (-1)] wx fun e w' => e = .returned (.int .i64 (fit (Cl.pagI x) 0 (entsR E))) ∧ K wx w') := fun wx kx => rLowest_any (HROW.out.keep kx) HE.out (Cl.pagI x) (-1) _ hf0 (by omega) m0 m1 hfr1 hfr2
      have CQ : Aside (∀ wx, K W wx → wx.cell? ⟨br, 0, none⟩ = some (.int .i64 q) ∧ wx.cell? ⟨br, 1, none⟩ = some (.slice a2 E.length cap2)) := fun wx kx => ⟨(HR2.out.keep kx).c0, (HR2.out.keep kx).c1⟩
      have HPUT : Aside (∀ wx, K W wx → Calls Tryz.prog 57 #[.pointer (some ⟨br, 0, none⟩), .agg (reList (newP E x, x)).toArray] wx fun ed w' => (∃ v, ed = .returned v) ∧ ∃ k, k ≤ E.length ∧ (∀ y ∈ E.take k, y.1.n < (newP E x).n) ∧ (∀ y, E[k]? = some y → (newP E x).n ≤ y.1.n) ∧ RPost wx br q (E.take k ++ (newP E x, x) :: E.drop k) w') := fun wx kx => rput_any (HR2.out.keep kx) HL.out (newP E x, x)
      clear hx hs hfr1 hfr2 co cp HL0 HROW
      generalize granted (entsR E) = G at *
      generalize fit (Cl.pagI x) 0 (entsR E) = f at *
      generalize Cl.pagI x = m at *
      obtain ⟨c0, c1⟩ := CQ.out _ kW
      by_cases hqq : (G + m) * 64 ≤ q
      · have hq2 : IntKind.i64.wrap (64 * IntKind.i64.wrap (G + m)) ≤ q := by
          rw [wrap_i64 (x := G + m) (by omega) (by omega), wrap_i64 (by omega) (by omega)]
          omega
        have hyq : Hid ((G + m) * 64 ≤ q) := hqq
        clear hqq
        go_region_with (go_at_call 55; refine (CG.out _ (by first | exact kW | exact kW.drewN _ | exact kW.drew)).mono ?_; rintro e w6 ⟨rfl, k6⟩; have k7 : K W w6 := (by first | exact kW.trans k6 | exact (kW.drewN _).trans k6 | exact kW.drew.trans k6); have c06 := (CQ.out _ k7).1)
        all_goals
          clear CG
          have c16 := (CQ.out _ k7).2
          go_wp2_with fail
        all_goals
          refine (CL.out _ k7).mono ?_
          rintro e w8 ⟨rfl, k8⟩
          have k9 := k7.trans k8
          clear k8 k7 c06 c16 c0 c1 hq2
          have hbw : br ≠ w8.heap.size := by have := Kept.size k9; omega
          go_wp2_with (first
            | ((with_reducible refine wpList_build_re f m (Cl.clsI x) x true (withT (newP E x) (newT x), x) RAW.out ?_ ?_ ?_ ?_ ?_ ?_); (· rfl); (· rfl); (· rfl); (· rfl); (· rfl))
            | with_reducible refine wpList_alloc_re ?_
            | ((with_reducible refine wpList_store_re _ ?_ (withT (newP E x) (newT x), x) ?_ ?_ ?_); (· rfl); (· rfl); (· rfl))
            | ((with_reducible refine wpList_store_tk (withT (newP E x) (newT x), x) (newP E x, x) NO.out.turn ?_ ?_); (· rfl))
            | ((with_reducible refine wpList_load_re w8.heap.size 0 (newP E x, x) ?_ ?_ ?_); (· first | exact rangeAt_new _ _ | exact hrg); (· rfl))
            | (go_at_call 57; refine (HPUT.out _ (k9.alloc _)).mono ?_; rintro e w10 ⟨⟨v, rfl⟩, kk, hk1, hk2, hk3, P10⟩; have hrg := rangeAt_post P10 hbw; have HP10 : Aside _ := P10; have HK123 : Aside (kk ≤ E.length ∧ (∀ y ∈ E.take kk, y.1.n < (newP E x).n) ∧ (∀ y, E[kk]? = some y → (newP E x).n ≤ y.1.n)) := ⟨hk1, hk2, hk3⟩; clear P10 hk1 hk2 hk3)
            | (go_at_call 51; refine (CPL.out _).mono ?_; rintro e w11 ⟨rfl, k11⟩))
        all_goals
          go_ret2
          obtain ⟨a10, cap10, R10, K10⟩ := HP10.out
          have HA2 : allocL q (entsR E) x = (addrI (newP E x) 0, 0, insL (newP E x) (entsR E)) := by rw [HA.out, if_pos hyq.out]
          refine ⟨by rw [HA2]; rfl, E.take kk ++ (newP E x, x) :: E.drop kk, ?_, a10, cap10, R10.keep k11, HKB2.out.trans (((RSt.ofK (k9.alloc _)).trans K10).trans (RSt.ofK k11))⟩
          rw [HA2]
          exact entsR_ins HK123.out.2.1 (fun y hy => by have h1 := HK123.out.2.2 y hy; have h2 := HNE.out y (List.mem_of_getElem? hy); show (newP E x).n < _; omega) HK123.out.1
      · have hq2 : q < IntKind.i64.wrap (64 * IntKind.i64.wrap (G + m)) := by
          rw [wrap_i64 (x := G + m) (by omega) (by omega), wrap_i64 (by omega) (by omega)]
          omega
        have HA2 : Aside (allocL q (entsR E) x = (0, 3, entsR E)) := by
          show allocL q (entsR E) x = _
          rw [HA.out, if_neg (by omega)]
        clear hqq
        go_region_with (go_at_call 55; refine (CG.out _ (by first | exact kW | exact kW.drewN _ | exact kW.drew)).mono ?_; rintro e w6 ⟨rfl, k6⟩; have k7 : K W w6 := (by first | exact kW.trans k6 | exact (kW.drewN _).trans k6 | exact kW.drew.trans k6); have c06 := (CQ.out _ k7).1)
        all_goals
          go_wp2
          go_ret2
          exact ⟨by rw [HA2.out]; rfl, E, by rw [HA2.out], _, _, HR2.out.keep k7, HKB2.out.trans (RSt.ofK k7)⟩
  · have he : Cl.errW x = 2 := Cl.errW_out hx
    have HA : Hid (allocL q (entsR E) x = (0, 2, entsR E)) := by
      show allocL q (entsR E) x = _
      unfold allocL
      rw [if_neg hx]
    rw [he] at co
    clear h hE he hx
    go_enter Tryz.func32, Tryz.ntmps32
    go_wp2_with (first
      | (go_at_call 52; refine (co _).mono ?_; rintro e w1 ⟨rfl, kc1⟩; have k1 : K w w1 := K.of_below kc1.bel))
    go_ret2
    exact ⟨by rw [HA.out]; rfl, E, by rw [HA.out], a, cap, HR.out.keep k1, RSt.ofK k1⟩

end Hp
end Go.Proofs.YtkjjobafbcdmoaaGreatDoor
