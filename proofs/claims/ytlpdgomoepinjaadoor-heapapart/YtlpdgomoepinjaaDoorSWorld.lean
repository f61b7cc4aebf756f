/-
  What an arena of package slab is in memory: its two fields, its map from pages to blocks, the pages' words; and what stays when another part of memory turns.
-/
import Derived.Test.YtlpdgomoepinjaaDoorSPlain
import Derived.Test.YtlpdgomoepinjaaDoorProg
import Derived.WalkKit
import Derived.Handy
import Derived.Maps.OwnSet
import Derived.WalkSpells
import Derived.Deep.QuietTactic
import Derived.BigQuiet
namespace Go.Proofs.YtlpdgomoepinjaaDoor
open Go.RowKit Go.Maps
namespace Sl

theorem law3 : Keyed Tryd.prog 3 := int_keyed Tryd.underlying3
theorem zeroP (w : World) : (zeroValue 51).run Tryd.prog w = .ok (.pointer none) w := by kernel_rfl

/-- How a page's pointer reads: as its block's number; nil reads as nil. -/
def ptrElem (v : Value) : Option (DataW Nat × List MemPlace) :=
  match v with
  | .pointer none => some (.nil, [])
  | .pointer (some a) => if a.off = 0 ∧ a.spot = none then some (.held a.block, []) else none
  | _ => none

def ptrOf (o : Option Nat) : Value :=
  match o with
  | none => .pointer none
  | some b => .pointer (some ⟨b, 0, none⟩)

theorem ptrElem_inv {v : Value} {z : DataW Nat × List MemPlace} (h : ptrElem v = some z) : (v = .pointer none ∧ z = (.nil, [])) ∨ ∃ b, v = .pointer (some ⟨b, 0, none⟩) ∧ z = (.held b, []) := by
  unfold ptrElem at h
  split at h
  · cases h; exact Or.inl ⟨rfl, rfl⟩
  · rename_i a
    split at h
    · rename_i hc
      cases h
      obtain ⟨b, o, s⟩ := a
      obtain ⟨rfl, rfl⟩ := hc
      exact Or.inr ⟨_, rfl, rfl⟩
    · cases h
  · cases h

/-- The page map as a datum: sorted by page. -/
def pd (pg : List (Int × Nat)) : DataW Nat := .map (pg.map fun p => (.int .i64 p.1, .held p.2))

def PMap (w : World) (bm : Nat) (pg : List (Int × Nat)) : Prop := w.ownsMap Tryd.prog 3 ptrElem bm pg.length (pd pg)

theorem same_int (a k : Int) : (Lit.int .i64 a).sameKey (.int .i64 k) = (a == k) := by
  by_cases h : a = k <;> simp [Lit.sameKey, h]

theorem find_pd (pg : List (Int × Nat)) (k : Int) : (pg.map fun p => (Lit.int .i64 p.1, (DataW.held p.2 : DataW Nat))).find? (fun p => p.1.sameKey (.int .i64 k)) = (pg.find? fun p => p.1 == k).map fun p => (Lit.int .i64 p.1, (DataW.held p.2 : DataW Nat)) := by
  rw [List.find?_map]
  congr 2
  funext p
  exact same_int _ _

theorem atKey_pd (pg : List (Int × Nat)) (k : Int) : (pd pg).atKey (.int .i64 k) .nil = match blk pg k with | none => .nil | some b => .held b := by
  unfold pd DataW.atKey blk
  simp only [find_pd]
  cases pg.find? (fun p => p.1 == k) <;> rfl

theorem filter_pd (pg : List (Int × Nat)) (k : Int) : (pg.map fun p => (Lit.int .i64 p.1, (DataW.held p.2 : DataW Nat))).filter (fun p => !p.1.sameKey (.int .i64 k)) = (del k pg).map fun p => (Lit.int .i64 p.1, (DataW.held p.2 : DataW Nat)) := by
  unfold del
  rw [List.filter_map]
  congr 2
  funext p
  exact congrArg not (same_int _ _)

theorem del_pd (pg : List (Int × Nat)) (k : Int) : (pd pg).del (.int .i64 k) = pd (del k pg) := by
  unfold pd DataW.del
  simp only [filter_pd]

theorem insert_pd (k : Int) (b : Nat) : ∀ pg : List (Int × Nat), DataW.insert (Lit.int .i64 k, (DataW.held b : DataW Nat)) (pg.map fun p => (Lit.int .i64 p.1, (DataW.held p.2 : DataW Nat))) = (ins k b pg).map fun p => (Lit.int .i64 p.1, (DataW.held p.2 : DataW Nat))
  | [] => rfl
  | p :: r => by
    unfold ins
    simp only [List.map_cons, DataW.insert, Lit.before]
    by_cases h : k < p.1
    · simp [h]
    · simp [h, insert_pd k b r]

theorem put_pd (pg : List (Int × Nat)) (k : Int) (b : Nat) (hn : blk pg k = none) : (pd pg).put (.int .i64 k) (.held b) = pd (ins k b pg) := by
  unfold pd DataW.put
  simp only [filter_pd]
  rw [del_none hn, insert_pd]

theorem PMap.tight {w : World} {bm n : Nat} {pg : List (Int × Nat)} (h : w.ownsMap Tryd.prog 3 ptrElem bm n (pd pg)) : PMap w bm pg := by
  obtain ⟨es, clock, hb, F, hs, hD⟩ := h
  refine ⟨es, clock, hb, F, ?_, hD⟩
  have h1 := congrArg Maps.size hD
  rw [Maps.size_eq, length_read] at h1
  have h2 : Maps.size (pd pg) = pg.length := by simp [pd, Maps.size_eq]
  omega

theorem wf64 {k : Int} (h : -9223372036854775808 ≤ k ∧ k ≤ 9223372036854775807) : (Lit.int .i64 k).wf = true := WalkArith.wf_i64 h

/-- 'm[k]' -/
theorem PMap.look {w : World} {bm : Nat} {pg : List (Int × Nat)} (h : PMap w bm pg) {k : Int} (hk : (Lit.int .i64 k).wf = true) :
    (Instr.lookup 69 (.map (some bm)) (.int .i64 k) false).run Tryd.prog w = .ok (ptrOf (blk pg k)) w := by
  obtain ⟨v, ps, hrun, hv⟩ := World.ownsMap.lookup h law3 Tryd.underlying69 (zeroP w) (zd := .nil) (zp := []) rfl (keyOf_int_mk Tryd.underlying3 hk)
  rw [atKey_pd] at hv
  rw [hrun]
  rcases ptrElem_inv hv with ⟨rfl, hz⟩ | ⟨b, rfl, hz⟩
  · cases hb : blk pg k <;> simp [hb] at hz
    rfl
  · cases hb : blk pg k <;> simp [hb] at hz
    rw [hz.1]
    rfl

/-- The 64 words of page k. -/
def words (W : Int → Int) (k : Int) : Array Value := (Array.range 64).map fun i : Nat => .int .u64 (W (64 * k + (i : Int)))

theorem words_size (W : Int → Int) (k : Int) : (words W k).size = 64 := by simp [words]
theorem words_get (W : Int → Int) (k : Int) (i : Nat) (h : i < 64) : (words W k)[i]? = some (.int .u64 (W (64 * k + i))) := by
  simp [words, h]

def WordOk (x : Int) : Prop := (Lit.int .u64 x).wf = true
theorem wordOk_zero : WordOk 0 := by unfold WordOk; decide

/-- An arena of quota q at block bs, its map at bm, its pages and their blocks pg, its words W. -/
structure Arena (w : World) (bs bm : Nat) (q : Int) (pg : List (Int × Nat)) (W : Int → Int) : Prop where
  s0 : w.heap[bs]? = some (.cells #[.int .i64 q, .map (some bm)] 71)
  pm : PMap w bm pg
  rise : Rising pg
  rng : ∀ p ∈ pg, 0 ≤ p.1 ∧ p.1 ≤ 1048575
  q0 : 0 ≤ q
  q1 : q ≤ 262144
  full : 64 * (pg.length : Int) ≤ q
  page : ∀ p ∈ pg, w.heap[p.2]? = some (.cells (words W p.1) 95)
  nd : (pg.map fun p => p.2).Nodup
  ww : ∀ a, WordOk (W a)
  z : ∀ a, blk pg (a / 64) = none → W a = 0

theorem Arena.c0 {w : World} {bs bm : Nat} {q : Int} {pg : List (Int × Nat)} {W : Int → Int} (h : Arena w bs bm q pg W) : w.cell? ⟨bs, 0, none⟩ = some (.int .i64 q) := by
  simp [World.cell?, h.s0]
theorem Arena.c1 {w : World} {bs bm : Nat} {q : Int} {pg : List (Int × Nat)} {W : Int → Int} (h : Arena w bs bm q pg W) : w.cell? ⟨bs, 1, none⟩ = some (.map (some bm)) := by
  simp [World.cell?, h.s0]
theorem Arena.len {w : World} {bs bm : Nat} {q : Int} {pg : List (Int × Nat)} {W : Int → Int} (h : Arena w bs bm q pg W) : pg.length ≤ 4096 := by
  have := h.full
  have := h.q1
  omega

theorem Arena.drewN {w : World} {bs bm : Nat} {q : Int} {pg : List (Int × Nat)} {W : Int → Int} (h : Arena w bs bm q pg W) (n : Nat) : Arena (w.drewN n) bs bm q pg W :=
  ⟨h.s0, h.pm, h.rise, h.rng, h.q0, h.q1, h.full, h.page, h.nd, h.ww, h.z⟩

/-- A new page: 64 words, all 0. -/
def page0 : Obj := .cells (words (fun _ => 0) 0) 95

theorem run_alloc_page (w : World) : (Instr.alloc 95 true (.tuple #[])).run Tryd.prog w = .ok (.pointer (some ⟨w.heap.size, 0, none⟩)) (w.alloc page0) := by kernel_rfl

theorem wpList_alloc_page {ops : Array Oper} {rest : List Oper} {a : Act} {w : World} {Q : Exit → Act → World → Prop} {d : Option Tmp} {ty : TypeId} {ps : String} {af : Array Edge}
    (h : wpList Tryd.prog ops Q rest (a.put d (.pointer (some ⟨w.heap.size, 0, none⟩))) (w.alloc page0)) : wpList Tryd.prog ops Q ({ dst := d, op := Op.alloc 95, type := ty, pos := ps, after := af, guard := none } :: rest) a w := by
  refine wpList_plain rfl fun K hK => ?_
  unfold Oper.wp
  simp only [execOp, run_alloc_page, Sem.run_bind, Result.andThen_ok]
  exact hK _ _ h

/-- The blocks that are an arena's. -/
def foot (bs bm : Nat) (pg : List (Int × Nat)) (k : Nat) : Prop := k = bs ∨ k = bm ∨ ∃ p ∈ pg, p.2 = k

/-- What a call on an arena may do: its own blocks turn, and new ones come. -/
structure Step (bs bm : Nat) (pg pg' : List (Int × Nat)) (w w' : World) : Prop where
  os : w'.os = w.os
  tape : w'.tape = w.tape
  output : w'.output = w.output
  size : w.heap.size ≤ w'.heap.size
  kept : ∀ k, k < w.heap.size → ¬ foot bs bm pg k → w'.heap[k]? = w.heap[k]?
  inn : ∀ k, foot bs bm pg' k → foot bs bm pg k ∨ w.heap.size ≤ k

theorem Step.refl (bs bm : Nat) (pg : List (Int × Nat)) (w : World) : Step bs bm pg pg w w := ⟨rfl, rfl, rfl, Nat.le_refl _, fun _ _ _ => rfl, fun _ h => Or.inl h⟩
theorem Step.drewN (bs bm : Nat) (pg : List (Int × Nat)) (w : World) (n : Nat) : Step bs bm pg pg w (w.drewN n) := ⟨rfl, rfl, rfl, Nat.le_refl _, fun _ _ _ => rfl, fun _ h => Or.inl h⟩

theorem Step.trans {bs bm : Nat} {pg pg' pg'' : List (Int × Nat)} {w w' w'' : World} (h : Step bs bm pg pg' w w') (k : Step bs bm pg' pg'' w' w'') : Step bs bm pg pg'' w w'' := by
  refine ⟨k.os.trans h.os, k.tape.trans h.tape, k.output.trans h.output, Nat.le_trans h.size k.size, fun j hj hf => ?_, fun j hj => ?_⟩
  · have h1 : ¬ foot bs bm pg' j := fun hf' => by
      rcases h.inn j hf' with h2 | h2
      · exact hf h2
      · omega
    rw [k.kept j (Nat.lt_of_lt_of_le hj h.size) h1]
    exact h.kept j hj hf
  · rcases k.inn j hj with h2 | h2
    · exact h.inn j h2
    · exact Or.inr (Nat.le_trans h.size h2)

/-- Where all of the arena's blocks are new since B, nothing below B turns. -/
theorem Step.below {bs bm : Nat} {pg pg' : List (Int × Nat)} {w w' : World} (h : Step bs bm pg pg' w w') {B : Nat} (hB : B ≤ w.heap.size) (hf : ∀ k, foot bs bm pg k → B ≤ k) : Below B w w' :=
  ⟨h.os, h.tape, h.output, h.size, fun k hk => h.kept k (by omega) (fun h2 => by have := hf k h2; omega)⟩

theorem Step.foot_ge {bs bm : Nat} {pg pg' : List (Int × Nat)} {w w' : World} (h : Step bs bm pg pg' w w') {B : Nat} (hB : B ≤ w.heap.size) (hf : ∀ k, foot bs bm pg k → B ≤ k) : ∀ k, foot bs bm pg' k → B ≤ k := fun k hk => by
  rcases h.inn k hk with h2 | h2
  · exact hf k h2
  · omega

section
variable {w : World} {bs bm : Nat} {q : Int} {pg : List (Int × Nat)} {W : Int → Int}

theorem PMap.isMap (h : PMap w bm pg) : ∃ es c, w.heap[bm]? = some (.map es c) := by
  obtain ⟨es, c, hb, _⟩ := h
  exact ⟨es, c, hb⟩

theorem Arena.bs_ne (h : Arena w bs bm q pg W) : bs ≠ bm := fun e => by
  obtain ⟨es, c, hb⟩ := h.pm.isMap
  have := h.s0
  rw [e, hb] at this
  cases this

theorem Arena.pg_ne (h : Arena w bs bm q pg W) {p : Int × Nat} (hp : p ∈ pg) : p.2 ≠ bm ∧ p.2 ≠ bs := by
  constructor
  · intro e
    obtain ⟨es, c, hb⟩ := h.pm.isMap
    have := h.page p hp
    rw [e, hb] at this
    cases this
  · intro e
    have := h.page p hp
    rw [e, h.s0] at this
    have h2 := congrArg (fun o => match o with | some (Obj.cells c _ _) => c.size | _ => 0) this
    simp [words_size] at h2

theorem lt_of_get {o : Obj} {k : Nat} (h : w.heap[k]? = some o) : k < w.heap.size := (Array.getElem?_eq_some_iff.1 h).1

theorem Arena.foot_lt (h : Arena w bs bm q pg W) {k : Nat} (hk : foot bs bm pg k) : k < w.heap.size := by
  rcases hk with rfl | rfl | ⟨p, hp, rfl⟩
  · exact lt_of_get h.s0
  · obtain ⟨es, c, hb⟩ := h.pm.isMap
    exact lt_of_get hb
  · exact lt_of_get (h.page p hp)

theorem words_zero {W : Int → Int} {k : Int} (h : ∀ i : Nat, i < 64 → W (64 * k + i) = 0) : words W k = words (fun _ => 0) 0 := by
  unfold words
  apply Array.map_congr_left
  intro i hi
  rw [h i (by simpa using hi)]

/-- An arena stays what it is where none of its blocks turns. -/
theorem Arena.stays (h : Arena w bs bm q pg W) {w' : World} (hk : ∀ k, foot bs bm pg k → w'.heap[k]? = w.heap[k]?) : Arena w' bs bm q pg W := by
  refine ⟨(hk bs (Or.inl rfl)).trans h.s0, ?_, h.rise, h.rng, h.q0, h.q1, h.full, fun p hp => (hk p.2 (Or.inr (Or.inr ⟨p, hp, rfl⟩))).trans (h.page p hp), h.nd, h.ww, h.z⟩
  obtain ⟨es, c, hb, r⟩ := h.pm
  exact ⟨es, c, (hk bm (Or.inr (Or.inl rfl))).trans hb, r⟩

/-- A page is granted: a new block of zeros, and the map turned. -/
theorem Arena.put (h : Arena w bs bm q pg W) {k : Int} (hk0 : 0 ≤ k) (hk1 : k ≤ 1048575) (hb : blk pg k = none) (hf : 64 * ((pg.length : Int) + 1) ≤ q) {w2 : World}
    (hown : w2.ownsMap Tryd.prog 3 ptrElem bm (pg.length + 1) ((pd pg).put (.int .i64 k) (.held w.heap.size))) (ht : (w.alloc page0).mapTurned w2 bm) :
    Arena w2 bs bm q (ins k w.heap.size pg) W ∧ Step bs bm pg (ins k w.heap.size pg) w w2 := by
  rw [put_pd pg k _ hb] at hown
  have hg := ht.grown
  have old : ∀ j, j < w.heap.size → j ≠ bm → w2.heap[j]? = w.heap[j]? := fun j hj hne => by
    rw [hg.block j (by simp; omega) (fun e => hne (Option.some.inj e))]
    exact Below.heap_alloc _ _ _ hj
  have hbm : bm < w.heap.size := h.foot_lt (Or.inr (Or.inl rfl))
  have new : w2.heap[w.heap.size]? = some page0 := by
    rw [hg.block w.heap.size (by simp) (fun e => by have := Option.some.inj e; omega)]
    exact (MapKept.heap_alloc w _).1
  have hz : ∀ i : Nat, i < 64 → W (64 * k + i) = 0 := fun i hi => h.z _ (by rw [show (64 * k + (i : Int)) / 64 = k from by omega]; exact hb)
  refine ⟨⟨(old bs (h.foot_lt (Or.inl rfl)) h.bs_ne).trans h.s0, PMap.tight hown, ins_rising h.rise hb, ?_, h.q0, h.q1, ?_, ?_, ?_, h.ww, ?_⟩, ⟨hg.os, hg.tape, hg.output, ?_, ?_, ?_⟩⟩
  · intro p hp
    rcases mem_ins.1 hp with rfl | hp
    · exact ⟨hk0, hk1⟩
    · exact h.rng p hp
  · rw [ins_length]; omega
  · intro p hp
    rcases mem_ins.1 hp with rfl | hp
    · rw [new, words_zero hz]; rfl
    · rw [old p.2 (h.foot_lt (Or.inr (Or.inr ⟨p, hp, rfl⟩))) (h.pg_ne hp).1]
      exact h.page p hp
  · have hnew : ∀ p ∈ pg, p.2 ≠ w.heap.size := fun p hp => by have := h.foot_lt (Or.inr (Or.inr ⟨p, hp, rfl⟩)); omega
    have hnd := h.nd
    clear hown hz hb hf hg old hbm new ht
    have : ∀ l : List (Int × Nat), (∀ p ∈ l, p.2 ≠ w.heap.size) → (l.map fun p => p.2).Nodup → ((ins k w.heap.size l).map fun p => p.2).Nodup := by
      intro l
      induction l with
      | nil => intro _ _; simp [ins]
      | cons p r ih =>
        intro h1 h2
        have h3 : (p.2 ∉ r.map fun p => p.2) ∧ (r.map fun p => p.2).Nodup := List.nodup_cons.1 (by simpa using h2)
        unfold ins
        split
        · simp only [List.map_cons, List.nodup_cons]
          refine ⟨?_, by simpa using h2⟩
          intro hm
          obtain ⟨x, hx, hxe⟩ := List.mem_map.1 (show w.heap.size ∈ (p :: r).map fun p => p.2 from by simpa using hm)
          exact h1 x hx hxe
        · simp only [List.map_cons, List.nodup_cons]
          refine ⟨?_, ih (fun x hx => h1 x (List.mem_cons_of_mem _ hx)) h3.2⟩
          intro hm
          obtain ⟨x, hx, hxe⟩ := List.mem_map.1 hm
          rcases mem_ins.1 hx with rfl | hx
          · exact h1 p (by simp) hxe.symm
          · exact h3.1 (List.mem_map.2 ⟨x, hx, hxe⟩)
    exact this pg hnew hnd
  · intro a ha
    rw [blk_ins h.rise hb] at ha
    split at ha
    · cases ha
    · exact h.z a ha
  · have := hg.size; simp at this; omega
  · intro j hj hf
    exact old j hj (fun e => hf (Or.inr (Or.inl e)))
  · intro j hj
    rcases hj with rfl | rfl | ⟨p, hp, rfl⟩
    · exact Or.inl (Or.inl rfl)
    · exact Or.inl (Or.inr (Or.inl rfl))
    · rcases mem_ins.1 hp with rfl | hp
      · exact Or.inr (Nat.le_refl _)
      · exact Or.inl (Or.inr (Or.inr ⟨p, hp, rfl⟩))

end

end Sl
end Go.Proofs.YtlpdgomoepinjaaDoor
