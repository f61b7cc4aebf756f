/-
  Plain facts on the arena of package slab: pages, quotas, spans, as numbers and lists. No Go text is named here.
-/
import Derived.KernelRfl
import Derived.Test.YtbbjfebdihepnaaGreatDoorProg
import Derived.WalkKit
import Derived.Handy
import Derived.Maps.OwnSet
import Derived.WalkSpells
import Derived.Deep.QuietTactic
import Derived.BigQuiet
import Derived.Deep.LoopGhost
namespace Go.Proofs.YtbbjfebdihepnaaGreatDoor
namespace Sl

def isCountB (n : Int) : Bool := decide (1 ≤ n ∧ n ≤ 4096)
def isPageB (n : Int) : Bool := decide (0 ≤ n ∧ n ≤ 1048575)
def isSpanB (a n : Int) : Bool := decide (0 ≤ a ∧ a < 67108864 ∧ 0 ≤ n ∧ n ≤ 262144 ∧ a + n ≤ 67108864)

/-- The block of a page, if it is granted. -/
def blk (pg : List (Int × Nat)) (k : Int) : Option Nat := (pg.find? fun p => p.1 == k).map fun p => p.2
def del (k : Int) (pg : List (Int × Nat)) : List (Int × Nat) := pg.filter fun p => !(p.1 == k)
def ins (k : Int) (b : Nat) : List (Int × Nat) → List (Int × Nat)
  | [] => [(k, b)]
  | p :: r => if k < p.1 then (k, b) :: p :: r else p :: ins k b r
def Rising (pg : List (Int × Nat)) : Prop := pg.Pairwise fun p q => p.1 < q.1

theorem blk_nil (k : Int) : blk [] k = none := rfl
theorem blk_cons (p : Int × Nat) (r : List (Int × Nat)) (k : Int) : blk (p :: r) k = if p.1 = k then some p.2 else blk r k := by
  unfold blk
  rw [List.find?_cons]
  by_cases h : p.1 = k
  · simp [h]
  · have h' : (p.1 == k) = false := by simpa using h
    simp [h', h]

theorem blk_none_iff {pg : List (Int × Nat)} {k : Int} : blk pg k = none ↔ ∀ p ∈ pg, p.1 ≠ k := by
  induction pg with
  | nil => simp [blk_nil]
  | cons p r ih =>
    rw [blk_cons]
    by_cases h : p.1 = k
    · simp [h]
    · simp [h, ih]

theorem blk_mem {pg : List (Int × Nat)} {k : Int} {b : Nat} (h : blk pg k = some b) : (k, b) ∈ pg := by
  induction pg with
  | nil => simp [blk_nil] at h
  | cons p r ih =>
    rw [blk_cons] at h
    by_cases e : p.1 = k
    · simp [e] at h
      subst h; subst e
      simp
    · simp [e] at h
      exact List.mem_cons_of_mem _ (ih h)

theorem blk_of_mem {pg : List (Int × Nat)} (hs : Rising pg) {k : Int} {b : Nat} (h : (k, b) ∈ pg) : blk pg k = some b := by
  induction pg with
  | nil => simp at h
  | cons p r ih =>
    obtain ⟨h1, h2⟩ := List.pairwise_cons.1 hs
    rw [blk_cons]
    rcases List.mem_cons.1 h with rfl | h'
    · simp
    · have := h1 _ h'
      rw [if_neg (by intro e; simp at this; omega)]
      exact ih h2 h'

theorem del_none {pg : List (Int × Nat)} {k : Int} (h : blk pg k = none) : del k pg = pg := by
  unfold del
  rw [List.filter_eq_self]
  intro p hp
  have := blk_none_iff.1 h p hp
  simpa using this

theorem mem_ins {k : Int} {b : Nat} {pg : List (Int × Nat)} {p : Int × Nat} : p ∈ ins k b pg ↔ p = (k, b) ∨ p ∈ pg := by
  induction pg with
  | nil => simp [ins]
  | cons q r ih =>
    unfold ins
    split
    · simp
    · simp only [List.mem_cons, ih]
      constructor
      · rintro (h | h | h)
        · exact Or.inr (Or.inl h)
        · exact Or.inl h
        · exact Or.inr (Or.inr h)
      · rintro (h | h | h)
        · exact Or.inr (Or.inl h)
        · exact Or.inl h
        · exact Or.inr (Or.inr h)

theorem ins_length (k : Int) (b : Nat) (pg : List (Int × Nat)) : (ins k b pg).length = pg.length + 1 := by
  induction pg with
  | nil => rfl
  | cons q r ih =>
    unfold ins
    split
    · rfl
    · simp [ih]

theorem ins_rising {k : Int} {b : Nat} {pg : List (Int × Nat)} (hs : Rising pg) (hn : blk pg k = none) : Rising (ins k b pg) := by
  induction pg with
  | nil => simp [ins, Rising]
  | cons q r ih =>
    obtain ⟨h1, h2⟩ := List.pairwise_cons.1 hs
    have hn' := blk_none_iff.1 hn
    have hq : q.1 ≠ k := hn' q (by simp)
    have hr : blk r k = none := blk_none_iff.2 fun p hp => hn' p (List.mem_cons_of_mem _ hp)
    unfold ins
    split
    · rename_i hlt
      refine List.pairwise_cons.2 ⟨fun p hp => ?_, hs⟩
      rcases List.mem_cons.1 hp with rfl | hp
      · exact hlt
      · have := h1 p hp
        show k < p.1
        omega
    · rename_i hlt
      refine List.pairwise_cons.2 ⟨fun p hp => ?_, ih h2 hr⟩
      rcases mem_ins.1 hp with rfl | hp
      · show q.1 < k
        omega
      · exact h1 p hp

theorem blk_ins {k j : Int} {b : Nat} {pg : List (Int × Nat)} (hs : Rising pg) (hn : blk pg k = none) : blk (ins k b pg) j = if j = k then some b else blk pg j := by
  have hr := ins_rising (b := b) hs hn
  by_cases e : j = k
  · subst e
    rw [if_pos rfl]
    exact blk_of_mem hr (mem_ins.2 (Or.inl rfl))
  · rw [if_neg e]
    cases hb : blk pg j with
    | none =>
      refine blk_none_iff.2 fun p hp => ?_
      rcases mem_ins.1 hp with rfl | hp
      · exact fun h => e h.symm
      · exact blk_none_iff.1 hb p hp
    | some c => exact blk_of_mem hr (mem_ins.2 (Or.inr (blk_mem hb)))

theorem del_rising {k : Int} {pg : List (Int × Nat)} (hs : Rising pg) : Rising (del k pg) := hs.filter _
theorem mem_del {k : Int} {pg : List (Int × Nat)} {p : Int × Nat} : p ∈ del k pg ↔ p ∈ pg ∧ p.1 ≠ k := by simp [del]

theorem blk_del {k j : Int} {pg : List (Int × Nat)} (hs : Rising pg) : blk (del k pg) j = if j = k then none else blk pg j := by
  by_cases e : j = k
  · subst e
    rw [if_pos rfl]
    exact blk_none_iff.2 fun p hp => (mem_del.1 hp).2
  · rw [if_neg e]
    cases hb : blk pg j with
    | none => exact blk_none_iff.2 fun p hp => blk_none_iff.1 hb p (mem_del.1 hp).1
    | some c => exact blk_of_mem (del_rising hs) (mem_del.2 ⟨blk_mem hb, e⟩)

theorem del_length {k : Int} {b : Nat} {pg : List (Int × Nat)} (hs : Rising pg) (h : blk pg k = some b) : (del k pg).length + 1 = pg.length := by
  induction pg with
  | nil => simp [blk_nil] at h
  | cons q r ih =>
    obtain ⟨h1, h2⟩ := List.pairwise_cons.1 hs
    by_cases e : q.1 = k
    · have hr : blk r k = none := blk_none_iff.2 fun p hp => by have := h1 p hp; omega
      have : del k (q :: r) = r := by
        have h0 := del_none hr
        simp [del, e] at h0 ⊢
        exact h0
      rw [this]
      rfl
    · rw [blk_cons, if_neg e] at h
      have := ih h2 h
      have hd : del k (q :: r) = q :: del k r := by simp [del, e]
      rw [hd]
      simp
      omega

/-- Are n pages from one on all granted? -/
def allIn (pg : List (Int × Nat)) (f : Int) (n : Nat) : Bool := (List.range n).all fun i => (blk pg (f + (i : Int))).isSome

theorem allIn_iff {pg : List (Int × Nat)} {f : Int} {n : Nat} : allIn pg f n = true ↔ ∀ i : Nat, i < n → (blk pg (f + (i : Int))).isSome = true := by
  simp [allIn]
theorem allIn_succ {pg : List (Int × Nat)} {f : Int} {k : Nat} (h : allIn pg f k = true) (hb : (blk pg (f + (k : Int))).isSome = true) : allIn pg f (k + 1) = true := by
  rw [allIn_iff] at h ⊢
  intro i hi
  rcases Nat.lt_or_eq_of_le (Nat.le_of_lt_succ hi) with h' | h'
  · exact h i h'
  · rw [h']; exact hb
theorem allIn_not {pg : List (Int × Nat)} {f : Int} {k n : Nat} (hk : k < n) (hb : (blk pg (f + (k : Int))).isSome = false) : allIn pg f n = false := by
  cases h : allIn pg f n with
  | false => rfl
  | true => have := allIn_iff.1 h k hk; rw [hb] at this; cases this

theorem nd_inj {pg : List (Int × Nat)} (h : (pg.map fun p => p.2).Nodup) {p r : Int × Nat} (hp : p ∈ pg) (hr : r ∈ pg) (e : p.2 = r.2) : p = r := by
  induction pg with
  | nil => simp at hp
  | cons x l ih =>
    have h3 : (x.2 ∉ l.map fun p => p.2) ∧ (l.map fun p => p.2).Nodup := List.nodup_cons.1 (by simpa using h)
    rcases List.mem_cons.1 hp with rfl | hp'
    · rcases List.mem_cons.1 hr with rfl | hr'
      · rfl
      · exact absurd (List.mem_map.2 ⟨r, hr', e.symm⟩) h3.1
    · rcases List.mem_cons.1 hr with rfl | hr'
      · exact absurd (List.mem_map.2 ⟨p, hp', e⟩) h3.1
      · exact ih h3.2 hp' hr'

theorem nd_del {pg : List (Int × Nat)} (h : (pg.map fun p => p.2).Nodup) (k : Int) : ((del k pg).map fun p => p.2).Nodup := by
  unfold del
  exact h.sublist (List.filter_sublist.map _)

end Sl
end Go.Proofs.YtbbjfebdihepnaaGreatDoor

/-
  Walks of package slab's small tests: isCount, isPage, isSpan.
-/
namespace Go.Proofs.YtbbjfebdihepnaaGreatDoor
open Go.RowKit
namespace Sl

theorem isCount_any (n : Int) (w : World) : Calls Tryz.prog 126 #[.int .i64 n] w fun e w' => e = .returned (.bool (isCountB n)) ∧ w = w' := by
  by_cases h1 : 1 ≤ n
  · by_cases h2 : n ≤ 4096
    all_goals
      go_enter Tryz.func126, Tryz.ntmps126
      go_wp2
      go_ret
      exact ⟨by simp [isCountB, h1, h2], rfl⟩
  · go_enter Tryz.func126, Tryz.ntmps126
    go_wp2
    go_ret
    exact ⟨by simp [isCountB]; omega, rfl⟩

theorem isPage_any (n : Int) (w : World) : Calls Tryz.prog 125 #[.int .i64 n] w fun e w' => e = .returned (.bool (isPageB n)) ∧ w = w' := by
  by_cases h1 : 0 ≤ n
  · by_cases h2 : n ≤ 1048575
    all_goals
      go_enter Tryz.func125, Tryz.ntmps125
      go_wp2
      go_ret
      exact ⟨by simp [isPageB, h1, h2], rfl⟩
  · go_enter Tryz.func125, Tryz.ntmps125
    go_wp2
    go_ret
    exact ⟨by simp [isPageB]; omega, rfl⟩

theorem isSpan_any (a n : Int) (w : World) : Calls Tryz.prog 141 #[.int .i64 a, .int .i64 n] w fun e w' => e = .returned (.bool (isSpanB a n)) ∧ w = w' := by
  by_cases h1 : a < 0
  · go_enter Tryz.func141, Tryz.ntmps141
    go_wp2
    go_ret
    exact ⟨by simp [isSpanB]; omega, rfl⟩
  by_cases h2 : 67108864 ≤ a
  · go_enter Tryz.func141, Tryz.ntmps141
    go_wp2
    go_ret
    exact ⟨by simp [isSpanB]; omega, rfl⟩
  by_cases h3 : n < 0
  · go_enter Tryz.func141, Tryz.ntmps141
    go_wp2
    go_ret
    exact ⟨by simp [isSpanB]; omega, rfl⟩
  by_cases h4 : 262144 < n
  · go_enter Tryz.func141, Tryz.ntmps141
    go_wp2
    go_ret
    exact ⟨by simp [isSpanB]; omega, rfl⟩
  by_cases h5 : a + n ≤ 67108864
  all_goals
    go_enter Tryz.func141, Tryz.ntmps141
    go_wp2
    go_ret
    exact ⟨by simp [isSpanB]; omega, rfl⟩

end Sl
end Go.Proofs.YtbbjfebdihepnaaGreatDoor

/-
  What an arena of package slab is in memory: its two fields, its map from pages to blocks, the pages' words; and what stays when another part of memory turns.
-/
namespace Go.Proofs.YtbbjfebdihepnaaGreatDoor
open Go.RowKit Go.Maps
namespace Sl

theorem law3 : Keyed Tryz.prog 3 := int_keyed Tryz.underlying3
theorem zeroP (w : World) : (zeroValue 135).run Tryz.prog w = .ok (.pointer none) w := by kernel_rfl

/-- How a page's pointer reads: as its block's number; nil reads as nil. -/
def ptrElem (v : Value) : Option (DataW Nat × List MemPlace) :=
  match v with
  | .pointer none => some (.nil, [])
  | .pointer (some a) => if a.off = 0 ∧ a.spot = none then some (.held a.block, []) else none
  | _ => none

def ptrOf (o : Option Nat) : Value :=
  match o with
  | none => .pointer none
  | some b => .pointer (some ⟨b, 0, none⟩)

theorem ptrElem_inv {v : Value} {z : DataW Nat × List MemPlace} (h : ptrElem v = some z) : (v = .pointer none ∧ z = (.nil, [])) ∨ ∃ b, v = .pointer (some ⟨b, 0, none⟩) ∧ z = (.held b, []) := by
  unfold ptrElem at h
  split at h
  · cases h; exact Or.inl ⟨rfl, rfl⟩
  · rename_i a
    split at h
    · rename_i hc
      cases h
      obtain ⟨b, o, s⟩ := a
      obtain ⟨rfl, rfl⟩ := hc
      exact Or.inr ⟨_, rfl, rfl⟩
    · cases h
  · cases h

/-- The page map as a datum: sorted by page. -/
def pd (pg : List (Int × Nat)) : DataW Nat := .map (pg.map fun p => (.int .i64 p.1, .held p.2))

def PMap (w : World) (bm : Nat) (pg : List (Int × Nat)) : Prop := w.ownsMap Tryz.prog 3 ptrElem bm pg.length (pd pg)

theorem same_int (a k : Int) : (Lit.int .i64 a).sameKey (.int .i64 k) = (a == k) := by
  by_cases h : a = k <;> simp [Lit.sameKey, h]

theorem find_pd (pg : List (Int × Nat)) (k : Int) : (pg.map fun p => (Lit.int .i64 p.1, (DataW.held p.2 : DataW Nat))).find? (fun p => p.1.sameKey (.int .i64 k)) = (pg.find? fun p => p.1 == k).map fun p => (Lit.int .i64 p.1, (DataW.held p.2 : DataW Nat)) := by
  rw [List.find?_map]
  congr 2
  funext p
  exact same_int _ _

theorem atKey_pd (pg : List (Int × Nat)) (k : Int) : (pd pg).atKey (.int .i64 k) .nil = match blk pg k with | none => .nil | some b => .held b := by
  unfold pd DataW.atKey blk
  simp only [find_pd]
  cases pg.find? (fun p => p.1 == k) <;> rfl

theorem filter_pd (pg : List (Int × Nat)) (k : Int) : (pg.map fun p => (Lit.int .i64 p.1, (DataW.held p.2 : DataW Nat))).filter (fun p => !p.1.sameKey (.int .i64 k)) = (del k pg).map fun p => (Lit.int .i64 p.1, (DataW.held p.2 : DataW Nat)) := by
  unfold del
  rw [List.filter_map]
  congr 2
  funext p
  exact congrArg not (same_int _ _)

theorem del_pd (pg : List (Int × Nat)) (k : Int) : (pd pg).del (.int .i64 k) = pd (del k pg) := by
  unfold pd DataW.del
  simp only [filter_pd]

theorem insert_pd (k : Int) (b : Nat) : ∀ pg : List (Int × Nat), DataW.insert (Lit.int .i64 k, (DataW.held b : DataW Nat)) (pg.map fun p => (Lit.int .i64 p.1, (DataW.held p.2 : DataW Nat))) = (ins k b pg).map fun p => (Lit.int .i64 p.1, (DataW.held p.2 : DataW Nat))
  | [] => rfl
  | p :: r => by
    unfold ins
    simp only [List.map_cons, DataW.insert, Lit.before]
    by_cases h : k < p.1
    · simp [h]
    · simp [h, insert_pd k b r]

theorem put_pd (pg : List (Int × Nat)) (k : Int) (b : Nat) (hn : blk pg k = none) : (pd pg).put (.int .i64 k) (.held b) = pd (ins k b pg) := by
  unfold pd DataW.put
  simp only [filter_pd]
  rw [del_none hn, insert_pd]

theorem PMap.tight {w : World} {bm n : Nat} {pg : List (Int × Nat)} (h : w.ownsMap Tryz.prog 3 ptrElem bm n (pd pg)) : PMap w bm pg := by
  obtain ⟨es, clock, hb, F, hs, hD⟩ := h
  refine ⟨es, clock, hb, F, ?_, hD⟩
  have h1 := congrArg Maps.size hD
  rw [Maps.size_eq, length_read] at h1
  have h2 : Maps.size (pd pg) = pg.length := by simp [pd, Maps.size_eq]
  omega

theorem wf64 {k : Int} (h : -9223372036854775808 ≤ k ∧ k ≤ 9223372036854775807) : (Lit.int .i64 k).wf = true := WalkArith.wf_i64 h

/-- 'm[k]' -/
theorem PMap.look {w : World} {bm : Nat} {pg : List (Int × Nat)} (h : PMap w bm pg) {k : Int} (hk : (Lit.int .i64 k).wf = true) :
    (Instr.lookup 134 (.map (some bm)) (.int .i64 k) false).run Tryz.prog w = .ok (ptrOf (blk pg k)) w := by
  obtain ⟨v, ps, hrun, hv⟩ := World.ownsMap.lookup h law3 Tryz.underlying134 (zeroP w) (zd := .nil) (zp := []) rfl (keyOf_int_mk Tryz.underlying3 hk)
  rw [atKey_pd] at hv
  rw [hrun]
  rcases ptrElem_inv hv with ⟨rfl, hz⟩ | ⟨b, rfl, hz⟩
  · cases hb : blk pg k <;> simp [hb] at hz
    rfl
  · cases hb : blk pg k <;> simp [hb] at hz
    rw [hz.1]
    rfl

/-- The 64 words of page k. -/
def words (W : Int → Int) (k : Int) : Array Value := (Array.range 64).map fun i : Nat => .int .u64 (W (64 * k + (i : Int)))

theorem words_size (W : Int → Int) (k : Int) : (words W k).size = 64 := by simp [words]
theorem words_get (W : Int → Int) (k : Int) (i : Nat) (h : i < 64) : (words W k)[i]? = some (.int .u64 (W (64 * k + i))) := by
  simp [words, h]

def WordOk (x : Int) : Prop := (Lit.int .u64 x).wf = true
theorem wordOk_zero : WordOk 0 := by unfold WordOk; decide

/-- An arena of quota q at block bs, its map at bm, its pages and their blocks pg, its words W. -/
structure Arena (w : World) (bs bm : Nat) (q : Int) (pg : List (Int × Nat)) (W : Int → Int) : Prop where
  s0 : w.heap[bs]? = some (.cells #[.int .i64 q, .map (some bm)] 137)
  pm : PMap w bm pg
  rise : Rising pg
  rng : ∀ p ∈ pg, 0 ≤ p.1 ∧ p.1 ≤ 1048575
  q0 : 0 ≤ q
  q1 : q ≤ 262144
  full : 64 * (pg.length : Int) ≤ q
  page : ∀ p ∈ pg, w.heap[p.2]? = some (.cells (words W p.1) 215)
  nd : (pg.map fun p => p.2).Nodup
  ww : ∀ a, WordOk (W a)
  z : ∀ a, blk pg (a / 64) = none → W a = 0

theorem Arena.c0 {w : World} {bs bm : Nat} {q : Int} {pg : List (Int × Nat)} {W : Int → Int} (h : Arena w bs bm q pg W) : w.cell? ⟨bs, 0, none⟩ = some (.int .i64 q) := by
  simp [World.cell?, h.s0]
theorem Arena.c1 {w : World} {bs bm : Nat} {q : Int} {pg : List (Int × Nat)} {W : Int → Int} (h : Arena w bs bm q pg W) : w.cell? ⟨bs, 1, none⟩ = some (.map (some bm)) := by
  simp [World.cell?, h.s0]
theorem Arena.len {w : World} {bs bm : Nat} {q : Int} {pg : List (Int × Nat)} {W : Int → Int} (h : Arena w bs bm q pg W) : pg.length ≤ 4096 := by
  have := h.full
  have := h.q1
  omega

theorem Arena.drewN {w : World} {bs bm : Nat} {q : Int} {pg : List (Int × Nat)} {W : Int → Int} (h : Arena w bs bm q pg W) (n : Nat) : Arena (w.drewN n) bs bm q pg W :=
  ⟨h.s0, h.pm, h.rise, h.rng, h.q0, h.q1, h.full, h.page, h.nd, h.ww, h.z⟩

/-- A new page: 64 words, all 0. -/
def page0 : Obj := .cells (words (fun _ => 0) 0) 215

theorem run_alloc_page (w : World) : (Instr.alloc 215 true (.tuple #[])).run Tryz.prog w = .ok (.pointer (some ⟨w.heap.size, 0, none⟩)) (w.alloc page0) := by kernel_rfl

theorem wpList_alloc_page {ops : Array Oper} {rest : List Oper} {a : Act} {w : World} {Q : Exit → Act → World → Prop} {d : Option Tmp} {ty : TypeId} {ps : String} {af : Array Edge}
    (h : wpList Tryz.prog ops Q rest (a.put d (.pointer (some ⟨w.heap.size, 0, none⟩))) (w.alloc page0)) : wpList Tryz.prog ops Q ({ dst := d, op := Op.alloc 215, type := ty, pos := ps, after := af, guard := none } :: rest) a w := by
  refine wpList_plain rfl fun K hK => ?_
  unfold Oper.wp
  simp only [execOp, run_alloc_page, Sem.run_bind, Result.andThen_ok]
  exact hK _ _ h

/-- The blocks that are an arena's. -/
def foot (bs bm : Nat) (pg : List (Int × Nat)) (k : Nat) : Prop := k = bs ∨ k = bm ∨ ∃ p ∈ pg, p.2 = k

/-- What a call on an arena may do: its own blocks turn, and new ones come. -/
structure Step (bs bm : Nat) (pg pg' : List (Int × Nat)) (w w' : World) : Prop where
  os : w'.os = w.os
  tape : w'.tape = w.tape
  output : w'.output = w.output
  size : w.heap.size ≤ w'.heap.size
  kept : ∀ k, k < w.heap.size → ¬ foot bs bm pg k → w'.heap[k]? = w.heap[k]?
  inn : ∀ k, foot bs bm pg' k → foot bs bm pg k ∨ w.heap.size ≤ k

theorem Step.refl (bs bm : Nat) (pg : List (Int × Nat)) (w : World) : Step bs bm pg pg w w := ⟨rfl, rfl, rfl, Nat.le_refl _, fun _ _ _ => rfl, fun _ h => Or.inl h⟩
theorem Step.drewN (bs bm : Nat) (pg : List (Int × Nat)) (w : World) (n : Nat) : Step bs bm pg pg w (w.drewN n) := ⟨rfl, rfl, rfl, Nat.le_refl _, fun _ _ _ => rfl, fun _ h => Or.inl h⟩

theorem Step.trans {bs bm : Nat} {pg pg' pg'' : List (Int × Nat)} {w w' w'' : World} (h : Step bs bm pg pg' w w') (k : Step bs bm pg' pg'' w' w'') : Step bs bm pg pg'' w w'' := by
  refine ⟨k.os.trans h.os, k.tape.trans h.tape, k.output.trans h.output, Nat.le_trans h.size k.size, fun j hj hf => ?_, fun j hj => ?_⟩
  · have h1 : ¬ foot bs bm pg' j := fun hf' => by
      rcases h.inn j hf' with h2 | h2
      · exact hf h2
      · omega
    rw [k.kept j (Nat.lt_of_lt_of_le hj h.size) h1]
    exact h.kept j hj hf
  · rcases k.inn j hj with h2 | h2
    · exact h.inn j h2
    · exact Or.inr (Nat.le_trans h.size h2)

/-- Where all of the arena's blocks are new since B, nothing below B turns. -/
theorem Step.below {bs bm : Nat} {pg pg' : List (Int × Nat)} {w w' : World} (h : Step bs bm pg pg' w w') {B : Nat} (hB : B ≤ w.heap.size) (hf : ∀ k, foot bs bm pg k → B ≤ k) : Below B w w' :=
  ⟨h.os, h.tape, h.output, h.size, fun k hk => h.kept k (by omega) (fun h2 => by have := hf k h2; omega)⟩

theorem Step.foot_ge {bs bm : Nat} {pg pg' : List (Int × Nat)} {w w' : World} (h : Step bs bm pg pg' w w') {B : Nat} (hB : B ≤ w.heap.size) (hf : ∀ k, foot bs bm pg k → B ≤ k) : ∀ k, foot bs bm pg' k → B ≤ k := fun k hk => by
  rcases h.inn k hk with h2 | h2
  · exact hf k h2
  · omega

section
variable {w : World} {bs bm : Nat} {q : Int} {pg : List (Int × Nat)} {W : Int → Int}

theorem PMap.isMap (h : PMap w bm pg) : ∃ es c, w.heap[bm]? = some (.map es c) := by
  obtain ⟨es, c, hb, _⟩ := h
  exact ⟨es, c, hb⟩

theorem Arena.bs_ne (h : Arena w bs bm q pg W) : bs ≠ bm := fun e => by
  obtain ⟨es, c, hb⟩ := h.pm.isMap
  have := h.s0
  rw [e, hb] at this
  cases this

theorem Arena.pg_ne (h : Arena w bs bm q pg W) {p : Int × Nat} (hp : p ∈ pg) : p.2 ≠ bm ∧ p.2 ≠ bs := by
  constructor
  · intro e
    obtain ⟨es, c, hb⟩ := h.pm.isMap
    have := h.page p hp
    rw [e, hb] at this
    cases this
  · intro e
    have := h.page p hp
    rw [e, h.s0] at this
    have h2 := congrArg (fun o => match o with | some (Obj.cells c _ _) => c.size | _ => 0) this
    simp [words_size] at h2

theorem lt_of_get {o : Obj} {k : Nat} (h : w.heap[k]? = some o) : k < w.heap.size := (Array.getElem?_eq_some_iff.1 h).1

theorem Arena.foot_lt (h : Arena w bs bm q pg W) {k : Nat} (hk : foot bs bm pg k) : k < w.heap.size := by
  rcases hk with rfl | rfl | ⟨p, hp, rfl⟩
  · exact lt_of_get h.s0
  · obtain ⟨es, c, hb⟩ := h.pm.isMap
    exact lt_of_get hb
  · exact lt_of_get (h.page p hp)

theorem words_zero {W : Int → Int} {k : Int} (h : ∀ i : Nat, i < 64 → W (64 * k + i) = 0) : words W k = words (fun _ => 0) 0 := by
  unfold words
  apply Array.map_congr_left
  intro i hi
  rw [h i (by simpa using hi)]

/-- An arena stays what it is where none of its blocks turns. -/
theorem Arena.stays (h : Arena w bs bm q pg W) {w' : World} (hk : ∀ k, foot bs bm pg k → w'.heap[k]? = w.heap[k]?) : Arena w' bs bm q pg W := by
  refine ⟨(hk bs (Or.inl rfl)).trans h.s0, ?_, h.rise, h.rng, h.q0, h.q1, h.full, fun p hp => (hk p.2 (Or.inr (Or.inr ⟨p, hp, rfl⟩))).trans (h.page p hp), h.nd, h.ww, h.z⟩
  obtain ⟨es, c, hb, r⟩ := h.pm
  exact ⟨es, c, (hk bm (Or.inr (Or.inl rfl))).trans hb, r⟩

/-- A page is granted: a new block of zeros, and the map turned. -/
theorem Arena.put (h : Arena w bs bm q pg W) {k : Int} (hk0 : 0 ≤ k) (hk1 : k ≤ 1048575) (hb : blk pg k = none) (hf : 64 * ((pg.length : Int) + 1) ≤ q) {w2 : World}
    (hown : w2.ownsMap Tryz.prog 3 ptrElem bm (pg.length + 1) ((pd pg).put (.int .i64 k) (.held w.heap.size))) (ht : (w.alloc page0).mapTurned w2 bm) :
    Arena w2 bs bm q (ins k w.heap.size pg) W ∧ Step bs bm pg (ins k w.heap.size pg) w w2 := by
  rw [put_pd pg k _ hb] at hown
  have hg := ht.grown
  have old : ∀ j, j < w.heap.size → j ≠ bm → w2.heap[j]? = w.heap[j]? := fun j hj hne => by
    rw [hg.block j (by simp; omega) (fun e => hne (Option.some.inj e))]
    exact Below.heap_alloc _ _ _ hj
  have hbm : bm < w.heap.size := h.foot_lt (Or.inr (Or.inl rfl))
  have new : w2.heap[w.heap.size]? = some page0 := by
    rw [hg.block w.heap.size (by simp) (fun e => by have := Option.some.inj e; omega)]
    exact (MapKept.heap_alloc w _).1
  have hz : ∀ i : Nat, i < 64 → W (64 * k + i) = 0 := fun i hi => h.z _ (by rw [show (64 * k + (i : Int)) / 64 = k from by omega]; exact hb)
  refine ⟨⟨(old bs (h.foot_lt (Or.inl rfl)) h.bs_ne).trans h.s0, PMap.tight hown, ins_rising h.rise hb, ?_, h.q0, h.q1, ?_, ?_, ?_, h.ww, ?_⟩, ⟨hg.os, hg.tape, hg.output, ?_, ?_, ?_⟩⟩
  · intro p hp
    rcases mem_ins.1 hp with rfl | hp
    · exact ⟨hk0, hk1⟩
    · exact h.rng p hp
  · rw [ins_length]; omega
  · intro p hp
    rcases mem_ins.1 hp with rfl | hp
    · rw [new, words_zero hz]; rfl
    · rw [old p.2 (h.foot_lt (Or.inr (Or.inr ⟨p, hp, rfl⟩))) (h.pg_ne hp).1]
      exact h.page p hp
  · have hnew : ∀ p ∈ pg, p.2 ≠ w.heap.size := fun p hp => by have := h.foot_lt (Or.inr (Or.inr ⟨p, hp, rfl⟩)); omega
    have hnd := h.nd
    clear hown hz hb hf hg old hbm new ht
    have : ∀ l : List (Int × Nat), (∀ p ∈ l, p.2 ≠ w.heap.size) → (l.map fun p => p.2).Nodup → ((ins k w.heap.size l).map fun p => p.2).Nodup := by
      intro l
      induction l with
      | nil => intro _ _; simp [ins]
      | cons p r ih =>
        intro h1 h2
        have h3 : (p.2 ∉ r.map fun p => p.2) ∧ (r.map fun p => p.2).Nodup := List.nodup_cons.1 (by simpa using h2)
        unfold ins
        split
        · simp only [List.map_cons, List.nodup_cons]
          refine ⟨?_, by simpa using h2⟩
          intro hm
          obtain ⟨x, hx, hxe⟩ := List.mem_map.1 (show w.heap.size ∈ (p :: r).map fun p => p.2 from by simpa using hm)
          exact h1 x hx hxe
        · simp only [List.map_cons, List.nodup_cons]
          refine ⟨?_, ih (fun x hx => h1 x (List.mem_cons_of_mem _ hx)) h3.2⟩
          intro hm
          obtain ⟨x, hx, hxe⟩ := List.mem_map.1 hm
          rcases mem_ins.1 hx with rfl | hx
          · exact h1 p (by simp) hxe.symm
          · exact h3.1 (List.mem_map.2 ⟨x, hx, hxe⟩)
    exact this pg hnew hnd
  · intro a ha
    rw [blk_ins h.rise hb] at ha
    split at ha
    · cases ha
    · exact h.z a ha
  · have := hg.size; simp at this; omega
  · intro j hj hf
    exact old j hj (fun e => hf (Or.inr (Or.inl e)))
  · intro j hj
    rcases hj with rfl | rfl | ⟨p, hp, rfl⟩
    · exact Or.inl (Or.inl rfl)
    · exact Or.inl (Or.inr (Or.inl rfl))
    · rcases mem_ins.1 hp with rfl | hp
      · exact Or.inr (Nat.le_refl _)
      · exact Or.inl (Or.inr (Or.inr ⟨p, hp, rfl⟩))

end

end Sl
end Go.Proofs.YtbbjfebdihepnaaGreatDoor

/-
  Walks of package slab's functions that only read an arena: made, Is, fits, haveAll, haveSpan, pageOf, Read, Quota.
-/
namespace Go.Proofs.YtbbjfebdihepnaaGreatDoor
open Go.RowKit Go.Maps
namespace Sl

theorem made_yes (b bm : Nat) (w : World) (c1 : w.cell? ⟨b, 1, none⟩ = some (.map (some bm))) : Calls Tryz.prog 68 #[.pointer (some ⟨b, 0, none⟩)] w fun e w' => e = .returned (.bool true) ∧ w = w' := by
  have q51 : ∀ (w : World) (r : Option Nat), (binOp .neq 134 (.map r) (.map none)).run Tryz.prog w = .ok (.bool (!r.isNone)) w := fun w r => run_neq_map_nil w _ _ _ r Tryz.underlying134
  go_enter Tryz.func68, Tryz.ntmps68
  go_wp2
  go_ret
  exact ⟨rfl, rfl⟩

variable {w : World} {bs bm : Nat} {q : Int} {pg : List (Int × Nat)} {W : Int → Int}

theorem is_any (h : Arena w bs bm q pg W) (p : Int) (hp : (Lit.int .i64 p).wf = true) :
    Calls Tryz.prog 145 #[.pointer (some ⟨bs, 0, none⟩), .int .i64 p] w fun e w' => e = .returned (.bool (blk pg p).isSome) ∧ w = w' := by
  have c1 := h.c1
  have hlk := h.pm.look hp
  have hm := made_yes bs bm w c1
  cases hb : blk pg p with
  | none =>
    rw [hb] at hlk
    simp only [ptrOf] at hlk
    go_enter Tryz.func145, Tryz.ntmps145
    go_wp2_with (go_at_call 68; refine hm.mono ?_; rintro e w' ⟨rfl, rfl⟩)
    go_ret
    exact ⟨rfl, rfl⟩
  | some b =>
    rw [hb] at hlk
    simp only [ptrOf] at hlk
    go_enter Tryz.func145, Tryz.ntmps145
    go_wp2_with (go_at_call 68; refine hm.mono ?_; rintro e w' ⟨rfl, rfl⟩)
    go_ret
    exact ⟨rfl, rfl⟩

theorem fits_any (h : Arena w bs bm q pg W) (n : Int) (h0 : 0 ≤ n) (h1 : n ≤ 4096) :
    Calls Tryz.prog 146 #[.pointer (some ⟨bs, 0, none⟩), .int .i64 n] w fun e w' => e = .returned (.bool (decide (((pg.length : Int) + n) * 64 ≤ q))) ∧ ∃ k, w' = w.drewN k := by
  have c0 := h.c0
  have c1 := h.c1
  have hlen := h.len
  have hl : ∀ ty nq, (Builtin.len_ #[134] ty #[.map (some bm)]).run Tryz.prog (w.drewN nq) = .ok (.int .i64 (pg.length : Nat)) (w.drewN nq) := fun ty nq => by
    have := World.ownsMap.len (h.drewN nq).pm Tryz.underlying134 ty
    rw [this]
    simp [pd, Maps.size_eq]
  go_enter Tryz.func146, Tryz.ntmps146
  go_wp2
  go_quiet (fail)
  go_wp2
  go_ret
  exact ⟨rfl, _, rfl⟩

theorem haveAll_any (h : Arena w bs bm q pg W) (p : Int) (n : Nat) (hp0 : 0 ≤ p) (hp1 : p ≤ 1048576) (hn : n ≤ 1048576) :
    Calls Tryz.prog 127 #[.pointer (some ⟨bs, 0, none⟩), .int .i64 p, .int .i64 n] w fun e w' => e = .returned (.bool (allIn pg p n)) ∧ w = w' := by
  go_enter Tryz.func127, Tryz.ntmps127
  go_wp2
  go_loop [7, 9] (fun _ t => ∃ k : Nat, k ≤ n ∧ t = .int .i64 k ∧ allIn pg p k = true) (fun _ t => n - (intOf t).toNat)
  case atStart => exact ⟨0, Nat.zero_le _, rfl, rfl⟩
  case round =>
    obtain ⟨k, hk, rfl, hall⟩ := hrel
    by_cases hlt : k < n
    · have hi := is_any h (p + k) (wf64 (by omega))
      cases hb : (blk pg (p + k)).isSome with
      | true =>
        have hs := allIn_succ hall hb
        rw [hb] at hi
        go_wp2_with (go_at_call 145; refine hi.mono ?_; rintro e w' ⟨rfl, rfl⟩)
        go_round
        case rel => exact ⟨k + 1, by omega, by go_num, hs⟩
        case measure => simp [intOf]; omega
      | false =>
        have hs := allIn_not hlt hb
        rw [hb] at hi
        go_wp2_with (go_at_call 145; refine hi.mono ?_; rintro e w' ⟨rfl, rfl⟩)
        go_ret
        exact ⟨by rw [hs]; rfl, rfl⟩
    · obtain rfl : k = n := by omega
      go_wp2
      go_ret
      exact ⟨rfl, rfl⟩

/-- The pages of n words from an address on are all granted (0 words are of no page). -/
def spanIn (pg : List (Int × Nat)) (a n : Int) : Bool := if n = 0 then true else allIn pg (a / 64) ((a + n - 1) / 64 - a / 64 + 1).toNat

/-- pageOf: the address may not be. -/
theorem pageOf_arg (h : Arena w bs bm q pg W) (a : Int) (hs : isSpanB a 1 = false) :
    Calls Tryz.prog 99 #[.pointer (some ⟨bs, 0, none⟩), .int .i64 a] w fun e w' => e = .returned (.tuple #[.pointer none, .int .i64 2]) ∧ w = w' := by
  have hm := made_yes bs bm w h.c1
  have hi := isSpan_any a 1 w
  rw [hs] at hi
  go_enter Tryz.func99, Tryz.ntmps99
  go_wp2_with (first | (go_at_call 68; refine hm.mono ?_; rintro e w' ⟨rfl, rfl⟩) | (go_at_call 141; refine hi.mono ?_; rintro e w' ⟨rfl, rfl⟩))
  go_ret2
  exact ⟨rfl, rfl⟩

/-- pageOf: its page is not granted. -/
theorem pageOf_none (h : Arena w bs bm q pg W) (a : Int) (hs : isSpanB a 1 = true) (hb : blk pg (a / 64) = none) :
    Calls Tryz.prog 99 #[.pointer (some ⟨bs, 0, none⟩), .int .i64 a] w fun e w' => e = .returned (.tuple #[.pointer none, .int .i64 5]) ∧ w = w' := by
  have hm := made_yes bs bm w h.c1
  have hi := isSpan_any a 1 w
  rw [hs] at hi
  simp [isSpanB] at hs
  have c1 := h.c1
  have hlk := h.pm.look (k := a / 64) (wf64 (by omega))
  rw [hb] at hlk
  simp only [ptrOf] at hlk
  go_enter Tryz.func99, Tryz.ntmps99
  go_wp2_with (first | (go_at_call 68; refine hm.mono ?_; rintro e w' ⟨rfl, rfl⟩) | (go_at_call 141; refine hi.mono ?_; rintro e w' ⟨rfl, rfl⟩))
  go_ret2
  exact ⟨rfl, rfl⟩

theorem pageOf_some (h : Arena w bs bm q pg W) (a : Int) (b : Nat) (hs : isSpanB a 1 = true) (hb : blk pg (a / 64) = some b) :
    Calls Tryz.prog 99 #[.pointer (some ⟨bs, 0, none⟩), .int .i64 a] w fun e w' => e = .returned (.tuple #[.pointer (some ⟨b, 0, none⟩), .int .i64 0]) ∧ w = w' := by
  have hm := made_yes bs bm w h.c1
  have hi := isSpan_any a 1 w
  rw [hs] at hi
  simp [isSpanB] at hs
  have c1 := h.c1
  have hlk := h.pm.look (k := a / 64) (wf64 (by omega))
  rw [hb] at hlk
  simp only [ptrOf] at hlk
  go_enter Tryz.func99, Tryz.ntmps99
  go_wp2_with (first | (go_at_call 68; refine hm.mono ?_; rintro e w' ⟨rfl, rfl⟩) | (go_at_call 141; refine hi.mono ?_; rintro e w' ⟨rfl, rfl⟩))
  go_ret2
  exact ⟨rfl, rfl⟩

/-- What Read answers: the word and the error. -/
def readE (pg : List (Int × Nat)) (a : Int) : Int := if isSpanB a 1 = true then (if (blk pg (a / 64)).isSome = true then 0 else 5) else 2
def readV (pg : List (Int × Nat)) (W : Int → Int) (a : Int) : Int := if readE pg a = 0 then W a else 0

theorem Arena.word (h : Arena w bs bm q pg W) {k : Int} {b : Nat} (hb : blk pg k = some b) (i : Nat) (hi : i < 64) : w.cell? ⟨b, i, none⟩ = some (.int .u64 (W (64 * k + i))) := by
  have := h.page _ (blk_mem hb)
  simp only [World.cell?, this]
  simpa using words_get W k i hi

theorem read_any (h : Arena w bs bm q pg W) (a : Int) :
    Calls Tryz.prog 67 #[.pointer (some ⟨bs, 0, none⟩), .int .i64 a] w fun e w' => e = .returned (.tuple #[.int .u64 (readV pg W a), .int .i64 (readE pg a)]) ∧ w = w' := by
  cases hs : isSpanB a 1 with
  | false =>
    have hp := pageOf_arg h a hs
    have HE : Hid (readE pg a = 2) := by simp [readE, hs, Hid]
    have HV : Hid (readV pg W a = 0) := by simp [readV, HE.out, Hid]
    go_enter Tryz.func67, Tryz.ntmps67
    go_wp2_with (go_at_call 99; refine hp.mono ?_; rintro e w' ⟨rfl, rfl⟩)
    go_ret2
    exact ⟨by rw [HE.out, HV.out]; rfl, rfl⟩
  | true =>
    cases hb : blk pg (a / 64) with
    | none =>
      have hp := pageOf_none h a hs hb
      have HE : Hid (readE pg a = 5) := by simp [readE, hs, hb, Hid]
      have HV : Hid (readV pg W a = 0) := by simp [readV, HE.out, Hid]
      go_enter Tryz.func67, Tryz.ntmps67
      go_wp2_with (go_at_call 99; refine hp.mono ?_; rintro e w' ⟨rfl, rfl⟩)
      go_ret2
      exact ⟨by rw [HE.out, HV.out]; rfl, rfl⟩
    | some b =>
      have hp := pageOf_some h a b hs hb
      have HE : Hid (readE pg a = 0) := by simp [readE, hs, hb, Hid]
      have HV : Hid (readV pg W a = W a) := by simp [readV, HE.out, Hid]
      simp [isSpanB] at hs
      obtain ⟨h0, h1, _⟩ := hs
      have hc := h.word hb (a % 64).toNat (by omega)
      rw [show 64 * (a / 64) + ((a % 64).toNat : Int) = a from by omega] at hc
      go_enter Tryz.func67, Tryz.ntmps67
      go_wp2_with (go_at_call 99; refine hp.mono ?_; rintro e w' ⟨rfl, rfl⟩)
      go_ret2
      exact ⟨by rw [HE.out, HV.out]; rfl, rfl⟩

end Sl
end Go.Proofs.YtbbjfebdihepnaaGreatDoor

/-
  The walk of package slab's search for a run of free pages: what it tells is the least one.
-/
namespace Go.Proofs.YtbbjfebdihepnaaGreatDoor
open Go.RowKit Go.Maps
namespace Sl

/-- n pages from f on are not granted. -/
def freeRun (pg : List (Int × Nat)) (f n : Int) : Prop := ∀ j, f ≤ j → j < f + n → blk pg j = none

/-- r is the least page from which on n pages are not granted. -/
structure Least (pg : List (Int × Nat)) (n r : Int) : Prop where
  lo : 0 ≤ r
  hi : r + n ≤ 1048576
  run : freeRun pg r n
  least : ∀ g, 0 ≤ g → g < r → ¬ freeRun pg g n

def Nowhere (pg : List (Int × Nat)) (n : Int) : Prop := ∀ g, 0 ≤ g → g + n ≤ 1048576 → ¬ freeRun pg g n

variable {w : World} {bs bm : Nat} {q : Int} {pg : List (Int × Nat)} {W : Int → Int}

theorem not_run {f n k g : Int} (hk : k < n) (hb : (blk pg (f + k)).isSome = true) (hg : f ≤ g) (hg2 : g < f + k + 1) : ¬ freeRun pg g n := fun h => by
  have := h (f + k) (by omega) (by omega)
  rw [this] at hb
  cases hb

set_option maxHeartbeats 1000000 in
theorem gap_any (h : Arena w bs bm q pg W) (n : Int) (hn0 : 1 ≤ n) (hn1 : n ≤ 4096) :
    Calls Tryz.prog 173 #[.pointer (some ⟨bs, 0, none⟩), .int .i64 n] w fun e w' => ((∃ r, e = .returned (.tuple #[.int .i64 r, .bool true]) ∧ Least pg n r) ∨ (e = .returned (.tuple #[.int .i64 0, .bool false]) ∧ Nowhere pg n)) ∧ w = w' := by
  go_enter Tryz.func173, Tryz.ntmps173
  go_wp2
  go_step3
  go_wp2
  go_step3
  go_wp2
  go_loopg [4, 5, 6, 7] 1048577 (fun g _ _ t _ wx => ∃ f : Int, w = wx ∧ 0 ≤ f ∧ f + g = 1048577 ∧ t = .int .i64 f ∧ f ≤ 1048576 ∧ Aside (∀ x, 0 ≤ x → x < f → ¬ freeRun pg x n))
  case atStart => exact ⟨0, rfl, by omega, by omega, rfl, by omega, fun g h1 h2 => by omega⟩
  case round =>
    obtain ⟨f, rfl, hf0, hfg, rfl, hf1, HL⟩ := hrel
    have hi := isPage_any (f + n - 1) w
    by_cases hp : f + n ≤ 1048576
    · have hpb : isPageB (f + n - 1) = true := by simp [isPageB]; omega
      rw [hpb] at hi
      clear hpb
      go_wp2_with (go_at_call 125; refine hi.mono ?_; rintro e w' ⟨rfl, rfl⟩)
      clear hi
      go_loopg [6, 7] n.toNat (fun g s t wx => ∃ k : Int, w = wx ∧ s = .int .i64 f ∧ t = .int .i64 k ∧ -1 ≤ k ∧ k + 1 = g ∧ k < n ∧ Aside (∀ j, k < j → j < n → blk pg (f + j) = none))
      case atStart => exact ⟨n - 1, rfl, rfl, rfl, by omega, by omega, by omega, fun j h1 h2 => by omega⟩
      case round =>
        obtain ⟨k, rfl, rfl, rfl, hk0, hkg, hkn, HF⟩ := hrel
        by_cases hk : 0 ≤ k
        · have hi := is_any h (f + k) (wf64 (by omega))
          cases hb : (blk pg (f + k)).isSome with
          | true =>
            rw [hb] at hi
            have HB : Aside ((blk pg (f + k)).isSome = true) := hb
            clear hb
            go_wp2_with (go_at_call 145; refine hi.mono ?_; rintro e w' ⟨rfl, rfl⟩)
            go_roundg (1048577 - (f + k + 1)).toNat
            case measure => omega
            case rel =>
              refine ⟨f + k + 1, rfl, by omega, by omega, by go_num, by omega, fun x hx0 hx => ?_⟩
              by_cases hxf : x < f
              · exact HL.out x hx0 hxf
              · exact not_run hkn HB.out (by omega) hx
          | false =>
            rw [hb] at hi
            have HB : Aside ((blk pg (f + k)).isSome = false) := hb
            clear hb
            go_wp2_with (go_at_call 145; refine hi.mono ?_; rintro e w' ⟨rfl, rfl⟩)
            go_roundg k.toNat
            case measure => omega
            case rel =>
              refine ⟨k - 1, rfl, rfl, by go_num, by omega, by omega, by omega, fun j hj hjn => ?_⟩
              by_cases hjk : j = k
              · rw [hjk]; exact by simpa using HB.out
              · exact HF.out j (by omega) hjn
        · go_wp2
          try rw [Exit.noGoto_ret]
          go_ret2
          refine ⟨Or.inl ⟨f, rfl, hf0, hp, fun j hj hjn => ?_, HL.out⟩, rfl⟩
          have := HF.out (j - f) (by omega) (by omega)
          rw [show f + (j - f) = j from by omega] at this
          exact this
    · have hpb : isPageB (f + n - 1) = false := by simp [isPageB]; omega
      rw [hpb] at hi
      clear hpb
      go_wp2_with (go_at_call 125; refine hi.mono ?_; rintro e w' ⟨rfl, rfl⟩)
      try rw [Exit.noGoto_ret]
      go_ret2
      refine ⟨Or.inr ⟨rfl, fun g hg hgn hfr => ?_⟩, rfl⟩
      exact HL.out g hg (by omega) hfr

end Sl
end Go.Proofs.YtbbjfebdihepnaaGreatDoor

/-
  A run of free pages is there wherever few pages are granted: a plain count.
-/
namespace Go.Proofs.YtbbjfebdihepnaaGreatDoor
namespace Sl

theorem not_all (n : Nat) : ∀ L : List Nat, L.length = n → ∃ i, i ≤ n ∧ i ∉ L := by
  induction n with
  | zero =>
    intro L h
    obtain rfl := List.eq_nil_of_length_eq_zero h
    exact ⟨0, Nat.le_refl _, by simp⟩
  | succ n ih =>
    intro L h
    by_cases hm : (n + 1) ∈ L
    · obtain ⟨i, hi, hn⟩ := ih (L.erase (n + 1)) (by rw [List.length_erase_of_mem hm]; omega)
      refine ⟨i, by omega, fun hi2 => hn ?_⟩
      exact (List.mem_erase_of_ne (by omega)).2 hi2
    · exact ⟨n + 1, Nat.le_refl _, hm⟩

/-- Of pg.length + 1 runs of n pages, one behind the other, one is free. -/
theorem some_run (pg : List (Int × Nat)) (n : Int) (hn : 1 ≤ n) : ∃ i : Nat, i ≤ pg.length ∧ freeRun pg (n * i) n := by
  obtain ⟨i, hi, hni⟩ := not_all pg.length (pg.map fun p => (p.1 / n).toNat) (by simp)
  refine ⟨i, hi, fun j h1 h2 => blk_none_iff.2 fun p hp e => hni ?_⟩
  refine List.mem_map.2 ⟨p, hp, ?_⟩
  have h3 : j / n = i := by
    rw [show j = (j - n * i) + i * n from by rw [Int.mul_comm]; omega, Int.add_mul_ediv_right _ _ (by omega)]
    rw [Int.ediv_eq_zero_of_lt (by omega) (by omega)]
    omega
  rw [e, h3]
  simp

theorem not_nowhere {pg : List (Int × Nat)} {n : Int} (hn : 1 ≤ n) (hl : n * ((pg.length : Int) + 1) ≤ 1048576) : ¬ Nowhere pg n := fun h => by
  obtain ⟨i, hi, hf⟩ := some_run pg n hn
  have h1 : n * (i : Int) ≤ n * (pg.length : Int) := Int.mul_le_mul_of_nonneg_left (by omega) (by omega)
  have h2 : n * ((pg.length : Int) + 1) = n * pg.length + n := by rw [Int.mul_add, Int.mul_one]
  exact h (n * i) (Int.mul_nonneg (by omega) (by omega)) (by omega) hf

end Sl
end Go.Proofs.YtbbjfebdihepnaaGreatDoor
