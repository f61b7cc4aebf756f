/-
  A range over a method's value ('for p := range h.pages'): the law for the caller, its iterator's contract being told by the list of what comes; at the wide fence, in a round or in none.
-/
import Derived.RangeFuncNested
import Derived.RangeFuncBound
import Derived.RangeFuncCalls
import Derived.RangeFuncLeaves
import Derived.Below
import Derived.BigQuiet
import Derived.Test.YtbbjfebdihepnaaGreatDoorS1
import Derived.Test.YtbbjfebdihepnaaGreatDoorB1
import Derived.Test.YtbbjfebdihepnaaGreatDoorC1
import Derived.Test.YtbbjfebdihepnaaGreatDoorS2
import Derived.Test.YtbbjfebdihepnaaGreatDoorS4
import Derived.Deep.RegionHeld3
import Derived.Deep.DrawnRows
import Derived.Shelf.Abstract
import Derived.Shelf.RegionOpen
import Derived.WalkKit
import Derived.OwnWalkIn
import Derived.TacticsInMore
import Derived.LoopNIn
import Derived.LoopIn
namespace Go.Proofs.YtbbjfebdihepnaaGreatDoor
open Go.RowKit
namespace Hp

/-- Of what was there only blocks of O may have turned. -/
structure Kept (O : Nat → Prop) (w w' : World) : Prop where
  os : w'.os = w.os
  tape : w'.tape = w.tape
  output : w'.output = w.output
  size : w.heap.size ≤ w'.heap.size
  same : ∀ k, k < w.heap.size → ¬ O k → w'.heap[k]? = w.heap[k]?

def No : Nat → Prop := fun _ => False
/-- Nothing that was there has turned. -/
def K (w w' : World) : Prop := Kept No w w'

theorem Kept.refl (O : Nat → Prop) (w : World) : Kept O w w := ⟨rfl, rfl, rfl, Nat.le_refl _, fun _ _ _ => rfl⟩
theorem Kept.trans {O : Nat → Prop} {a b c : World} (h : Kept O a b) (k : Kept O b c) : Kept O a c :=
  ⟨k.os.trans h.os, k.tape.trans h.tape, k.output.trans h.output, Nat.le_trans h.size k.size, fun j hj hn => (k.same j (Nat.lt_of_lt_of_le hj h.size) hn).trans (h.same j hj hn)⟩
theorem Kept.mono {O O' : Nat → Prop} {a b : World} (h : Kept O a b) (i : ∀ k, k < a.heap.size → O k → O' k) : Kept O' a b := ⟨h.os, h.tape, h.output, h.size, fun j hj hn => h.same j hj fun hO => hn (i j hj hO)⟩
theorem K.kept {a b : World} (h : K a b) (O : Nat → Prop) : Kept O a b := Kept.mono h (fun _ _ hk => hk.elim)
theorem K.refl (w : World) : K w w := Kept.refl _ _
theorem K.trans {a b c : World} (h : K a b) (k : K b c) : K a c := Kept.trans h k
theorem K.of_below {a b : World} (h : Below a.heap.size a b) : K a b := ⟨h.os, h.tape, h.output, h.size, fun j hj _ => h.block j hj⟩
theorem K.below {a b : World} (h : K a b) : Below a.heap.size a b := ⟨h.os, h.tape, h.output, h.size, fun j hj => h.same j hj (fun hk => hk)⟩
theorem Kept.alloc {O : Nat → Prop} {a b : World} (h : Kept O a b) (o : Obj) : Kept O a (b.alloc o) :=
  h.trans ⟨rfl, rfl, rfl, by simp, fun k hk _ => Below.heap_alloc b o k hk⟩
theorem Kept.drew {O : Nat → Prop} {a b : World} (h : Kept O a b) : Kept O a b.drew := h.trans ⟨rfl, rfl, rfl, Nat.le_refl _, fun _ _ _ => rfl⟩
theorem Kept.drewN {O : Nat → Prop} {a b : World} (h : Kept O a b) (n : Nat) : Kept O a (b.drewN n) := h.trans ⟨rfl, rfl, rfl, Nat.le_refl _, fun _ _ _ => rfl⟩
theorem K.alloc {a b : World} (h : K a b) (o : Obj) : K a (b.alloc o) := Kept.alloc h o
theorem K.drew {a b : World} (h : K a b) : K a b.drew := Kept.drew h
theorem K.drewN {a b : World} (h : K a b) (n : Nat) : K a (b.drewN n) := Kept.drewN h n
/-- A store into a block that is O's, or that was not there. -/
theorem Kept.setCell {O : Nat → Prop} {a b : World} (h : Kept O a b) {p : Addr} (v : Value) (hp : O p.block ∨ a.heap.size ≤ p.block) : Kept O a (b.setCell p v) :=
  ⟨h.os, h.tape, h.output, Nat.le_trans h.size (KeepsWalks.setCell b p v).size, fun k hk hn => (Below.heap_setCell b p v k (fun e => by subst e; rcases hp with hp | hp <;> first | exact hn hp | omega)).trans (h.same k hk hn)⟩
theorem K.setCell {a b : World} (h : K a b) {p : Addr} (v : Value) (hp : a.heap.size ≤ p.block) : K a (b.setCell p v) := Kept.setCell h v (.inr hp)
theorem Kept.putObj {O : Nat → Prop} {a b : World} (h : Kept O a b) {l : Nat} (o : Obj) (hl : O l ∨ a.heap.size ≤ l) : Kept O a (b.putObj l o) :=
  ⟨h.os, h.tape, h.output, by rw [World.putObj_size]; exact h.size, fun k hk hn => (World.putObj_heap_other (fun e => by subst e; rcases hl with hl | hl <;> first | exact hn hl | omega)).trans (h.same k hk hn)⟩
theorem Kept.block {O : Nat → Prop} {a b : World} (h : Kept O a b) {k : Nat} {o : Obj} (hk : a.heap[k]? = some o) (hn : ¬ O k) : b.heap[k]? = some o := (h.same k (Array.getElem?_eq_some_iff.1 hk).1 hn).trans hk
theorem K.block {a b : World} (h : K a b) {k : Nat} {o : Obj} (hk : a.heap[k]? = some o) : b.heap[k]? = some o := Kept.block h hk (fun x => x)
theorem lt_of_cell {w : World} {p : Addr} {v : Value} (h : w.cell? p = some v) : p.block < w.heap.size := by
  obtain ⟨o, ho, _⟩ := cells_of_cell h
  exact (Array.getElem?_eq_some_iff.1 ho).1
theorem Kept.cell {O : Nat → Prop} {a b : World} (h : Kept O a b) {p : Addr} {v : Value} (hc : a.cell? p = some v) (hn : ¬ O p.block) : b.cell? p = some v :=
  (World.cell?_of_block (h.same _ (lt_of_cell hc) hn)).trans hc
theorem K.cell {a b : World} (h : K a b) {p : Addr} {v : Value} (hc : a.cell? p = some v) : b.cell? p = some v := Kept.cell h hc (fun x => x)
theorem Kept.boxed {O : Nat → Prop} {a b : World} (h : Kept O a b) {B : Nat} {t : TypeId} {v : Value} (hb : Boxed a B t v) (hn : ¬ O B) : Boxed b B t v := h.block hb hn
theorem K.boxed {a b : World} (h : K a b) {B : Nat} {t : TypeId} {v : Value} (hb : Boxed a B t v) : Boxed b B t v := K.block h hb

theorem K.thenKept {w a b : World} (h : K w a) {l : Nat} (k : Kept (fun j => j = l) a b) (hl : w.heap.size ≤ l) : K w b :=
  ⟨k.os.trans h.os, k.tape.trans h.tape, k.output.trans h.output, Nat.le_trans h.size k.size, fun j hj hn => (k.same j (Nat.lt_of_lt_of_le hj h.size) (fun e => by omega)).trans (h.same j hj hn)⟩

theorem Kept.thenKept {O : Nat → Prop} {w a b : World} (h : Kept O w a) {l : Nat} (k : Kept (fun j => j = l) a b) (hl : w.heap.size ≤ l) : Kept O w b :=
  ⟨k.os.trans h.os, k.tape.trans h.tape, k.output.trans h.output, Nat.le_trans h.size k.size, fun j hj hn => (k.same j (Nat.lt_of_lt_of_le hj h.size) (fun e => by omega)).trans (h.same j hj hn)⟩

/-- The wide fence, in a round of the loop r, or in none. -/
abbrev wide (r : Option Nat) : Fence := { Fence.wide with round := r }

/-- Where a caller's own blocks M become M': those, and new ones. -/
def Grows (M M' : Nat → Prop) (w : World) : Prop := ∀ k, M' k → M k ∨ w.heap.size ≤ k

/-- The contract of a method's value that is ranged over: xs comes, one by one, until a round says no more; a round turns blocks of the caller's own alone: O at first, and what rounds have made since. -/
def SeqIn {α : Type} (P : Program) (gf : Nat) (ba : Array Value) (encs : α → Array Value) (xs : List α) (O : Nat → Prop) (w : World) : Prop :=
  ∀ (n l : Nat) (J Jx : List α → (Nat → Prop) → World → Prop) (W : World), K w W → l < W.heap.size → (∀ k, O k → k < W.heap.size) → (∀ s M A B, J s M A → K A B → J s M B) → (∀ s M A B, Jx s M A → K A B → Jx s M B) →
    (∀ pre x M W1, pre ++ [x] <+: xs → J pre M W1 → YieldAt Fence.wide (n - 1) P l (encs x) W1 fun e W' =>
      (e = .returned (.bool true) ∧ ∃ M', J (pre ++ [x]) M' W' ∧ Kept M W1 W' ∧ Grows M M' W1) ∨ (e = .returned (.bool false) ∧ ∃ M', Jx (pre ++ [x]) M' W' ∧ Kept (fun k => M k ∨ k = l) W1 W')) →
    J [] O W →
    CallsIn Fence.wide n P gf (ba ++ #[.func (.yield l) #[] #[]]) W fun e W' => (∃ v, e = .returned v) ∧ ((∃ M, J xs M W') ∨ ∃ pre M, pre <+: xs ∧ Jx pre M W')

/-- How a round's body may be left. -/
def bodyEndM {α : Type} (M : Nat → Prop) (I : List α → (Nat → Prop) → World → Prop) (Ix : Code → List α → World → Prop) (xs : List α) (W : World) : Exit → Act → World → Prop
  | .normal, _, W' => Kept M W W' ∧ ∃ M', I xs M' W' ∧ Grows M M' W
  | .ret, _, W' => Kept M W W' ∧ Ix .ret xs W'
  | .exit id, _, W' => Kept M W W' ∧ Ix (.exit id) xs W'
  | .goto t, _, W' => Kept M W W' ∧ Ix (.goto t) xs W'
  | .panic _, _, _ => False
  | .outgrown, _, _ => False

theorem range_coreM {α : Type} {P : Program} {r : Option Nat} {n : Nat} {g : Operand} {ps : Array Tmp} {assign body : Code} {Q : Exit → Act → World → Prop} {a : Act} {w w' : World} {mark : List Deferred}
    {gf : Nat} {ba : Array Value} (hg : a.eval g = .func (.func gf) ba #[]) (eg : ∀ args w, (callFunc gf args).run P w = .ok (.enter gf args) w)
    (hen : ∀ fn, ∃ df, (Instr.enterLoop fn a.tmps ps assign body r).run P w = .ok (w'.heap.size, mark) (w'.alloc (.loop { state := .ready, pending := none, fn, tmps := a.tmps, params := ps, assign, body, defers := df })))
    {encs : α → Array Value} {xs : List α} {O : Nat → Prop} {w0 : World} (hseq : SeqIn P gf ba encs xs O w0) (hK : K w0 w') (hO : ∀ k, O k → k < w'.heap.size) (hps : ∀ x, (encs x).size = ps.size)
    (I : List α → (Nat → Prop) → World → Prop) (Ix : Code → List α → World → Prop) (Ax : List α → α → (Nat → Prop) → Act → World → Prop)
    (hI : ∀ s M A B, I s M A → ¬ M w'.heap.size → Kept (fun k => k = w'.heap.size) A B → I s M B) (hIx : ∀ c s A B, Ix c s A → Kept (fun k => k = w'.heap.size) A B → Ix c s B) (hAx : ∀ s x M a' A B, Ax s x M a' A → ¬ M w'.heap.size → Kept (fun k => k = w'.heap.size) A B → Ax s x M a' B)
    (h0 : I [] O w')
    (hassign : ∀ pre x M W, pre ++ [x] <+: xs → I pre M W → ¬ M w'.heap.size → w'.heap.size < W.heap.size →
      assign.wpIn (wide (some w'.heap.size)) (n - 1 - 1) P (Exit.then (fun a' W' => Kept M W W' ∧ Ax pre x M a' W') (fun _ _ _ => False)) { tmps := (ps.zip (encs x)).foldl (fun t (p, v) => t.setIfInBounds p v) a.tmps, defers := [] } W)
    (hbody : ∀ pre x M a' W, pre ++ [x] <+: xs → (∃ r, W.heap[w'.heap.size]? = some (.loop r)) → ¬ M w'.heap.size → Ax pre x M a' W → body.wpIn (wide (some w'.heap.size)) (n - 1 - 1) P (bodyEndM M I Ix (pre ++ [x]) W) a' W)
    (hdone : ∀ M W, I xs M W → Q .normal { a with defers := mark ++ a.defers } W)
    (hstop : ∀ c pre W, pre <+: xs → Ix c pre W → c.wpIn (wide r) n P Q { a with defers := mark ++ a.defers } W) :
    (Code.rangeFunc g ps assign body).wpIn (wide r) n P Q a w := by
  refine wpIn_rangeFunc fun fn _ => ?_
  obtain ⟨df, hen⟩ := hen fn
  generalize hl : w'.heap.size = l at *
  let rc : LoopState → Option Code → Loop := fun st pe => { state := st, pending := pe, fn, tmps := a.tmps, params := ps, assign, body, defers := df }
  refine ⟨l, mark, w'.alloc (.loop (rc .ready none)), { target := .fn (.func gf) #[], args := ba ++ #[.func (.yield l) #[] #[]] }, w'.alloc (.loop (rc .ready none)), gf, ba ++ #[.func (.yield l) #[] #[]], w'.alloc (.loop (rc .ready none)), hen, ?_, fun _ _ => trivial, ?_, fun h => (by cases h), ?_⟩
  · simp only [resolve, hg]
    simp [go_sem]
  · simp [invoke, go_sem, eg]
  have hW1 : (w'.alloc (.loop (rc .ready none))).heap[l]? = some (.loop (rc .ready none)) := by rw [← hl]; exact World.alloc_heap_new w' _
  -- a round on a ready record, from whatever world
  have one : ∀ pre x M W, pre ++ [x] <+: xs → I pre M W → ¬ M l → W.heap[l]? = some (.loop (rc .ready none)) → YieldAt Fence.wide (n - 1 - 1) P l (encs x) W fun e W' =>
      (e = .returned (.bool true) ∧ ∃ M', (I (pre ++ [x]) M' W' ∧ ¬ M' l ∧ W'.heap[l]? = some (.loop (rc .ready none))) ∧ Kept M W W' ∧ Grows M M' W) ∨ (e = .returned (.bool false) ∧ ∃ M' : Nat → Prop, (∃ c, Ix c (pre ++ [x]) W' ∧ W'.heap[l]? = some (.loop (rc .done (some c)))) ∧ Kept (fun k => M k ∨ k = l) W W') := by
    intro pre x M W hx hi hM hr
    have hlt := (Array.getElem?_eq_some_iff.1 hr).1
    refine ⟨fn, _, assign, body, run_yield (args := encs x) hr (hps x), roundIn_of_wpIn trivial (wpIn_mono (hassign pre x M W hx hi hM hlt) ?_)⟩
    rintro (_ | _ | _ | _ | _ | _) a' Wa hp
    all_goals first | exact hp.elim | skip
    obtain ⟨hka, hax⟩ := hp
    have hra := hka.block hr hM
    have hlta := (Array.getElem?_eq_some_iff.1 hra).1
    refine ⟨_, run_beginRound hra rfl, wpIn_mono (hbody pre x M a' _ hx ⟨_, World.putObj_heap_same hlta⟩ hM (hAx _ _ _ _ _ _ hax hM ((Kept.refl _ Wa).putObj _ (.inl rfl)))) ?_⟩
    have busy : ∀ W3, Kept M (Wa.putObj l (.loop { rc .ready none with state := .busy })) W3 → W3.heap[l]? = some (.loop { rc .ready none with state := .busy }) := fun W3 h3 => h3.block (World.putObj_heap_same hlta) hM
    have off : ∀ c W3, Kept M (Wa.putObj l (.loop { rc .ready none with state := .busy })) W3 → Ix c (pre ++ [x]) W3 → ∃ v w'', (Instr.endRound l (some c)).run P W3 = .ok v w'' ∧ ((Ending.returned v = .returned (.bool true) ∧ ∃ M', (I (pre ++ [x]) M' w'' ∧ ¬ M' l ∧ w''.heap[l]? = some (.loop (rc .ready none))) ∧ Kept M W w'' ∧ Grows M M' W) ∨ (Ending.returned v = .returned (.bool false) ∧ ∃ M' : Nat → Prop, (∃ c, Ix c (pre ++ [x]) w'' ∧ w''.heap[l]? = some (.loop (rc .done (some c)))) ∧ Kept (fun k => M k ∨ k = l) W w'')) := fun c W3 h3 hx3 => by
      have h4 := busy W3 h3
      exact ⟨_, _, run_endRound (some c) h4, .inr ⟨rfl, No, ⟨c, hIx _ _ _ _ hx3 ((Kept.refl _ W3).putObj _ (.inl rfl)), World.putObj_heap_same (Array.getElem?_eq_some_iff.1 h4).1⟩,
        ((((hka.mono (fun _ _ h => .inl h)).putObj _ (.inl (.inr rfl))).trans (h3.mono (fun _ _ h => .inl h))).putObj _ (.inl (.inr rfl)))⟩⟩
    rintro (_ | _ | _ | _ | _ | _) a3 W3 hp
    all_goals first | exact hp.elim | skip
    · obtain ⟨h3, M', hi3, hgr⟩ := hp
      have h4 := busy W3 h3
      have hlt4 := (Array.getElem?_eq_some_iff.1 h4).1
      have hM' : ¬ M' l := fun h => by
        rcases hgr l h with h5 | h5
        · exact hM h5
        · rw [World.putObj_size] at h5
          omega
      refine ⟨_, _, run_endRound none h4, .inl ⟨rfl, M', ⟨hI _ _ _ _ hi3 hM' ((Kept.refl _ W3).putObj _ (.inl rfl)), hM', World.putObj_heap_same hlt4⟩, ?_, fun k hk => ?_⟩⟩
      · refine ⟨h3.os.trans hka.os, h3.tape.trans hka.tape, h3.output.trans hka.output, ?_, fun k hk hn => ?_⟩
        · rw [World.putObj_size]
          have := h3.size
          rw [World.putObj_size] at this
          exact Nat.le_trans hka.size this
        · by_cases e : k = l
          · subst e
            rw [World.putObj_heap_same hlt4, hr]
            rfl
          · rw [World.putObj_heap_other e, h3.same k (by rw [World.putObj_size]; exact Nat.lt_of_lt_of_le hk hka.size) hn, World.putObj_heap_other e]
            exact hka.same k hk hn
      · rcases hgr k hk with h5 | h5
        · exact .inl h5
        · rw [World.putObj_size] at h5
          exact .inr (Nat.le_trans hka.size h5)
    · exact off _ _ hp.1 hp.2
    · exact off _ _ hp.1 hp.2
    · exact off _ _ hp.1 hp.2
  refine (hseq (n - 1) l (fun pre M W => I pre M W ∧ ¬ M l ∧ W.heap[l]? = some (.loop (rc .ready none))) (fun pre _ W => ∃ c, Ix c pre W ∧ W.heap[l]? = some (.loop (rc .done (some c)))) _ (hK.alloc _) (by rw [← hl]; simp) (fun k hk => by have := hO k hk; simp; omega)
    (fun s M A B h k => ⟨hI s M A B h.1 h.2.1 (K.kept k _), h.2.1, k.block h.2.2⟩) (fun s M A B h k => by obtain ⟨c, h1, h2⟩ := h; exact ⟨c, hIx c s A B h1 (K.kept k _), k.block h2⟩)
    (fun pre x M W hx h => one pre x M W hx h.1 h.2.1 h.2.2) ⟨hI _ _ _ _ h0 (fun h => by have := hO _ h; omega) ((Kept.refl _ w').alloc _), fun h => by have := hO _ h; omega, hW1⟩).mono ?_
  rintro e W2 ⟨⟨v, rfl⟩, (⟨M, hi, hM, hr⟩ | ⟨pre, _, hpre, c, hi, hr⟩)⟩
  · exact ⟨none, _, run_endLoop hr (by simp [rc]), hdone M _ (hI _ _ _ _ hi hM ((Kept.refl _ W2).putObj _ (.inl rfl)))⟩
  · exact ⟨some c, _, run_endLoop hr (by simp [rc]), hstop c pre _ hpre (hIx _ _ _ _ hi ((Kept.refl _ W2).putObj _ (.inl rfl)))⟩

/-- How a round's body may be left, where the caller's own blocks stay the same ones. -/
def bodyEnd {α : Type} (O : Nat → Prop) (I : List α → World → Prop) (Ix : Code → List α → World → Prop) (xs : List α) (W : World) : Exit → Act → World → Prop
  | .normal, _, W' => Kept O W W' ∧ I xs W'
  | .ret, _, W' => Kept O W W' ∧ Ix .ret xs W'
  | .exit id, _, W' => Kept O W W' ∧ Ix (.exit id) xs W'
  | .goto t, _, W' => Kept O W W' ∧ Ix (.goto t) xs W'
  | .panic _, _, _ => False
  | .outgrown, _, _ => False

theorem range_core {α : Type} {P : Program} {r : Option Nat} {n : Nat} {g : Operand} {ps : Array Tmp} {assign body : Code} {Q : Exit → Act → World → Prop} {a : Act} {w w' : World} {mark : List Deferred}
    {gf : Nat} {ba : Array Value} (hg : a.eval g = .func (.func gf) ba #[]) (eg : ∀ args w, (callFunc gf args).run P w = .ok (.enter gf args) w)
    (hen : ∀ fn, ∃ df, (Instr.enterLoop fn a.tmps ps assign body r).run P w = .ok (w'.heap.size, mark) (w'.alloc (.loop { state := .ready, pending := none, fn, tmps := a.tmps, params := ps, assign, body, defers := df })))
    {encs : α → Array Value} {xs : List α} {O : Nat → Prop} {w0 : World} (hseq : SeqIn P gf ba encs xs O w0) (hK : K w0 w') (hO : ∀ k, O k → k < w'.heap.size) (hps : ∀ x, (encs x).size = ps.size)
    (I : List α → World → Prop) (Ix : Code → List α → World → Prop) (Ax : List α → α → Act → World → Prop)
    (hI : ∀ s A B, I s A → Kept (fun k => k = w'.heap.size) A B → I s B) (hIx : ∀ c s A B, Ix c s A → Kept (fun k => k = w'.heap.size) A B → Ix c s B) (hAx : ∀ s x a' A B, Ax s x a' A → Kept (fun k => k = w'.heap.size) A B → Ax s x a' B)
    (h0 : I [] w')
    (hassign : ∀ pre x W, pre ++ [x] <+: xs → I pre W → w'.heap.size < W.heap.size →
      assign.wpIn (wide (some w'.heap.size)) (n - 1 - 1) P (Exit.then (fun a' W' => Kept O W W' ∧ Ax pre x a' W') (fun _ _ _ => False)) { tmps := (ps.zip (encs x)).foldl (fun t (p, v) => t.setIfInBounds p v) a.tmps, defers := [] } W)
    (hbody : ∀ pre x a' W, pre ++ [x] <+: xs → (∃ r, W.heap[w'.heap.size]? = some (.loop r)) → Ax pre x a' W → body.wpIn (wide (some w'.heap.size)) (n - 1 - 1) P (bodyEnd O I Ix (pre ++ [x]) W) a' W)
    (hdone : ∀ W, I xs W → Q .normal { a with defers := mark ++ a.defers } W)
    (hstop : ∀ c pre W, pre <+: xs → Ix c pre W → c.wpIn (wide r) n P Q { a with defers := mark ++ a.defers } W) :
    (Code.rangeFunc g ps assign body).wpIn (wide r) n P Q a w := by
  refine range_coreM hg eg hen hseq hK hO hps (fun s M W => M = O ∧ I s W) Ix (fun s x M a' W => M = O ∧ Ax s x a' W)
    (fun s M A B h _ k => ⟨h.1, hI s A B h.2 k⟩) hIx (fun s x M a' A B h _ k => ⟨h.1, hAx s x a' A B h.2 k⟩) ⟨rfl, h0⟩
    (fun pre x M W hx h _ hl => ?_) (fun pre x M a' W hx hr _ h => ?_) (fun M W h => hdone W h.2) hstop
  · obtain ⟨rfl, h⟩ := h
    refine wpIn_mono (hassign pre x W hx h hl) ?_
    rintro (_ | _ | _ | _ | _ | _) a' Wa hp
    all_goals first | exact hp.elim | skip
    exact ⟨hp.1, rfl, hp.2⟩
  · obtain ⟨rfl, h⟩ := h
    refine wpIn_mono (hbody pre x a' W hx hr h) ?_
    rintro (_ | _ | _ | _ | _ | _) a' Wa hp
    all_goals first | exact hp.elim | skip
    · exact ⟨hp.1, M, ⟨rfl, hp.2⟩, fun k hk => .inl hk⟩
    · exact hp
    · exact hp
    · exact hp

end Hp
end Go.Proofs.YtbbjfebdihepnaaGreatDoor

/-
  What a page's head says, with no program: the pages of an arena that have heads, as numbers and lists.
-/
namespace Go.Proofs.YtbbjfebdihepnaaGreatDoor
namespace Hp

/-- A granted page that has a head, and what that says: kind 0 wrong, 1 of small places, 2 the first one of a large block. -/
structure Pg where
  n : Int
  kind : Int
  cls : Int
  taken : Int
  words : Int
  span : Int
deriving DecidableEq

/-- The head says: a page of small places. -/
def classOk (m h : Int) : Bool := decide (Cl.errC (m / 256) = 0) && !(h == 0) && (m == 1 + 256 * (m / 256)) && (Bt.cutI (Cl.sloI (m / 256)) h == h)
/-- The head says: a large block. -/
def largeOk (m h : Int) : Bool := decide (1 ≤ h ∧ h ≤ 4000) && !Cl.smaI h && (m == 2 + 256 * Cl.pagI h)

/-- What the head of page n says. -/
def look (pg : List (Int × Nat)) (W : Int → Int) (n : Int) : Pg :=
  if classOk (W (64 * n)) (W (64 * n + 1)) = true then ⟨n, 1, W (64 * n) / 256, W (64 * n + 1), 0, 1⟩
  else if (largeOk (W (64 * n)) (W (64 * n + 1)) && Sl.allIn pg n (Cl.pagI (W (64 * n + 1))).toNat) = true then ⟨n, 2, 0, 0, W (64 * n + 1), Cl.pagI (W (64 * n + 1))⟩
  else ⟨n, 0, 0, 0, 0, 1⟩

/-- The pages that have heads, from a page on. -/
def scan (f : Int → Pg) : List Int → Int → List Pg
  | [], _ => []
  | n :: r, b => if n < b then scan f r b else f n :: scan f r (n + (f n).span)

/-- All pages of an arena that have heads. -/
def heads (pg : List (Int × Nat)) (W : Int → Int) : List Pg := scan (look pg W) (pg.map fun p => p.1) 0

theorem look_n (pg : List (Int × Nat)) (W : Int → Int) (n : Int) : (look pg W n).n = n := by
  unfold look
  split
  · rfl
  · split <;> rfl

theorem pag_range {h : Int} (h0 : 1 ≤ h) (h1 : h ≤ 4000) : 1 ≤ Cl.pagI h ∧ Cl.pagI h ≤ 63 := by
  rw [Cl.pagI_in (show Cl.Wd h from ⟨h0, h1⟩)]
  omega

theorem largeOk_inv {m h : Int} (h0 : largeOk m h = true) : 1 ≤ h ∧ h ≤ 4000 ∧ Cl.smaI h = false ∧ m = 2 + 256 * Cl.pagI h := by
  simp [largeOk] at h0
  exact ⟨h0.1.1.1, h0.1.1.2, h0.1.2, h0.2⟩
theorem classOk_inv {m h : Int} (h0 : classOk m h = true) : Cl.errC (m / 256) = 0 ∧ h ≠ 0 ∧ m = 1 + 256 * (m / 256) ∧ Bt.cutI (Cl.sloI (m / 256)) h = h := by
  simp [classOk] at h0
  exact ⟨h0.1.1.1, h0.1.1.2, h0.1.2, h0.2⟩

theorem look_span (pg : List (Int × Nat)) (W : Int → Int) (n : Int) : 1 ≤ (look pg W n).span ∧ (look pg W n).span ≤ 63 := by
  unfold look
  split
  · exact ⟨Int.le_refl _, by show (1 : Int) ≤ 63; omega⟩
  · split
    · rename_i hl
      simp only [Bool.and_eq_true] at hl
      obtain ⟨h0, h1, _⟩ := largeOk_inv hl.1
      exact pag_range h0 h1
    · exact ⟨Int.le_refl _, by show (1 : Int) ≤ 63; omega⟩

theorem scan_skip (f : Int → Pg) (n : Int) (r : List Int) (b : Int) (h : n < b) : scan f (n :: r) b = scan f r b := by simp [scan, h]
theorem scan_take (f : Int → Pg) (n : Int) (r : List Int) (b : Int) (h : ¬ n < b) : scan f (n :: r) b = f n :: scan f r (n + (f n).span) := by simp [scan, h]

end Hp
end Go.Proofs.YtbbjfebdihepnaaGreatDoor

/-
  A heap in memory: its arena, its one field, math/bits' table; and what stays.
-/
namespace Go.Proofs.YtbbjfebdihepnaaGreatDoor
open Go.RowKit
namespace Hp

theorem K.cl {w w' : World} (h : Cl.K w w') : K w w' := K.of_below h.bel
theorem K.bt {w w' : World} (h : Bt.K w w') : K w w' := K.of_below h.bel
theorem K.toBt {w w' : World} (h : K w w') : Bt.K w w' := ⟨h.below⟩

abbrev hp (bh : Nat) : Value := .pointer (some ⟨bh, 0, none⟩)

/-- A heap at block bh on the arena at bs. -/
structure Hw (w : World) (bh bs bm : Nat) (q : Int) (pg : List (Int × Nat)) (W : Int → Int) : Prop where
  ar : Sl.Arena w bs bm q pg W
  hd : w.heap[bh]? = some (.cells #[.pointer (some ⟨bs, 0, none⟩)] 163)
  tab : Bt.Tab w
  nf0 : ¬ Sl.foot bs bm pg 1
  nfh : ¬ Sl.foot bs bm pg bh

section
variable {w w' : World} {bh bs bm : Nat} {q : Int} {pg pg' : List (Int × Nat)} {W W' : Int → Int}

theorem Hw.c0 (h : Hw w bh bs bm q pg W) : w.cell? ⟨bh, 0, none⟩ = some (.pointer (some ⟨bs, 0, none⟩)) := by simp [World.cell?, h.hd]

theorem Hw.keep (h : Hw w bh bs bm q pg W) (k : K w w') : Hw w' bh bs bm q pg W :=
  ⟨h.ar.stays fun j hj => k.same j (h.ar.foot_lt hj) (fun x => x), k.block h.hd, h.tab.keep k.toBt, h.nf0, h.nfh⟩

theorem Hw.kept (h : Hw w bh bs bm q pg W) {O : Nat → Prop} (k : Kept O w w') (hO : ∀ k, O k → ¬ Sl.foot bs bm pg k ∧ k ≠ bh ∧ k ≠ 1) : Hw w' bh bs bm q pg W :=
  ⟨h.ar.stays fun j hj => k.same j (h.ar.foot_lt hj) (fun x => (hO j x).1 hj), k.block h.hd (fun x => (hO _ x).2.1 rfl), fun j hj => k.cell (h.tab j hj) (fun x => (hO _ x).2.2 rfl), h.nf0, h.nfh⟩

theorem lt0 (T : Bt.Tab w) : 1 < w.heap.size := lt_of_cell (T 0 (by decide))

/-- Behind a call on the arena. -/
theorem Hw.step (h : Hw w bh bs bm q pg W) (ha : Sl.Arena w' bs bm q pg' W') (s : Sl.Step bs bm pg pg' w w') : Hw w' bh bs bm q pg' W' := by
  have hb : bh < w.heap.size := (Array.getElem?_eq_some_iff.1 h.hd).1
  have h0 := lt0 h.tab
  refine ⟨ha, (s.kept bh hb h.nfh).trans h.hd, fun j hj => ?_, fun hf => ?_, fun hf => ?_⟩
  · rw [World.cell?_of_block (a := ⟨1, j, none⟩) (s.kept 1 h0 h.nf0)]
    exact h.tab j hj
  · rcases s.inn 1 hf with h2 | h2
    · exact h.nf0 h2
    · omega
  · rcases s.inn bh hf with h2 | h2
    · exact h.nfh h2
    · omega

theorem K.step (bs bm : Nat) (pg : List (Int × Nat)) (k : K w w') : Sl.Step bs bm pg pg w w' :=
  ⟨k.os, k.tape, k.output, k.size, fun j hj _ => k.same j hj (fun x => x), fun _ hj => Or.inl hj⟩
end

theorem made_yes (b bs : Nat) (w : World) (c0 : w.cell? ⟨b, 0, none⟩ = some (.pointer (some ⟨bs, 0, none⟩))) : Calls Tryz.prog 63 #[hp b] w fun e w' => e = .returned (.bool true) ∧ w = w' := by
  go_enter Tryz.func63, Tryz.ntmps63
  go_wp2
  go_ret
  exact ⟨rfl, rfl⟩

/-- A head's value. -/
abbrev hdV (m h : Int) : Value := .agg #[.int .u64 m, .int .u64 h]

theorem wrap_u64 {x : Int} (h0 : 0 ≤ x) (h1 : x ≤ 18446744073709551615) : IntKind.u64.wrap x = x := by simp [IntKind.wrap, IntKind.signed, IntKind.bits]; omega

theorem smallHead_any (c t : Int) (h0 : 0 ≤ c) (h1 : c ≤ 1000) (w : World) : Calls Tryz.prog 131 #[.int .i64 c, .int .u64 t] w fun e w' => e = .returned (hdV (1 + 256 * c) t) ∧ K w w' := by
  have e1 : IntKind.u64.wrap c = c := wrap_u64 h0 (by omega)
  have e2 : IntKind.u64.wrap (256 * c) = 256 * c := wrap_u64 (by omega) (by omega)
  have e3 : IntKind.u64.wrap (1 + 256 * c) = 1 + 256 * c := wrap_u64 (by omega) (by omega)
  go_enter Tryz.func131, Tryz.ntmps131
  go_wp2
  exact bodyPost_ret (v := hdV (1 + 256 * c) t) (by simp [results, Tryz.results131, go_sem]) rfl ⟨rfl, (K.refl w).alloc _⟩

theorem largeHead_any (n p : Int) (n0 : 0 ≤ n) (n1 : n ≤ 100000) (h0 : 0 ≤ p) (h1 : p ≤ 1000) (w : World) : Calls Tryz.prog 157 #[.int .i64 n, .int .i64 p] w fun e w' => e = .returned (hdV (2 + 256 * p) n) ∧ K w w' := by
  have e0 : IntKind.u64.wrap n = n := wrap_u64 n0 (by omega)
  have e1 : IntKind.u64.wrap p = p := wrap_u64 h0 (by omega)
  have e2 : IntKind.u64.wrap (256 * p) = 256 * p := wrap_u64 (by omega) (by omega)
  have e3 : IntKind.u64.wrap (2 + 256 * p) = 2 + 256 * p := wrap_u64 (by omega) (by omega)
  go_enter Tryz.func157, Tryz.ntmps157
  go_wp2
  exact bodyPost_ret (v := hdV (2 + 256 * p) n) (by simp [results, Tryz.results157, go_sem]) rfl ⟨rfl, (K.refl w).alloc _⟩

section
variable {w : World} {bh bs bm : Nat} {q : Int} {pg : List (Int × Nat)} {W : Int → Int}

/-- Of a granted page a word is read. -/
theorem readE_in {k : Int} (h0 : 0 ≤ k) (h1 : k ≤ 1048575) (hb : (Sl.blk pg k).isSome = true) (i : Int) (i0 : 0 ≤ i) (i1 : i < 64) : Sl.readE pg (64 * k + i) = 0 := by
  have e : (64 * k + i) / 64 = k := by omega
  have hs : Sl.isSpanB (64 * k + i) 1 = true := by simp [Sl.isSpanB]; omega
  unfold Sl.readE
  rw [if_pos hs, e, if_pos hb]
theorem readV_in {k : Int} (h0 : 0 ≤ k) (h1 : k ≤ 1048575) (hb : (Sl.blk pg k).isSome = true) (i : Int) (i0 : 0 ≤ i) (i1 : i < 64) : Sl.readV pg W (64 * k + i) = W (64 * k + i) := by
  unfold Sl.readV
  rw [readE_in h0 h1 hb i i0 i1]
  rfl

theorem headOf_any (h : Hw w bh bs bm q pg W) (k : Int) (h0 : 0 ≤ k) (h1 : k ≤ 1048575) (hb : (Sl.blk pg k).isSome = true) :
    Calls Tryz.prog 129 #[hp bh, .int .i64 k] w fun e w' => e = .returned (hdV (W (64 * k)) (W (64 * k + 1))) ∧ K w w' := by
  have c0 := h.c0
  have k1 : K w (w.alloc (.cells #[.int .u64 0, .int .u64 0] 201)) := (K.refl w).alloc _
  have r1 := Sl.read_any (h.keep k1).ar (64 * k + 0)
  have r2 := Sl.read_any (h.keep k1).ar (64 * k + 1)
  rw [readV_in h0 h1 hb 0 (by omega) (by omega), readE_in h0 h1 hb 0 (by omega) (by omega)] at r1
  rw [readV_in h0 h1 hb 1 (by omega) (by omega), readE_in h0 h1 hb 1 (by omega) (by omega)] at r2
  rw [show 64 * k + 0 = k * 64 from by omega] at r1
  rw [show (64 * k + 1 : Int) = k * 64 + 1 from by omega] at r2 ⊢
  rw [show (64 * k : Int) = k * 64 from by omega]
  have hlt := lt_of_cell c0
  go_enter Tryz.func129, Tryz.ntmps129
  go_wp2_with fail
  refine r1.mono ?_
  rintro e w' ⟨rfl, rfl⟩
  go_wp2_with fail
  refine r2.mono ?_
  rintro e w' ⟨rfl, rfl⟩
  go_wp2
  exact bodyPost_ret (v := hdV (W (k * 64)) (W (k * 64 + 1))) (by simp [results, Tryz.results129, go_sem]) rfl ⟨rfl, (K.refl w).alloc _⟩
end

end Hp
end Go.Proofs.YtbbjfebdihepnaaGreatDoor

/-
  Walks of package heap's small functions: of a page, a block, a head.
-/
namespace Go.Proofs.YtbbjfebdihepnaaGreatDoor
open Go.RowKit
attribute [local go_sem ↓] Go.wp_at_zero Go.wp_at_succ
namespace Hp

/-- A page's value. -/
abbrev pgV (p : Pg) : Value := .agg #[.int .i64 p.n, .int .i64 p.kind, .int .i64 p.cls, .int .u64 p.taken, .int .i64 p.words, .int .i64 p.span]
/-- A block's value: its page and its slot. -/
abbrev bkV (p : Pg) (s : Int) : Value := .agg #[.int .i64 p.n, .int .i64 p.kind, .int .i64 p.cls, .int .u64 p.taken, .int .i64 p.words, .int .i64 p.span, .int .i64 s]

section
variable {w : World} {bh bs bm : Nat} {q : Int} {pg : List (Int × Nat)} {W : Int → Int}

theorem haveAll_any (h : Hw w bh bs bm q pg W) (p : Int) (n : Nat) (hp0 : 0 ≤ p) (hp1 : p ≤ 1048576) (hn : n ≤ 1048576) :
    Calls Tryz.prog 136 #[hp bh, .int .i64 p, .int .i64 n] w fun e w' => e = .returned (.bool (Sl.allIn pg p n)) ∧ w = w' := by
  have c0 := h.c0
  go_enter Tryz.func136, Tryz.ntmps136
  go_wp2
  go_loop [7, 9] (fun _ t => ∃ k : Nat, k ≤ n ∧ t = .int .i64 k ∧ Sl.allIn pg p k = true) (fun _ t => n - (intOf t).toNat)
  case atStart => exact ⟨0, Nat.zero_le _, rfl, rfl⟩
  case round =>
    obtain ⟨k, hk, rfl, hall⟩ := hrel
    by_cases hlt : k < n
    · have hi := Sl.is_any h.ar (p + k) (Sl.wf64 (by omega))
      cases hb : (Sl.blk pg (p + k)).isSome with
      | true =>
        have hs := Sl.allIn_succ hall hb
        rw [hb] at hi
        go_wp2_with (go_at_call 145; refine hi.mono ?_; rintro e w' ⟨rfl, rfl⟩)
        go_round
        case rel => exact ⟨k + 1, by omega, by go_num, hs⟩
        case measure => simp [intOf]; omega
      | false =>
        have hs := Sl.allIn_not hlt hb
        rw [hb] at hi
        go_wp2_with (go_at_call 145; refine hi.mono ?_; rintro e w' ⟨rfl, rfl⟩)
        go_ret
        exact ⟨by rw [hs]; rfl, rfl⟩
    · obtain rfl : k = n := by omega
      go_wp2
      go_ret
      exact ⟨rfl, rfl⟩
end

theorem pageSlots_any (p : Pg) (w : World) : Calls Tryz.prog 96 #[pgV p] w fun e w' => e = .returned (.int .i64 (Cl.sloI p.cls)) ∧ K w w' := by
  have cs := fun w => Cl.slots_any p.cls w
  go_enter Tryz.func96, Tryz.ntmps96
  go_wp2_with (go_at_call 137; refine (cs _).mono ?_; rintro e w' ⟨rfl, k2⟩)
  go_ret
  exact ⟨rfl, ((K.refl w).alloc _).trans (K.cl k2)⟩

theorem pageIsOf_any (p : Pg) (c : Int) (w : World) : Calls Tryz.prog 171 #[pgV p, .int .i64 c] w fun e w' => e = .returned (.bool (p.kind == 1 && p.cls == c)) ∧ K w w' := by
  by_cases h1 : p.kind = 1
  · go_enter Tryz.func171, Tryz.ntmps171
    go_wp2
    go_ret
    exact ⟨by simp [h1], (K.refl w).alloc _⟩
  · have h2 : (p.kind == 1) = false := by simpa using h1
    go_enter Tryz.func171, Tryz.ntmps171
    go_wp2
    go_ret
    exact ⟨by simp [h1], (K.refl w).alloc _⟩

theorem cells7 {w : World} {b : Nat} {v0 v1 v2 v3 v4 v5 v6 : Value} {t : TypeId} {f : Nat × Nat} (h : w.heap[b]? = some (.cells #[v0, v1, v2, v3, v4, v5, v6] t f)) :
    w.cell? ⟨b, 0, none⟩ = some v0 ∧ w.cell? ⟨b, 1, none⟩ = some v1 ∧ w.cell? ⟨b, 2, none⟩ = some v2 ∧ w.cell? ⟨b, 3, none⟩ = some v3 ∧ w.cell? ⟨b, 4, none⟩ = some v4 ∧ w.cell? ⟨b, 5, none⟩ = some v5 ∧ w.cell? ⟨b, 6, none⟩ = some v6 := by
  simp [World.cell?, h]
/-- At which of its page's words a block begins. -/
def atI (p : Pg) (s : Int) : Int := if p.kind = 2 then 2 else Cl.plaI p.cls s
def addrI (p : Pg) (s : Int) : Int := p.n * 64 + atI p s
def roomI (p : Pg) : Int := if p.kind = 2 then p.words else Cl.sizI p.cls

theorem at_any (p : Pg) (s : Int) (w : World) : Calls Tryz.prog 98 #[bkV p s] w fun e w' => e = .returned (.int .i64 (atI p s)) ∧ K w w' := by
  have cs := fun w => Cl.place_any p.cls s w
  unfold atI
  by_cases h1 : p.kind = 2
  · go_enter Tryz.func98, Tryz.ntmps98
    go_wp2
    go_ret
    exact ⟨by simp, (K.refl w).alloc _⟩
  · have h2 : (p.kind == 2) = false := by simpa using h1
    rw [if_neg h1]
    go_enter Tryz.func98, Tryz.ntmps98
    go_wp2_with (go_at_call 140; refine (cs _).mono ?_; rintro e w' ⟨rfl, k2⟩)
    go_ret
    exact ⟨rfl, ((K.refl w).alloc _).trans (K.cl k2)⟩

theorem room_any (p : Pg) (s : Int) (w : World) : Calls Tryz.prog 147 #[bkV p s] w fun e w' => e = .returned (.int .i64 (roomI p)) ∧ K w w' := by
  have cs := fun w => Cl.size_any p.cls w
  unfold roomI
  by_cases h1 : p.kind = 2
  · go_enter Tryz.func147, Tryz.ntmps147
    go_wp2
    go_ret
    exact ⟨by simp, (K.refl w).alloc _⟩
  · have h2 : (p.kind == 2) = false := by simpa using h1
    rw [if_neg h1]
    go_enter Tryz.func147, Tryz.ntmps147
    go_wp2_with (go_at_call 159; refine (cs _).mono ?_; rintro e w' ⟨rfl, k2⟩)
    go_ret
    exact ⟨rfl, ((K.refl w).alloc _).trans (K.cl k2)⟩

theorem pla_range (c s : Int) : 0 ≤ Cl.plaI c s ∧ Cl.plaI c s ≤ 64 := by
  by_cases h : Cl.Sl c s
  · have he : Cl.errC c = 0 := by
      rcases Cl.siz_cases c with ⟨_, _, a, _⟩ | ⟨_, _, a, _⟩ | ⟨_, _, a, _⟩ | ⟨_, _, a, _⟩ | ⟨_, _, a, _⟩ | ⟨_, _, a, _⟩ | ⟨_, _, a, _⟩ | ⟨_, _, a, _⟩ | ⟨_, _, _, a⟩
      case inr.inr.inr.inr.inr.inr.inr.inr =>
        have := h.1
        have := h.2
        omega
      all_goals exact a
    have := Cl.slot_fits he h
    have := (Cl.siz_in he).1
    rw [Cl.plaI_in h]
    omega
  · rw [Cl.plaI_out h]
    omega
theorem at_range (p : Pg) (s : Int) : 0 ≤ atI p s ∧ atI p s ≤ 64 := by
  unfold atI
  split
  · omega
  · exact pla_range _ _

theorem wrap_i64 {x : Int} (h0 : -9223372036854775808 ≤ x) (h1 : x ≤ 9223372036854775807) : IntKind.i64.wrap x = x := by simp [IntKind.wrap, IntKind.signed, IntKind.bits]; omega

theorem addr_any (p : Pg) (s : Int) (h0 : 0 ≤ p.n) (h1 : p.n ≤ 1048575) (w : World) : Calls Tryz.prog 66 #[bkV p s] w fun e w' => e = .returned (.int .i64 (addrI p s)) ∧ K w w' := by
  have ca := fun w => at_any p s w
  obtain ⟨a0, a1⟩ := at_range p s
  unfold addrI
  generalize atI p s = x at *
  have e1 : IntKind.i64.wrap (p.n * 64) = p.n * 64 := wrap_i64 (by omega) (by omega)
  have e2 : IntKind.i64.wrap (p.n * 64 + x) = p.n * 64 + x := wrap_i64 (by omega) (by omega)
  go_enter Tryz.func66, Tryz.ntmps66
  go_wp2
  obtain ⟨w1, hw1⟩ : ∃ w1, w1 = w.alloc (.cells #[.int .i64 p.n, .int .i64 p.kind, .int .i64 p.cls, .int .u64 p.taken, .int .i64 p.words, .int .i64 p.span, .int .i64 s] 128) := ⟨_, rfl⟩
  have k1 : K w w1 := by rw [hw1]; exact (K.refl w).alloc _
  have hb : w1.heap[w.heap.size]? = some (.cells #[.int .i64 p.n, .int .i64 p.kind, .int .i64 p.cls, .int .u64 p.taken, .int .i64 p.words, .int .i64 p.span, .int .i64 s] 128) := by rw [hw1]; exact World.alloc_heap_new _ _
  have cs := cells7 hb
  obtain ⟨c0, c1, c2, c3, c4, c5, c6⟩ := cs
  rw [← hw1]
  clear hw1 hb
  generalize w.heap.size = b at *
  go_region_held3 (fun w' => w'.cell? ⟨b, 0, none⟩ = some (.int .i64 p.n) ∧ w'.cell? ⟨b, 1, none⟩ = some (.int .i64 p.kind) ∧ w'.cell? ⟨b, 2, none⟩ = some (.int .i64 p.cls) ∧ w'.cell? ⟨b, 3, none⟩ = some (.int .u64 p.taken) ∧ w'.cell? ⟨b, 4, none⟩ = some (.int .i64 p.words) ∧ w'.cell? ⟨b, 5, none⟩ = some (.int .i64 p.span) ∧ w'.cell? ⟨b, 6, none⟩ = some (.int .i64 s) ∧ K w w')
    (first | exact ⟨c0, c1, c2, c3, c4, c5, c6, k1.drew⟩ | exact ⟨k2.cell c0, k2.cell c1, k2.cell c2, k2.cell c3, k2.cell c4, k2.cell c5, k2.cell c6, k1.drew.trans k2⟩) ((go_at_call 98; refine (ca _).mono ?_; rintro e w' ⟨rfl, k2⟩))
  go_wp2
  go_ret
  exact ⟨rfl, k1.drew.trans k2⟩

theorem and_full {h n : Int} (hU : Bt.U h) : bits BinOp.and IntKind.u64 h (Bt.fulI n) = Bt.cutI n h := by
  obtain ⟨x, rfl⟩ := Int.eq_ofNat_of_zero_le hU.1
  have h1 := hU.2
  have h2 : 2 ^ Bt.mN n ≤ 2 ^ 64 := Nat.pow_le_pow_right (by decide) (Bt.mN_le n)
  have h3 : 0 < 2 ^ Bt.mN n := Nat.two_pow_pos _
  unfold Bt.fulI Bt.cutI
  rw [bits_and_u64_nat x _ (by omega) (by rw [Bt.two64]; omega), Int.toNat_natCast, Nat.and_two_pow_sub_one_eq_mod]

theorem cells2 {w : World} {b : Nat} {v0 v1 : Value} {t : TypeId} {f : Nat × Nat} (h : w.heap[b]? = some (.cells #[v0, v1] t f)) : w.cell? ⟨b, 0, none⟩ = some v0 ∧ w.cell? ⟨b, 1, none⟩ = some v1 := by
  simp [World.cell?, h]

theorem eql_head (w : World) (a b c d : Int) : (binOp .eql 201 (.agg #[.int .u64 a, .int .u64 b]) (.agg #[.int .u64 c, .int .u64 d])).run Tryz.prog w = .ok (.bool (a == c && b == d)) w := by
  rw [run_eql_struct, run_equalIn_agg w 9999 201 _ _ (by kernel_rfl) (by kernel_rfl)]
  have u := Tryz.underlying27
  simp only [Program.fieldsOf, Tryz.underlying201, Op.eqFields]
  by_cases h1 : a = c <;> by_cases h2 : b = d <;> simp [go_sem, u, h1, h2]

set_option maxRecDepth 100000 in
theorem headClass_any (m h : Int) (hm : Bt.U m) (hh : Bt.U h) (w : World) : Calls Tryz.prog 134 #[hdV m h] w fun e w' => ∃ c, e = .returned (.tuple #[.int .i64 c, .bool (classOk m h)]) ∧ (classOk m h = true → c = m / 256) ∧ K w w' := by
  have m0 := hm.1
  have m1 := hm.2
  have d0 : 0 ≤ m / 256 := by omega
  have d1 : m / 256 ≤ 72057594037927936 := by omega
  have cs := fun w => Cl.slots_any (m / 256) w
  obtain ⟨w1, hw1⟩ : ∃ w1, w1 = w.alloc (.cells #[.int .u64 m, .int .u64 h] 201) := ⟨_, rfl⟩
  have k1 : K w w1 := by rw [hw1]; exact (K.refl w).alloc _
  have hb : w1.heap[w.heap.size]? = some (.cells #[.int .u64 m, .int .u64 h] 201) := by rw [hw1]; exact World.alloc_heap_new _ _
  obtain ⟨f0, f1⟩ := cells2 hb
  by_cases he : Cl.errC (m / 256) = 0
  · have hC := (Cl.siz_in he).2.2.2
    have c0 := hC.1
    have c1 := hC.2
    rw [he] at cs
    by_cases hz : h = 0
    · subst hz
      have hk : classOk m 0 = false := by simp [classOk]
      rw [hk]
      generalize Cl.sloI (m / 256) = n at cs
      clear he hC
      have cw := cs w1
      go_enter Tryz.func134, Tryz.ntmps134
      go_wp2_with fail
      rw [← hw1]
      refine cw.mono ?_
      rintro e w' ⟨rfl, k2⟩
      have g1 := (K.cl k2).cell f1
      go_wp2
      go_ret2
      exact ⟨0, rfl, fun h => (by cases h), k1.trans (K.cl k2)⟩
    · have key := and_full (n := Cl.sloI (m / 256)) hh
      have hk : classOk m h = (m == 1 + 256 * (m / 256) && h == Bt.cutI (Cl.sloI (m / 256)) h) := by
        have e : (h == 0) = false := by simpa using hz
        unfold classOk
        rw [he, e]
        rw [show (Bt.cutI (Cl.sloI (m / 256)) h == h) = (h == Bt.cutI (Cl.sloI (m / 256)) h) from Bool.beq_comm]
        simp
      rw [hk]
      clear hk
      have hz' : (h == 0) = false := by simpa using hz
      generalize Cl.sloI (m / 256) = n at *
      generalize Bt.cutI n h = t at *
      clear he hC hz
      have cw := cs w1
      have cf := fun w => Bt.full_any n w
      have qh := eql_head
      have ch := fun w => smallHead_any (m / 256) t c0 (by omega) w
      generalize Bt.fulI n = u at *
      go_enter Tryz.func134, Tryz.ntmps134
      go_wp2_with fail
      rw [← hw1]
      refine cw.mono ?_
      rintro e w2 ⟨rfl, k2⟩
      have k2 := K.cl k2
      have g0 := k2.cell f0
      have g1 := k2.cell f1
      have k3 := k1.trans k2
      clear hw1 hb
      generalize w.heap.size = b at *
      go_wp2
      go_region_held3 (fun w' => w'.cell? ⟨b, 0, none⟩ = some (.int .u64 m) ∧ w'.cell? ⟨b, 1, none⟩ = some (.int .u64 h) ∧ K w w')
        (first | exact ⟨g0, g1, k3.drew⟩ | exact ⟨k5.cell (k4.cell g0), k5.cell (k4.cell g1), (k3.drew.trans k4).trans k5⟩ | exact ⟨k4.cell g0, k4.cell g1, k3.drew.trans k4⟩)
        (first | (go_at_call 158; refine (cf _).mono ?_; rintro e w' ⟨rfl, k4⟩; have k4 := K.bt k4) | (go_at_call 131; (try rw [key]); refine (ch _).mono ?_; rintro e w' ⟨rfl, k5⟩))
      go_wp2
      go_ret2
      exact ⟨m / 256, rfl, fun _ => rfl, (k3.drew.trans k4).trans k5⟩
  · have hk : classOk m h = false := by simp [classOk, he]
    have h2 := (Cl.siz_out he).2.2.1
    rw [h2] at cs
    rw [hk]
    generalize Cl.sloI (m / 256) = n at cs
    clear he h2
    have cw := cs w1
    go_enter Tryz.func134, Tryz.ntmps134
    go_wp2_with fail
    rw [← hw1]
    refine cw.mono ?_
    rintro e w' ⟨rfl, k2⟩
    have g1 := (K.cl k2).cell f1
    go_wp2
    go_ret2
    exact ⟨0, rfl, fun h => (by cases h), k1.trans (K.cl k2)⟩

theorem wrap_h {h : Int} (hh : Bt.U h) : (IntKind.i64.wrap h = h ∧ h ≤ 9223372036854775807) ∨ (IntKind.i64.wrap h < 0 ∧ 9223372036854775807 < h) := by
  have h0 := hh.1
  have h1 := hh.2
  by_cases h2 : h ≤ 9223372036854775807
  · exact .inl ⟨wrap_i64 (by omega) h2, h2⟩
  · refine .inr ⟨?_, by omega⟩
    simp [IntKind.wrap, IntKind.signed, IntKind.bits]
    omega

set_option maxRecDepth 100000 in
theorem headLarge_any (m h : Int) (hh : Bt.U h) (w : World) : Calls Tryz.prog 135 #[hdV m h] w fun e w' => ∃ a p, e = .returned (.tuple #[.int .i64 a, .int .i64 p, .bool (largeOk m h)]) ∧ (largeOk m h = true → a = h ∧ p = Cl.pagI h) ∧ K w w' := by
  have h0 := hh.1
  have h1 := hh.2
  obtain ⟨w1, hw1⟩ : ∃ w1, w1 = w.alloc (.cells #[.int .u64 m, .int .u64 h] 201) := ⟨_, rfl⟩
  have k1 : K w w1 := by rw [hw1]; exact (K.refl w).alloc _
  have hb : w1.heap[w.heap.size]? = some (.cells #[.int .u64 m, .int .u64 h] 201) := by rw [hw1]; exact World.alloc_heap_new _ _
  obtain ⟨f0, f1⟩ := cells2 hb
  by_cases hx : Cl.Wd (IntKind.i64.wrap h) ∧ Cl.smaI (IntKind.i64.wrap h) = false
  · have ew : IntKind.i64.wrap h = h := by
      rcases wrap_h hh with h2 | h2
      · exact h2.1
      · have := hx.1.1
        omega
    rw [ew] at hx
    obtain ⟨hw, hs⟩ := hx
    have co := Cl.of_any h w1
    rw [Cl.errW_in hw, hs] at co
    have cp := fun w => Cl.pages_any h w
    rw [Cl.errW_in hw] at cp
    have hk : largeOk m h = (m == 2 + 256 * Cl.pagI h) := by
      unfold largeOk
      rw [hs, decide_eq_true (show 1 ≤ h ∧ h ≤ 4000 from hw)]
      simp
    rw [hk]
    have pr := pag_range hw.1 hw.2
    have pr0 := pr.1
    have pr1 := pr.2
    have n1 := hw.2
    generalize Cl.clsI h = c at co
    generalize Cl.pagI h = p at *
    have ch := fun w => largeHead_any h p h0 (by omega) (by omega) (by omega) w
    have qh := eql_head
    clear hk hw hs pr
    go_enter Tryz.func135, Tryz.ntmps135
    go_wp2_with fail
    rw [← hw1]
    refine co.mono ?_
    rintro e w2 ⟨rfl, k2⟩
    have k2 := K.cl k2
    go_wp2_with fail
    refine (cp _).mono ?_
    rintro e w3 ⟨rfl, k3⟩
    have k3 := K.cl k3
    have g0 := k3.cell (k2.cell f0)
    have g1 := k3.cell (k2.cell f1)
    have k3 := (k1.trans k2).trans k3
    clear hw1 hb
    generalize w.heap.size = b at *
    go_wp2
    go_region_held3 (fun w' => w'.cell? ⟨b, 0, none⟩ = some (.int .u64 m) ∧ w'.cell? ⟨b, 1, none⟩ = some (.int .u64 h) ∧ K w w')
      (first | exact ⟨g0, g1, k3.drew⟩ | exact ⟨k4.cell g0, k4.cell g1, k3.drew.trans k4⟩)
      (first | (go_at_call 157; refine (ch _).mono ?_; rintro e w' ⟨rfl, k4⟩))
    go_wp2
    go_ret3
    exact ⟨h, p, by simp, fun _ => ⟨rfl, rfl⟩, k3.drew.trans k4⟩
  · have hk : largeOk m h = false := by
      cases hl : largeOk m h with
      | false => rfl
      | true =>
        obtain ⟨a, b, c, _⟩ := largeOk_inv hl
        have ew : IntKind.i64.wrap h = h := wrap_i64 (by omega) (by omega)
        rw [ew] at hx
        exact absurd ⟨⟨a, b⟩, c⟩ hx
    rw [hk]
    have co := Cl.of_any (IntKind.i64.wrap h) w1
    have hc : (Cl.errW (IntKind.i64.wrap h) = 2) ∨ (Cl.errW (IntKind.i64.wrap h) = 0 ∧ Cl.smaI (IntKind.i64.wrap h) = true) := by
      by_cases hw : Cl.Wd (IntKind.i64.wrap h)
      · refine .inr ⟨Cl.errW_in hw, ?_⟩
        cases hs : Cl.smaI (IntKind.i64.wrap h) with
        | true => rfl
        | false => exact absurd ⟨hw, hs⟩ hx
      · exact .inl (Cl.errW_out hw)
    generalize Cl.clsI (IntKind.i64.wrap h) = c at co
    generalize Cl.smaI (IntKind.i64.wrap h) = sm at co hc
    generalize Cl.errW (IntKind.i64.wrap h) = er at co hc
    clear hx hk
    obtain ⟨x, ex⟩ : ∃ x, IntKind.i64.wrap h = x := ⟨_, rfl⟩
    have ex2 : wrap64 h = x := (IntWalk.i64_left h).symm.trans ex
    rw [ex] at co
    rcases hc with rfl | ⟨rfl, rfl⟩
    all_goals
      go_enter Tryz.func135, Tryz.ntmps135
      go_wp2_with fail
      rw [← hw1]
      refine co.mono ?_
      rintro e w2 ⟨rfl, k2⟩
      go_wp2
      go_ret3
      exact ⟨0, 0, rfl, fun h => (by cases h), k1.trans (K.cl k2)⟩

end Hp
end Go.Proofs.YtbbjfebdihepnaaGreatDoor

/-
  Walks of package heap's look and pages: what the heads say, one page behind the other.
-/
namespace Go.Proofs.YtbbjfebdihepnaaGreatDoor
open Go.RowKit
attribute [local go_sem ↓] Go.wp_at_zero Go.wp_at_succ
namespace Hp
variable {w : World} {bh bs bm : Nat} {q : Int} {pg : List (Int × Nat)} {W : Int → Int}

theorem U_of_ok {a : Int} (h : Sl.WordOk a) : Bt.U a := by
  simp only [Sl.WordOk, Lit.wf, IntKind.min, IntKind.max, IntKind.signed, IntKind.bits, Bool.and_eq_true] at h
  unfold Bt.U
  simp at h
  omega

/-- A block of six cells that may be written. -/
theorem six {w : World} {b : Nat} {v0 v1 v2 v3 v4 v5 : Value} {t : TypeId} (h : w.heap[b]? = some (.cells #[v0, v1, v2, v3, v4, v5] t)) :
    (w.cell? ⟨b, 0, none⟩ = some v0 ∧ w.cell? ⟨b, 1, none⟩ = some v1 ∧ w.cell? ⟨b, 2, none⟩ = some v2 ∧ w.cell? ⟨b, 3, none⟩ = some v3 ∧ w.cell? ⟨b, 4, none⟩ = some v4 ∧ w.cell? ⟨b, 5, none⟩ = some v5) ∧ ∀ i, w.frozen? ⟨b, i, none⟩ = false := by
  simp [World.cell?, World.frozen?, h]

abbrev put6 (w : World) (b : Nat) (u0 u1 u2 u3 u4 u5 : Value) : World := (((((w.setCell ⟨b, 0, none⟩ u0).setCell ⟨b, 1, none⟩ u1).setCell ⟨b, 2, none⟩ u2).setCell ⟨b, 3, none⟩ u3).setCell ⟨b, 4, none⟩ u4).setCell ⟨b, 5, none⟩ u5

theorem set6 {w : World} {b : Nat} {v0 v1 v2 v3 v4 v5 : Value} {t : TypeId} (h : w.heap[b]? = some (.cells #[v0, v1, v2, v3, v4, v5] t)) (u0 u1 u2 u3 u4 u5 : Value) :
    (put6 w b u0 u1 u2 u3 u4 u5).heap[b]? = some (.cells #[u0, u1, u2, u3, u4, u5] t) := by
  have h1 := Sl.heap_setCell_same (i := 0) h u0
  have h2 := Sl.heap_setCell_same (i := 1) h1 u1
  have h3 := Sl.heap_setCell_same (i := 2) h2 u2
  have h4 := Sl.heap_setCell_same (i := 3) h3 u3
  have h5 := Sl.heap_setCell_same (i := 4) h4 u4
  have h6 := Sl.heap_setCell_same (i := 5) h5 u5
  exact h6
theorem K.put6 {w0 w : World} (k : K w0 w) {b : Nat} (hb : w0.heap.size ≤ b) (u0 u1 u2 u3 u4 u5 : Value) : K w0 (put6 w b u0 u1 u2 u3 u4 u5) :=
  (((((k.setCell _ hb).setCell _ hb).setCell _ hb).setCell _ hb).setCell _ hb).setCell _ hb

set_option maxRecDepth 100000 in
theorem look_any (h : Hw w bh bs bm q pg W) (k : Int) (h0 : 0 ≤ k) (h1 : k ≤ 1048575) (hb : (Sl.blk pg k).isSome = true) :
    Calls Tryz.prog 95 #[hp bh, .int .i64 k] w fun e w' => e = .returned (pgV (look pg W k)) ∧ K w w' := by
  obtain ⟨w1, hw1⟩ : ∃ w1, w1 = w.alloc (.cells #[.int .i64 0, .int .i64 0, .int .i64 0, .int .u64 0, .int .i64 0, .int .i64 0] 125) := ⟨_, rfl⟩
  have k1 : K w w1 := by rw [hw1]; exact (K.refl w).alloc _
  have hB1 : w1.heap[w.heap.size]? = some (.cells #[.int .i64 0, .int .i64 0, .int .i64 0, .int .u64 0, .int .i64 0, .int .i64 0] 125) := by rw [hw1]; exact World.alloc_heap_new _ _
  have ho := headOf_any (h.keep k1) k h0 h1 hb
  have um := U_of_ok (h.ar.ww (64 * k))
  have uh := U_of_ok (h.ar.ww (64 * k + 1))
  have hl : look pg W k = if classOk (W (64 * k)) (W (64 * k + 1)) = true then ⟨k, 1, W (64 * k) / 256, W (64 * k + 1), 0, 1⟩
    else if (largeOk (W (64 * k)) (W (64 * k + 1)) && Sl.allIn pg k (Cl.pagI (W (64 * k + 1))).toNat) = true then ⟨k, 2, 0, 0, W (64 * k + 1), Cl.pagI (W (64 * k + 1))⟩ else ⟨k, 0, 0, 0, 0, 1⟩ := rfl
  have hg : w.heap.size < w1.heap.size := (Array.getElem?_eq_some_iff.1 hB1).1
  have hA := fun w' (kk : K w1 w') p n => haveAll_any ((h.keep k1).keep kk) p n
  generalize W (64 * k) = m at *
  generalize W (64 * k + 1) = x at *
  have cc := fun w => headClass_any m x um uh w
  have cl := fun w => headLarge_any m x uh w
  go_enter Tryz.func95, Tryz.ntmps95
  go_wp2_with fail
  rw [← hw1]
  refine ho.mono ?_
  rintro e w2 ⟨rfl, k2⟩
  have hB2 := k2.block hB1
  have k2' := k1.trans k2
  have hlt2 := k2.size
  clear ho hw1
  go_wp2_with fail
  obtain ⟨w3, hw3⟩ : ∃ w3, w3 = w2.alloc (.cells #[.int .u64 m, .int .u64 x] 201) := ⟨_, rfl⟩
  have k3 : K w2 w3 := by rw [hw3]; exact (K.refl w2).alloc _
  have hD3 : w3.heap[w2.heap.size]? = some (.cells #[.int .u64 m, .int .u64 x] 201) := by rw [hw3]; exact World.alloc_heap_new _ _
  rw [← hw3]
  refine (cc _).mono ?_
  rintro e w4 ⟨c, rfl, hc, k4⟩
  have hB4 := k4.block (k3.block hB2)
  obtain ⟨⟨b0, b1, b2, b3, b4, b5⟩, bf⟩ := six hB4
  obtain ⟨g0, g1⟩ := cells2 (k4.block hD3)
  have k4' := (k2'.trans k3).trans k4
  have ks := (k2.trans k3).trans k4
  have hlt4 := ks.size
  clear hw3 hD3 cc
  generalize hBB : w.heap.size = B at *
  generalize hDD : w2.heap.size = D at *
  cases hk : classOk m x with
  | true =>
    obtain rfl := hc hk
    rw [hk] at hl
    simp only [if_true] at hl
    have HL : Hid _ := hl
    clear hl hA cl
    have hE := set6 hB4 (.int .i64 k) (.int .i64 1) (.int .i64 (m / 256)) (.int .u64 x) (.int .i64 0) (.int .i64 1)
    have kE := k4'.put6 (b := B) (by omega) (.int .i64 k) (.int .i64 1) (.int .i64 (m / 256)) (.int .u64 x) (.int .i64 0) (.int .i64 1)
    obtain ⟨⟨e0, e1, e2, e3, e4, e5⟩, _⟩ := six hE
    have HE : Aside _ := And.intro e0 (And.intro e1 (And.intro e2 (And.intro e3 (And.intro e4 e5))))
    clear e0 e1 e2 e3 e4 e5 hE
    go_wp2
    obtain ⟨e0, e1, e2, e3, e4, e5⟩ := HE.out
    exact bodyPost_ret (v := pgV ⟨k, 1, m / 256, x, 0, 1⟩) (by simp [results, Tryz.results95, go_sem, e0, e1, e2, e3, e4, e5]) rfl ⟨by rw [HL.out], kE⟩
  | false =>
    rw [hk] at hl
    simp only [Bool.false_eq_true, if_false] at hl
    go_wp2_with fail
    refine (cl _).mono ?_
    rintro e w5 ⟨a, p, rfl, hp, k5⟩
    have hB5 := k5.block hB4
    have k5' := k4'.trans k5
    have ks5 := ks.trans k5
    clear b0 b1 b2 b3 b4 b5 bf
    obtain ⟨⟨b0, b1, b2, b3, b4, b5⟩, bf⟩ := six hB5
    cases hL : largeOk m x with
    | true =>
      have ea := (hp hL).1.symm
      have ep := (hp hL).2.symm
      subst ea
      subst ep
      obtain ⟨x0, x1, _⟩ := largeOk_inv hL
      have pr := pag_range x0 x1
      have ha := hA w5 ks5 k (Cl.pagI x).toNat (by omega) (by omega) (by omega)
      rw [show ((Cl.pagI x).toNat : Int) = Cl.pagI x from by omega] at ha
      rw [hL] at hl
      simp only [Bool.true_and] at hl
      generalize Cl.pagI x = y at *
      cases hall : Sl.allIn pg k y.toNat with
      | true =>
        rw [hall] at hl ha
        simp only [if_true] at hl
        have HL : Hid _ := hl
        clear hl hA cl hc hp pr
        have hE := set6 hB5 (.int .i64 k) (.int .i64 2) (.int .i64 0) (.int .u64 0) (.int .i64 x) (.int .i64 y)
        have kE := k5'.put6 (b := B) (by omega) (.int .i64 k) (.int .i64 2) (.int .i64 0) (.int .u64 0) (.int .i64 x) (.int .i64 y)
        obtain ⟨⟨e0, e1, e2, e3, e4, e5⟩, _⟩ := six hE
        have HE : Aside _ := And.intro e0 (And.intro e1 (And.intro e2 (And.intro e3 (And.intro e4 e5))))
        clear e0 e1 e2 e3 e4 e5 hE
        go_wp2_with (go_at_call 136; refine ha.mono ?_; rintro e w' ⟨rfl, rfl⟩)
        obtain ⟨e0, e1, e2, e3, e4, e5⟩ := HE.out
        exact bodyPost_ret (v := pgV ⟨k, 2, 0, 0, x, y⟩) (by simp [results, Tryz.results95, go_sem, e0, e1, e2, e3, e4, e5]) rfl ⟨by rw [HL.out], kE⟩
      | false =>
        rw [hall] at hl ha
        simp only [Bool.false_eq_true, if_false] at hl
        have HL : Hid _ := hl
        clear hl hA cl hc hp pr
        have hE := set6 hB5 (.int .i64 k) (.int .i64 0) (.int .i64 0) (.int .u64 0) (.int .i64 0) (.int .i64 1)
        have kE := k5'.put6 (b := B) (by omega) (.int .i64 k) (.int .i64 0) (.int .i64 0) (.int .u64 0) (.int .i64 0) (.int .i64 1)
        obtain ⟨⟨e0, e1, e2, e3, e4, e5⟩, _⟩ := six hE
        have HE : Aside _ := And.intro e0 (And.intro e1 (And.intro e2 (And.intro e3 (And.intro e4 e5))))
        clear e0 e1 e2 e3 e4 e5 hE
        go_wp2_with (go_at_call 136; refine ha.mono ?_; rintro e w' ⟨rfl, rfl⟩)
        obtain ⟨e0, e1, e2, e3, e4, e5⟩ := HE.out
        exact bodyPost_ret (v := pgV ⟨k, 0, 0, 0, 0, 1⟩) (by simp [results, Tryz.results95, go_sem, e0, e1, e2, e3, e4, e5]) rfl ⟨by rw [HL.out], kE⟩
    | false =>
      rw [hL] at hl
      simp only [Bool.false_and, Bool.false_eq_true, if_false] at hl
      have HL : Hid _ := hl
      clear hl hA cl hc hp
      have hE := set6 hB5 (.int .i64 k) (.int .i64 0) (.int .i64 0) (.int .u64 0) (.int .i64 0) (.int .i64 1)
      have kE := k5'.put6 (b := B) (by omega) (.int .i64 k) (.int .i64 0) (.int .i64 0) (.int .u64 0) (.int .i64 0) (.int .i64 1)
      obtain ⟨⟨e0, e1, e2, e3, e4, e5⟩, _⟩ := six hE
      have HE : Aside _ := And.intro e0 (And.intro e1 (And.intro e2 (And.intro e3 (And.intro e4 e5))))
      clear e0 e1 e2 e3 e4 e5 hE
      go_wp2
      obtain ⟨e0, e1, e2, e3, e4, e5⟩ := HE.out
      exact bodyPost_ret (v := pgV ⟨k, 0, 0, 0, 0, 1⟩) (by simp [results, Tryz.results95, go_sem, e0, e1, e2, e3, e4, e5]) rfl ⟨by rw [HL.out], kE⟩

end Hp
end Go.Proofs.YtbbjfebdihepnaaGreatDoor

/-
  The iterator over the pages that have heads: they come as 'heads' tells, until a round says no more.
-/
namespace Go.Proofs.YtbbjfebdihepnaaGreatDoor
open Go.RowKit Go.Shelf
attribute [local go_sem] Oper.semAt_some
namespace Hp
variable {w : World} {bh bs bm : Nat} {q : Int} {pg : List (Int × Nat)} {W : Int → Int}

abbrev encP (p : Pg) : Array Value := #[pgV p]

theorem scan_pre (f : Int → Pg) (l : List Int) (k : Nat) (b : Int) (pre : List Pg) (n : Int) (hn : l[k]? = some n) (hs : pre ++ scan f (l.drop k) b = scan f l 0) :
    (n < b → pre ++ scan f (l.drop (k + 1)) b = scan f l 0) ∧ (¬ n < b → (pre ++ [f n]) ++ scan f (l.drop (k + 1)) (n + (f n).span) = scan f l 0) := by
  have hd : l.drop k = n :: l.drop (k + 1) := by
    rw [List.drop_eq_getElem_cons (List.getElem?_eq_some_iff.1 hn).1]
    congr 1
    exact (List.getElem?_eq_some_iff.1 hn).2
  rw [hd] at hs
  constructor
  · intro h
    rw [scan_skip _ _ _ _ h] at hs
    exact hs
  · intro h
    rw [scan_take _ _ _ _ h] at hs
    simpa using hs

set_option maxRecDepth 100000 in
set_option maxHeartbeats 1000000 in
theorem pages_seq (h : Hw w bh bs bm q pg W) (O : Nat → Prop) (hO : ∀ k, O k → ¬ Sl.foot bs bm pg k ∧ k ≠ bh ∧ k ≠ 1) :
    SeqIn Tryz.prog 64 #[hp bh] encP (heads pg W) O w := fun n l J Jx W0 k0 hl0 hOlt hJ hJx hY h0 => by
  have h := h.keep k0
  have c0 := h.c0
  have hlen := h.ar.len
  refine callsIn_of_wp Tryz.func64 rfl trivial ?_ rfl
  simp only [Tryz.ntmps64, List.size_toArray, List.length_cons, List.length_nil, Nat.reduceAdd, Nat.reduceSub, Array.replicate_succ, Array.replicate_zero, List.push_toArray, List.append_toArray, List.nil_append, List.cons_append]
  gi_wp2
  refine ⟨trivial, fun h => (by cases h), (callsIn_wide.2 (Sl.pages_said _ _ _ _ _ _ h.ar)).mono ?_⟩
  rintro e w1 ⟨a, cap, rfl, kb1, hrow⟩
  have k1 := K.of_below kb1
  have hJ1 := hJ _ _ _ _ h0 k1
  have h1 := h.keep k1
  have hs0 := k1.size
  gi_wp2
  gi_loopw [4, 6, 7, 14] (fun b _ _ i wr => ∃ (k : Nat) (pre : List Pg) (bb : Int), k ≤ pg.length ∧ i = .int .i64 (k : Int) ∧ b = .int .i64 bb ∧ 0 ≤ bb ∧ bb ≤ 1048640 ∧ Aside (pre ++ scan (look pg W) ((pg.map fun p => p.1).drop k) bb = heads pg W) ∧ ∃ M : Nat → Prop, J pre M wr ∧ Hw wr bh bs bm q pg W ∧ (∀ k, M k → ¬ Sl.foot bs bm pg k ∧ k ≠ bh ∧ k ≠ 1) ∧ w1.heap.size ≤ wr.heap.size ∧ (∀ k, k < w1.heap.size → W0.heap.size ≤ k → ¬ M k ∧ wr.heap[k]? = w1.heap[k]?)) (fun _ _ _ i _ => pg.length - (intOf i).toNat)
  case atStart => exact ⟨0, [], 0, Nat.zero_le _, rfl, rfl, by omega, by omega, rfl, O, hJ1, h1, hO, Nat.le_refl _, fun k _ hk => ⟨fun ho => by have := hOlt _ ho; omega, rfl⟩⟩
  case round =>
    obtain ⟨k, pre, bb, hk, rfl, rfl, hb0, hb1, HS, M, hJr, hr, hMf, hszr, hkr⟩ := hrel
    by_cases hlt : k < pg.length
    · obtain ⟨g, rfl, hgb, hcell⟩ := hrow (by omega)
      obtain ⟨p, hp⟩ : ∃ p, pg[k]? = some p := ⟨_, List.getElem?_eq_getElem hlt⟩
      have hm := List.mem_of_getElem? hp
      have hrg := h.ar.rng p hm
      have hbl : (Sl.blk pg p.1).isSome = true := by rw [Sl.blk_of_mem h.ar.rise (show (p.1, p.2) ∈ pg from hm)]; rfl
      have hgw : g < w1.heap.size := lt_of_cell (hcell k p hp)
      have hc : wr.cell? ⟨g, k, none⟩ = some (.int .i64 p.1) := (World.cell?_of_block (a := ⟨g, k, none⟩) (hkr g hgw hgb).2).trans (hcell k p hp)
      have hl := look_any hr p.1 hrg.1 hrg.2 hbl
      have HQ := scan_pre (look pg W) (pg.map fun p => p.1) k bb pre p.1 (by simp [hp]) HS.out
      have hsp := look_span pg W p.1
      have hpre : ¬ p.1 < bb → pre ++ [look pg W p.1] <+: heads pg W := fun hn => ⟨_, HQ.2 hn⟩
      have HP : Aside _ := HQ
      clear HQ
      clear hm hrow hbl hp
      generalize p.1 = m at *
      generalize look pg W m = P at *
      by_cases hb : m < bb
      · gi_wp2
        go_roundw
        case rel => exact ⟨k + 1, pre, bb, by omega, by go_num, rfl, hb0, hb1, HP.out.1 hb, M, hJr, hr, hMf, hszr, hkr⟩
        case measure => simp [intOf]; omega
      · gi_wp2
        refine ⟨trivial, fun h => (by cases h), (callsIn_wide.2 hl).mono ?_⟩
        rintro e w2 ⟨rfl, k2⟩
        have kA : K wr (w2.alloc (.cells #[.int .i64 P.n, .int .i64 P.kind, .int .i64 P.cls, .int .u64 P.taken, .int .i64 P.words, .int .i64 P.span] 125)) := k2.alloc _
        obtain ⟨fn, tmps, assign, body, hy, hR⟩ := hY pre P M _ (hpre (by omega)) (hJ _ _ _ _ hJr kA)
        dsimp only [encP, pgV] at hy
        gi_wp2
        refine ⟨fun h => (by cases h), hR.mono ?_⟩
        rintro e w3 (⟨rfl, M3, hJ3, k3, g3⟩ | ⟨rfl, M3, hJx3, k3⟩)
        · gi_wp2
          go_roundw
          case rel => exact ⟨k + 1, pre ++ [P], m + P.span, by omega, by go_num, rfl, by omega, by omega, HP.out.2 (by omega), M3, hJ3, (hr.keep kA).kept k3 hMf, fun j hj => by
            rcases g3 j hj with h | h
            · exact hMf j h
            · have hz := kA.size
              exact ⟨fun hf => by have := hr.ar.foot_lt hf; omega, fun e => by have : bh < wr.heap.size := lt_of_cell hr.c0; omega, fun e => by have := lt0 hr.tab; omega⟩, Nat.le_trans (Nat.le_trans hszr kA.size) k3.size, fun j hj hj2 => by
            obtain ⟨q1, q2⟩ := hkr j hj hj2
            refine ⟨fun hm => ?_, ?_⟩
            · rcases g3 j hm with h | h
              · exact q1 h
              · have := kA.size
                omega
            · rw [k3.same j (by have := kA.size; omega) q1, kA.same j (by omega) (fun x => x)]
              exact q2⟩
          case measure => simp [intOf]; omega
        · gi_wp2
          refine bodyPost_ret (results_none rfl _ _ _) rfl ?_
          exact ⟨⟨_, rfl⟩, .inr ⟨_, M3, hpre (by omega), hJx3⟩⟩
    · obtain rfl : k = pg.length := by omega
      gi_wp2
      go_end0
      refine ⟨⟨_, rfl⟩, .inl ?_⟩
      have := HS.out
      rw [List.drop_of_length_le (by simp)] at this
      simp only [scan, List.append_nil] at this
      rw [← this]
      exact ⟨M, hJr⟩

end Hp
end Go.Proofs.YtbbjfebdihepnaaGreatDoor

/-
  The walk of package heap's Audit: whether all heads are right.
-/
namespace Go.Proofs.YtbbjfebdihepnaaGreatDoor
open Go.RowKit Go.Shelf
attribute [local go_sem] Oper.semAt_some
namespace Hp
variable {w : World} {bh bs bm : Nat} {q : Int} {pg : List (Int × Nat)} {W : Int → Int}

/-- What Audit tells. -/
def audI (l : List Pg) : Int := if l.any (fun p => p.kind == 0) then 8 else 0

theorem aud_pre {pre l : List Pg} (h : pre <+: l) (ha : audI pre = 8) : audI l = 8 := by
  obtain ⟨t, rfl⟩ := h
  unfold audI at *
  split at ha
  · rename_i hh
    rw [List.any_append, hh]
    rfl
  · cases ha

/-- In an outermost loop. -/
theorem outer {P : Program} {fn : Nat} {tmps : Array Value} {ps : Array Tmp} {assign body : Code} (w : World) : ∃ df, (Instr.enterLoop fn tmps ps assign body none).run P w = .ok ((w.alloc (.deferred (some []))).heap.size, [{ target := .collected w.heap.size, args := #[] }])
    ((w.alloc (.deferred (some []))).alloc (.loop { state := .ready, pending := none, fn, tmps := tmps, params := ps, assign, body, defers := df })) := by
  refine ⟨w.heap.size, ?_⟩
  rw [run_enterLoop_outer]
  simp

set_option maxRecDepth 100000 in
set_option maxHeartbeats 1000000 in
theorem audit_in (n : Nat) (h : Hw w bh bs bm q pg W) : CallsIn Fence.wide n Tryz.prog 108 #[hp bh] w fun e w' => e = .returned (.int .i64 (audI (heads pg W))) ∧ K w w' := by
  have b0 := Boxed.new w 31 (.int .i64 0)
  have kB : K w (w.alloc (.cells #[.int .i64 0] 31)) := (K.refl w).alloc _
  have hB := h.keep kB
  have hm := made_yes bh bs _ hB.c0
  have hlt : bh < w.heap.size := lt_of_cell h.c0
  have hfl : ∀ k, Sl.foot bs bm pg k → k < w.heap.size := fun k hk => h.ar.foot_lt hk
  have hsz : (w.alloc (.cells #[.int .i64 0] 31)).heap.size = w.heap.size + 1 := by simp
  have h0 := lt0 h.tab
  refine callsIn_of_wp_marks Tryz.func108 rfl trivial ?_ rfl
  simp only [Tryz.ntmps108, List.size_toArray, List.length_cons, List.length_nil, Nat.reduceAdd, Nat.reduceSub, Array.replicate_succ, Array.replicate_zero, List.push_toArray, List.append_toArray, List.nil_append, List.cons_append]
  gi_wp2
  refine ⟨trivial, fun h => (by cases h), (callsIn_wide.2 hm).mono ?_⟩
  rintro e w' ⟨rfl, rfl⟩
  gi_wp2
  generalize w.alloc (.cells #[.int .i64 0] 31) = w1 at *
  refine range_core (r := none) (w' := w1.alloc (.deferred (some []))) (mark := [{ target := .collected w1.heap.size, args := #[] }]) (gf := 64) (ba := #[hp bh]) rfl (enters_of Tryz.func64 (by kernel_rfl) rfl) (fun fn => outer w1)
    (pages_seq hB (fun k => k = w.heap.size) (fun k hk => by subst hk; exact ⟨fun hf => by have := hfl _ hf; omega, by omega, by omega⟩)) ((K.refl w1).alloc _) (fun k hk => by subst hk; simp; omega) (fun _ => rfl)
    (fun pre W' => audI pre = 0 ∧ Boxed W' w.heap.size 31 (.int .i64 0) ∧ K w W' ∧ W'.heap[w1.heap.size]? = some (.deferred (some [])))
    (fun c pre W' => c = .ret ∧ audI pre = 8 ∧ Boxed W' w.heap.size 31 (.int .i64 8) ∧ K w W' ∧ W'.heap[w1.heap.size]? = some (.deferred (some [])))
    (fun pre x a' W' => (audI pre = 0 ∧ Boxed W' w.heap.size 31 (.int .i64 0) ∧ K w W' ∧ W'.heap[w1.heap.size]? = some (.deferred (some []))) ∧ ∃ B, w1.heap.size + 1 < B ∧ a' = { tmps := #[hp bh, undef, .pointer (some ⟨w.heap.size, 0, none⟩), .pointer (some ⟨B, 0, none⟩), hp bh, .bool true, .bool false, hp bh, .func (.func 64) #[hp bh] #[], pgV x, undef, undef, undef], defers := [] } ∧ W'.heap[B]? = some (.cells #[.int .i64 x.n, .int .i64 x.kind, .int .i64 x.cls, .int .u64 x.taken, .int .i64 x.words, .int .i64 x.span] 125))
    ?hI ?hIx ?hAx ?h0 ?hassign ?hbody ?hdone ?hstop
  case hI =>
    rintro s A B ⟨ha, hb, hk, hd⟩ k
    simp only [World.size_alloc] at k
    exact ⟨ha, k.boxed hb (by omega), hk.thenKept k (by omega), k.block hd (by omega)⟩
  case hIx =>
    rintro c s A B ⟨hc, ha, hb, hk, hd⟩ k
    simp only [World.size_alloc] at k
    exact ⟨hc, ha, k.boxed hb (by omega), hk.thenKept k (by omega), k.block hd (by omega)⟩
  case hAx =>
    rintro s x a' A B ⟨⟨ha, hb, hk, hd⟩, D, hD, he, hx⟩ k
    simp only [World.size_alloc] at k
    exact ⟨⟨ha, k.boxed hb (by omega), hk.thenKept k (by omega), k.block hd (by omega)⟩, D, hD, he, k.block hx (by omega)⟩
  case h0 => exact ⟨rfl, b0.alloc _, kB.alloc _, World.alloc_heap_new _ _⟩
  case hassign =>
    rintro pre x W' _ ⟨ha, hb, hk, hd⟩ hl
    simp only [World.size_alloc] at hl
    gi_wp2
    exact ⟨(Kept.refl _ _).alloc _, ⟨ha, hb.alloc _, hk.alloc _, ((K.refl W').alloc _).block hd⟩, _, hl, rfl, World.alloc_heap_new _ _⟩
  case hbody =>
    rintro pre x a' W' _ _ ⟨⟨ha, hb, hk, hd⟩, D, hD, rfl, hx⟩
    obtain ⟨⟨c0, c1, c2, c3, c4, c5⟩, _⟩ := six hx
    have bc := hb.cell
    have bf := hb.frozen
    by_cases hz : x.kind = 0
    · have e1 : audI (pre ++ [x]) = 8 := by simp [audI, hz]
      gi_wp2
      have ks := (Kept.refl (fun k => k = w.heap.size) W').setCell (p := ⟨w.heap.size, 0, none⟩) (.int .i64 8) (.inl rfl)
      exact ⟨ks, rfl, e1, hb.set _, hk.setCell _ (Nat.le_refl _), ks.block hd (by omega)⟩
    · have e1 : audI (pre ++ [x]) = 0 := by
        unfold audI at ha ⊢
        split at ha
        · cases ha
        · rename_i hn
          simp at hn
          simp [hz]
          exact hn
      have hz' : (x.kind == 0) = false := by simpa using hz
      gi_wp2
      exact ⟨Kept.refl _ _, e1, hb, hk, hd⟩
  case hdone =>
    rintro W' ⟨ha, hb, hk, hd⟩
    have bc := hb.cell
    have bf := hb.frozen
    have ks := (Kept.refl (fun k => k = w.heap.size) W').setCell (p := ⟨w.heap.size, 0, none⟩) (.int .i64 0) (.inl rfl)
    have hd2 := ks.block hd (by omega)
    have hb2 := (Cl.Boxed.putObj (hb.set (.int .i64 0)) (.deferred none) hd2 rfl).cell
    gi_wp2
    refine ⟨by simp, .inl ⟨_, _, rfl, run_takeDeferred hd2, .int .i64 0, ?_, ?_, ?_⟩⟩
    · simp [results, Tryz.f108, go_sem, hb2]
    · rw [ha]
    · exact Kept.putObj (hk.setCell _ (Nat.le_refl _)) _ (.inr (by omega))
  case hstop =>
    rintro c pre W' hpre ⟨rfl, ha, hb, hk, hd⟩
    have hb2 := (Cl.Boxed.putObj hb (.deferred none) hd rfl).cell
    gi_wp2
    refine ⟨by simp, .inl ⟨_, _, rfl, run_takeDeferred hd, .int .i64 8, ?_, ?_, ?_⟩⟩
    · simp [results, Tryz.f108, go_sem, hb2]
    · rw [aud_pre hpre ha]
    · exact Kept.putObj hk _ (.inr (by omega))

theorem audit_any (h : Hw w bh bs bm q pg W) : Calls Tryz.prog 108 #[hp bh] w fun e w' => e = .returned (.int .i64 (audI (heads pg W))) ∧ K w w' := (callsIn_wide (n := 0)).1 (audit_in 0 h)

end Hp
end Go.Proofs.YtbbjfebdihepnaaGreatDoor
