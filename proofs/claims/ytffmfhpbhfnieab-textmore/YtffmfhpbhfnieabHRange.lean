/-
  A range over a method's value ('for p := range h.pages'): the law for the caller, its iterator's contract being told by the list of what comes; at the wide fence, in a round or in none.
-/
import Derived.RangeFuncNested
import Derived.RangeFuncBound
import Derived.RangeFuncCalls
import Derived.RangeFuncLeaves
import Derived.Below
import Derived.BigQuiet
namespace Go.Proofs.Ytffmfhpbhfnieab
open Go.RowKit
namespace Hp

/-- Of what was there only blocks of O may have turned. -/
structure Kept (O : Nat → Prop) (w w' : World) : Prop where
  os : w'.os = w.os
  tape : w'.tape = w.tape
  output : w'.output = w.output
  size : w.heap.size ≤ w'.heap.size
  same : ∀ k, k < w.heap.size → ¬ O k → w'.heap[k]? = w.heap[k]?

def No : Nat → Prop := fun _ => False
/-- Nothing that was there has turned. -/
def K (w w' : World) : Prop := Kept No w w'

theorem Kept.refl (O : Nat → Prop) (w : World) : Kept O w w := ⟨rfl, rfl, rfl, Nat.le_refl _, fun _ _ _ => rfl⟩
theorem Kept.trans {O : Nat → Prop} {a b c : World} (h : Kept O a b) (k : Kept O b c) : Kept O a c :=
  ⟨k.os.trans h.os, k.tape.trans h.tape, k.output.trans h.output, Nat.le_trans h.size k.size, fun j hj hn => (k.same j (Nat.lt_of_lt_of_le hj h.size) hn).trans (h.same j hj hn)⟩
theorem Kept.mono {O O' : Nat → Prop} {a b : World} (h : Kept O a b) (i : ∀ k, k < a.heap.size → O k → O' k) : Kept O' a b := ⟨h.os, h.tape, h.output, h.size, fun j hj hn => h.same j hj fun hO => hn (i j hj hO)⟩
theorem K.kept {a b : World} (h : K a b) (O : Nat → Prop) : Kept O a b := Kept.mono h (fun _ _ hk => hk.elim)
theorem K.refl (w : World) : K w w := Kept.refl _ _
theorem K.trans {a b c : World} (h : K a b) (k : K b c) : K a c := Kept.trans h k
theorem K.of_below {a b : World} (h : Below a.heap.size a b) : K a b := ⟨h.os, h.tape, h.output, h.size, fun j hj _ => h.block j hj⟩
theorem K.below {a b : World} (h : K a b) : Below a.heap.size a b := ⟨h.os, h.tape, h.output, h.size, fun j hj => h.same j hj (fun hk => hk)⟩
theorem Kept.alloc {O : Nat → Prop} {a b : World} (h : Kept O a b) (o : Obj) : Kept O a (b.alloc o) :=
  h.trans ⟨rfl, rfl, rfl, by simp, fun k hk _ => Below.heap_alloc b o k hk⟩
theorem Kept.drew {O : Nat → Prop} {a b : World} (h : Kept O a b) : Kept O a b.drew := h.trans ⟨rfl, rfl, rfl, Nat.le_refl _, fun _ _ _ => rfl⟩
theorem Kept.drewN {O : Nat → Prop} {a b : World} (h : Kept O a b) (n : Nat) : Kept O a (b.drewN n) := h.trans ⟨rfl, rfl, rfl, Nat.le_refl _, fun _ _ _ => rfl⟩
theorem K.alloc {a b : World} (h : K a b) (o : Obj) : K a (b.alloc o) := Kept.alloc h o
theorem K.drew {a b : World} (h : K a b) : K a b.drew := Kept.drew h
theorem K.drewN {a b : World} (h : K a b) (n : Nat) : K a (b.drewN n) := Kept.drewN h n
/-- A store into a block that is O's, or that was not there. -/
theorem Kept.setCell {O : Nat → Prop} {a b : World} (h : Kept O a b) {p : Addr} (v : Value) (hp : O p.block ∨ a.heap.size ≤ p.block) : Kept O a (b.setCell p v) :=
  ⟨h.os, h.tape, h.output, Nat.le_trans h.size (KeepsWalks.setCell b p v).size, fun k hk hn => (Below.heap_setCell b p v k (fun e => by subst e; rcases hp with hp | hp <;> first | exact hn hp | omega)).trans (h.same k hk hn)⟩
theorem K.setCell {a b : World} (h : K a b) {p : Addr} (v : Value) (hp : a.heap.size ≤ p.block) : K a (b.setCell p v) := Kept.setCell h v (.inr hp)
theorem Kept.putObj {O : Nat → Prop} {a b : World} (h : Kept O a b) {l : Nat} (o : Obj) (hl : O l ∨ a.heap.size ≤ l) : Kept O a (b.putObj l o) :=
  ⟨h.os, h.tape, h.output, by rw [World.putObj_size]; exact h.size, fun k hk hn => (World.putObj_heap_other (fun e => by subst e; rcases hl with hl | hl <;> first | exact hn hl | omega)).trans (h.same k hk hn)⟩
theorem Kept.block {O : Nat → Prop} {a b : World} (h : Kept O a b) {k : Nat} {o : Obj} (hk : a.heap[k]? = some o) (hn : ¬ O k) : b.heap[k]? = some o := (h.same k (Array.getElem?_eq_some_iff.1 hk).1 hn).trans hk
theorem K.block {a b : World} (h : K a b) {k : Nat} {o : Obj} (hk : a.heap[k]? = some o) : b.heap[k]? = some o := Kept.block h hk (fun x => x)
theorem lt_of_cell {w : World} {p : Addr} {v : Value} (h : w.cell? p = some v) : p.block < w.heap.size := by
  obtain ⟨o, ho, _⟩ := cells_of_cell h
  exact (Array.getElem?_eq_some_iff.1 ho).1
theorem Kept.cell {O : Nat → Prop} {a b : World} (h : Kept O a b) {p : Addr} {v : Value} (hc : a.cell? p = some v) (hn : ¬ O p.block) : b.cell? p = some v :=
  (World.cell?_of_block (h.same _ (lt_of_cell hc) hn)).trans hc
theorem K.cell {a b : World} (h : K a b) {p : Addr} {v : Value} (hc : a.cell? p = some v) : b.cell? p = some v := Kept.cell h hc (fun x => x)
theorem Kept.boxed {O : Nat → Prop} {a b : World} (h : Kept O a b) {B : Nat} {t : TypeId} {v : Value} (hb : Boxed a B t v) (hn : ¬ O B) : Boxed b B t v := h.block hb hn
theorem K.boxed {a b : World} (h : K a b) {B : Nat} {t : TypeId} {v : Value} (hb : Boxed a B t v) : Boxed b B t v := K.block h hb

theorem K.thenKept {w a b : World} (h : K w a) {l : Nat} (k : Kept (fun j => j = l) a b) (hl : w.heap.size ≤ l) : K w b :=
  ⟨k.os.trans h.os, k.tape.trans h.tape, k.output.trans h.output, Nat.le_trans h.size k.size, fun j hj hn => (k.same j (Nat.lt_of_lt_of_le hj h.size) (fun e => by omega)).trans (h.same j hj hn)⟩

theorem Kept.thenKept {O : Nat → Prop} {w a b : World} (h : Kept O w a) {l : Nat} (k : Kept (fun j => j = l) a b) (hl : w.heap.size ≤ l) : Kept O w b :=
  ⟨k.os.trans h.os, k.tape.trans h.tape, k.output.trans h.output, Nat.le_trans h.size k.size, fun j hj hn => (k.same j (Nat.lt_of_lt_of_le hj h.size) (fun e => by omega)).trans (h.same j hj hn)⟩

/-- The wide fence, in a round of the loop r, or in none. -/
abbrev wide (r : Option Nat) : Fence := { Fence.wide with round := r }

/-- Where a caller's own blocks M become M': those, and new ones. -/
def Grows (M M' : Nat → Prop) (w : World) : Prop := ∀ k, M' k → M k ∨ w.heap.size ≤ k

/-- The contract of a method's value that is ranged over: xs comes, one by one, until a round says no more; a round turns blocks of the caller's own alone: O at first, and what rounds have made since. -/
def SeqIn {α : Type} (P : Program) (gf : Nat) (ba : Array Value) (encs : α → Array Value) (xs : List α) (O : Nat → Prop) (w : World) : Prop :=
  ∀ (n l : Nat) (J Jx : List α → (Nat → Prop) → World → Prop) (W : World), K w W → l < W.heap.size → (∀ k, O k → k < W.heap.size) → (∀ s M A B, J s M A → K A B → J s M B) → (∀ s M A B, Jx s M A → K A B → Jx s M B) →
    (∀ pre x M W1, pre ++ [x] <+: xs → J pre M W1 → YieldAt Fence.wide (n - 1) P l (encs x) W1 fun e W' =>
      (e = .returned (.bool true) ∧ ∃ M', J (pre ++ [x]) M' W' ∧ Kept M W1 W' ∧ Grows M M' W1) ∨ (e = .returned (.bool false) ∧ ∃ M', Jx (pre ++ [x]) M' W' ∧ Kept (fun k => M k ∨ k = l) W1 W')) →
    J [] O W →
    CallsIn Fence.wide n P gf (ba ++ #[.func (.yield l) #[] #[]]) W fun e W' => (∃ v, e = .returned v) ∧ ((∃ M, J xs M W') ∨ ∃ pre M, pre <+: xs ∧ Jx pre M W')

/-- How a round's body may be left. -/
def bodyEndM {α : Type} (M : Nat → Prop) (I : List α → (Nat → Prop) → World → Prop) (Ix : Code → List α → World → Prop) (xs : List α) (W : World) : Exit → Act → World → Prop
  | .normal, _, W' => Kept M W W' ∧ ∃ M', I xs M' W' ∧ Grows M M' W
  | .ret, _, W' => Kept M W W' ∧ Ix .ret xs W'
  | .exit id, _, W' => Kept M W W' ∧ Ix (.exit id) xs W'
  | .goto t, _, W' => Kept M W W' ∧ Ix (.goto t) xs W'
  | .panic _, _, _ => False
  | .outgrown, _, _ => False

theorem range_coreM {α : Type} {P : Program} {r : Option Nat} {n : Nat} {g : Operand} {ps : Array Tmp} {assign body : Code} {Q : Exit → Act → World → Prop} {a : Act} {w w' : World} {mark : List Deferred}
    {gf : Nat} {ba : Array Value} (hg : a.eval g = .func (.func gf) ba #[]) (eg : ∀ args w, (callFunc gf args).run P w = .ok (.enter gf args) w)
    (hen : ∀ fn, ∃ df, (Instr.enterLoop fn a.tmps ps assign body r).run P w = .ok (w'.heap.size, mark) (w'.alloc (.loop { state := .ready, pending := none, fn, tmps := a.tmps, params := ps, assign, body, defers := df })))
    {encs : α → Array Value} {xs : List α} {O : Nat → Prop} {w0 : World} (hseq : SeqIn P gf ba encs xs O w0) (hK : K w0 w') (hO : ∀ k, O k → k < w'.heap.size) (hps : ∀ x, (encs x).size = ps.size)
    (I : List α → (Nat → Prop) → World → Prop) (Ix : Code → List α → World → Prop) (Ax : List α → α → (Nat → Prop) → Act → World → Prop)
    (hI : ∀ s M A B, I s M A → ¬ M w'.heap.size → Kept (fun k => k = w'.heap.size) A B → I s M B) (hIx : ∀ c s A B, Ix c s A → Kept (fun k => k = w'.heap.size) A B → Ix c s B) (hAx : ∀ s x M a' A B, Ax s x M a' A → ¬ M w'.heap.size → Kept (fun k => k = w'.heap.size) A B → Ax s x M a' B)
    (h0 : I [] O w')
    (hassign : ∀ pre x M W, pre ++ [x] <+: xs → I pre M W → ¬ M w'.heap.size → w'.heap.size < W.heap.size →
      assign.wpIn (wide (some w'.heap.size)) (n - 1 - 1) P (Exit.then (fun a' W' => Kept M W W' ∧ Ax pre x M a' W') (fun _ _ _ => False)) { tmps := (ps.zip (encs x)).foldl (fun t (p, v) => t.setIfInBounds p v) a.tmps, defers := [] } W)
    (hbody : ∀ pre x M a' W, pre ++ [x] <+: xs → (∃ r, W.heap[w'.heap.size]? = some (.loop r)) → ¬ M w'.heap.size → Ax pre x M a' W → body.wpIn (wide (some w'.heap.size)) (n - 1 - 1) P (bodyEndM M I Ix (pre ++ [x]) W) a' W)
    (hdone : ∀ M W, I xs M W → Q .normal { a with defers := mark ++ a.defers } W)
    (hstop : ∀ c pre W, pre <+: xs → Ix c pre W → c.wpIn (wide r) n P Q { a with defers := mark ++ a.defers } W) :
    (Code.rangeFunc g ps assign body).wpIn (wide r) n P Q a w := by
  refine wpIn_rangeFunc fun fn _ => ?_
  obtain ⟨df, hen⟩ := hen fn
  generalize hl : w'.heap.size = l at *
  let rc : LoopState → Option Code → Loop := fun st pe => { state := st, pending := pe, fn, tmps := a.tmps, params := ps, assign, body, defers := df }
  refine ⟨l, mark, w'.alloc (.loop (rc .ready none)), { target := .fn (.func gf) #[], args := ba ++ #[.func (.yield l) #[] #[]] }, w'.alloc (.loop (rc .ready none)), gf, ba ++ #[.func (.yield l) #[] #[]], w'.alloc (.loop (rc .ready none)), hen, ?_, fun _ _ => trivial, ?_, fun h => (by cases h), ?_⟩
  · simp only [resolve, hg]
    simp [go_sem]
  · simp [invoke, go_sem, eg]
  have hW1 : (w'.alloc (.loop (rc .ready none))).heap[l]? = some (.loop (rc .ready none)) := by rw [← hl]; exact World.alloc_heap_new w' _
  -- a round on a ready record, from whatever world
  have one : ∀ pre x M W, pre ++ [x] <+: xs → I pre M W → ¬ M l → W.heap[l]? = some (.loop (rc .ready none)) → YieldAt Fence.wide (n - 1 - 1) P l (encs x) W fun e W' =>
      (e = .returned (.bool true) ∧ ∃ M', (I (pre ++ [x]) M' W' ∧ ¬ M' l ∧ W'.heap[l]? = some (.loop (rc .ready none))) ∧ Kept M W W' ∧ Grows M M' W) ∨ (e = .returned (.bool false) ∧ ∃ M' : Nat → Prop, (∃ c, Ix c (pre ++ [x]) W' ∧ W'.heap[l]? = some (.loop (rc .done (some c)))) ∧ Kept (fun k => M k ∨ k = l) W W') := by
    intro pre x M W hx hi hM hr
    have hlt := (Array.getElem?_eq_some_iff.1 hr).1
    refine ⟨fn, _, assign, body, run_yield (args := encs x) hr (hps x), roundIn_of_wpIn trivial (wpIn_mono (hassign pre x M W hx hi hM hlt) ?_)⟩
    rintro (_ | _ | _ | _ | _ | _) a' Wa hp
    all_goals first | exact hp.elim | skip
    obtain ⟨hka, hax⟩ := hp
    have hra := hka.block hr hM
    have hlta := (Array.getElem?_eq_some_iff.1 hra).1
    refine ⟨_, run_beginRound hra rfl, wpIn_mono (hbody pre x M a' _ hx ⟨_, World.putObj_heap_same hlta⟩ hM (hAx _ _ _ _ _ _ hax hM ((Kept.refl _ Wa).putObj _ (.inl rfl)))) ?_⟩
    have busy : ∀ W3, Kept M (Wa.putObj l (.loop { rc .ready none with state := .busy })) W3 → W3.heap[l]? = some (.loop { rc .ready none with state := .busy }) := fun W3 h3 => h3.block (World.putObj_heap_same hlta) hM
    have off : ∀ c W3, Kept M (Wa.putObj l (.loop { rc .ready none with state := .busy })) W3 → Ix c (pre ++ [x]) W3 → ∃ v w'', (Instr.endRound l (some c)).run P W3 = .ok v w'' ∧ ((Ending.returned v = .returned (.bool true) ∧ ∃ M', (I (pre ++ [x]) M' w'' ∧ ¬ M' l ∧ w''.heap[l]? = some (.loop (rc .ready none))) ∧ Kept M W w'' ∧ Grows M M' W) ∨ (Ending.returned v = .returned (.bool false) ∧ ∃ M' : Nat → Prop, (∃ c, Ix c (pre ++ [x]) w'' ∧ w''.heap[l]? = some (.loop (rc .done (some c)))) ∧ Kept (fun k => M k ∨ k = l) W w'')) := fun c W3 h3 hx3 => by
      have h4 := busy W3 h3
      exact ⟨_, _, run_endRound (some c) h4, .inr ⟨rfl, No, ⟨c, hIx _ _ _ _ hx3 ((Kept.refl _ W3).putObj _ (.inl rfl)), World.putObj_heap_same (Array.getElem?_eq_some_iff.1 h4).1⟩,
        ((((hka.mono (fun _ _ h => .inl h)).putObj _ (.inl (.inr rfl))).trans (h3.mono (fun _ _ h => .inl h))).putObj _ (.inl (.inr rfl)))⟩⟩
    rintro (_ | _ | _ | _ | _ | _) a3 W3 hp
    all_goals first | exact hp.elim | skip
    · obtain ⟨h3, M', hi3, hgr⟩ := hp
      have h4 := busy W3 h3
      have hlt4 := (Array.getElem?_eq_some_iff.1 h4).1
      have hM' : ¬ M' l := fun h => by
        rcases hgr l h with h5 | h5
        · exact hM h5
        · rw [World.putObj_size] at h5
          omega
      refine ⟨_, _, run_endRound none h4, .inl ⟨rfl, M', ⟨hI _ _ _ _ hi3 hM' ((Kept.refl _ W3).putObj _ (.inl rfl)), hM', World.putObj_heap_same hlt4⟩, ?_, fun k hk => ?_⟩⟩
      · refine ⟨h3.os.trans hka.os, h3.tape.trans hka.tape, h3.output.trans hka.output, ?_, fun k hk hn => ?_⟩
        · rw [World.putObj_size]
          have := h3.size
          rw [World.putObj_size] at this
          exact Nat.le_trans hka.size this
        · by_cases e : k = l
          · subst e
            rw [World.putObj_heap_same hlt4, hr]
            rfl
          · rw [World.putObj_heap_other e, h3.same k (by rw [World.putObj_size]; exact Nat.lt_of_lt_of_le hk hka.size) hn, World.putObj_heap_other e]
            exact hka.same k hk hn
      · rcases hgr k hk with h5 | h5
        · exact .inl h5
        · rw [World.putObj_size] at h5
          exact .inr (Nat.le_trans hka.size h5)
    · exact off _ _ hp.1 hp.2
    · exact off _ _ hp.1 hp.2
    · exact off _ _ hp.1 hp.2
  refine (hseq (n - 1) l (fun pre M W => I pre M W ∧ ¬ M l ∧ W.heap[l]? = some (.loop (rc .ready none))) (fun pre _ W => ∃ c, Ix c pre W ∧ W.heap[l]? = some (.loop (rc .done (some c)))) _ (hK.alloc _) (by rw [← hl]; simp) (fun k hk => by have := hO k hk; simp; omega)
    (fun s M A B h k => ⟨hI s M A B h.1 h.2.1 (K.kept k _), h.2.1, k.block h.2.2⟩) (fun s M A B h k => by obtain ⟨c, h1, h2⟩ := h; exact ⟨c, hIx c s A B h1 (K.kept k _), k.block h2⟩)
    (fun pre x M W hx h => one pre x M W hx h.1 h.2.1 h.2.2) ⟨hI _ _ _ _ h0 (fun h => by have := hO _ h; omega) ((Kept.refl _ w').alloc _), fun h => by have := hO _ h; omega, hW1⟩).mono ?_
  rintro e W2 ⟨⟨v, rfl⟩, (⟨M, hi, hM, hr⟩ | ⟨pre, _, hpre, c, hi, hr⟩)⟩
  · exact ⟨none, _, run_endLoop hr (by simp [rc]), hdone M _ (hI _ _ _ _ hi hM ((Kept.refl _ W2).putObj _ (.inl rfl)))⟩
  · exact ⟨some c, _, run_endLoop hr (by simp [rc]), hstop c pre _ hpre (hIx _ _ _ _ hi ((Kept.refl _ W2).putObj _ (.inl rfl)))⟩

/-- How a round's body may be left, where the caller's own blocks stay the same ones. -/
def bodyEnd {α : Type} (O : Nat → Prop) (I : List α → World → Prop) (Ix : Code → List α → World → Prop) (xs : List α) (W : World) : Exit → Act → World → Prop
  | .normal, _, W' => Kept O W W' ∧ I xs W'
  | .ret, _, W' => Kept O W W' ∧ Ix .ret xs W'
  | .exit id, _, W' => Kept O W W' ∧ Ix (.exit id) xs W'
  | .goto t, _, W' => Kept O W W' ∧ Ix (.goto t) xs W'
  | .panic _, _, _ => False
  | .outgrown, _, _ => False

theorem range_core {α : Type} {P : Program} {r : Option Nat} {n : Nat} {g : Operand} {ps : Array Tmp} {assign body : Code} {Q : Exit → Act → World → Prop} {a : Act} {w w' : World} {mark : List Deferred}
    {gf : Nat} {ba : Array Value} (hg : a.eval g = .func (.func gf) ba #[]) (eg : ∀ args w, (callFunc gf args).run P w = .ok (.enter gf args) w)
    (hen : ∀ fn, ∃ df, (Instr.enterLoop fn a.tmps ps assign body r).run P w = .ok (w'.heap.size, mark) (w'.alloc (.loop { state := .ready, pending := none, fn, tmps := a.tmps, params := ps, assign, body, defers := df })))
    {encs : α → Array Value} {xs : List α} {O : Nat → Prop} {w0 : World} (hseq : SeqIn P gf ba encs xs O w0) (hK : K w0 w') (hO : ∀ k, O k → k < w'.heap.size) (hps : ∀ x, (encs x).size = ps.size)
    (I : List α → World → Prop) (Ix : Code → List α → World → Prop) (Ax : List α → α → Act → World → Prop)
    (hI : ∀ s A B, I s A → Kept (fun k => k = w'.heap.size) A B → I s B) (hIx : ∀ c s A B, Ix c s A → Kept (fun k => k = w'.heap.size) A B → Ix c s B) (hAx : ∀ s x a' A B, Ax s x a' A → Kept (fun k => k = w'.heap.size) A B → Ax s x a' B)
    (h0 : I [] w')
    (hassign : ∀ pre x W, pre ++ [x] <+: xs → I pre W → w'.heap.size < W.heap.size →
      assign.wpIn (wide (some w'.heap.size)) (n - 1 - 1) P (Exit.then (fun a' W' => Kept O W W' ∧ Ax pre x a' W') (fun _ _ _ => False)) { tmps := (ps.zip (encs x)).foldl (fun t (p, v) => t.setIfInBounds p v) a.tmps, defers := [] } W)
    (hbody : ∀ pre x a' W, pre ++ [x] <+: xs → (∃ r, W.heap[w'.heap.size]? = some (.loop r)) → Ax pre x a' W → body.wpIn (wide (some w'.heap.size)) (n - 1 - 1) P (bodyEnd O I Ix (pre ++ [x]) W) a' W)
    (hdone : ∀ W, I xs W → Q .normal { a with defers := mark ++ a.defers } W)
    (hstop : ∀ c pre W, pre <+: xs → Ix c pre W → c.wpIn (wide r) n P Q { a with defers := mark ++ a.defers } W) :
    (Code.rangeFunc g ps assign body).wpIn (wide r) n P Q a w := by
  refine range_coreM hg eg hen hseq hK hO hps (fun s M W => M = O ∧ I s W) Ix (fun s x M a' W => M = O ∧ Ax s x a' W)
    (fun s M A B h _ k => ⟨h.1, hI s A B h.2 k⟩) hIx (fun s x M a' A B h _ k => ⟨h.1, hAx s x a' A B h.2 k⟩) ⟨rfl, h0⟩
    (fun pre x M W hx h _ hl => ?_) (fun pre x M a' W hx hr _ h => ?_) (fun M W h => hdone W h.2) hstop
  · obtain ⟨rfl, h⟩ := h
    refine wpIn_mono (hassign pre x W hx h hl) ?_
    rintro (_ | _ | _ | _ | _ | _) a' Wa hp
    all_goals first | exact hp.elim | skip
    exact ⟨hp.1, rfl, hp.2⟩
  · obtain ⟨rfl, h⟩ := h
    refine wpIn_mono (hbody pre x a' W hx hr h) ?_
    rintro (_ | _ | _ | _ | _ | _) a' Wa hp
    all_goals first | exact hp.elim | skip
    · exact ⟨hp.1, M, ⟨rfl, hp.2⟩, fun k hk => .inl hk⟩
    · exact hp
    · exact hp
    · exact hp

end Hp
end Go.Proofs.Ytffmfhpbhfnieab
