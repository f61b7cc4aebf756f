/-
  A range over an iterator that reads what rounds turn, and that may turn blocks of its own beside: its contract, and the law for the caller; the iterator may have captured variables.
-/
import Derived.Test.YtbbjfebdihepnaaGreatDoorH1
namespace Go.Proofs.YtbbjfebdihepnaaGreatDoor
open Go.RowKit
namespace Co
open Hp (Kept K No wide Grows)

/-- Blocks that an iterator may turn: such as were made since, and are not the caller's. -/
abbrev Off (N : Nat) (M : Nat → Prop) : Nat → Prop := fun k => N ≤ k ∧ ¬ M k

/-- The contract of an iterator: xs comes, one by one, until a round says no more; a round turns blocks of the caller's own alone (M), and keeps what the iterator reads (S). -/
def SeqS {α : Type} (P : Program) (gf : Nat) (ba cp : Array Value) (encs : α → Array Value) (xs : List α) (O : Nat → Prop) (S : (Nat → Prop) → World → Prop) (w : World) : Prop :=
  ∀ (n l : Nat) (J Jx : List α → (Nat → Prop) → World → Prop) (W : World), K w W → l < W.heap.size → (∀ k, O k → k < W.heap.size) →
    (∀ s M A B, J s M A → Kept (Off W.heap.size M) A B → J s M B) → (∀ s M A B, Jx s M A → Kept (Off W.heap.size M) A B → Jx s M B) → (∀ s M A, J s M A → S M A) →
    (∀ pre x M W1, pre ++ [x] <+: xs → J pre M W1 → YieldAt Fence.wide (n - 1) P l (encs x) W1 fun e W' =>
      (e = .returned (.bool true) ∧ ∃ M', J (pre ++ [x]) M' W' ∧ Kept M W1 W' ∧ Grows M M' W1) ∨ (e = .returned (.bool false) ∧ ∃ M', Jx (pre ++ [x]) M' W' ∧ Kept (fun k => M k ∨ k = l) W1 W' ∧ Grows M M' W1)) →
    J [] O W →
    CallsIn Fence.wide n P gf (ba ++ #[.func (.yield l) #[] #[]] ++ cp) W fun e W' => (∃ v, e = .returned v) ∧ ((∃ M, J xs M W') ∨ ∃ pre M, pre <+: xs ∧ Jx pre M W')

/-- How a round's body may be left. -/
def bodyEndS {α : Type} (M : Nat → Prop) (I : List α → (Nat → Prop) → World → Prop) (Ix : Code → List α → (Nat → Prop) → World → Prop) (xs : List α) (W : World) : Exit → Act → World → Prop
  | .normal, _, W' => Kept M W W' ∧ ∃ M', I xs M' W' ∧ Grows M M' W
  | .ret, _, W' => Kept M W W' ∧ ∃ M', Ix .ret xs M' W' ∧ Grows M M' W
  | .exit id, _, W' => Kept M W W' ∧ ∃ M', Ix (.exit id) xs M' W' ∧ Grows M M' W
  | .goto t, _, W' => Kept M W W' ∧ ∃ M', Ix (.goto t) xs M' W' ∧ Grows M M' W
  | .panic _, _, _ => False
  | .outgrown, _, _ => False

theorem range_S {α : Type} {P : Program} {r : Option Nat} {n : Nat} {g : Operand} {ps : Array Tmp} {assign body : Code} {Q : Exit → Act → World → Prop} {a : Act} {w w' : World} {mark : List Deferred}
    {gf : Nat} {ba cp : Array Value} (hg : a.eval g = .func (.func gf) ba cp) (eg : ∀ args w, (callFunc gf args).run P w = .ok (.enter gf args) w)
    (hen : ∀ fn, ∃ df, (Instr.enterLoop fn a.tmps ps assign body r).run P w = .ok (w'.heap.size, mark) (w'.alloc (.loop { state := .ready, pending := none, fn, tmps := a.tmps, params := ps, assign, body, defers := df })))
    {encs : α → Array Value} {xs : List α} {O : Nat → Prop} {S : (Nat → Prop) → World → Prop} {w0 : World} (hseq : SeqS P gf ba cp encs xs O S w0) (hK : K w0 w') (hO : ∀ k, O k → k < w'.heap.size) (hps : ∀ x, (encs x).size = ps.size)
    (I : List α → (Nat → Prop) → World → Prop) (Ix : Code → List α → (Nat → Prop) → World → Prop) (Ax : List α → α → (Nat → Prop) → Act → World → Prop)
    (hI : ∀ s M A B, I s M A → Kept (Off w'.heap.size M) A B → I s M B) (hIx : ∀ c s M A B, Ix c s M A → Kept (Off w'.heap.size M) A B → Ix c s M B) (hAx : ∀ s x M a' A B, Ax s x M a' A → ¬ M w'.heap.size → Kept (fun k => k = w'.heap.size) A B → Ax s x M a' B)
    (hS : ∀ s M A, I s M A → S M A)
    (h0 : I [] O w')
    (hassign : ∀ pre x M W, pre ++ [x] <+: xs → I pre M W → ¬ M w'.heap.size → w'.heap.size < W.heap.size →
      assign.wpIn (wide (some w'.heap.size)) (n - 1 - 1) P (Exit.then (fun a' W' => Kept M W W' ∧ Ax pre x M a' W') (fun _ _ _ => False)) { tmps := (ps.zip (encs x)).foldl (fun t (p, v) => t.setIfInBounds p v) a.tmps, defers := [] } W)
    (hbody : ∀ pre x M a' W, pre ++ [x] <+: xs → (∃ r, W.heap[w'.heap.size]? = some (.loop r)) → ¬ M w'.heap.size → Ax pre x M a' W → body.wpIn (wide (some w'.heap.size)) (n - 1 - 1) P (bodyEndS M I Ix (pre ++ [x]) W) a' W)
    (hdone : ∀ M W, I xs M W → Q .normal { a with defers := mark ++ a.defers } W)
    (hstop : ∀ c pre M W, pre <+: xs → Ix c pre M W → c.wpIn (wide r) n P Q { a with defers := mark ++ a.defers } W) :
    (Code.rangeFunc g ps assign body).wpIn (wide r) n P Q a w := by
  refine wpIn_rangeFunc fun fn _ => ?_
  obtain ⟨df, hen⟩ := hen fn
  generalize hl : w'.heap.size = l at *
  let rc : LoopState → Option Code → Loop := fun st pe => { state := st, pending := pe, fn, tmps := a.tmps, params := ps, assign, body, defers := df }
  refine ⟨l, mark, w'.alloc (.loop (rc .ready none)), { target := .fn (.func gf) cp, args := ba ++ #[.func (.yield l) #[] #[]] }, w'.alloc (.loop (rc .ready none)), gf, ba ++ #[.func (.yield l) #[] #[]] ++ cp, w'.alloc (.loop (rc .ready none)), hen, ?_, fun _ _ => trivial, ?_, fun h => (by cases h), ?_⟩
  · simp only [resolve, hg]
    simp [go_sem]
  · simp [invoke, go_sem, eg]
  have hW1 : (w'.alloc (.loop (rc .ready none))).heap[l]? = some (.loop (rc .ready none)) := by rw [← hl]; exact World.alloc_heap_new w' _
  have offl : ∀ (M : Nat → Prop) A B, ¬ M l → Kept (fun k => k = l) A B → Kept (Off l M) A B := fun M A B hM k => k.mono (fun j _ hj => by subst hj; exact ⟨Nat.le_refl _, hM⟩)
  -- a round on a ready record, from whatever world
  have one : ∀ pre x M W, pre ++ [x] <+: xs → I pre M W → ¬ M l → W.heap[l]? = some (.loop (rc .ready none)) → YieldAt Fence.wide (n - 1 - 1) P l (encs x) W fun e W' =>
      (e = .returned (.bool true) ∧ ∃ M', (I (pre ++ [x]) M' W' ∧ ¬ M' l ∧ W'.heap[l]? = some (.loop (rc .ready none))) ∧ Kept M W W' ∧ Grows M M' W) ∨ (e = .returned (.bool false) ∧ ∃ M' : Nat → Prop, (∃ c, Ix c (pre ++ [x]) M' W' ∧ ¬ M' l ∧ W'.heap[l]? = some (.loop (rc .done (some c)))) ∧ Kept (fun k => M k ∨ k = l) W W' ∧ Grows M M' W) := by
    intro pre x M W hx hi hM hr
    have hlt := (Array.getElem?_eq_some_iff.1 hr).1
    refine ⟨fn, _, assign, body, run_yield (args := encs x) hr (hps x), roundIn_of_wpIn trivial (wpIn_mono (hassign pre x M W hx hi hM hlt) ?_)⟩
    rintro (_ | _ | _ | _ | _ | _) a' Wa hp
    all_goals first | exact hp.elim | skip
    obtain ⟨hka, hax⟩ := hp
    have hra := hka.block hr hM
    have hlta := (Array.getElem?_eq_some_iff.1 hra).1
    refine ⟨_, run_beginRound hra rfl, wpIn_mono (hbody pre x M a' _ hx ⟨_, World.putObj_heap_same hlta⟩ hM (hAx _ _ _ _ _ _ hax hM ((Kept.refl _ Wa).putObj _ (.inl rfl)))) ?_⟩
    have busy : ∀ W3, Kept M (Wa.putObj l (.loop { rc .ready none with state := .busy })) W3 → W3.heap[l]? = some (.loop { rc .ready none with state := .busy }) := fun W3 h3 => h3.block (World.putObj_heap_same hlta) hM
    have nol : ∀ M', Grows M M' (Wa.putObj l (.loop { rc .ready none with state := .busy })) → ¬ M' l := fun M' hgr h => by
      rcases hgr l h with h5 | h5
      · exact hM h5
      · rw [World.putObj_size] at h5
        omega
    have gro : ∀ M', Grows M M' (Wa.putObj l (.loop { rc .ready none with state := .busy })) → Grows M M' W := fun M' hgr k hk => by
      rcases hgr k hk with h5 | h5
      · exact .inl h5
      · rw [World.putObj_size] at h5
        exact .inr (Nat.le_trans hka.size h5)
    have off : ∀ c W3, Kept M (Wa.putObj l (.loop { rc .ready none with state := .busy })) W3 → (∃ M', Ix c (pre ++ [x]) M' W3 ∧ Grows M M' (Wa.putObj l (.loop { rc .ready none with state := .busy }))) → ∃ v w'', (Instr.endRound l (some c)).run P W3 = .ok v w'' ∧ ((Ending.returned v = .returned (.bool true) ∧ ∃ M', (I (pre ++ [x]) M' w'' ∧ ¬ M' l ∧ w''.heap[l]? = some (.loop (rc .ready none))) ∧ Kept M W w'' ∧ Grows M M' W) ∨ (Ending.returned v = .returned (.bool false) ∧ ∃ M' : Nat → Prop, (∃ c, Ix c (pre ++ [x]) M' w'' ∧ ¬ M' l ∧ w''.heap[l]? = some (.loop (rc .done (some c)))) ∧ Kept (fun k => M k ∨ k = l) W w'' ∧ Grows M M' W)) := fun c W3 h3 hx3 => by
      have h4 := busy W3 h3
      obtain ⟨M', hx3, hgr⟩ := hx3
      have hM' := nol M' hgr
      exact ⟨_, _, run_endRound (some c) h4, .inr ⟨rfl, M', ⟨c, hIx _ _ _ _ _ hx3 (offl _ _ _ hM' ((Kept.refl _ W3).putObj _ (.inl rfl))), hM', World.putObj_heap_same (Array.getElem?_eq_some_iff.1 h4).1⟩,
        ((((hka.mono (fun _ _ h => .inl h)).putObj _ (.inl (.inr rfl))).trans (h3.mono (fun _ _ h => .inl h))).putObj _ (.inl (.inr rfl))), gro M' hgr⟩⟩
    rintro (_ | _ | _ | _ | _ | _) a3 W3 hp
    all_goals first | exact hp.elim | skip
    · obtain ⟨h3, M', hi3, hgr⟩ := hp
      have h4 := busy W3 h3
      have hlt4 := (Array.getElem?_eq_some_iff.1 h4).1
      have hM' := nol M' hgr
      refine ⟨_, _, run_endRound none h4, .inl ⟨rfl, M', ⟨hI _ _ _ _ hi3 (offl _ _ _ hM' ((Kept.refl _ W3).putObj _ (.inl rfl))), hM', World.putObj_heap_same hlt4⟩, ?_, gro M' hgr⟩⟩
      refine ⟨h3.os.trans hka.os, h3.tape.trans hka.tape, h3.output.trans hka.output, ?_, fun k hk hn => ?_⟩
      · rw [World.putObj_size]
        have := h3.size
        rw [World.putObj_size] at this
        exact Nat.le_trans hka.size this
      · by_cases e : k = l
        · subst e
          rw [World.putObj_heap_same hlt4, hr]
          rfl
        · rw [World.putObj_heap_other e, h3.same k (by rw [World.putObj_size]; exact Nat.lt_of_lt_of_le hk hka.size) hn, World.putObj_heap_other e]
          exact hka.same k hk hn
    · exact off _ _ hp.1 hp.2
    · exact off _ _ hp.1 hp.2
    · exact off _ _ hp.1 hp.2
  have hsz1 : (w'.alloc (.loop (rc .ready none))).heap.size = l + 1 := by simp [hl]
  have up : ∀ (M : Nat → Prop) A B, Kept (Off (w'.alloc (.loop (rc .ready none))).heap.size M) A B → Kept (Off l M) A B := fun M A B k => k.mono (fun j _ hj => ⟨by have := hj.1; omega, hj.2⟩)
  have nl : ∀ (M : Nat → Prop), ¬ Off (w'.alloc (.loop (rc .ready none))).heap.size M l := fun M h => by have := h.1; omega
  refine (hseq (n - 1) l (fun pre M W => I pre M W ∧ ¬ M l ∧ W.heap[l]? = some (.loop (rc .ready none))) (fun pre M W => ∃ c, Ix c pre M W ∧ ¬ M l ∧ W.heap[l]? = some (.loop (rc .done (some c)))) _ (hK.alloc _) (by omega) (fun k hk => by have := hO k hk; omega)
    (fun s M A B h k => ⟨hI s M A B h.1 (up _ _ _ k), h.2.1, k.block h.2.2 (nl M)⟩) (fun s M A B h k => by obtain ⟨c, h1, h2, h3⟩ := h; exact ⟨c, hIx c s M A B h1 (up _ _ _ k), h2, k.block h3 (nl M)⟩)
    (fun s M A h => hS s M A h.1)
    (fun pre x M W hx h => one pre x M W hx h.1 h.2.1 h.2.2) ⟨hI _ _ _ _ h0 ((K.refl w').kept _ |>.alloc _), fun h => by have := hO _ h; omega, hW1⟩).mono ?_
  rintro e W2 ⟨⟨v, rfl⟩, (⟨M, hi, hM, hr⟩ | ⟨pre, M, hpre, c, hi, hM, hr⟩)⟩
  · exact ⟨none, _, run_endLoop hr (by simp [rc]), hdone M _ (hI _ _ _ _ hi (offl _ _ _ hM ((Kept.refl _ W2).putObj _ (.inl rfl))))⟩
  · exact ⟨some c, _, run_endLoop hr (by simp [rc]), hstop c pre M _ hpre (hIx _ _ _ _ _ hi (offl _ _ _ hM ((Kept.refl _ W2).putObj _ (.inl rfl))))⟩

end Co
end Go.Proofs.YtbbjfebdihepnaaGreatDoor
