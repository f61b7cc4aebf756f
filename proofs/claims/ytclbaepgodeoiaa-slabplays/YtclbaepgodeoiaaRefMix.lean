/-
  Package slab's arena and the reference's, side by side, and what one call on each leaves.
-/
import Derived.Test.YtclbaepgodeoiaaRefMove
namespace Go.Proofs.Ytclbaepgodeoiaa
open Go.RowKit Go.Maps
namespace Sl
variable {w : World} {bs bm br : Nat} {q : Int} {pg : List (Int × Nat)} {a : Option Addr} {cap : Nat} {K : List Int} {W V : Int → Int}

/-- The numbers of the pages. -/
def nums (pg : List (Int × Nat)) : List Int := pg.map fun p => p.1

theorem nums_length (pg : List (Int × Nat)) : (nums pg).length = pg.length := by simp [nums]
theorem nums_rise (h : Rising pg) : (nums pg).Pairwise (fun x y => x < y) := by
  unfold nums
  rw [List.pairwise_map]
  exact h
theorem mem_nums {x : Int} : x ∈ nums pg ↔ (blk pg x).isSome = true := by
  rw [Option.isSome_iff_ne_none, Ne, blk_none_iff]
  simp only [nums, List.mem_map]
  constructor
  · rintro ⟨p, hp, e⟩ h
    exact h p hp e
  · intro h
    refine Classical.byContradiction fun hn => h fun p hp e => hn ⟨p, hp, e⟩

theorem rdE_nums (x : Int) : rdE (nums pg) x = readE pg x := by
  unfold rdE readE
  simp only [mem_nums]
theorem rdV_nums (x : Int) : rdV (nums pg) W x = readV pg W x := by
  unfold rdV readV
  rw [rdE_nums]
theorem rcE_nums (p : Int) : rcE q (nums pg) p = claimE q pg p := by
  unfold rcE claimE
  simp only [mem_nums, nums_length]
theorem rgE_nums (n : Int) : rgE q (nums pg).length n = grantE q pg n := by
  unfold rgE grantE
  rw [nums_length]
theorem free_nums (f n : Int) : freeK (nums pg) f n ↔ freeRun pg f n := by
  constructor
  · intro h j h1 h2
    cases hb : blk pg j with
    | none => rfl
    | some b => exact absurd ⟨h1, h2⟩ (h j (mem_nums.2 (by rw [hb]; rfl)))
  · intro h N hN hr
    have := mem_nums.1 hN
    rw [h N hr.1 hr.2] at this
    cases this

/-- Both, apart. -/
structure Mix (w : World) (bs bm br : Nat) (q : Int) (pg : List (Int × Nat)) (W : Int → Int) (a : Option Addr) (cap : Nat) (K : List Int) (V : Int → Int) : Prop where
  ar : Arena w bs bm q pg W
  rf : Ref w br q a cap K V
  nb : ¬ foot bs bm pg br
  nr : ∀ k, (Value.slice a K.length cap).ownBlock = some k → ¬ foot bs bm pg k

/-- What calls on both may do. -/
structure PStep (bs bm br : Nat) (pg pg' : List (Int × Nat)) (w w' : World) : Prop where
  os : w'.os = w.os
  tape : w'.tape = w.tape
  output : w'.output = w.output
  size : w.heap.size ≤ w'.heap.size
  kept : ∀ k, k < w.heap.size → ¬ foot bs bm pg k → k ≠ br → w'.heap[k]? = w.heap[k]?
  inn : ∀ k, foot bs bm pg' k → foot bs bm pg k ∨ w.heap.size ≤ k

variable {pg' pg'' : List (Int × Nat)} {W' : Int → Int} {w' w'' : World}

theorem PStep.of_step (h : Step bs bm pg pg' w w') : PStep bs bm br pg pg' w w' := ⟨h.os, h.tape, h.output, h.size, fun k hk hf _ => h.kept k hk hf, h.inn⟩
theorem PStep.of_ref (h : RStep br w w') : PStep bs bm br pg pg w w' := ⟨h.os, h.tape, h.output, h.size, fun k hk _ hb => h.kept k hk hb, fun _ hk => Or.inl hk⟩
theorem PStep.of_below (h : Below w.heap.size w w') : PStep bs bm br pg pg w w' := PStep.of_ref (RStep.of_below h)
theorem PStep.trans (h : PStep bs bm br pg pg' w w') (k : PStep bs bm br pg' pg'' w' w'') : PStep bs bm br pg pg'' w w'' := by
  refine ⟨k.os.trans h.os, k.tape.trans h.tape, k.output.trans h.output, Nat.le_trans h.size k.size, fun j hj hf hb => ?_, fun j hj => ?_⟩
  · have h1 : ¬ foot bs bm pg' j := fun hf' => by
      rcases h.inn j hf' with h2 | h2
      · exact hf h2
      · omega
    exact (k.kept j (Nat.lt_of_lt_of_le hj h.size) h1 hb).trans (h.kept j hj hf hb)
  · rcases k.inn j hj with h1 | h1
    · exact h.inn j h1
    · exact Or.inr (Nat.le_trans h.size h1)

theorem Mix.slab (h : Mix w bs bm br q pg W a cap K V) (ha : Arena w' bs bm q pg' W') (hs : Step bs bm pg pg' w w') : Mix w' bs bm br q pg' W' a cap K V := by
  have out : ∀ k, k < w.heap.size → ¬ foot bs bm pg k → ¬ foot bs bm pg' k := fun k hk hf hf' => by
    rcases hs.inn k hf' with h1 | h1
    · exact hf h1
    · omega
  exact ⟨ha, h.rf.stays (hs.kept br h.rf.lt h.nb) (fun k hk => hs.kept k (h.rf.own_lt hk) (h.nr k hk)), out br h.rf.lt h.nb, fun k hk => out k (h.rf.own_lt hk) (h.nr k hk)⟩

theorem Mix.ref {a' : Option Addr} {cap' : Nat} {K' : List Int} {V' : Int → Int} (h : Mix w bs bm br q pg W a cap K V) (hr : Ref w' br q a' cap' K' V') (hs : RStep br w w') (hown : ∀ k, (Value.slice a' K'.length cap').ownBlock = some k → w.heap.size ≤ k ∨ (Value.slice a K.length cap).ownBlock = some k) : Mix w' bs bm br q pg W a' cap' K' V' := by
  refine ⟨h.ar.stays fun k hk => hs.kept k (h.ar.foot_lt hk) (fun e => h.nb (e ▸ hk)), hr, h.nb, fun k hk hf => ?_⟩
  rcases hown k hk with h1 | h1
  · have := h.ar.foot_lt hf
    omega
  · exact h.nr k h1 hf

theorem Mix.below (h : Mix w bs bm br q pg W a cap K V) (hb : Below w.heap.size w w') : Mix w' bs bm br q pg W a cap K V :=
  h.ref (h.rf.below hb) (RStep.of_below hb) (fun _ hk => Or.inr hk)

/-- With a call's cells beside them. -/
structure MixO (w : World) (bs bm br : Nat) (q : Int) (ob : Nat) (o : Opv) (pg : List (Int × Nat)) (W : Int → Int) (a : Option Addr) (cap : Nat) (K : List Int) (V : Int → Int) : Prop where
  mix : Mix w bs bm br q pg W a cap K V
  blk : w.heap[ob]? = some (opBlk o)
  no : ¬ foot bs bm pg ob
  ne : ob ≠ br

variable {ob : Nat} {o : Opv}

theorem op_cells (h : w.heap[ob]? = some (opBlk o)) : OpAt w ob 0 o := by
  constructor <;> simp [World.cell?, h, opBlk]

/-- The cells that a call's fields are read at. -/
def opC (w : World) (ob : Nat) (o : Opv) : Prop := w.cell? ⟨ob, 1, none⟩ = some (.int .i64 o.a) ∧ w.cell? ⟨ob, 2, none⟩ = some (.int .i64 o.b) ∧ w.cell? ⟨ob, 3, none⟩ = some (.int .i64 o.n) ∧ w.cell? ⟨ob, 4, none⟩ = some (.int .u64 o.x)
theorem op_c (h : w.heap[ob]? = some (opBlk o)) : opC w ob o := by
  refine ⟨?_, ?_, ?_, ?_⟩ <;> simp [World.cell?, h, opBlk]

theorem MixO.slab (h : MixO w bs bm br q ob o pg W a cap K V) (ha : Arena w' bs bm q pg' W') (hs : Step bs bm pg pg' w w') : MixO w' bs bm br q ob o pg' W' a cap K V :=
  ⟨h.mix.slab ha hs, (hs.kept ob (lt_of_get h.blk) h.no).trans h.blk, fun hf => by
    rcases hs.inn ob hf with h1 | h1
    · exact h.no h1
    · have := lt_of_get h.blk
      omega, h.ne⟩

theorem MixO.ref {a' : Option Addr} {cap' : Nat} {K' : List Int} {V' : Int → Int} (h : MixO w bs bm br q ob o pg W a cap K V) (hr : Ref w' br q a' cap' K' V') (hs : RStep br w w') (hown : ∀ k, (Value.slice a' K'.length cap').ownBlock = some k → w.heap.size ≤ k ∨ (Value.slice a K.length cap).ownBlock = some k) : MixO w' bs bm br q ob o pg W a' cap' K' V' :=
  ⟨h.mix.ref hr hs hown, (hs.kept ob (lt_of_get h.blk) h.ne).trans h.blk, h.no, h.ne⟩

theorem MixO.below (h : MixO w bs bm br q ob o pg W a cap K V) (hb : Below w.heap.size w w') : MixO w' bs bm br q ob o pg W a cap K V :=
  h.ref (h.mix.rf.below hb) (RStep.of_below hb) (fun _ hk => Or.inr hk)

theorem MixO.drew (h : MixO w bs bm br q ob o pg W a cap K V) : MixO w.drew bs bm br q ob o pg W a cap K V := h.below (Below.refl _ _).drew

/-- Behind a call on the one, on the other, on both. -/
def SPost (bs bm br : Nat) (q : Int) (ob : Nat) (o : Opv) (pg : List (Int × Nat)) (a : Option Addr) (cap : Nat) (K : List Int) (V : Int → Int) (M : Int → Prop) (Vn : Int → Int) (w w' : World) : Prop :=
  ∃ pg', (∀ x, (Sl.blk pg' x).isSome = true ↔ M x) ∧ MixO w' bs bm br q ob o pg' Vn a cap K V ∧ PStep bs bm br pg pg' w w'
def RPost (bs bm br : Nat) (q : Int) (ob : Nat) (o : Opv) (pg : List (Int × Nat)) (W : Int → Int) (M : Int → Prop) (Vn : Int → Int) (w w' : World) : Prop :=
  ∃ a' cap' K', (∀ x, x ∈ K' ↔ M x) ∧ MixO w' bs bm br q ob o pg W a' cap' K' Vn ∧ PStep bs bm br pg pg w w'
def Fin (bs bm br : Nat) (q : Int) (pg : List (Int × Nat)) (w w' : World) : Prop :=
  ∃ pg' W' a' cap', Mix w' bs bm br q pg' W' a' cap' (nums pg') W' ∧ PStep bs bm br pg pg' w w'

variable {M : Int → Prop} {Vn : Int → Int}

theorem SPost.drew (h : SPost bs bm br q ob o pg a cap K V M Vn w w') : SPost bs bm br q ob o pg a cap K V M Vn w w'.drew := by
  obtain ⟨pg', h1, h2, h3⟩ := h
  exact ⟨pg', h1, h2.drew, h3.trans (PStep.of_below (Below.refl _ _).drew)⟩
theorem RPost.drew (h : RPost bs bm br q ob o pg W M Vn w w') : RPost bs bm br q ob o pg W M Vn w w'.drew := by
  obtain ⟨a', cap', K', h1, h2, h3⟩ := h
  exact ⟨a', cap', K', h1, h2.drew, h3.trans (PStep.of_below (Below.refl _ _).drew)⟩
theorem Fin.below (h : Fin bs bm br q pg w w') (hb : Below w'.heap.size w' w'') : Fin bs bm br q pg w w'' := by
  obtain ⟨pg', W', a', cap', h1, h2⟩ := h
  exact ⟨pg', W', a', cap', h1.below hb, h2.trans (PStep.of_below hb)⟩
theorem Fin.drew (h : Fin bs bm br q pg w w') : Fin bs bm br q pg w w'.drew := h.below (Below.refl _ _).drew

theorem meet {a' : Option Addr} {cap' : Nat} {K' : List Int} (h : MixO w' bs bm br q ob o pg' Vn a' cap' K' Vn) (h1 : ∀ x, (Sl.blk pg' x).isSome = true ↔ M x) (h2 : ∀ x, x ∈ K' ↔ M x) (hs : PStep bs bm br pg pg' w w') : Fin bs bm br q pg w w' := by
  have hK : K' = nums pg' := rise_ext h.mix.rf.rise (nums_rise h.mix.ar.rise) (fun x => by rw [mem_nums, h1, h2])
  subst hK
  exact ⟨pg', Vn, a', cap', h.mix, hs⟩

/-- The contracts of a pair of calls, in either order. -/
structure Pairs (bs bm br : Nat) (q : Int) (ob : Nat) (o : Opv) (pg : List (Int × Nat)) (W : Int → Int) (F G : Nat) (xs ys : Array Value) (r : Value) (M : Int → Prop) (Vn : Int → Int) : Prop where
  s : ∀ w a cap K V, MixO w bs bm br q ob o pg W a cap K V → Calls Try.prog F xs w fun e w' => e = .returned r ∧ SPost bs bm br q ob o pg a cap K V M Vn w w'
  r : ∀ w a cap pg' W', MixO w bs bm br q ob o pg' W' a cap (nums pg) W → Calls Try.prog G ys w fun e w' => e = .returned r ∧ RPost bs bm br q ob o pg' W' M Vn w w'

section
variable {F G : Nat} {xs ys : Array Value} {r : Value}

theorem Pairs.s1 (hp : Pairs bs bm br q ob o pg W F G xs ys r M Vn) (h : MixO w bs bm br q ob o pg W a cap (nums pg) W) : Calls Try.prog F xs w fun e w' => e = .returned r ∧ SPost bs bm br q ob o pg a cap (nums pg) W M Vn w w' ∧ (w'.cell? ⟨ob, 1, none⟩ = some (.int .i64 o.a) ∧ w'.cell? ⟨ob, 2, none⟩ = some (.int .i64 o.b) ∧ w'.cell? ⟨ob, 3, none⟩ = some (.int .i64 o.n) ∧ w'.cell? ⟨ob, 4, none⟩ = some (.int .u64 o.x)) := by
  refine (hp.s w a cap _ _ h).mono ?_
  rintro e w' ⟨he, pg', h1, h2, h3⟩
  exact ⟨he, ⟨pg', h1, h2, h3⟩, op_c h2.blk⟩

theorem Pairs.r1 (hp : Pairs bs bm br q ob o pg W F G xs ys r M Vn) (h : MixO w bs bm br q ob o pg W a cap (nums pg) W) : Calls Try.prog G ys w fun e w' => e = .returned r ∧ RPost bs bm br q ob o pg W M Vn w w' ∧ (w'.cell? ⟨ob, 1, none⟩ = some (.int .i64 o.a) ∧ w'.cell? ⟨ob, 2, none⟩ = some (.int .i64 o.b) ∧ w'.cell? ⟨ob, 3, none⟩ = some (.int .i64 o.n) ∧ w'.cell? ⟨ob, 4, none⟩ = some (.int .u64 o.x)) := by
  refine (hp.r w a cap _ _ h).mono ?_
  rintro e w' ⟨he, a', cap', K', h1, h2, h3⟩
  exact ⟨he, ⟨a', cap', K', h1, h2, h3⟩, op_c h2.blk⟩

theorem Pairs.s2 (hp : Pairs bs bm br q ob o pg W F G xs ys r M Vn) (h : RPost bs bm br q ob o pg W M Vn w w') : Calls Try.prog F xs w' fun e w'' => e = .returned r ∧ Fin bs bm br q pg w w'' ∧ (w''.cell? ⟨ob, 1, none⟩ = some (.int .i64 o.a) ∧ w''.cell? ⟨ob, 2, none⟩ = some (.int .i64 o.b) ∧ w''.cell? ⟨ob, 3, none⟩ = some (.int .i64 o.n) ∧ w''.cell? ⟨ob, 4, none⟩ = some (.int .u64 o.x)) := by
  obtain ⟨a', cap', K', h1, h2, h3⟩ := h
  refine (hp.s w' a' cap' _ _ h2).mono ?_
  rintro e w'' ⟨he, pg', k1, k2, k3⟩
  exact ⟨he, meet k2 k1 h1 (h3.trans k3), op_c k2.blk⟩

theorem Pairs.r2 (hp : Pairs bs bm br q ob o pg W F G xs ys r M Vn) (h : SPost bs bm br q ob o pg a cap (nums pg) W M Vn w w') : Calls Try.prog G ys w' fun e w'' => e = .returned r ∧ Fin bs bm br q pg w w'' ∧ (w''.cell? ⟨ob, 1, none⟩ = some (.int .i64 o.a) ∧ w''.cell? ⟨ob, 2, none⟩ = some (.int .i64 o.b) ∧ w''.cell? ⟨ob, 3, none⟩ = some (.int .i64 o.n) ∧ w''.cell? ⟨ob, 4, none⟩ = some (.int .u64 o.x)) := by
  obtain ⟨pg', h1, h2, h3⟩ := h
  refine (hp.r w' a cap _ _ h2).mono ?_
  rintro e w'' ⟨he, a', cap', K', k1, k2, k3⟩
  exact ⟨he, meet k2 h1 k1 (h3.trans k3), op_c k2.blk⟩

end

end Sl
end Go.Proofs.Ytclbaepgodeoiaa
