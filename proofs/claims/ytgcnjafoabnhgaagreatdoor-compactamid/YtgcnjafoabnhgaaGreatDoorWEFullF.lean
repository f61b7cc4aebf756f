/-
  StoreFull: what makes and drops do to the slots and the pages; a row of handles beside a store.
-/
import Derived.Test.YtgcnjafoabnhgaaGreatDoorE7
import Derived.Test.YtgcnjafoabnhgaaGreatDoorK1
namespace Go.Proofs.YtgcnjafoabnhgaaGreatDoor
open Go.RowKit Go.Maps
namespace So
open Hp (Kept K No Pg BlR Bl Wl Same SameBut allocL dropL findB roomI granted)
open Hd (U64 findL openL nm)

section
variable {L L' : List Pg} {T T' : List Hd.Sl} {W : Int → Int} {q m z : Int}

/-- A block of few words takes a page at most. -/
theorem alloc_few (l : Wl L) {x a er : Int} (hx : 1 ≤ x ∧ x ≤ 62) (hq : (granted L + 1) * 64 ≤ q) (e : allocL q L x = (a, er, L')) : er = 0 ∧ granted L' ≤ granted L + 1 := by
  have hx' : 1 ≤ x ∧ x ≤ 4000 := by omega
  unfold allocL at e
  rw [if_pos hx'] at e
  cases hs : Cl.smaI x with
  | true =>
    rw [hs] at e
    simp only [if_true] at e
    cases hf : Hp.freeB L (Cl.clsI x) with
    | some ps =>
      obtain ⟨p, s⟩ := ps
      rw [hf] at e
      obtain ⟨hp, _⟩ := Hp.freeB_some hf
      simp only [Prod.mk.injEq] at e
      obtain ⟨_, rfl, rfl⟩ := e
      refine ⟨rfl, ?_⟩
      rw [Hp.granted_upd (fun r hr hn => by rw [l.inj hr hp hn]; rfl)]
      omega
    | none =>
      rw [hf] at e
      simp only [] at e
      rw [if_pos hq] at e
      simp only [Prod.mk.injEq] at e
      obtain ⟨_, rfl, rfl⟩ := e
      refine ⟨rfl, ?_⟩
      rw [Hp.granted_add]
      exact Int.le_refl _
  | false =>
    rw [hs] at e
    have hpg : Cl.pagI x = 1 := by
      have : Cl.pagI x = (x + 65) / 64 := if_pos hx'
      omega
    simp only [Bool.false_eq_true, if_false] at e
    rw [hpg, if_pos hq] at e
    simp only [Prod.mk.injEq] at e
    obtain ⟨_, rfl, rfl⟩ := e
    refine ⟨rfl, ?_⟩
    rw [Hp.granted_add]
    show _ + Cl.pagI x ≤ _
    omega

theorem del_granted (n : Int) : ∀ {L : List Pg}, (∀ p ∈ L, 1 ≤ p.span) → granted (Hp.delL L n) ≤ granted L
  | [], _ => Int.le_refl _
  | p :: L, h => by
    have ih := del_granted n (L := L) (fun r hr => h r (by simp [hr]))
    have hp := h p (by simp)
    unfold Hp.delL granted at *
    rw [List.filter_cons]
    split
    · simp only [List.map_cons, List.sum_cons]
      omega
    · simp only [List.map_cons, List.sum_cons]
      omega
theorem drop_granted (l : Wl L) {p : Pg} (hp : p ∈ L) (k : Int) : granted (dropL L p k) ≤ granted L := by
  have h1 : ∀ r ∈ L, 1 ≤ r.span := fun r hr => (l.ent r hr).span.1
  unfold dropL
  split
  · exact del_granted _ h1
  · split
    · exact del_granted _ h1
    · rw [Hp.granted_upd (fun r hr hn => by rw [l.inj hr hp hn]; rfl)]
      exact Int.le_refl _
theorem granted_pos (l : Wl L) : 0 ≤ granted L := by
  have := len_granted L (fun p hp => (l.ent p hp).span.1)
  omega

/-- How many slots are closed. -/
def cl (T : List Hd.Sl) : Nat := T.countP fun s => !s.o
theorem cl_opens (T : List Hd.Sl) : (T.filter fun s => s.o).length + cl T = T.length := by
  unfold cl
  rw [← List.countP_eq_length_filter]
  have := List.length_eq_countP_add_countP (l := T) (fun s : Hd.Sl => s.o)
  have e : T.countP (fun s => !s.o) = T.countP (fun a => decide ¬ a.o = true) := by
    congr 1
    funext s
    cases s.o <;> rfl
  rw [e]
  exact this.symm
theorem Rec.len (r : Rec L W T) (l : Wl L) (hl : T.length ≤ 65536) : (Hp.liveL L).length = (T.filter fun s => s.o).length := by
  have h := r.aud l hl
  unfold audS at h
  split at h
  · next e =>
    rw [Hd.liveL, opens_len] at e
    omega
  · cases h

theorem cl_close {i : Nat} {s : Hd.Sl} (hs : T[i]? = some s) (so : s.o = true) (g : Int) : cl (T.set i ⟨false, g, 0⟩) = cl T + 1 := by
  have hl := (List.getElem?_eq_some_iff.1 hs).1
  have he := (List.getElem?_eq_some_iff.1 hs).2
  unfold cl
  rw [List.countP_set hl]
  simp [he, so]
theorem cl_open {i : Nat} {s : Hd.Sl} (hs : T[i]? = some s) (so : s.o = false) (g a : Int) : cl (T.set i ⟨true, g, a⟩) + 1 = cl T := by
  have hl := (List.getElem?_eq_some_iff.1 hs).1
  have he := (List.getElem?_eq_some_iff.1 hs).2
  have hp : 0 < T.countP fun s => !s.o := List.countP_pos_iff.2 ⟨s, List.mem_of_getElem? hs, by simp [so]⟩
  unfold cl
  rw [List.countP_set hl]
  simp [he, so]
  omega
theorem cl_zero (h : cl T = 0) : ∀ s ∈ T, s.o = true := fun s hs => by
  unfold cl at h
  have := List.countP_eq_zero.1 h s hs
  simpa using this

theorem full_of (h : cl T = 0) (hm : m ≤ (T.length : Int)) : fullB m z T = true := by
  unfold fullB
  rw [decide_eq_true hm, Bool.true_and, List.all_eq_true]
  intro s hs
  simp [Hd.fr, cl_zero h s hs]

/-- A closed slot is opened. -/
theorem open_closed (h : 0 < cl T) (hg : ∀ s ∈ T, s.g ≠ z) {a : Int} (a0 : 0 ≤ a) : ∃ (i : Nat) (s : Hd.Sl), T[i]? = some s ∧ s.o = false ∧ openL m z T a = (nm (i + 1) (s.g + 1), 0, T.set i ⟨true, s.g + 1, a⟩) := by
  cases hf : Hd.freeAt z T with
  | none =>
    exfalso
    obtain ⟨s, hs, so⟩ := List.countP_pos_iff.1 h
    have := Hd.freeAt_none.1 hf s hs
    simp only [Bool.not_eq_true'] at so
    simp [Hd.fr, so, hg s hs] at this
  | some i =>
    obtain ⟨s, hs, hfr, _⟩ := Hd.freeAt_some hf
    refine ⟨i, s, hs, ?_, Hd.openL_free a0 hf hs⟩
    simp [Hd.fr] at hfr
    exact hfr.1
theorem open_next (h : cl T = 0) (hm : (T.length : Int) < m) {a : Int} (a0 : 0 ≤ a) : openL m z T a = (nm (T.length + 1) 1, 0, T ++ [⟨true, 1, a⟩]) :=
  Hd.openL_new a0 (Hd.freeAt_none.2 fun s hs => by simp [Hd.fr, cl_zero h s hs]) hm
end

variable {w0 w w' : World} {A : Ad} {pg pg' : List (Int × Nat)} {W : Int → Int} {L : List Pg} {v v' vl u : Value} {T : List Hd.Sl} {hs : List Int}

/-- A row of handles beside a store. -/
structure Hr (w0 w : World) (A : Ad) (pg : List (Int × Nat)) (v vl : Value) (hs : List Int) : Prop where
  rl : w.ownsRow w0.heap.size 43 1 vl hs.length (hs.map Hd.encU)
  ap : ∀ b, some b = vl.ownBlock → ¬ foot A pg v b ∧ b ≠ A.bh ∧ b ≠ A.st
theorem Hr.step (h : Hr w0 w A pg v vl hs) (s : Stp A pg pg' v v' w w') : Hr w0 w' A pg' v' vl hs :=
  ⟨Hd.ownsRow_kept h.rl s.k (fun g hg => (h.ap g hg).1), fun b hb => ⟨s.off (Hd.own_lt h.rl hb).2 (h.ap b hb).1, (h.ap b hb).2⟩⟩
theorem Hr.keep (h : Hr w0 w A pg v vl hs) (k : K w w') : Hr w0 w' A pg v vl hs := h.step (Stp.ofK k)
theorem Hr.app {o : Obj} (h : Hr w0 w A pg v vl hs) (rn : Rn w0 w A pg W L v T) (z0 : 0 < w0.heap.size) {x : Int} (hown : w'.ownsRow w0.heap.size 43 1 u (hs.length + 1) (hs.map Hd.encU ++ [Hd.encU x])) (hg : (w.alloc o).grownBy w' vl.ownBlock) (hat : u.ownBlock = vl.ownBlock ∨ u.ownBlock = some (w.alloc o).heap.size) :
    Hr w0 w' A pg v u (hs ++ [x]) ∧ Rn w0 w' A pg W L v T := by
  have hsz := hg.size
  simp at hsz
  have k : Kept (fun k => some k = vl.ownBlock) w w' := ⟨hg.os, hg.tape, hg.output, by omega, fun j hj hn => by rw [hg.block j (by simp; omega) hn, Below.heap_alloc w o j hj]⟩
  have h1 : A.bh < w.heap.size := Hp.lt_of_cell rn.s.b.hp.hw.c0
  have h2 := rn.s.b.lt
  refine ⟨⟨by rw [List.length_append, List.map_append]; exact hown, fun b hb => ?_⟩, ⟨⟨rn.s.b.kept k (fun j hj => ⟨(h.ap j hj).1, (h.ap j hj).2.1, by have := (Hd.own_lt h.rl hj).1; omega, (h.ap j hj).2.2⟩), rn.s.r⟩, ?_⟩⟩
  · rcases hat with e | e
    · exact h.ap b (by rw [hb, e])
    · rw [e] at hb
      have : b = (w.alloc o).heap.size := Option.some.inj hb
      simp at this
      exact ⟨fun hf => by have := rn.s.b.flt hf; omega, by omega, by omega⟩
  · exact ⟨k.os.trans rn.k.os, k.tape.trans rn.k.tape, k.output.trans rn.k.output, Nat.le_trans rn.k.size k.size, fun j hj hn => (k.same j (Nat.lt_of_lt_of_le hj rn.k.size) (fun hx => by have := (Hd.own_lt h.rl hx).1; omega)).trans (rn.k.same j hj hn)⟩

/-- Make where no slot is free. -/
theorem Rn.makeFull (h : Rn w0 w A pg W L v T) (n : Int) (n0 : 0 ≤ n) (n1 : n ≤ 3998) (hfu : fullB A.m A.z T = true) {a : Int} {L' : List Pg} (ea : allocL A.q L (2 + n) = (a, 0, L')) :
    Calls Tryz.prog 7 #[sp A.st, .int .i64 n] w fun e w' => e = .returned (.tuple #[.int .u64 0, .int .i64 10]) ∧ ∃ pg' W' v', Rn w0 w' A pg' W' L v' T ∧ Stp A pg pg' v v' w w' := by
  refine (make_full h.s h.k.size n n0 n1 hfu ea).mono ?_
  rintro e w1 ⟨rfl, pg1, W1, v1, sw1, _, st⟩
  exact ⟨rfl, pg1, W1, v1, ⟨sw1, h.kst st⟩, st⟩

theorem run_ixF (g n cap i : Nat) (hi : i < n) (w' : World) : (Instr.indexAt 39 (.slice (some ⟨g, 0, none⟩) n cap) (.int .i64 (i : Int))).run Tryz.prog w' = .ok (.pointer (some ⟨g, i, none⟩)) w' := by
  have := run_ixg Tryz.underlying39 (m := 1) (by kernel_rfl) (fun w => by kernel_rfl) g 0 n cap i hi w'
  rw [Nat.mul_one, Nat.zero_add] at this
  exact this

end So
end Go.Proofs.YtgcnjafoabnhgaaGreatDoor
