/-
  The statements' helpers fill and words.
-/
import Derived.Test.YtgcnjafoabnhgaaGreatDoorG7
import Derived.Test.YtgcnjafoabnhgaaGreatDoorWGNth
import Derived.Test.YtgcnjafoabnhgaaGreatDoorK1
namespace Go.Proofs.YtgcnjafoabnhgaaGreatDoor
open Go.RowKit Go.Maps
attribute [local go_sem ↓] Go.wp_at_zero Go.wp_at_succ
namespace Co
open Hp (Kept K No Pg BlR Bl Wl lt_of_cell allocL)
open Hd (U64 findL encU)
open Go.Proofs.YtgcnjafoabnhgaaGreatDoor.So (Ad Sb Sw Rec sp Stp Bx foot Rn Script)
variable {w0 wb w w' : World} {pgb : List (Int × Nat)} {vb : Value} {B c : Nat} {A : Ad} {pg pg' : List (Int × Nat)} {W W' : Int → Int} {L L' : List Pg} {v v' vl u : Value} {T T' : List Hd.Sl} {hs : List Int}

/-- A row of handles of one's own, beside a store. -/
structure Hr (wb w : World) (A : Ad) (pg : List (Int × Nat)) (v vl : Value) (hs : List Int) : Prop where
  row : w.ownsRow wb.heap.size 43 1 vl hs.length (hs.map encU)
  off : ∀ b, some b = vl.ownBlock → ¬ foot A pg v b ∧ b ≠ A.bh ∧ b ≠ A.st
  u : ∀ x ∈ hs, U64 x
theorem Hr.keep (h : Hr wb w A pg v vl hs) (k : K w w') : Hr wb w' A pg v vl hs := ⟨Hd.ownsRow_kept h.row k (fun _ _ x => x), h.off, h.u⟩
theorem Hr.step (h : Hr wb w A pg v vl hs) (s : Stp A pg pg' v v' w w') : Hr wb w' A pg' v' vl hs :=
  ⟨Hd.ownsRow_kept h.row s.k (fun g hg => (h.off g hg).1), fun b hb => ⟨s.off (Hd.own_lt h.row hb).2 (h.off b hb).1, (h.off b hb).2⟩, h.u⟩

/-- What fill leaves. -/
structure Fl (w0 wb : World) (pgb : List (Int × Nat)) (vb : Value) (w : World) (A : Ad) (c : Nat) (pg : List (Int × Nat)) (W : Int → Int) (L : List Pg) (v : Value) (T : List Hd.Sl) (vl : Value) (hs : List Int) : Prop where
  cn : Cn w0 w A c pg W L v T
  hr : Hr wb w A pg v vl hs
  st : Stp A pgb pg vb v wb w
  lo : w0.heap.size ≤ wb.heap.size
  ne : some c ≠ vl.ownBlock
  z0 : 0 < w0.heap.size
theorem Fl.keep (h : Fl w0 wb pgb vb w A c pg W L v T vl hs) (k : K w w') : Fl w0 wb pgb vb w' A c pg W L v T vl hs := ⟨h.cn.keep k, h.hr.keep k, h.st.thenK k, h.lo, h.ne, h.z0⟩
theorem Fl.call (h : Fl w0 wb pgb vb w A c pg W L v T vl hs) (sw : Sw w' w0.heap.size A pg' W' L' v' T') (s : Stp A pg pg' v v' w w') : Fl w0 wb pgb vb w' A c pg' W' L' v' T' vl hs := ⟨h.cn.call sw s, h.hr.step s, h.st.trans s, h.lo, h.ne, h.z0⟩

theorem grown_kept {o : Obj} {row : Option Nat} (hg : (w.alloc o).grownBy w' row) : Kept (fun k => some k = row) w w' := by
  have hsz := hg.size
  simp at hsz
  exact ⟨hg.os, hg.tape, hg.output, by omega, fun j hj hn => by rw [hg.block j (by simp; omega) hn, Below.heap_alloc w o j hj]⟩

/-- The row grows. -/
theorem Fl.app {o : Obj} (h : Fl w0 wb pgb vb w A c pg W L v T vl hs) {x : Int} (hx : U64 x) (hown : w'.ownsRow wb.heap.size 43 1 u (hs.length + 1) (hs.map encU ++ [encU x])) (hg : (w.alloc o).grownBy w' vl.ownBlock) (hat : u.ownBlock = vl.ownBlock ∨ u.ownBlock = some (w.alloc o).heap.size) : Fl w0 wb pgb vb w' A c pg W L v T u (hs ++ [x]) := by
  have k := grown_kept hg
  have z0 := h.z0
  have h1 : A.bh < w.heap.size := lt_of_cell h.cn.rn.s.b.hp.hw.c0
  have h2 := h.cn.rn.s.b.lt
  have h3 := h.cn.cb.lt
  have lob : ∀ j, some j = vl.ownBlock → wb.heap.size ≤ j := fun j hj => (Hd.own_lt h.hr.row hj).1
  have lo : ∀ j, some j = vl.ownBlock → w0.heap.size ≤ j := fun j hj => Nat.le_trans h.lo (lob j hj)
  have nw : ∀ b, some b = u.ownBlock → some b = vl.ownBlock ∨ w.heap.size ≤ b := fun b hb => by
    rcases hat with e | e
    · exact .inl (by rw [hb, e])
    · rw [e] at hb
      have : b = (w.alloc o).heap.size := Option.some.inj hb
      simp at this
      exact .inr (by omega)
  have hk : w0.heap.size ≤ w.heap.size := h.cn.rn.k.size
  refine ⟨⟨⟨⟨h.cn.rn.s.b.kept k (fun j hj => ⟨(h.hr.off j hj).1, (h.hr.off j hj).2.1, by have := lo j hj; omega, (h.hr.off j hj).2.2⟩), h.cn.rn.s.r⟩,
    ⟨k.os.trans h.cn.rn.k.os, k.tape.trans h.cn.rn.k.tape, k.output.trans h.cn.rn.k.output, Nat.le_trans hk k.size, fun j hj hn => (k.same j (Nat.lt_of_lt_of_le hj hk) (fun hx => by have := lo j hx; omega)).trans (h.cn.rn.k.same j hj hn)⟩⟩,
    ⟨k.block h.cn.cb.hb (fun e => h.ne e), h.cn.cb.off⟩, h.cn.lo⟩, ⟨by rw [List.length_append, List.map_append]; exact hown, fun b hb => ?_, fun y hy => ?_⟩, stp_off h.st k lob, h.lo, fun e => ?_, z0⟩
  · rcases nw b hb with h4 | h4
    · exact h.hr.off b h4
    · exact ⟨fun hf => by have := h.cn.rn.s.b.flt hf; omega, by omega, by omega⟩
  · rcases List.mem_append.1 hy with h4 | h4
    · exact h.hr.u y h4
    · obtain rfl : y = x := by simpa using h4
      exact hx
  · rcases nw c e with h4 | h4
    · exact h.ne h4
    · omega

/-- What a call does, over the entries, the slots and the handles. -/
structure P3 where
  L : List Pg
  T : List Hd.Sl
  hs : List Int
def mkP (A : Ad) (L : List Pg) (T : List Hd.Sl) (n : Int) : Option (Int × List Pg × List Hd.Sl) :=
  if 0 ≤ n ∧ n ≤ 3998 then
    if (allocL A.q L (2 + n)).2.1 = 0 ∧ (Hd.openL A.m A.z T (allocL A.q L (2 + n)).1).2.1 = 0 then some ((Hd.openL A.m A.z T (allocL A.q L (2 + n)).1).1, (allocL A.q L (2 + n)).2.2, (Hd.openL A.m A.z T (allocL A.q L (2 + n)).1).2.2) else none
  else none
def drP (s : P3) (x : Int) : P3 :=
  match findL s.T x with
  | none => s
  | some i => match s.T[i]? with
    | none => s
    | some sl => match Hp.findB s.L sl.a with
      | none => s
      | some (p, k) => ⟨Hp.dropL s.L p k, s.T.set i ⟨false, sl.g, 0⟩, s.hs⟩
def opP (A : Ad) (o : So.Opv) (s : P3) : P3 :=
  if o.d = 1 then match mkP A s.L s.T o.a with
    | some (x, L', T') => ⟨L', T', s.hs ++ [x]⟩
    | none => s
  else if o.d = 2 then drP s (nthH s.hs o.n)
  else s
def fillP (A : Ad) (z : Nat → So.Opv) (L0 : List Pg) (T0 : List Hd.Sl) : Nat → P3
  | 0 => ⟨L0, T0, []⟩
  | n + 1 => opP A (z n) (fillP A z L0 T0 n)

theorem Fl.make (h : Fl w0 wb pgb vb w A c pg W L v T vl hs) (n : Int) : Calls Tryz.prog 7 #[sp A.st, .int .i64 n] w fun e w' =>
    (∃ x pg' W' L' v' T', e = .returned (.tuple #[.int .u64 x, .int .i64 0]) ∧ Aside (mkP A L T n = some (x, L', T') ∧ U64 x ∧ Fl w0 wb pgb vb w' A c pg' W' L' v' T' vl hs)) ∨ (∃ er pg' W' v', e = .returned (.tuple #[.int .u64 0, .int .i64 er]) ∧ (er == 0) = false ∧ Aside (mkP A L T n = none ∧ Fl w0 wb pgb vb w' A c pg' W' L v' T vl hs)) := by
  have wl := h.cn.rn.s.b.wl
  refine (So.make_any h.cn.rn.s h.cn.rn.k.size n).mono ?_
  rintro e w1 (⟨n0, n1, a, L1, x, T1, ea, eo, rfl, pg1, W1, v1, sw1, _, _, _, _, st1⟩ | ⟨er, her, hor, rfl, pg1, W1, v1, sw1, _, st1⟩)
  · refine .inl ⟨x, pg1, W1, L1, v1, T1, rfl, ?_, ?_, h.call sw1 st1⟩
    · unfold mkP
      rw [if_pos ⟨n0, n1⟩, ea, eo]
      rfl
    · have a0 : 0 ≤ a := by
        have := sw1.b.at ((So.allocRm wl (x := 2 + n) ⟨by omega, by omega⟩ ea).2 a _ |>.2 (.inl ⟨rfl, rfl⟩))
        omega
      exact (So.nm_word a0 h.cn.rn.s.b.tl sw1.b.tb.wf eo).2
  · have her2 : er ≠ 0 := by simpa using her
    refine .inr ⟨er, pg1, W1, v1, rfl, by simpa using her2, ?_, h.call sw1 st1⟩
    unfold mkP
    rcases hor with ⟨_, hn⟩ | ⟨n0, n1, ⟨a, ea, he⟩ | ⟨_, hfu, a, L1, ea⟩⟩
    · rw [if_neg hn]
    · rw [if_pos ⟨n0, n1⟩, ea, if_neg (fun h => he h.1)]
    · rw [if_pos ⟨n0, n1⟩, ea]
      obtain ⟨x, er2, T2, eo⟩ : ∃ x er2 T2, Hd.openL A.m A.z T a = (x, er2, T2) := ⟨_, _, _, rfl⟩
      have hne : er2 ≠ 0 := by
        by_cases a0 : 0 ≤ a
        · rcases So.full_open a0 eo with ⟨h1, _⟩ | ⟨_, h2, _⟩
          · rw [hfu] at h1; cases h1
          · omega
        · rw [Hd.openL_neg (by omega)] at eo
          have := congrArg (fun t => t.2.1) eo
          simp at this
          omega
      rw [if_neg]
      rintro ⟨_, h⟩
      rw [eo] at h
      exact hne h

theorem Fl.drop (h : Fl w0 wb pgb vb w A c pg W L v T vl hs) (x : Int) (hx : U64 x) : Calls Tryz.prog 8 #[sp A.st, .int .u64 x] w fun e w' =>
    ∃ er pg' W', e = .returned (.int .i64 er) ∧ Aside (Fl w0 wb pgb vb w' A c pg' W' (drP ⟨L, T, hs⟩ x).L v (drP ⟨L, T, hs⟩ x).T vl hs) := by
  unfold drP
  cases hf : findL T x with
  | none =>
    refine (So.drop_none h.cn.rn.s x hx hf).mono ?_
    rintro e w1 ⟨rfl, k1⟩
    exact ⟨7, pg, W, rfl, h.keep k1⟩
  | some i =>
    obtain ⟨s, hs', _⟩ := Hd.findL_some hf
    refine (So.drop_some h.cn.rn.s h.cn.rn.k.size x hx hf hs').mono ?_
    rintro e w1 ⟨rfl, pg1, W1, p, k, hb, _, sw1, st1⟩
    refine ⟨0, pg1, W1, rfl, ?_⟩
    simp only [hs', hb]
    exact h.call sw1 st1

theorem Fl.put (h : Fl w0 wb pgb vb w A c pg W L v T vl hs) (x k y : Int) (hx : U64 x) (hy : Sl.WordOk y) : Calls Tryz.prog 9 #[sp A.st, .int .u64 x, .int .i64 k, .int .u64 y] w fun e w' =>
    ∃ er W', e = .returned (.int .i64 er) ∧ Aside (Fl w0 wb pgb vb w' A c pg W' L v T vl hs) ∧ ∀ j o, w.heap[j]? = some o → ¬ foot A pg v j → w'.heap[j]? = some o := by
  refine (So.put_any h.cn.rn.s h.cn.rn.k.size x k y hx hy).mono ?_
  rintro e w1 ⟨rfl, sw1, st1⟩
  exact ⟨_, _, rfl, h.call sw1 st1, fun j o hj hn => st1.block hj hn⟩

end Co
end Go.Proofs.YtgcnjafoabnhgaaGreatDoor
