/-
  A table of handles in memory: its struct, and its row of slots.
-/
import Derived.Test.YtfokpiapaacagaaProg
import Derived.Test.YtfokpiapaacagaaDPlain
import Derived.Test.YtfokpiapaacagaaHRange
import Derived.Maps.AppendAt
import Derived.Deep.Slices
import Derived.ProofKit
import Derived.WalkKit
import Derived.BigQuiet
import Derived.Deep.LoopGhost
namespace Go.Proofs.Ytfokpiapaacagaa
open Go.RowKit Go.Maps
namespace Hd
open Hp (Kept K No)
variable {w w' : World} {B bt : Nat} {q z : Int} {v : Value} {L : List Sl}

def slVals (s : Sl) : List Value := [.bool s.o, .int .u32 s.g, .int .i64 s.a]
def rowVals (L : List Sl) : List Value := L.flatMap slVals
theorem row_len : ∀ L, (rowVals L).length = L.length * 3
  | [] => rfl
  | t :: T => by
    have := row_len T
    simp only [rowVals, List.flatMap_cons, List.length_append, slVals, List.length_cons, List.length_nil] at this ⊢
    omega
theorem row_app (A B : List Sl) : rowVals (A ++ B) = rowVals A ++ rowVals B := by simp [rowVals]
theorem row_one : ∀ L, ∀ u ∈ rowVals L, u.oneCell' = true
  | [], _, h => by cases h
  | t :: T, u, h => by
    rcases List.mem_append.1 (show u ∈ slVals t ++ rowVals T from h) with h | h
    · simp only [slVals, List.mem_cons, List.not_mem_nil, or_false] at h
      rcases h with rfl | rfl | rfl <;> rfl
    · exact row_one T u h
theorem row_at : ∀ {L : List Sl} {i : Nat} {t : Sl}, L[i]? = some t → (rowVals L)[i * 3]? = some (.bool t.o) ∧ (rowVals L)[i * 3 + 1]? = some (.int .u32 t.g) ∧ (rowVals L)[i * 3 + 2]? = some (.int .i64 t.a)
  | [], i, _, h => by simp at h
  | u :: T, 0, t, h => by
    obtain rfl : u = t := by simpa using h
    exact ⟨rfl, rfl, rfl⟩
  | u :: T, i + 1, t, h => by
    have ih := row_at (L := T) (i := i) (t := t) (by simpa using h)
    have e : ∀ j, (rowVals (u :: T))[(i + 1) * 3 + j]? = (rowVals T)[i * 3 + j]? := fun j => by
      rw [show rowVals (u :: T) = slVals u ++ rowVals T from rfl, show (i + 1) * 3 + j = (slVals u).length + (i * 3 + j) by simp [slVals]; omega, List.getElem?_append_right (by omega)]
      congr 1
      omega
    exact ⟨(e 0).trans ih.1, (e 1).trans ih.2.1, (e 2).trans ih.2.2⟩
theorem row_set : ∀ {L : List Sl} {i : Nat}, i < L.length → ∀ (s : Sl), (((rowVals L).set (i * 3) (.bool s.o)).set (i * 3 + 1) (.int .u32 s.g)).set (i * 3 + 2) (.int .i64 s.a) = rowVals (L.set i s)
  | [], i, h, _ => by simp at h
  | u :: T, 0, _, s => rfl
  | u :: T, i + 1, h, s => by
    have ih := row_set (L := T) (i := i) (by simpa using h) s
    have e : ∀ (l : List Value) (j : Nat) (v : Value), (slVals u ++ l).set ((i + 1) * 3 + j) v = slVals u ++ l.set (i * 3 + j) v := fun l j v => by
      rw [List.set_append_right _ _ (by simp [slVals]; omega)]
      congr 2
      simp [slVals]
      omega
    rw [List.set_cons_succ, show rowVals (u :: T) = slVals u ++ rowVals T from rfl, show rowVals (u :: T.set i s) = slVals u ++ rowVals (T.set i s) from rfl, ← ih]
    have e0 := e (rowVals T) 0 (.bool s.o)
    simp only [Nat.add_zero] at e0
    rw [e0, e _ 1, e _ 2]

abbrev tp (bt : Nat) : Value := .pointer (some ⟨bt, 0, none⟩)

structure Tab (w : World) (B bt : Nat) (q z : Int) (v : Value) (L : List Sl) : Prop where
  hd : w.heap[bt]? = some (.cells #[.int .i64 q, .int .u32 z, v] 49)
  row : w.ownsRow B 62 3 v L.length (rowVals L)
  ap : v.ownBlock ≠ some bt
  wf : Wf q z L
  lo : B ≤ bt

/-- The blocks of a table. -/
def foot (bt : Nat) (v : Value) : Nat → Prop := fun k => k = bt ∨ some k = v.ownBlock

theorem Tab.c0 (h : Tab w B bt q z v L) : w.cell? ⟨bt, 0, none⟩ = some (.int .i64 q) := by simp [World.cell?, h.hd]
theorem Tab.c1 (h : Tab w B bt q z v L) : w.cell? ⟨bt, 1, none⟩ = some (.int .u32 z) := by simp [World.cell?, h.hd]
theorem Tab.c2 (h : Tab w B bt q z v L) : w.cell? ⟨bt, 2, none⟩ = some v := by simp [World.cell?, h.hd]
theorem Tab.fz (h : Tab w B bt q z v L) (i : Nat) : w.frozen? ⟨bt, i, none⟩ = false := by simp [World.frozen?, h.hd]
theorem Tab.lt (h : Tab w B bt q z v L) : bt < w.heap.size := (Array.getElem?_eq_some_iff.1 h.hd).1

theorem ownsRow_kept {A C : World} {n₀ k m : Nat} {t : TypeId} {v : Value} {xs : List Value} (h : A.ownsRow n₀ t m v k xs) {O : Nat → Prop} (kk : Kept O A C) (hO : ∀ g, some g = v.ownBlock → ¬ O g) : C.ownsRow n₀ t m v k xs := by
  obtain ⟨h1, h2⟩ := h
  refine ⟨h1, ?_⟩
  rcases h2 with h2 | ⟨g, cap, cur, rfl, hb, hg, rest⟩
  · exact .inl h2
  · exact .inr ⟨g, cap, cur, rfl, hb, kk.block hg (hO g rfl), rest⟩
theorem own_lt {n₀ k m : Nat} {t : TypeId} {ys : List Value} (h : w.ownsRow n₀ t m v k ys) {g : Nat} (hg : some g = v.ownBlock) : n₀ ≤ g ∧ g < w.heap.size := by
  rcases h.2 with ⟨rfl, _⟩ | ⟨g2, cap, cur, rfl, hb, hh, _⟩
  · cases hg
  · obtain rfl : g = g2 := by simpa [Value.ownBlock] using hg
    exact ⟨hb, (Array.getElem?_eq_some_iff.1 hh).1⟩

theorem Tab.kept (h : Tab w B bt q z v L) {O : Nat → Prop} (k : Kept O w w') (hO : ∀ g, foot bt v g → ¬ O g) : Tab w' B bt q z v L :=
  ⟨k.block h.hd (hO bt (.inl rfl)), ownsRow_kept h.row k (fun g hg => hO g (.inr hg)), h.ap, h.wf, h.lo⟩
theorem Tab.keep (h : Tab w B bt q z v L) (k : K w w') : Tab w' B bt q z v L := h.kept k (fun _ _ x => x)
theorem Tab.foot_lt (h : Tab w B bt q z v L) {g : Nat} (hg : foot bt v g) : B ≤ g ∧ g < w.heap.size := by
  rcases hg with rfl | hg
  · exact ⟨h.lo, h.lt⟩
  · exact own_lt h.row hg

theorem run_ixs (g len cap i : Nat) (hi : i < len) (w' : World) : (Instr.indexAt 47 (.slice (some ⟨g, 0, none⟩) len cap) (.int .i64 (i : Int))).run Try.prog w' = .ok (.pointer (some ⟨g, i * 3, none⟩)) w' := by
  have hel : Try.prog.elem 47 = 62 := by kernel_rfl
  have hsz : (sizeOf 62).run Try.prog w' = .ok 3 w' := by kernel_rfl
  have hu : Try.prog.underlying 47 = some (.slice (Try.prog.elem 47)) := by kernel_rfl
  rw [run_indexAt_slice w' 47 _ len cap .i64 i hu, if_pos (by omega), hel, hsz]
  simp only [Result.andThen_ok, Int.toNat_natCast]
  rw [Go.WideShapes.add_plain, Nat.zero_add]

/-- The slots' row, at block g. -/
structure RowAt (w : World) (g : Nat) (a : Option Addr) (cap : Nat) (L : List Sl) : Prop where
  ix : ∀ i : Nat, i < L.length → ∀ w', (Instr.indexAt 47 (.slice a L.length cap) (.int .i64 (i : Int))).run Try.prog w' = .ok (.pointer (some ⟨g, i * 3, none⟩)) w'
  c0 : ∀ (i : Nat) (s : Sl), L[i]? = some s → w.cell? ⟨g, i * 3, none⟩ = some (.bool s.o)
  c1 : ∀ (i : Nat) (s : Sl), L[i]? = some s → w.cell? ⟨g, i * 3 + 1, none⟩ = some (.int .u32 s.g)
  c2 : ∀ (i : Nat) (s : Sl), L[i]? = some s → w.cell? ⟨g, i * 3 + 2, none⟩ = some (.int .i64 s.a)
  fz : 0 < L.length → ∀ j, w.frozen? ⟨g, j, none⟩ = false

theorem RowAt.keep {g : Nat} {a : Option Addr} {cap : Nat} (h : RowAt w g a cap L) (k : K w w') : RowAt w' g a cap L := by
  refine ⟨h.ix, fun i s hs => k.cell (h.c0 i s hs), fun i s hs => k.cell (h.c1 i s hs), fun i s hs => k.cell (h.c2 i s hs), fun h0 j => ?_⟩
  have hlt : g < w.heap.size := Hp.lt_of_cell (h.c0 0 _ (List.getElem?_eq_getElem h0))
  have := h.fz h0 j
  simp only [World.frozen?] at this ⊢
  rw [k.same g hlt (fun x => x)]
  exact this

theorem row_form (h : w.ownsRow B 62 3 v L.length (rowVals L)) : ∃ g a cap, v = .slice a L.length cap ∧ RowAt w g a cap L ∧ ((a = some ⟨g, 0, none⟩ ∧ B ≤ g ∧ g < w.heap.size) ∨ (a = none ∧ L = [] ∧ cap = 0)) ∧ L.length ≤ cap := by
  rcases h.2 with ⟨h1, h0⟩ | ⟨g, cap, cur, h1, hbase, hbk, h2, h3, h4, h5⟩
  · have hK : L = [] := List.eq_nil_of_length_eq_zero h0
    subst hK
    exact ⟨0, none, 0, by rw [h1]; rfl, ⟨fun i hi => by simp at hi, fun i N hi => by simp at hi, fun i N hi => by simp at hi, fun i N hi => by simp at hi, fun h => by simp at h⟩, Or.inr ⟨rfl, rfl, rfl⟩, Nat.le_refl _⟩
  · have cell : ∀ (j : Nat) (u : Value), j < L.length * 3 → (rowVals L)[j]? = some u → w.cell? ⟨g, j, none⟩ = some u := fun j u hj hu => by
      rw [← h5, List.getElem?_take, if_pos hj] at hu
      simp only [World.cell?, hbk]
      rw [if_neg (by simp), ← Array.getElem?_toList]
      exact hu
    have lt : ∀ {i : Nat} {s : Sl}, L[i]? = some s → i < L.length := fun hs => (List.getElem?_eq_some_iff.1 hs).1
    exact ⟨g, some ⟨g, 0, none⟩, cap, h1, ⟨fun i hi w' => run_ixs g _ _ i hi w', fun i s hs => cell _ _ (by have := lt hs; omega) (row_at hs).1, fun i s hs => cell _ _ (by have := lt hs; omega) (row_at hs).2.1, fun i s hs => cell _ _ (by have := lt hs; omega) (row_at hs).2.2, fun _ j => by simp [World.frozen?, hbk]⟩, Or.inl ⟨rfl, hbase, (Array.getElem?_eq_some_iff.1 hbk).1⟩, h2⟩

theorem Tab.form (h : Tab w B bt q z v L) : ∃ g a cap, v = .slice a L.length cap ∧ RowAt w g a cap L ∧ ((a = some ⟨g, 0, none⟩ ∧ B ≤ g ∧ g < w.heap.size) ∨ (a = none ∧ L = [] ∧ cap = 0)) ∧ L.length ≤ cap := row_form h.row

theorem set_self {α : Type} {l : List α} {i : Nat} {x : α} (h : l[i]? = some x) : l.set i x = l := by
  apply List.ext_getElem?
  intro j
  rw [List.getElem?_set]
  split
  · next e =>
    subst e
    split
    · exact h.symm
    · next hl => rw [List.getElem?_eq_none (by omega)]
  · rfl

/-- A cell of an owned row that is set. -/
theorem own_set {b n m g i cap : Nat} {ty : TypeId} {xs : List Value} {u : Value} (h : w.ownsRow b ty m (.slice (some ⟨g, 0, none⟩) n cap) n xs) : (w.setCell ⟨g, i, none⟩ u).ownsRow b ty m (.slice (some ⟨g, 0, none⟩) n cap) n (xs.set i u) := by
  rcases h.2 with ⟨e, _⟩ | ⟨g2, cap2, cur, e, hb, hg, h1, h2, h3, h4⟩
  · cases e
  · cases e
    refine ⟨by rw [List.length_set]; exact h.1, .inr ⟨g, cap, cur.set! i u, rfl, hb, ?_, h1, h2, by simp [h3], ?_⟩⟩
    · simp only [World.setCell]
      rw [Array.getElem?_modify, if_pos rfl, hg]
      rfl
    · simp only [Array.set!_eq_setIfInBounds, Array.toList_setIfInBounds]
      rw [List.take_set, h4]

/-- A slot of the row is laid anew. -/
def set3 (w : World) (g i : Nat) (s : Sl) : World := ((w.setCell ⟨g, i * 3, none⟩ (.bool s.o)).setCell ⟨g, i * 3 + 1, none⟩ (.int .u32 s.g)).setCell ⟨g, i * 3 + 2, none⟩ (.int .i64 s.a)

theorem Tab.set3 {g i n cap : Nat} {s : Sl} (h : Tab w B bt q z (.slice (some ⟨g, 0, none⟩) n cap) L) (hi : i < L.length) (hs : Ok z s) :
    Tab (Hd.set3 w g i s) B bt q z (.slice (some ⟨g, 0, none⟩) n cap) (L.set i s) ∧ Kept (foot bt (.slice (some ⟨g, 0, none⟩) n cap)) w (Hd.set3 w g i s) := by
  have hn : n = L.length := by
    rcases h.row.2 with ⟨e, _⟩ | ⟨g2, cap2, cur, e, _⟩
    · cases e
    · cases e; rfl
  subst hn
  have k1 : Kept (fun k => k = g) w (w.setCell ⟨g, i * 3, none⟩ (.bool s.o)) := (Kept.refl _ _).setCell _ (.inl rfl)
  have k2 : Kept (fun k => k = g) w ((w.setCell ⟨g, i * 3, none⟩ (.bool s.o)).setCell ⟨g, i * 3 + 1, none⟩ (.int .u32 s.g)) := k1.setCell _ (.inl rfl)
  have kk : Kept (fun k => k = g) w (Hd.set3 w g i s) := k2.setCell (p := ⟨g, i * 3 + 2, none⟩) (.int .i64 s.a) (.inl rfl)
  have hne : bt ≠ g := fun e => h.ap (by rw [e]; rfl)
  refine ⟨⟨kk.block h.hd hne, ?_, h.ap, h.wf.set hs, h.lo⟩, kk.mono fun k _ hk => .inr (by rw [hk]; rfl)⟩
  rw [List.length_set, ← row_set hi s]
  exact own_set (own_set (own_set h.row))

theorem Tab.set1 {g i n cap : Nat} {s : Sl} {a : Int} (h : Tab w B bt q z (.slice (some ⟨g, 0, none⟩) n cap) L) (hi : L[i]? = some s) (hs : Ok z ⟨s.o, s.g, a⟩) :
    Tab (w.setCell ⟨g, i * 3 + 2, none⟩ (.int .i64 a)) B bt q z (.slice (some ⟨g, 0, none⟩) n cap) (L.set i ⟨s.o, s.g, a⟩) ∧ Kept (foot bt (.slice (some ⟨g, 0, none⟩) n cap)) w (w.setCell ⟨g, i * 3 + 2, none⟩ (.int .i64 a)) := by
  have hn : n = L.length := by
    rcases h.row.2 with ⟨e, _⟩ | ⟨g2, cap2, cur, e, _⟩
    · cases e
    · cases e; rfl
  subst hn
  have hlt := (List.getElem?_eq_some_iff.1 hi).1
  have kk : Kept (fun k => k = g) w (w.setCell ⟨g, i * 3 + 2, none⟩ (.int .i64 a)) := (Kept.refl _ _).setCell _ (.inl rfl)
  have hne : bt ≠ g := fun e => h.ap (by rw [e]; rfl)
  refine ⟨⟨kk.block h.hd hne, ?_, h.ap, h.wf.set hs, h.lo⟩, kk.mono fun k _ hk => .inr (by rw [hk]; rfl)⟩
  rw [List.length_set, ← row_set hlt ⟨s.o, s.g, a⟩]
  obtain ⟨e0, e1, _⟩ := row_at hi
  rw [set_self e0, set_self e1]
  exact own_set h.row

/-- What a slot is told to be. -/
def kd (z : Int) (s : Sl) : Int := if s.o then 1 else if s.g = z then 2 else 0

theorem made_ok (h : Tab w B bt q z v L) : Calls Try.prog 28 #[tp bt] w fun e w' => e = .returned (.bool true) ∧ w = w' := by
  have c1 := h.c1
  have hz : (z != 0) = true := by have := h.wf.z0; simp; omega
  clear h
  go_enter Try.func28, Try.ntmps28
  go_wp2
  go_ret
  exact ⟨rfl, rfl⟩

theorem kindOf_any (h : Tab w B bt q z v L) (s : Sl) : Calls Try.prog 29 #[tp bt, .agg #[.bool s.o, .int .u32 s.g, .int .i64 s.a]] w fun e w' => e = .returned (.int .i64 (kd z s)) ∧ K w w' := by
  have c1 := h.c1
  have hlt := h.lt
  have hK : K w (w.alloc (.cells #[.bool s.o, .int .u32 s.g, .int .i64 s.a] 62)) := (K.refl _).alloc _
  clear h
  obtain ⟨o, g, a⟩ := s
  cases o with
  | true =>
    have E : Hid (kd z ⟨true, g, a⟩ = 1) := rfl
    go_enter Try.func29, Try.ntmps29
    go_wp2
    go_ret
    exact ⟨by rw [E.out]; rfl, hK⟩
  | false =>
    by_cases hg : g = z
    · have E : Hid (kd z ⟨false, g, a⟩ = 2) := by simp [kd, hg, Hid]
      have hd : (g == z) = true := by simp [hg]
      clear hg
      go_enter Try.func29, Try.ntmps29
      go_wp2
      go_quiet (fail)
      go_wp2
      go_ret
      exact ⟨by rw [E.out]; rfl, hK.drewN _⟩
    · have E : Hid (kd z ⟨false, g, a⟩ = 0) := by simp [kd, hg, Hid]
      have hd : (g == z) = false := by simp [hg]
      clear hg
      go_enter Try.func29, Try.ntmps29
      go_wp2
      go_quiet (fail)
      go_wp2
      go_ret
      exact ⟨by rw [E.out]; rfl, hK.drewN _⟩

end Hd
end Go.Proofs.Ytfokpiapaacagaa
