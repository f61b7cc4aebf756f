/-
  Plain facts on a table of handles: its slots as a list. No Go text is named here.
-/
import Derived.KernelRfl
import Derived.Test.YtbbjfebdihepnaaGreatDoorProg
import Derived.Test.YtbbjfebdihepnaaGreatDoorH1
import Derived.Maps.AppendAt
import Derived.Deep.Slices
import Derived.ProofKit
import Derived.WalkKit
import Derived.BigQuiet
import Derived.Deep.LoopGhost
namespace Go.Proofs.YtbbjfebdihepnaaGreatDoor
namespace Hd

/-- A slot that was opened once: is it open, its last generation, its address. -/
structure Sl where
  o : Bool
  g : Int
  a : Int
deriving DecidableEq

/-- The handle of slot n in generation g. -/
def nm (n g : Int) : Int := g * 4294967296 + n

/-- Free: closed, and a generation is left. -/
def fr (z : Int) (s : Sl) : Bool := !s.o && !(s.g == z)

def freeAt (z : Int) : List Sl → Option Nat
  | [] => none
  | s :: L => if fr z s then some 0 else (freeAt z L).map (· + 1)

def openL (q z : Int) (L : List Sl) (a : Int) : Int × Int × List Sl :=
  if a < 0 then (0, 2, L) else
  match freeAt z L with
  | some i => (nm (i + 1) ((L.getD i ⟨false, 0, 0⟩).g + 1), 0, L.set i ⟨true, (L.getD i ⟨false, 0, 0⟩).g + 1, a⟩)
  | none => if (L.length : Int) < q then (nm (L.length + 1) 1, 0, L ++ [⟨true, 1, a⟩]) else (0, 10, L)

/-- The place of a live handle. -/
def findL (L : List Sl) (h : Int) : Option Nat :=
  if h % 4294967296 < 1 then none else
  match L[(h % 4294967296 - 1).toNat]? with
  | some s => if s.o = true ∧ s.g = h / 4294967296 then some (h % 4294967296 - 1).toNat else none
  | none => none

def addrAt (L : List Sl) (i : Nat) : Int := (L.getD i ⟨false, 0, 0⟩).a
def genAt (L : List Sl) (i : Nat) : Int := (L.getD i ⟨false, 0, 0⟩).g

def atL (L : List Sl) (h : Int) : Int × Int :=
  match findL L h with
  | some i => (addrAt L i, 0)
  | none => (0, 7)
def closeL (L : List Sl) (h : Int) : Int × List Sl :=
  match findL L h with
  | some i => (0, L.set i ⟨false, genAt L i, 0⟩)
  | none => (7, L)
def moveL (L : List Sl) (h a : Int) : Int × List Sl :=
  if a < 0 then (2, L) else
  match findL L h with
  | some i => (0, L.set i ⟨true, genAt L i, a⟩)
  | none => (7, L)
def liveFrom : Int → List Sl → List Int
  | _, [] => []
  | n, s :: L => if s.o then nm n s.g :: liveFrom (n + 1) L else liveFrom (n + 1) L
def liveL (L : List Sl) : List Int := liveFrom 1 L

/-- What a slot of a table may be. -/
structure Ok (z : Int) (s : Sl) : Prop where
  lo : 1 ≤ s.g
  hi : s.g ≤ z
  a0 : 0 ≤ s.a
  a1 : s.a ≤ 9223372036854775807
  cl : s.o = false → s.a = 0

/-- What a table may be. -/
structure Wf (q z : Int) (L : List Sl) : Prop where
  q0 : 1 ≤ q
  q1 : q ≤ 65536
  z0 : 1 ≤ z
  z1 : z ≤ 4294967295
  len : (L.length : Int) ≤ q
  ok : ∀ s ∈ L, Ok z s

theorem Wf.nil {q z : Int} (q0 : 1 ≤ q) (q1 : q ≤ 65536) (z0 : 1 ≤ z) (z1 : z ≤ 4294967295) : Wf q z [] := ⟨q0, q1, z0, z1, by simp; omega, fun _ h => nomatch h⟩
theorem Wf.get {q z : Int} {L : List Sl} (h : Wf q z L) {i : Nat} {s : Sl} (hs : L[i]? = some s) : Ok z s := h.ok s (List.mem_of_getElem? hs)
theorem Wf.set {q z : Int} {L : List Sl} (h : Wf q z L) {i : Nat} {s : Sl} (hs : Ok z s) : Wf q z (L.set i s) :=
  ⟨h.q0, h.q1, h.z0, h.z1, by rw [List.length_set]; exact h.len, fun t ht => by
    rcases List.mem_or_eq_of_mem_set ht with h1 | rfl
    · exact h.ok t h1
    · exact hs⟩
theorem Wf.app {q z : Int} {L : List Sl} (h : Wf q z L) {s : Sl} (hs : Ok z s) (hl : (L.length : Int) < q) : Wf q z (L ++ [s]) :=
  ⟨h.q0, h.q1, h.z0, h.z1, by simp; omega, fun t ht => by
    rcases List.mem_append.1 ht with h1 | h1
    · exact h.ok t h1
    · obtain rfl : t = s := by simpa using h1
      exact hs⟩

theorem freeAt_some {z : Int} : ∀ {L : List Sl} {i : Nat}, freeAt z L = some i → ∃ s, L[i]? = some s ∧ fr z s = true ∧ ∀ j t, j < i → L[j]? = some t → fr z t = false
  | [], _, h => by simp [freeAt] at h
  | s :: L, i, h => by
    unfold freeAt at h
    split at h
    · next hf =>
      obtain rfl : 0 = i := by simpa using h
      exact ⟨s, rfl, hf, fun j t hj => by omega⟩
    · next hf =>
      obtain ⟨k, hk, rfl⟩ := Option.map_eq_some_iff.1 h
      obtain ⟨t, h1, h2, h3⟩ := freeAt_some hk
      refine ⟨t, by simpa using h1, h2, fun j u hj hu => ?_⟩
      cases j with
      | zero =>
        obtain rfl : s = u := by simpa using hu
        simpa using hf
      | succ j => exact h3 j u (by omega) (by simpa using hu)
theorem freeAt_none {z : Int} : ∀ {L : List Sl}, freeAt z L = none ↔ ∀ s ∈ L, fr z s = false
  | [] => by simp [freeAt]
  | s :: L => by
    unfold freeAt
    split
    · next hf =>
      simp
      intro h
      rw [hf] at h
      cases h
    · next hf =>
      rw [Option.map_eq_none_iff, freeAt_none]
      simp at hf
      simp [hf]
theorem freeAt_of {z : Int} : ∀ {L : List Sl} {i : Nat} {s : Sl}, L[i]? = some s → fr z s = true → (∀ j t, j < i → L[j]? = some t → fr z t = false) → freeAt z L = some i
  | [], _, _, h, _, _ => by simp at h
  | t :: L, 0, s, h, hf, _ => by
    obtain rfl : t = s := by simpa using h
    simp [freeAt, hf]
  | t :: L, i + 1, s, h, hf, hn => by
    have h0 := hn 0 t (by omega) rfl
    have := freeAt_of (L := L) (i := i) (s := s) (z := z) (by simpa using h) hf (fun j u hj hu => hn (j + 1) u (by omega) (by simpa using hu))
    simp [freeAt, h0, this]

theorem findL_some {L : List Sl} {h : Int} {i : Nat} (hf : findL L h = some i) : ∃ s, L[i]? = some s ∧ s.o = true ∧ s.g = h / 4294967296 ∧ (i : Int) + 1 = h % 4294967296 := by
  unfold findL at hf
  split at hf
  · cases hf
  · next h0 =>
    split at hf
    · next s hs =>
      split at hf
      · next hc =>
        obtain rfl : (h % 4294967296 - 1).toNat = i := by simpa using hf
        exact ⟨s, hs, hc.1, hc.2, by omega⟩
      · cases hf
    · cases hf
theorem findL_of {L : List Sl} {i : Nat} {s : Sl} (hs : L[i]? = some s) (ho : s.o = true) (hl : i < 4294967295) : findL L (nm (i + 1) s.g) = some i := by
  have e1 : nm (i + 1) s.g % 4294967296 = i + 1 := by unfold nm; omega
  have e2 : nm (i + 1) s.g / 4294967296 = s.g := by unfold nm; omega
  unfold findL
  rw [e1, e2, if_neg (by omega), show ((i : Int) + 1 - 1).toNat = i by omega, hs]
  simp [ho]
theorem nm_inj {m n g k : Int} (h : nm m g = nm n k) (m0 : 0 ≤ m) (m1 : m < 4294967296) (n0 : 0 ≤ n) (n1 : n < 4294967296) : m = n ∧ g = k := by
  unfold nm at h
  omega

theorem Ok.opened {q z : Int} {L : List Sl} (h : Wf q z L) {i : Nat} {s : Sl} (hs : L[i]? = some s) (hf : fr z s = true) {a : Int} (a0 : 0 ≤ a) (a1 : a ≤ 9223372036854775807) : Ok z ⟨true, s.g + 1, a⟩ := by
  have hk := h.get hs
  have : s.g ≠ z := by
    simp [fr] at hf
    exact hf.2
  have := hk.hi
  have := hk.lo
  exact ⟨by simp; omega, by simp; omega, a0, a1, fun h => nomatch h⟩

theorem getD_of {L : List Sl} {i : Nat} {s d : Sl} (hs : L[i]? = some s) : L.getD i d = s := by
  rw [List.getD_eq_getElem?_getD, hs]
  rfl

theorem atL_some {L : List Sl} {x : Int} {i : Nat} {s : Sl} (h : findL L x = some i) (hs : L[i]? = some s) : atL L x = (s.a, 0) := by
  simp only [atL, h, addrAt, getD_of hs]
theorem atL_none {L : List Sl} {x : Int} (h : findL L x = none) : atL L x = (0, 7) := by simp only [atL, h]
theorem closeL_some {L : List Sl} {x : Int} {i : Nat} {s : Sl} (h : findL L x = some i) (hs : L[i]? = some s) : closeL L x = (0, L.set i ⟨false, s.g, 0⟩) := by
  simp only [closeL, h, genAt, getD_of hs]
theorem closeL_none {L : List Sl} {x : Int} (h : findL L x = none) : closeL L x = (7, L) := by simp only [closeL, h]
theorem openL_neg {q z : Int} {L : List Sl} {a : Int} (a0 : a < 0) : openL q z L a = (0, 2, L) := by
  unfold openL
  rw [if_pos a0]
theorem openL_free {q z : Int} {L : List Sl} {a : Int} {i : Nat} {s : Sl} (a0 : 0 ≤ a) (h : freeAt z L = some i) (hs : L[i]? = some s) : openL q z L a = (nm (i + 1) (s.g + 1), 0, L.set i ⟨true, s.g + 1, a⟩) := by
  simp only [openL, h, getD_of hs]
  rw [if_neg (by omega)]
theorem openL_new {q z : Int} {L : List Sl} {a : Int} (a0 : 0 ≤ a) (h : freeAt z L = none) (hl : (L.length : Int) < q) : openL q z L a = (nm (L.length + 1) 1, 0, L ++ [⟨true, 1, a⟩]) := by
  simp only [openL, h]
  rw [if_neg (by omega), if_pos hl]
theorem openL_full {q z : Int} {L : List Sl} {a : Int} (a0 : 0 ≤ a) (h : freeAt z L = none) (hl : q ≤ (L.length : Int)) : openL q z L a = (0, 10, L) := by
  simp only [openL, h]
  rw [if_neg (by omega), if_neg (by omega)]

end Hd
end Go.Proofs.YtbbjfebdihepnaaGreatDoor

/-
  A table of handles in memory: its struct, and its row of slots.
-/
namespace Go.Proofs.YtbbjfebdihepnaaGreatDoor
open Go.RowKit Go.Maps
namespace Hd
open Hp (Kept K No)
variable {w w' : World} {B bt : Nat} {q z : Int} {v : Value} {L : List Sl}

def slVals (s : Sl) : List Value := [.bool s.o, .int .u32 s.g, .int .i64 s.a]
def rowVals (L : List Sl) : List Value := L.flatMap slVals
theorem row_len : ∀ L, (rowVals L).length = L.length * 3
  | [] => rfl
  | t :: T => by
    have := row_len T
    simp only [rowVals, List.flatMap_cons, List.length_append, slVals, List.length_cons, List.length_nil] at this ⊢
    omega
theorem row_app (A B : List Sl) : rowVals (A ++ B) = rowVals A ++ rowVals B := by simp [rowVals]
theorem row_one : ∀ L, ∀ u ∈ rowVals L, u.oneCell' = true
  | [], _, h => by cases h
  | t :: T, u, h => by
    rcases List.mem_append.1 (show u ∈ slVals t ++ rowVals T from h) with h | h
    · simp only [slVals, List.mem_cons, List.not_mem_nil, or_false] at h
      rcases h with rfl | rfl | rfl <;> rfl
    · exact row_one T u h
theorem row_at : ∀ {L : List Sl} {i : Nat} {t : Sl}, L[i]? = some t → (rowVals L)[i * 3]? = some (.bool t.o) ∧ (rowVals L)[i * 3 + 1]? = some (.int .u32 t.g) ∧ (rowVals L)[i * 3 + 2]? = some (.int .i64 t.a)
  | [], i, _, h => by simp at h
  | u :: T, 0, t, h => by
    obtain rfl : u = t := by simpa using h
    exact ⟨rfl, rfl, rfl⟩
  | u :: T, i + 1, t, h => by
    have ih := row_at (L := T) (i := i) (t := t) (by simpa using h)
    have e : ∀ j, (rowVals (u :: T))[(i + 1) * 3 + j]? = (rowVals T)[i * 3 + j]? := fun j => by
      rw [show rowVals (u :: T) = slVals u ++ rowVals T from rfl, show (i + 1) * 3 + j = (slVals u).length + (i * 3 + j) by simp [slVals]; omega, List.getElem?_append_right (by omega)]
      congr 1
      omega
    exact ⟨(e 0).trans ih.1, (e 1).trans ih.2.1, (e 2).trans ih.2.2⟩
theorem row_set : ∀ {L : List Sl} {i : Nat}, i < L.length → ∀ (s : Sl), (((rowVals L).set (i * 3) (.bool s.o)).set (i * 3 + 1) (.int .u32 s.g)).set (i * 3 + 2) (.int .i64 s.a) = rowVals (L.set i s)
  | [], i, h, _ => by simp at h
  | u :: T, 0, _, s => rfl
  | u :: T, i + 1, h, s => by
    have ih := row_set (L := T) (i := i) (by simpa using h) s
    have e : ∀ (l : List Value) (j : Nat) (v : Value), (slVals u ++ l).set ((i + 1) * 3 + j) v = slVals u ++ l.set (i * 3 + j) v := fun l j v => by
      rw [List.set_append_right _ _ (by simp [slVals]; omega)]
      congr 2
      simp [slVals]
      omega
    rw [List.set_cons_succ, show rowVals (u :: T) = slVals u ++ rowVals T from rfl, show rowVals (u :: T.set i s) = slVals u ++ rowVals (T.set i s) from rfl, ← ih]
    have e0 := e (rowVals T) 0 (.bool s.o)
    simp only [Nat.add_zero] at e0
    rw [e0, e _ 1, e _ 2]

abbrev tp (bt : Nat) : Value := .pointer (some ⟨bt, 0, none⟩)

structure Tab (w : World) (B bt : Nat) (q z : Int) (v : Value) (L : List Sl) : Prop where
  hd : w.heap[bt]? = some (.cells #[.int .i64 q, .int .u32 z, v] 180)
  row : w.ownsRow B 170 3 v L.length (rowVals L)
  ap : v.ownBlock ≠ some bt
  wf : Wf q z L
  lo : B ≤ bt

/-- The blocks of a table. -/
def foot (bt : Nat) (v : Value) : Nat → Prop := fun k => k = bt ∨ some k = v.ownBlock

theorem Tab.c0 (h : Tab w B bt q z v L) : w.cell? ⟨bt, 0, none⟩ = some (.int .i64 q) := by simp [World.cell?, h.hd]
theorem Tab.c1 (h : Tab w B bt q z v L) : w.cell? ⟨bt, 1, none⟩ = some (.int .u32 z) := by simp [World.cell?, h.hd]
theorem Tab.c2 (h : Tab w B bt q z v L) : w.cell? ⟨bt, 2, none⟩ = some v := by simp [World.cell?, h.hd]
theorem Tab.fz (h : Tab w B bt q z v L) (i : Nat) : w.frozen? ⟨bt, i, none⟩ = false := by simp [World.frozen?, h.hd]
theorem Tab.lt (h : Tab w B bt q z v L) : bt < w.heap.size := (Array.getElem?_eq_some_iff.1 h.hd).1

theorem ownsRow_kept {A C : World} {n₀ k m : Nat} {t : TypeId} {v : Value} {xs : List Value} (h : A.ownsRow n₀ t m v k xs) {O : Nat → Prop} (kk : Kept O A C) (hO : ∀ g, some g = v.ownBlock → ¬ O g) : C.ownsRow n₀ t m v k xs := by
  obtain ⟨h1, h2⟩ := h
  refine ⟨h1, ?_⟩
  rcases h2 with h2 | ⟨g, cap, cur, rfl, hb, hg, rest⟩
  · exact .inl h2
  · exact .inr ⟨g, cap, cur, rfl, hb, kk.block hg (hO g rfl), rest⟩
theorem own_lt {n₀ k m : Nat} {t : TypeId} {ys : List Value} (h : w.ownsRow n₀ t m v k ys) {g : Nat} (hg : some g = v.ownBlock) : n₀ ≤ g ∧ g < w.heap.size := by
  rcases h.2 with ⟨rfl, _⟩ | ⟨g2, cap, cur, rfl, hb, hh, _⟩
  · cases hg
  · obtain rfl : g = g2 := by simpa [Value.ownBlock] using hg
    exact ⟨hb, (Array.getElem?_eq_some_iff.1 hh).1⟩

theorem Tab.kept (h : Tab w B bt q z v L) {O : Nat → Prop} (k : Kept O w w') (hO : ∀ g, foot bt v g → ¬ O g) : Tab w' B bt q z v L :=
  ⟨k.block h.hd (hO bt (.inl rfl)), ownsRow_kept h.row k (fun g hg => hO g (.inr hg)), h.ap, h.wf, h.lo⟩
theorem Tab.keep (h : Tab w B bt q z v L) (k : K w w') : Tab w' B bt q z v L := h.kept k (fun _ _ x => x)
theorem Tab.foot_lt (h : Tab w B bt q z v L) {g : Nat} (hg : foot bt v g) : B ≤ g ∧ g < w.heap.size := by
  rcases hg with rfl | hg
  · exact ⟨h.lo, h.lt⟩
  · exact own_lt h.row hg

theorem run_ixs (g len cap i : Nat) (hi : i < len) (w' : World) : (Instr.indexAt 101 (.slice (some ⟨g, 0, none⟩) len cap) (.int .i64 (i : Int))).run Tryz.prog w' = .ok (.pointer (some ⟨g, i * 3, none⟩)) w' := by
  have hel : Tryz.prog.elem 101 = 170 := by kernel_rfl
  have hsz : (sizeOf 170).run Tryz.prog w' = .ok 3 w' := by kernel_rfl
  have hu : Tryz.prog.underlying 101 = some (.slice (Tryz.prog.elem 101)) := by kernel_rfl
  rw [run_indexAt_slice w' 101 _ len cap .i64 i hu, if_pos (by omega), hel, hsz]
  simp only [Result.andThen_ok, Int.toNat_natCast]
  rw [Go.WideShapes.add_plain, Nat.zero_add]

/-- The slots' row, at block g. -/
structure RowAt (w : World) (g : Nat) (a : Option Addr) (cap : Nat) (L : List Sl) : Prop where
  ix : ∀ i : Nat, i < L.length → ∀ w', (Instr.indexAt 101 (.slice a L.length cap) (.int .i64 (i : Int))).run Tryz.prog w' = .ok (.pointer (some ⟨g, i * 3, none⟩)) w'
  c0 : ∀ (i : Nat) (s : Sl), L[i]? = some s → w.cell? ⟨g, i * 3, none⟩ = some (.bool s.o)
  c1 : ∀ (i : Nat) (s : Sl), L[i]? = some s → w.cell? ⟨g, i * 3 + 1, none⟩ = some (.int .u32 s.g)
  c2 : ∀ (i : Nat) (s : Sl), L[i]? = some s → w.cell? ⟨g, i * 3 + 2, none⟩ = some (.int .i64 s.a)
  fz : 0 < L.length → ∀ j, w.frozen? ⟨g, j, none⟩ = false

theorem RowAt.keep {g : Nat} {a : Option Addr} {cap : Nat} (h : RowAt w g a cap L) (k : K w w') : RowAt w' g a cap L := by
  refine ⟨h.ix, fun i s hs => k.cell (h.c0 i s hs), fun i s hs => k.cell (h.c1 i s hs), fun i s hs => k.cell (h.c2 i s hs), fun h0 j => ?_⟩
  have hlt : g < w.heap.size := Hp.lt_of_cell (h.c0 0 _ (List.getElem?_eq_getElem h0))
  have := h.fz h0 j
  simp only [World.frozen?] at this ⊢
  rw [k.same g hlt (fun x => x)]
  exact this

theorem row_form (h : w.ownsRow B 170 3 v L.length (rowVals L)) : ∃ g a cap, v = .slice a L.length cap ∧ RowAt w g a cap L ∧ ((a = some ⟨g, 0, none⟩ ∧ B ≤ g ∧ g < w.heap.size) ∨ (a = none ∧ L = [] ∧ cap = 0)) ∧ L.length ≤ cap := by
  rcases h.2 with ⟨h1, h0⟩ | ⟨g, cap, cur, h1, hbase, hbk, h2, h3, h4, h5⟩
  · have hK : L = [] := List.eq_nil_of_length_eq_zero h0
    subst hK
    exact ⟨0, none, 0, by rw [h1]; rfl, ⟨fun i hi => by simp at hi, fun i N hi => by simp at hi, fun i N hi => by simp at hi, fun i N hi => by simp at hi, fun h => by simp at h⟩, Or.inr ⟨rfl, rfl, rfl⟩, Nat.le_refl _⟩
  · have cell : ∀ (j : Nat) (u : Value), j < L.length * 3 → (rowVals L)[j]? = some u → w.cell? ⟨g, j, none⟩ = some u := fun j u hj hu => by
      rw [← h5, List.getElem?_take, if_pos hj] at hu
      simp only [World.cell?, hbk]
      rw [if_neg (by simp), ← Array.getElem?_toList]
      exact hu
    have lt : ∀ {i : Nat} {s : Sl}, L[i]? = some s → i < L.length := fun hs => (List.getElem?_eq_some_iff.1 hs).1
    exact ⟨g, some ⟨g, 0, none⟩, cap, h1, ⟨fun i hi w' => run_ixs g _ _ i hi w', fun i s hs => cell _ _ (by have := lt hs; omega) (row_at hs).1, fun i s hs => cell _ _ (by have := lt hs; omega) (row_at hs).2.1, fun i s hs => cell _ _ (by have := lt hs; omega) (row_at hs).2.2, fun _ j => by simp [World.frozen?, hbk]⟩, Or.inl ⟨rfl, hbase, (Array.getElem?_eq_some_iff.1 hbk).1⟩, h2⟩

theorem Tab.form (h : Tab w B bt q z v L) : ∃ g a cap, v = .slice a L.length cap ∧ RowAt w g a cap L ∧ ((a = some ⟨g, 0, none⟩ ∧ B ≤ g ∧ g < w.heap.size) ∨ (a = none ∧ L = [] ∧ cap = 0)) ∧ L.length ≤ cap := row_form h.row

/-- A cell of an owned row that is set. -/
theorem own_set {b n m g i cap : Nat} {ty : TypeId} {xs : List Value} {u : Value} (h : w.ownsRow b ty m (.slice (some ⟨g, 0, none⟩) n cap) n xs) : (w.setCell ⟨g, i, none⟩ u).ownsRow b ty m (.slice (some ⟨g, 0, none⟩) n cap) n (xs.set i u) := by
  rcases h.2 with ⟨e, _⟩ | ⟨g2, cap2, cur, e, hb, hg, h1, h2, h3, h4⟩
  · cases e
  · cases e
    refine ⟨by rw [List.length_set]; exact h.1, .inr ⟨g, cap, cur.set! i u, rfl, hb, ?_, h1, h2, by simp [h3], ?_⟩⟩
    · simp only [World.setCell]
      rw [Array.getElem?_modify, if_pos rfl, hg]
      rfl
    · simp only [Array.set!_eq_setIfInBounds, Array.toList_setIfInBounds]
      rw [List.take_set, h4]

/-- A slot of the row is laid anew. -/
def set3 (w : World) (g i : Nat) (s : Sl) : World := ((w.setCell ⟨g, i * 3, none⟩ (.bool s.o)).setCell ⟨g, i * 3 + 1, none⟩ (.int .u32 s.g)).setCell ⟨g, i * 3 + 2, none⟩ (.int .i64 s.a)

theorem Tab.set3 {g i n cap : Nat} {s : Sl} (h : Tab w B bt q z (.slice (some ⟨g, 0, none⟩) n cap) L) (hi : i < L.length) (hs : Ok z s) :
    Tab (Hd.set3 w g i s) B bt q z (.slice (some ⟨g, 0, none⟩) n cap) (L.set i s) ∧ Kept (foot bt (.slice (some ⟨g, 0, none⟩) n cap)) w (Hd.set3 w g i s) := by
  have hn : n = L.length := by
    rcases h.row.2 with ⟨e, _⟩ | ⟨g2, cap2, cur, e, _⟩
    · cases e
    · cases e; rfl
  subst hn
  have k1 : Kept (fun k => k = g) w (w.setCell ⟨g, i * 3, none⟩ (.bool s.o)) := (Kept.refl _ _).setCell _ (.inl rfl)
  have k2 : Kept (fun k => k = g) w ((w.setCell ⟨g, i * 3, none⟩ (.bool s.o)).setCell ⟨g, i * 3 + 1, none⟩ (.int .u32 s.g)) := k1.setCell _ (.inl rfl)
  have kk : Kept (fun k => k = g) w (Hd.set3 w g i s) := k2.setCell (p := ⟨g, i * 3 + 2, none⟩) (.int .i64 s.a) (.inl rfl)
  have hne : bt ≠ g := fun e => h.ap (by rw [e]; rfl)
  refine ⟨⟨kk.block h.hd hne, ?_, h.ap, h.wf.set hs, h.lo⟩, kk.mono fun k _ hk => .inr (by rw [hk]; rfl)⟩
  rw [List.length_set, ← row_set hi s]
  exact own_set (own_set (own_set h.row))

/-- What a slot is told to be. -/
def kd (z : Int) (s : Sl) : Int := if s.o then 1 else if s.g = z then 2 else 0

theorem made_ok (h : Tab w B bt q z v L) : Calls Tryz.prog 122 #[tp bt] w fun e w' => e = .returned (.bool true) ∧ w = w' := by
  have c1 := h.c1
  have hz : (z != 0) = true := by have := h.wf.z0; simp; omega
  clear h
  go_enter Tryz.func122, Tryz.ntmps122
  go_wp2
  go_ret
  exact ⟨rfl, rfl⟩

theorem kindOf_any (h : Tab w B bt q z v L) (s : Sl) : Calls Tryz.prog 133 #[tp bt, .agg #[.bool s.o, .int .u32 s.g, .int .i64 s.a]] w fun e w' => e = .returned (.int .i64 (kd z s)) ∧ K w w' := by
  have c1 := h.c1
  have hlt := h.lt
  have hK : K w (w.alloc (.cells #[.bool s.o, .int .u32 s.g, .int .i64 s.a] 170)) := (K.refl _).alloc _
  clear h
  obtain ⟨o, g, a⟩ := s
  cases o with
  | true =>
    have E : Hid (kd z ⟨true, g, a⟩ = 1) := rfl
    go_enter Tryz.func133, Tryz.ntmps133
    go_wp2
    go_ret
    exact ⟨by rw [E.out]; rfl, hK⟩
  | false =>
    by_cases hg : g = z
    · have E : Hid (kd z ⟨false, g, a⟩ = 2) := by simp [kd, hg, Hid]
      have hd : (g == z) = true := by simp [hg]
      clear hg
      go_enter Tryz.func133, Tryz.ntmps133
      go_wp2
      go_quiet (fail)
      go_wp2
      go_ret
      exact ⟨by rw [E.out]; rfl, hK.drewN _⟩
    · have E : Hid (kd z ⟨false, g, a⟩ = 0) := by simp [kd, hg, Hid]
      have hd : (g == z) = false := by simp [hg]
      clear hg
      go_enter Tryz.func133, Tryz.ntmps133
      go_wp2
      go_quiet (fail)
      go_wp2
      go_ret
      exact ⟨by rw [E.out]; rfl, hK.drewN _⟩

end Hd
end Go.Proofs.YtbbjfebdihepnaaGreatDoor

/-
  Walks of package handle's inner functions: leastFree, find, name, New.
-/
namespace Go.Proofs.YtbbjfebdihepnaaGreatDoor
open Go.RowKit Go.Maps
namespace Hd
open Hp (Kept K No)
variable {w w' : World} {B bt : Nat} {q z : Int} {v : Value} {L : List Sl}

theorem kd_free (z : Int) (s : Sl) : (kd z s == 0) = fr z s := by
  obtain ⟨o, g, a⟩ := s
  cases o <;> by_cases hg : g = z <;> simp [kd, fr, hg]

def lfN (z : Int) (L : List Sl) : Int := match freeAt z L with | some i => i + 1 | none => L.length + 1
def lfB (q z : Int) (L : List Sl) : Bool := match freeAt z L with | some _ => true | none => decide ((L.length : Int) < q)

set_option maxHeartbeats 1000000 in
theorem leastFree_any (h : Tab w B bt q z v L) : Calls Tryz.prog 123 #[tp bt] w fun e w' => e = .returned (.tuple #[.int .i64 (lfN z L), .bool (lfB q z L)]) ∧ K w w' := by
  obtain ⟨g, a, cap, rfl, hr, hg, hcap⟩ := h.form
  have c2 := h.c2
  have hlen := h.wf.len
  have hq1 := h.wf.q1
  have HT : Aside _ := h
  have HR : Aside _ := hr
  have HG : Aside _ := hg
  clear h hr hg
  go_enter Tryz.func123, Tryz.ntmps123
  go_wp2
  go_loopg [11] L.length (fun gh t wx => ∃ i : Nat, i + gh = L.length ∧ t = .int .i64 i ∧ Aside (∀ j s, j < i → L[j]? = some s → fr z s = false) ∧ K w wx)
  case atStart => exact ⟨0, by omega, rfl, fun j s hj => by omega, K.refl _⟩
  case round =>
    obtain ⟨i, hig, rfl, HI, hk⟩ := hrel
    by_cases hlt : i < L.length
    · obtain ⟨s, hs⟩ : ∃ s, L[i]? = some s := ⟨L[i], List.getElem?_eq_getElem hlt⟩
      have hix := HR.out.ix i hlt
      have hrx := HR.out.keep hk
      have d0 := hrx.c0 i s hs
      have d1 := hrx.c1 i s hs
      have d2 := hrx.c2 i s hs
      have hk2 := hk.alloc (.cells #[.bool s.o, .int .u32 s.g, .int .i64 s.a] 170)
      have hkd := kindOf_any (HT.out.keep hk2) s
      have HS : Aside _ := hs
      clear hs hrx
      go_wp2_with fail
      refine hkd.mono ?_
      rintro e w2 ⟨rfl, hk3⟩
      have hk4 := hk2.trans hk3
      by_cases hf : fr z s = true
      · have hd : (kd z s == 0) = true := by rw [kd_free]; exact hf
        have E1 : Hid (lfN z L = i + 1 ∧ lfB q z L = true) := by
          have := freeAt_of HS.out hf HI.out
          simp [lfN, lfB, this, Hid]
        clear hkd
        go_wp2
        go_ret2
        exact ⟨by rw [E1.out.1, E1.out.2]; rfl, hk4⟩
      · have hd : (kd z s == 0) = false := by rw [kd_free]; simpa using hf
        have HF : Aside _ := hf
        clear hkd hf
        go_wp2
        go_roundg (L.length - (i + 1))
        case measure => omega
        case rel =>
          refine ⟨i + 1, by omega, by go_num, fun j t hj ht => ?_, hk4⟩
          by_cases e : j = i
          · subst e
            have : s = t := Option.some.inj (HS.out.symm.trans ht)
            subst this
            simpa using HF.out
          · exact HI.out j t (by omega) ht
    · have c0 := (HT.out.keep hk).c0
      have c2 := (HT.out.keep hk).c2
      have hnone : freeAt z L = none := freeAt_none.2 fun s hs => by
        obtain ⟨j, hj⟩ := List.getElem?_of_mem hs
        exact HI.out j s (by have := (List.getElem?_eq_some_iff.1 hj).1; omega) hj
      have E1 : Hid (lfN z L = L.length + 1 ∧ lfB q z L = decide ((L.length : Int) < q)) := by simp [lfN, lfB, hnone, Hid]
      clear hnone HI
      go_wp2
      go_quiet (fail)
      go_wp2
      go_ret2
      exact ⟨by rw [E1.out.1, E1.out.2]; rfl, hk.drewN _⟩

theorem name_any (n g : Int) (n0 : 0 ≤ n) (n1 : n ≤ 65536) (g0 : 0 ≤ g) (g1 : g ≤ 4294967295) : Calls Tryz.prog 124 #[.int .i64 n, .int .u32 g] w fun e w' => e = .returned (.int .u64 (nm n g)) ∧ w = w' := by
  have E : Hid (nm n g = g * 4294967296 + n) := rfl
  go_enter Tryz.func124, Tryz.ntmps124
  go_wp2
  go_ret
  exact ⟨by rw [E.out]; rfl, rfl⟩

theorem new_ok (q z : Int) (w : World) (q0 : 1 ≤ q) (q1 : q ≤ 65536) (z0 : 1 ≤ z) (z1 : z ≤ 4294967295) : Calls Tryz.prog 74 #[.int .i64 q, .int .u32 z] w fun e w' => e = .returned (.tuple #[tp w.heap.size, .int .i64 0]) ∧ Tab w' w.heap.size w.heap.size q z (.slice none 0 0) [] ∧ K w w' := by
  have T : Hid (Tab (w.alloc (.cells #[.int .i64 q, .int .u32 z, .slice none 0 0] 180)) w.heap.size w.heap.size q z (.slice none 0 0) []) := ⟨(MapKept.heap_alloc w _).1, World.ownsRow_nil _ _ _ _, (fun h => nomatch h), Wf.nil q0 q1 z0 z1, Nat.le_refl _⟩
  go_enter Tryz.func74, Tryz.ntmps74
  go_wp2
  go_ret2
  exact ⟨rfl, T.out, (K.refl _).alloc _⟩

def badNew (q z : Int) : Prop := q < 1 ∨ 65536 < q ∨ z < 1
end Hd
end Go.Proofs.YtbbjfebdihepnaaGreatDoor

/-
  Walks of find, At, Move, Close, Used.
-/
namespace Go.Proofs.YtbbjfebdihepnaaGreatDoor
open Go.RowKit Go.Maps
namespace Hd
open Hp (Kept K No)
variable {w w' : World} {B bt : Nat} {q z : Int} {v : Value} {L : List Sl}

theorem run_ixu (g len cap i : Nat) (hi : i < len) (w' : World) : (Instr.indexAt 101 (.slice (some ⟨g, 0, none⟩) len cap) (.int .u64 (i : Int))).run Tryz.prog w' = .ok (.pointer (some ⟨g, i * 3, none⟩)) w' := by
  have hel : Tryz.prog.elem 101 = 170 := by kernel_rfl
  have hsz : (sizeOf 170).run Tryz.prog w' = .ok 3 w' := by kernel_rfl
  have hu : Tryz.prog.underlying 101 = some (.slice (Tryz.prog.elem 101)) := by kernel_rfl
  rw [run_indexAt_slice w' 101 _ len cap .u64 i hu, if_pos (by omega), hel, hsz]
  simp only [Result.andThen_ok, Int.toNat_natCast]
  rw [Go.WideShapes.add_plain, Nat.zero_add]

def U64 (h : Int) : Prop := 0 ≤ h ∧ h ≤ 18446744073709551615

theorem kd_open (z : Int) (s : Sl) : (kd z s != 1) = !s.o := by
  obtain ⟨o, g, a⟩ := s
  cases o <;> by_cases hg : g = z <;> simp [kd, hg]

/-- What find tells. -/
def FindPost (w : World) (v : Value) (L : List Sl) (h : Int) (e : Ending) (w' : World) : Prop :=
  ((findL L h = none ∧ e = .returned (.tuple #[.pointer none, .int .i64 7])) ∨ ∃ i g, findL L h = some i ∧ v.ownBlock = some g ∧ e = .returned (.tuple #[.pointer (some ⟨g, i * 3, none⟩), .int .i64 0])) ∧ K w w'

set_option maxHeartbeats 1000000 in
theorem find_any (h : Tab w B bt q z v L) (x : Int) (hx : U64 x) : Calls Tryz.prog 94 #[tp bt, .int .u64 x] w (FindPost w v L x) := by
  obtain ⟨x0, x1⟩ := hx
  have hm := made_ok h
  obtain ⟨g, a, cap, rfl, hr, hg, hcap⟩ := h.form
  have c2 := h.c2
  have hlen := h.wf.len
  have hq1 := h.wf.q1
  obtain ⟨n, hn⟩ : ∃ n : Int, x % 4294967296 = n := ⟨_, rfl⟩
  obtain ⟨y, hy⟩ : ∃ y : Int, x / 4294967296 = y := ⟨_, rfl⟩
  have hn0 : 0 ≤ n := by omega
  have hn1 : n < 4294967296 := by omega
  have hy0 : 0 ≤ y := by omega
  have hy1 : y < 4294967296 := by omega
  by_cases hlow : n < 1
  · have E : Hid (findL L x = none) := by
      show findL L x = none
      unfold findL
      rw [hn, if_pos hlow]
    clear h hr hg
    go_enter Tryz.func94, Tryz.ntmps94
    go_wp2_with (go_at_call 122; refine hm.mono ?_; rintro e w1 ⟨rfl, rfl⟩)
    go_ret2
    exact ⟨.inl ⟨E.out, rfl⟩, K.refl _⟩
  by_cases hhigh : (L.length : Int) < n
  · have E : Hid (findL L x = none) := by
      show findL L x = none
      unfold findL
      rw [hn, if_neg hlow, List.getElem?_eq_none (by omega)]
    clear h hr hg
    go_enter Tryz.func94, Tryz.ntmps94
    go_wp2_with (go_at_call 122; refine hm.mono ?_; rintro e w1 ⟨rfl, rfl⟩)
    go_ret2
    exact ⟨.inl ⟨E.out, rfl⟩, K.refl _⟩
  obtain ⟨i, hi⟩ : ∃ i : Nat, (i : Int) + 1 = n := ⟨(n - 1).toNat, by omega⟩
  have hil : i < L.length := by omega
  obtain ⟨s, hs⟩ : ∃ s, L[i]? = some s := ⟨L[i], List.getElem?_eq_getElem hil⟩
  have hsub : n - 1 = (i : Int) := by omega
  have d0 := hr.c0 i s hs
  have d1 := hr.c1 i s hs
  have d2 := hr.c2 i s hs
  have hkd := kindOf_any h s
  rcases hg with ⟨rfl, _, _⟩ | ⟨_, hnil, _⟩
  rotate_left
  · exfalso
    subst hnil
    simp at hil
  have hix := run_ixu g L.length cap i hil
  have EF : Hid (findL L x = if s.o = true ∧ s.g = y then some i else none) := by
    show _ = _
    unfold findL
    rw [hn, if_neg hlow, show (n - 1).toNat = i by omega, hs, hy]
  have hlow1 : 1 ≤ n := by omega
  clear h hr hs hlow hi
  by_cases ho : s.o = true
  · have hd : (kd z s != 1) = false := by rw [kd_open, ho]; rfl
    by_cases hgy : s.g = y
    · have hd2 : (s.g != y) = false := by simp [hgy]
      have E : Hid (findL L x = some i) := by
        show _ = _
        rw [EF.out, if_pos ⟨ho, hgy⟩]
      clear EF hgy ho
      go_enter Tryz.func94, Tryz.ntmps94
      go_wp2_with (first
        | (go_at_call 122; refine hm.mono ?_; rintro e w1 ⟨rfl, rfl⟩)
        | (go_at_call 133; refine hkd.mono ?_; rintro e w1 ⟨rfl, hk1⟩; have e1 := hk1.cell d1))
      go_ret2
      exact ⟨.inr ⟨i, g, E.out, rfl, rfl⟩, by assumption⟩
    · have hd2 : (s.g != y) = true := by simp [hgy]
      have E : Hid (findL L x = none) := by
        show _ = _
        rw [EF.out, if_neg (fun hc => hgy hc.2)]
      clear EF hgy ho
      go_enter Tryz.func94, Tryz.ntmps94
      go_wp2_with (first
        | (go_at_call 122; refine hm.mono ?_; rintro e w1 ⟨rfl, rfl⟩)
        | (go_at_call 133; refine hkd.mono ?_; rintro e w1 ⟨rfl, hk1⟩; have e1 := hk1.cell d1))
      go_ret2
      exact ⟨.inl ⟨E.out, rfl⟩, by assumption⟩
  · have hd : (kd z s != 1) = true := by rw [kd_open]; simpa using ho
    have E : Hid (findL L x = none) := by
      show _ = _
      rw [EF.out, if_neg (fun hc => ho hc.1)]
    clear EF ho
    go_enter Tryz.func94, Tryz.ntmps94
    go_wp2_with (first
      | (go_at_call 122; refine hm.mono ?_; rintro e w1 ⟨rfl, rfl⟩)
      | (go_at_call 133; refine hkd.mono ?_; rintro e w1 ⟨rfl, hk1⟩))
    go_ret2
    exact ⟨.inl ⟨E.out, rfl⟩, by assumption⟩

end Hd
end Go.Proofs.YtbbjfebdihepnaaGreatDoor
