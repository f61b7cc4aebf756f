/-
  Plain facts on a table of handles: its slots as a list. No Go text is named here.
-/
import Derived.KernelRfl
namespace Go.Proofs.Ytfokpiapaacagaa
namespace Hd

/-- A slot that was opened once: is it open, its last generation, its address. -/
structure Sl where
  o : Bool
  g : Int
  a : Int
deriving DecidableEq

/-- The handle of slot n in generation g. -/
def nm (n g : Int) : Int := g * 4294967296 + n

/-- Free: closed, and a generation is left. -/
def fr (z : Int) (s : Sl) : Bool := !s.o && !(s.g == z)

def freeAt (z : Int) : List Sl → Option Nat
  | [] => none
  | s :: L => if fr z s then some 0 else (freeAt z L).map (· + 1)

def openL (q z : Int) (L : List Sl) (a : Int) : Int × Int × List Sl :=
  if a < 0 then (0, 2, L) else
  match freeAt z L with
  | some i => (nm (i + 1) ((L.getD i ⟨false, 0, 0⟩).g + 1), 0, L.set i ⟨true, (L.getD i ⟨false, 0, 0⟩).g + 1, a⟩)
  | none => if (L.length : Int) < q then (nm (L.length + 1) 1, 0, L ++ [⟨true, 1, a⟩]) else (0, 10, L)

/-- The place of a live handle. -/
def findL (L : List Sl) (h : Int) : Option Nat :=
  if h % 4294967296 < 1 then none else
  match L[(h % 4294967296 - 1).toNat]? with
  | some s => if s.o = true ∧ s.g = h / 4294967296 then some (h % 4294967296 - 1).toNat else none
  | none => none

def addrAt (L : List Sl) (i : Nat) : Int := (L.getD i ⟨false, 0, 0⟩).a
def genAt (L : List Sl) (i : Nat) : Int := (L.getD i ⟨false, 0, 0⟩).g

def atL (L : List Sl) (h : Int) : Int × Int :=
  match findL L h with
  | some i => (addrAt L i, 0)
  | none => (0, 7)
def closeL (L : List Sl) (h : Int) : Int × List Sl :=
  match findL L h with
  | some i => (0, L.set i ⟨false, genAt L i, 0⟩)
  | none => (7, L)
def moveL (L : List Sl) (h a : Int) : Int × List Sl :=
  if a < 0 then (2, L) else
  match findL L h with
  | some i => (0, L.set i ⟨true, genAt L i, a⟩)
  | none => (7, L)
def liveFrom : Int → List Sl → List Int
  | _, [] => []
  | n, s :: L => if s.o then nm n s.g :: liveFrom (n + 1) L else liveFrom (n + 1) L
def liveL (L : List Sl) : List Int := liveFrom 1 L

/-- What a slot of a table may be. -/
structure Ok (z : Int) (s : Sl) : Prop where
  lo : 1 ≤ s.g
  hi : s.g ≤ z
  a0 : 0 ≤ s.a
  a1 : s.a ≤ 9223372036854775807
  cl : s.o = false → s.a = 0

/-- What a table may be. -/
structure Wf (q z : Int) (L : List Sl) : Prop where
  q0 : 1 ≤ q
  q1 : q ≤ 65536
  z0 : 1 ≤ z
  z1 : z ≤ 4294967295
  len : (L.length : Int) ≤ q
  ok : ∀ s ∈ L, Ok z s

theorem Wf.nil {q z : Int} (q0 : 1 ≤ q) (q1 : q ≤ 65536) (z0 : 1 ≤ z) (z1 : z ≤ 4294967295) : Wf q z [] := ⟨q0, q1, z0, z1, by simp; omega, fun _ h => nomatch h⟩
theorem Wf.get {q z : Int} {L : List Sl} (h : Wf q z L) {i : Nat} {s : Sl} (hs : L[i]? = some s) : Ok z s := h.ok s (List.mem_of_getElem? hs)
theorem Wf.set {q z : Int} {L : List Sl} (h : Wf q z L) {i : Nat} {s : Sl} (hs : Ok z s) : Wf q z (L.set i s) :=
  ⟨h.q0, h.q1, h.z0, h.z1, by rw [List.length_set]; exact h.len, fun t ht => by
    rcases List.mem_or_eq_of_mem_set ht with h1 | rfl
    · exact h.ok t h1
    · exact hs⟩
theorem Wf.app {q z : Int} {L : List Sl} (h : Wf q z L) {s : Sl} (hs : Ok z s) (hl : (L.length : Int) < q) : Wf q z (L ++ [s]) :=
  ⟨h.q0, h.q1, h.z0, h.z1, by simp; omega, fun t ht => by
    rcases List.mem_append.1 ht with h1 | h1
    · exact h.ok t h1
    · obtain rfl : t = s := by simpa using h1
      exact hs⟩

theorem freeAt_some {z : Int} : ∀ {L : List Sl} {i : Nat}, freeAt z L = some i → ∃ s, L[i]? = some s ∧ fr z s = true ∧ ∀ j t, j < i → L[j]? = some t → fr z t = false
  | [], _, h => by simp [freeAt] at h
  | s :: L, i, h => by
    unfold freeAt at h
    split at h
    · next hf =>
      obtain rfl : 0 = i := by simpa using h
      exact ⟨s, rfl, hf, fun j t hj => by omega⟩
    · next hf =>
      obtain ⟨k, hk, rfl⟩ := Option.map_eq_some_iff.1 h
      obtain ⟨t, h1, h2, h3⟩ := freeAt_some hk
      refine ⟨t, by simpa using h1, h2, fun j u hj hu => ?_⟩
      cases j with
      | zero =>
        obtain rfl : s = u := by simpa using hu
        simpa using hf
      | succ j => exact h3 j u (by omega) (by simpa using hu)
theorem freeAt_none {z : Int} : ∀ {L : List Sl}, freeAt z L = none ↔ ∀ s ∈ L, fr z s = false
  | [] => by simp [freeAt]
  | s :: L => by
    unfold freeAt
    split
    · next hf =>
      simp
      intro h
      rw [hf] at h
      cases h
    · next hf =>
      rw [Option.map_eq_none_iff, freeAt_none]
      simp at hf
      simp [hf]
theorem freeAt_of {z : Int} : ∀ {L : List Sl} {i : Nat} {s : Sl}, L[i]? = some s → fr z s = true → (∀ j t, j < i → L[j]? = some t → fr z t = false) → freeAt z L = some i
  | [], _, _, h, _, _ => by simp at h
  | t :: L, 0, s, h, hf, _ => by
    obtain rfl : t = s := by simpa using h
    simp [freeAt, hf]
  | t :: L, i + 1, s, h, hf, hn => by
    have h0 := hn 0 t (by omega) rfl
    have := freeAt_of (L := L) (i := i) (s := s) (z := z) (by simpa using h) hf (fun j u hj hu => hn (j + 1) u (by omega) (by simpa using hu))
    simp [freeAt, h0, this]

theorem findL_some {L : List Sl} {h : Int} {i : Nat} (hf : findL L h = some i) : ∃ s, L[i]? = some s ∧ s.o = true ∧ s.g = h / 4294967296 ∧ (i : Int) + 1 = h % 4294967296 := by
  unfold findL at hf
  split at hf
  · cases hf
  · next h0 =>
    split at hf
    · next s hs =>
      split at hf
      · next hc =>
        obtain rfl : (h % 4294967296 - 1).toNat = i := by simpa using hf
        exact ⟨s, hs, hc.1, hc.2, by omega⟩
      · cases hf
    · cases hf
theorem findL_of {L : List Sl} {i : Nat} {s : Sl} (hs : L[i]? = some s) (ho : s.o = true) (hl : i < 4294967295) : findL L (nm (i + 1) s.g) = some i := by
  have e1 : nm (i + 1) s.g % 4294967296 = i + 1 := by unfold nm; omega
  have e2 : nm (i + 1) s.g / 4294967296 = s.g := by unfold nm; omega
  unfold findL
  rw [e1, e2, if_neg (by omega), show ((i : Int) + 1 - 1).toNat = i by omega, hs]
  simp [ho]
/-- Whether a handle that has a slot's number and a generation is live. -/
theorem findL_nm {L : List Sl} {i : Nat} {g : Int} {s : Sl} (hs : L[i]? = some s) (hl : i < 4294967295) : findL L (nm (i + 1) g) = if s.o = true ∧ s.g = g then some i else none := by
  have e1 : nm (i + 1) g % 4294967296 = i + 1 := by unfold nm; omega
  have e2 : nm (i + 1) g / 4294967296 = g := by unfold nm; omega
  unfold findL
  rw [e1, e2, if_neg (by omega), show ((i : Int) + 1 - 1).toNat = i by omega, hs]
theorem nm_inj {m n g k : Int} (h : nm m g = nm n k) (m0 : 0 ≤ m) (m1 : m < 4294967296) (n0 : 0 ≤ n) (n1 : n < 4294967296) : m = n ∧ g = k := by
  unfold nm at h
  omega

theorem Ok.opened {q z : Int} {L : List Sl} (h : Wf q z L) {i : Nat} {s : Sl} (hs : L[i]? = some s) (hf : fr z s = true) {a : Int} (a0 : 0 ≤ a) (a1 : a ≤ 9223372036854775807) : Ok z ⟨true, s.g + 1, a⟩ := by
  have hk := h.get hs
  have : s.g ≠ z := by
    simp [fr] at hf
    exact hf.2
  have := hk.hi
  have := hk.lo
  exact ⟨by simp; omega, by simp; omega, a0, a1, fun h => nomatch h⟩

theorem getD_of {L : List Sl} {i : Nat} {s d : Sl} (hs : L[i]? = some s) : L.getD i d = s := by
  rw [List.getD_eq_getElem?_getD, hs]
  rfl

theorem atL_some {L : List Sl} {x : Int} {i : Nat} {s : Sl} (h : findL L x = some i) (hs : L[i]? = some s) : atL L x = (s.a, 0) := by
  simp only [atL, h, addrAt, getD_of hs]
theorem atL_none {L : List Sl} {x : Int} (h : findL L x = none) : atL L x = (0, 7) := by simp only [atL, h]
theorem closeL_some {L : List Sl} {x : Int} {i : Nat} {s : Sl} (h : findL L x = some i) (hs : L[i]? = some s) : closeL L x = (0, L.set i ⟨false, s.g, 0⟩) := by
  simp only [closeL, h, genAt, getD_of hs]
theorem closeL_none {L : List Sl} {x : Int} (h : findL L x = none) : closeL L x = (7, L) := by simp only [closeL, h]
theorem moveL_some {L : List Sl} {x a : Int} {i : Nat} {s : Sl} (a0 : 0 ≤ a) (h : findL L x = some i) (hs : L[i]? = some s) : moveL L x a = (0, L.set i ⟨true, s.g, a⟩) := by
  simp only [moveL, h, genAt, getD_of hs]
  rw [if_neg (by omega)]
theorem moveL_none {L : List Sl} {x a : Int} (a0 : 0 ≤ a) (h : findL L x = none) : moveL L x a = (7, L) := by
  simp only [moveL, h]
  rw [if_neg (by omega)]
theorem moveL_neg {L : List Sl} {x a : Int} (a0 : a < 0) : moveL L x a = (2, L) := by
  unfold moveL
  rw [if_pos a0]
theorem openL_neg {q z : Int} {L : List Sl} {a : Int} (a0 : a < 0) : openL q z L a = (0, 2, L) := by
  unfold openL
  rw [if_pos a0]
theorem openL_free {q z : Int} {L : List Sl} {a : Int} {i : Nat} {s : Sl} (a0 : 0 ≤ a) (h : freeAt z L = some i) (hs : L[i]? = some s) : openL q z L a = (nm (i + 1) (s.g + 1), 0, L.set i ⟨true, s.g + 1, a⟩) := by
  simp only [openL, h, getD_of hs]
  rw [if_neg (by omega)]
theorem openL_new {q z : Int} {L : List Sl} {a : Int} (a0 : 0 ≤ a) (h : freeAt z L = none) (hl : (L.length : Int) < q) : openL q z L a = (nm (L.length + 1) 1, 0, L ++ [⟨true, 1, a⟩]) := by
  simp only [openL, h]
  rw [if_neg (by omega), if_pos hl]
theorem openL_full {q z : Int} {L : List Sl} {a : Int} (a0 : 0 ≤ a) (h : freeAt z L = none) (hl : q ≤ (L.length : Int)) : openL q z L a = (0, 10, L) := by
  simp only [openL, h]
  rw [if_neg (by omega), if_neg (by omega)]

theorem openL_wf {q z : Int} {L : List Sl} (h : Wf q z L) {a : Int} (a1 : a ≤ 9223372036854775807) : Wf q z (openL q z L a).2.2 := by
  unfold openL
  split
  · exact h
  · next a0 =>
    split
    · next i hi =>
      obtain ⟨s, hs, hf, _⟩ := freeAt_some hi
      rw [getD_of hs]
      exact h.set (Ok.opened h hs hf (by omega) a1)
    · split
      · next hl =>
        exact h.app ⟨Int.le_refl _, h.z0, by simp; omega, a1, fun h => nomatch h⟩ hl
      · exact h
theorem closeL_wf {q z : Int} {L : List Sl} (h : Wf q z L) {x : Int} : Wf q z (closeL L x).2 := by
  unfold closeL
  split
  · next i hi =>
    obtain ⟨s, hs, _⟩ := findL_some hi
    have hk := h.get hs
    unfold genAt
    rw [getD_of hs]
    exact h.set ⟨hk.lo, hk.hi, by simp, by simp, fun _ => rfl⟩
  · exact h
theorem moveL_wf {q z : Int} {L : List Sl} (h : Wf q z L) {x a : Int} (a1 : a ≤ 9223372036854775807) : Wf q z (moveL L x a).2 := by
  unfold moveL
  split
  · exact h
  · split
    · next i hi =>
      obtain ⟨s, hs, _⟩ := findL_some hi
      have hk := h.get hs
      unfold genAt
      rw [getD_of hs]
      exact h.set ⟨hk.lo, hk.hi, by simp; omega, a1, fun h => nomatch h⟩
    · exact h

end Hd
end Go.Proofs.Ytfokpiapaacagaa
