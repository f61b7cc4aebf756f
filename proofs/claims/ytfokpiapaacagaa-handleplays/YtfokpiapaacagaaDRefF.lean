/-
  The reference's slots against the table's: closed ones keep their address there. No Go text is named here.
-/
import Derived.Test.YtfokpiapaacagaaDLive
namespace Go.Proofs.Ytfokpiapaacagaa
namespace Hd
variable {q z : Int} {R R' : List Sl}

def cl (s : Sl) : Sl := if s.o then s else ⟨false, s.g, 0⟩
theorem cl_o (s : Sl) : (cl s).o = s.o := by
  unfold cl
  cases h : s.o <;> simp [h]
theorem cl_g (s : Sl) : (cl s).g = s.g := by
  unfold cl
  split <;> rfl
theorem cl_open {s : Sl} (h : s.o = true) : cl s = s := by simp [cl, h]
theorem cl_fr (s : Sl) : fr z (cl s) = fr z s := by simp [fr, cl_o, cl_g]
def cls (R : List Sl) : List Sl := R.map cl
theorem cls_len (R : List Sl) : (cls R).length = R.length := by simp [cls]
theorem cls_get {i : Nat} {s : Sl} (h : R[i]? = some s) : (cls R)[i]? = some (cl s) := by simp [cls, h]
theorem cls_none {i : Nat} (h : R[i]? = none) : (cls R)[i]? = none := by simp [cls] at h ⊢; exact h
theorem cls_set (i : Nat) (s : Sl) : cls (R.set i s) = (cls R).set i (cl s) := by simp [cls]
theorem cls_app (s : Sl) : cls (R ++ [s]) = cls R ++ [cl s] := by simp [cls]

theorem freeAt_cls : ∀ R : List Sl, freeAt z (cls R) = freeAt z R
  | [] => rfl
  | s :: R => by
    show (if fr z (cl s) then some 0 else (freeAt z (cls R)).map (· + 1)) = if fr z s then some 0 else (freeAt z R).map (· + 1)
    rw [cl_fr, freeAt_cls R]
theorem live_cls : ∀ (R : List Sl) (n : Int), liveFrom n (cls R) = liveFrom n R
  | [], _ => rfl
  | s :: R, n => by
    show (if (cl s).o then nm n (cl s).g :: liveFrom (n + 1) (cls R) else liveFrom (n + 1) (cls R)) = if s.o then nm n s.g :: liveFrom (n + 1) R else liveFrom (n + 1) R
    rw [cl_o, cl_g, live_cls R (n + 1)]
theorem liveL_cls (R : List Sl) : liveL (cls R) = liveL R := live_cls R 1
theorem findL_cls (h : Int) : findL (cls R) h = findL R h := by
  unfold findL
  split
  · rfl
  · cases e : R[(h % 4294967296 - 1).toNat]? with
    | none => rw [cls_none e]
    | some s =>
      rw [cls_get e]
      simp only [cl_o, cl_g]
theorem atL_cls (h : Int) : atL (cls R) h = atL R h := by
  cases e : findL R h with
  | none => rw [atL_none e, atL_none (by rw [findL_cls]; exact e)]
  | some i =>
    obtain ⟨s, hs, ho, _⟩ := findL_some e
    rw [atL_some e hs, atL_some (by rw [findL_cls]; exact e) (cls_get hs), cl_open ho]
theorem openL_cls (a : Int) : openL q z (cls R) a = ((openL q z R a).1, (openL q z R a).2.1, cls (openL q z R a).2.2) := by
  by_cases a0 : a < 0
  · rw [openL_neg a0, openL_neg a0]
  · cases hf : freeAt z R with
    | some i =>
      obtain ⟨s, hs, _⟩ := freeAt_some hf
      rw [openL_free (by omega) hf hs, openL_free (by omega) (by rw [freeAt_cls]; exact hf) (cls_get hs), cl_g, cls_set]
      rfl
    | none =>
      by_cases hl : (R.length : Int) < q
      · rw [openL_new (by omega) hf hl, openL_new (by omega) (by rw [freeAt_cls]; exact hf) (by rw [cls_len]; exact hl), cls_len, cls_app]
        rfl
      · rw [openL_full (by omega) hf (by omega), openL_full (by omega) (by rw [freeAt_cls]; exact hf) (by rw [cls_len]; omega)]
theorem moveL_cls (h a : Int) : moveL (cls R) h a = ((moveL R h a).1, cls (moveL R h a).2) := by
  by_cases a0 : a < 0
  · rw [moveL_neg a0, moveL_neg a0]
  · cases e : findL R h with
    | none => rw [moveL_none (by omega) e, moveL_none (by omega) (by rw [findL_cls]; exact e)]
    | some i =>
      obtain ⟨s, hs, ho, _⟩ := findL_some e
      rw [moveL_some (by omega) e hs, moveL_some (by omega) (by rw [findL_cls]; exact e) (cls_get hs), cl_g, cls_set]
      rfl
/-- The reference's Close. -/
def closeR (R : List Sl) (h : Int) : Int × List Sl :=
  match findL R h with
  | some i => (0, R.set i ⟨false, genAt R i, addrAt R i⟩)
  | none => (7, R)
theorem closeR_some {h : Int} {i : Nat} {s : Sl} (e : findL R h = some i) (hs : R[i]? = some s) : closeR R h = (0, R.set i ⟨false, s.g, s.a⟩) := by
  simp only [closeR, e, genAt, addrAt, getD_of hs]
theorem closeR_none {h : Int} (e : findL R h = none) : closeR R h = (7, R) := by simp only [closeR, e]
theorem closeL_cls (h : Int) : closeL (cls R) h = ((closeR R h).1, cls (closeR R h).2) := by
  cases e : findL R h with
  | none => rw [closeR_none e, closeL_none (by rw [findL_cls]; exact e)]
  | some i =>
    obtain ⟨s, hs, ho, _⟩ := findL_some e
    rw [closeR_some e hs, closeL_some (by rw [findL_cls]; exact e) (cls_get hs), cl_g, cls_set]
    rfl

/-- What the reference asks of a slot that is free. -/
theorem fr_lt (hw : Wf q z (cls R)) {i : Nat} {s : Sl} (hs : R[i]? = some s) : fr z s = (!s.o && decide (s.g < z)) := by
  have h1 := (hw.get (cls_get hs)).hi
  rw [cl_g] at h1
  unfold fr
  congr 1
  by_cases e : s.g = z
  · simp [e]
  · have : s.g < z := by omega
    simp [e, this]
theorem gen_of (hw : Wf q z (cls R)) {i : Nat} {s : Sl} (hs : R[i]? = some s) : 1 ≤ s.g ∧ s.g ≤ z ∧ i < 65536 := by
  have h0 := hw.get (cls_get hs)
  have h1 := h0.lo
  have h2 := h0.hi
  rw [cl_g] at h1 h2
  have h3 := (List.getElem?_eq_some_iff.1 hs).1
  have h4 := hw.len
  rw [cls_len] at h4
  have := hw.q1
  exact ⟨h1, h2, by omega⟩

end Hd
end Go.Proofs.Ytfokpiapaacagaa
