/-
  What a page's head says, with no program: the pages of an arena that have heads, as numbers and lists.
-/
import Derived.Test.YtlpdgomoepinjaaDoorSPlain
import Derived.Test.YtlpdgomoepinjaaDoorBWords
import Derived.Test.YtlpdgomoepinjaaDoorCPlain
namespace Go.Proofs.YtlpdgomoepinjaaDoor
namespace Hp

/-- A granted page that has a head, and what that says: kind 0 wrong, 1 of small places, 2 the first one of a large block. -/
structure Pg where
  n : Int
  kind : Int
  cls : Int
  taken : Int
  words : Int
  span : Int
deriving DecidableEq

/-- The head says: a page of small places. -/
def classOk (m h : Int) : Bool := decide (Cl.errC (m / 256) = 0) && !(h == 0) && (m == 1 + 256 * (m / 256)) && (Bt.cutI (Cl.sloI (m / 256)) h == h)
/-- The head says: a large block. -/
def largeOk (m h : Int) : Bool := decide (1 ≤ h ∧ h ≤ 4000) && !Cl.smaI h && (m == 2 + 256 * Cl.pagI h)

/-- What the head of page n says. -/
def look (pg : List (Int × Nat)) (W : Int → Int) (n : Int) : Pg :=
  if classOk (W (64 * n)) (W (64 * n + 1)) = true then ⟨n, 1, W (64 * n) / 256, W (64 * n + 1), 0, 1⟩
  else if (largeOk (W (64 * n)) (W (64 * n + 1)) && Sl.allIn pg n (Cl.pagI (W (64 * n + 1))).toNat) = true then ⟨n, 2, 0, 0, W (64 * n + 1), Cl.pagI (W (64 * n + 1))⟩
  else ⟨n, 0, 0, 0, 0, 1⟩

/-- The pages that have heads, from a page on. -/
def scan (f : Int → Pg) : List Int → Int → List Pg
  | [], _ => []
  | n :: r, b => if n < b then scan f r b else f n :: scan f r (n + (f n).span)

/-- All pages of an arena that have heads. -/
def heads (pg : List (Int × Nat)) (W : Int → Int) : List Pg := scan (look pg W) (pg.map fun p => p.1) 0

theorem look_n (pg : List (Int × Nat)) (W : Int → Int) (n : Int) : (look pg W n).n = n := by
  unfold look
  split
  · rfl
  · split <;> rfl

theorem pag_range {h : Int} (h0 : 1 ≤ h) (h1 : h ≤ 4000) : 1 ≤ Cl.pagI h ∧ Cl.pagI h ≤ 63 := by
  rw [Cl.pagI_in (show Cl.Wd h from ⟨h0, h1⟩)]
  omega

theorem largeOk_inv {m h : Int} (h0 : largeOk m h = true) : 1 ≤ h ∧ h ≤ 4000 ∧ Cl.smaI h = false ∧ m = 2 + 256 * Cl.pagI h := by
  simp [largeOk] at h0
  exact ⟨h0.1.1.1, h0.1.1.2, h0.1.2, h0.2⟩
theorem classOk_inv {m h : Int} (h0 : classOk m h = true) : Cl.errC (m / 256) = 0 ∧ h ≠ 0 ∧ m = 1 + 256 * (m / 256) ∧ Bt.cutI (Cl.sloI (m / 256)) h = h := by
  simp [classOk] at h0
  exact ⟨h0.1.1.1, h0.1.1.2, h0.1.2, h0.2⟩

theorem look_span (pg : List (Int × Nat)) (W : Int → Int) (n : Int) : 1 ≤ (look pg W n).span ∧ (look pg W n).span ≤ 63 := by
  unfold look
  split
  · exact ⟨Int.le_refl _, by show (1 : Int) ≤ 63; omega⟩
  · split
    · rename_i hl
      simp only [Bool.and_eq_true] at hl
      obtain ⟨h0, h1, _⟩ := largeOk_inv hl.1
      exact pag_range h0 h1
    · exact ⟨Int.le_refl _, by show (1 : Int) ≤ 63; omega⟩

theorem scan_skip (f : Int → Pg) (n : Int) (r : List Int) (b : Int) (h : n < b) : scan f (n :: r) b = scan f r b := by simp [scan, h]
theorem scan_take (f : Int → Pg) (n : Int) (r : List Int) (b : Int) (h : ¬ n < b) : scan f (n :: r) b = f n :: scan f r (n + (f n).span) := by simp [scan, h]

end Hp
end Go.Proofs.YtlpdgomoepinjaaDoor
