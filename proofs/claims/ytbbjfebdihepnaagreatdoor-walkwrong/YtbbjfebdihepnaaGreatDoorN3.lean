/-
  Nodes on a store made since: what a Make that fits leaves; the document's answers that each statement asks for.
-/
import Derived.Test.YtbbjfebdihepnaaGreatDoorN2
namespace Go.Proofs.YtbbjfebdihepnaaGreatDoor
open Go.RowKit Go.Maps
attribute [local go_sem ↓] Go.wp_at_zero Go.wp_at_succ
namespace Nd
open Hp (Kept K No Pg BlR Bl Wl Same allocL granted)
open Hd (U64 findL openL)
open Go.Proofs.YtbbjfebdihepnaaGreatDoor.Bb (Ho)
open Go.Proofs.YtbbjfebdihepnaaGreatDoor.So (Ad Sb Sw Rec Rn Stp sp lE lN wE)
variable {w0 w w' : World} {B : Nat} {A : Ad} {pg pg' : List (Int × Nat)} {W W' : Int → Int} {L L' : List Pg} {v v' : Value} {T T' : List Hd.Sl} {x : Int}

theorem full_no {m z a x : Int} {er : Int} (a0 : 0 ≤ a) (hk : (T.length : Int) < m) (e : openL m z T a = (x, er, T')) : er = 0 ∧ T'.length ≤ T.length + 1 := by
  have hf : So.fullB m z T = false := by unfold So.fullB; rw [decide_eq_false (by omega)]; rfl
  have h0 : er = 0 := by
    rcases So.full_open a0 e with ⟨_, h⟩ | ⟨h, _⟩
    · exact h
    · rw [hf] at h; cases h
  subst h0
  refine ⟨rfl, ?_⟩
  unfold openL at e
  rw [if_neg (by omega)] at e
  split at e
  · simp only [Prod.mk.injEq] at e
    obtain ⟨_, _, rfl⟩ := e
    simp
  · split at e
    · simp only [Prod.mk.injEq] at e
      obtain ⟨_, _, rfl⟩ := e
      simp
    · omega

/-- What a Make that fits leaves. -/
structure Fits (w0 w w' : World) (A : Ad) (pg : List (Int × Nat)) (W : Int → Int) (v : Value) (T : List Hd.Sl) (L' : List Pg) (x : Int) (ws : List Int) (pg' : List (Int × Nat)) (W' : Int → Int) (v' : Value) (T' : List Hd.Sl) : Prop where
  rn : Rn w0 w' A pg' W' L' v' T'
  len : T'.length ≤ T.length + 1
  ho : Ho T' W' x ws
  old : ∀ y ys, Ho T W y ys → y ≠ x ∧ Ho T' W' y ys
  st : Stp A pg pg' v v' w w'
  op : Bb.op T' = Bb.op T + 1

theorem make_fits (h : Rn w0 w A pg W L v T) (n : Nv) (hn : n.Ok) {a : Int} (ea : allocL A.q L (2 + 6) = (a, 0, L')) (hk : (T.length : Int) < A.m) :
    Calls Tryz.prog 41 #[sp A.st, n.v] w fun e w' => ∃ x, e = .returned (.tuple #[.int .u64 x, .int .i64 0]) ∧ Aside (U64 x ∧ x ≠ 0 ∧ ∃ pg' W' v' T', Fits w0 w w' A pg W v T L' x n.ws pg' W' v' T') := by
  refine (make_any h.s h.k.size n hn).mono ?_
  rintro e w2 (⟨a2, L2, x, T2, ea2, eo, a0, hx, x0, rfl, hl⟩ | ⟨er, her, hc, rfl, _⟩)
  · rw [ea] at ea2
    simp only [Prod.mk.injEq] at ea2
    obtain ⟨rfl, _, rfl⟩ := ea2
    obtain ⟨pg2, W2, v2, sw, ho, hold, st⟩ := hl.out
    exact ⟨x, rfl, hx, x0, pg2, W2, v2, T2, ⟨sw, h.kst st⟩, (full_no a0 hk eo).2, ho, hold, st, Bb.open_op a0 eo⟩
  · exfalso
    rcases hc with ⟨a2, e2, hne⟩ | ⟨_, hf, _⟩
    · rw [ea] at e2
      simp only [Prod.mk.injEq] at e2
      exact hne e2.2.1.symm
    · unfold So.fullB at hf
      rw [decide_eq_false (by omega)] at hf
      cases hf

def n71 : Nv := ⟨7, 0, 0, 0, 0, 1⟩
end Nd
end Go.Proofs.YtbbjfebdihepnaaGreatDoor
