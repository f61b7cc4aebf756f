/-
  Nodes on a store made since: what a Make that fits leaves; the document's answers that each statement asks for.
-/
import Derived.Test.YtlalmdckdejggaaGreatDoorN2
namespace Go.Proofs.YtlalmdckdejggaaGreatDoor
open Go.RowKit Go.Maps
attribute [local go_sem ↓] Go.wp_at_zero Go.wp_at_succ
namespace Nd
open Hp (Kept K No Pg BlR Bl Wl Same allocL granted)
open Hd (U64 findL openL)
open Go.Proofs.YtlalmdckdejggaaGreatDoor.Bb (Ho)
open Go.Proofs.YtlalmdckdejggaaGreatDoor.So (Ad Sb Sw Rec Rn Stp sp lE lN wE)
variable {w0 w w' : World} {B : Nat} {A : Ad} {pg pg' : List (Int × Nat)} {W W' : Int → Int} {L L' : List Pg} {v v' : Value} {T T' : List Hd.Sl} {x : Int}

theorem full_no {m z a x : Int} {er : Int} (a0 : 0 ≤ a) (hk : (T.length : Int) < m) (e : openL m z T a = (x, er, T')) : er = 0 ∧ T'.length ≤ T.length + 1 := by
  have hf : So.fullB m z T = false := by unfold So.fullB; rw [decide_eq_false (by omega)]; rfl
  have h0 : er = 0 := by
    rcases So.full_open a0 e with ⟨_, h⟩ | ⟨h, _⟩
    · exact h
    · rw [hf] at h; cases h
  subst h0
  refine ⟨rfl, ?_⟩
  unfold openL at e
  rw [if_neg (by omega)] at e
  split at e
  · simp only [Prod.mk.injEq] at e
    obtain ⟨_, _, rfl⟩ := e
    simp
  · split at e
    · simp only [Prod.mk.injEq] at e
      obtain ⟨_, _, rfl⟩ := e
      simp
    · omega

/-- What a Make that fits leaves. -/
structure Fits (w0 w w' : World) (A : Ad) (pg : List (Int × Nat)) (W : Int → Int) (v : Value) (T : List Hd.Sl) (L' : List Pg) (x : Int) (ws : List Int) (pg' : List (Int × Nat)) (W' : Int → Int) (v' : Value) (T' : List Hd.Sl) : Prop where
  rn : Rn w0 w' A pg' W' L' v' T'
  len : T'.length ≤ T.length + 1
  ho : Ho T' W' x ws
  old : ∀ y ys, Ho T W y ys → y ≠ x ∧ Ho T' W' y ys
  st : Stp A pg pg' v v' w w'

theorem make_fits (h : Rn w0 w A pg W L v T) (n : Nv) (hn : n.Ok) {a : Int} (ea : allocL A.q L (2 + 6) = (a, 0, L')) (hk : (T.length : Int) < A.m) :
    Calls Tryz.prog 13 #[sp A.st, n.v] w fun e w' => ∃ x, e = .returned (.tuple #[.int .u64 x, .int .i64 0]) ∧ Aside (U64 x ∧ x ≠ 0 ∧ ∃ pg' W' v' T', Fits w0 w w' A pg W v T L' x n.ws pg' W' v' T') := by
  refine (make_any h.s h.k.size n hn).mono ?_
  rintro e w2 (⟨a2, L2, x, T2, ea2, eo, a0, hx, x0, rfl, hl⟩ | ⟨er, her, hc, rfl, _⟩)
  · rw [ea] at ea2
    simp only [Prod.mk.injEq] at ea2
    obtain ⟨rfl, _, rfl⟩ := ea2
    obtain ⟨pg2, W2, v2, sw, ho, hold, st⟩ := hl.out
    exact ⟨x, rfl, hx, x0, pg2, W2, v2, T2, ⟨sw, h.kst st⟩, (full_no a0 hk eo).2, ho, hold, st⟩
  · exfalso
    rcases hc with ⟨a2, e2, hne⟩ | ⟨_, hf, _⟩
    · rw [ea] at e2
      simp only [Prod.mk.injEq] at e2
      exact hne e2.2.1.symm
    · unfold So.fullB at hf
      rw [decide_eq_false (by omega)] at hf
      cases hf

theorem len_held (h : Rn w0 w A pg W L v T) (hx : U64 x) {ws : List Int} (ho : Ho T W x ws) : Calls Tryz.prog 23 #[sp A.st, .int .u64 x] w fun e w' => e = .returned (.tuple #[.int .i64 (ws.length : Int), .int .i64 0]) ∧ K w w' := by
  have ln := So.len_any h.s x hx
  obtain ⟨i, s, hi, hs, so, hw⟩ := ho_slot ho
  obtain ⟨_, n0, n1, _⟩ := h.s.r.nm i s hs so
  have e1 : lE T x = 0 := by simp [lE, hi]
  have e2 : lN T W x = (ws.length : Int) := by
    have : lN T W x = W (s.a + 1) := by simp [lN, hi, Hd.addrAt, hs]
    rw [this, ← hw, wdA_len]
    omega
  rw [e1, e2] at ln
  exact ln

def n71 : Nv := ⟨7, 0, 0, 0, 0, 1⟩
theorem n71_ok : n71.Ok := ⟨by decide, by decide, by decide, by decide, by decide, by decide⟩
theorem alloc_one : ∃ a L', allocL 640 [] (2 + 6) = (a, 0, L') ∧ granted L' = 1 := by
  have h : (allocL 640 [] (2 + 6)).2.1 = 0 := by decide +kernel
  have h2 : granted (allocL 640 [] (2 + 6)).2.2 = 1 := by decide +kernel
  exact ⟨(allocL 640 [] (2 + 6)).1, (allocL 640 [] (2 + 6)).2.2, Prod.ext rfl (Prod.ext h rfl), h2⟩

set_option maxRecDepth 100000 in
set_option maxHeartbeats 2000000 in
theorem awake_any (w : World) (hT : Bt.Tab w) : Calls Tryz.prog 8 #[] w fun e w' => e = .returned (.bool true) ∧ K w w' := by
  have cn := Rn.new 640 9 9 w hT (by decide) (by decide) (by decide) (by decide) (by decide) (by decide)
  go_enter Tryz.func8, Tryz.ntmps8
  go_wp2_with fail
  refine cn.mono ?_
  rintro e w1 ⟨A, v, rfl, HA, k1⟩
  obtain ⟨rn, hq, hm, hz, _, _⟩ := HA.out
  obtain ⟨a, L', ea, _⟩ := alloc_one
  rw [← hq] at ea
  have cp := make_fits rn n71 n71_ok ea (by rw [hm]; decide)
  clear HA ea rn cn
  go_wp2_with fail
  refine cp.mono ?_
  rintro e w2 ⟨x, rfl, HX⟩
  obtain ⟨hx, x0, pg2, W2, v2, T2, F⟩ := HX.out
  have cl := len_held F.rn hx F.ho
  rw [show (n71.ws.length : Int) = 6 from rfl] at cl
  have CW : Aside (∀ w3, K w2 w3 → Calls Tryz.prog 20 #[sp A.st, .int .u64 x, .int .i64 5] w3 fun e w' => e = .returned (.tuple #[.int .u64 1, .int .i64 0]) ∧ K w2 w') := fun w3 k => (word_held (F.rn.keep k).s hx F.ho (k := 5) (y := 1) rfl).mono fun e w4 h => ⟨h.1, k.trans h.2⟩
  have CG : Aside (∀ w3, K w2 w3 → Calls Tryz.prog 14 #[sp A.st, .int .u64 x] w3 fun e w' => e = .returned (.tuple #[n71.v, .int .i64 0]) ∧ K w2 w') := fun w3 k => (get_node (F.rn.keep k).s hx F.ho).mono fun e w4 h => ⟨h.1, k.trans h.2⟩
  have KK : Aside _ := F.rn.k
  clear HX F cp
  go_wp2_with fail
  refine cl.mono ?_
  rintro e w3 ⟨rfl, k3⟩
  have c5 := CW.out w3 k3
  clear cl k3 CW
  go_wp2_with fail
  refine c5.mono ?_
  rintro e w4 ⟨rfl, k4⟩
  have cg := CG.out w4 k4
  clear c5 CG k4
  go_wp2_with fail
  refine cg.mono ?_
  rintro e w5 ⟨rfl, k5⟩
  have k05 := KK.out.trans k5
  clear cg KK k5
  go_wp2_with fail
  go_ret
  exact ⟨rfl, k05.alloc _⟩

end Nd
end Go.Proofs.YtlalmdckdejggaaGreatDoor
