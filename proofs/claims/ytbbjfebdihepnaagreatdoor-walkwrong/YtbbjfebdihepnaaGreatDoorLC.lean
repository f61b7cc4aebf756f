/-
  Put where there is room, on a store made since: what it leaves of all that is held; and the document's answers that each statement asks for.
-/
import Derived.Test.YtbbjfebdihepnaaGreatDoorLB
import Derived.WalkSpells
namespace Go.Proofs.YtbbjfebdihepnaaGreatDoor
open Go.RowKit Go.Maps
attribute [local go_sem ↓] Go.wp_at_zero Go.wp_at_succ
namespace Bb
open Hp (Kept K No Pg BlR Bl Wl Same allocL granted)
open Hd (U64 findL openL)
open Go.Proofs.YtbbjfebdihepnaaGreatDoor.So (Ad Sb Sw Rec Rn Stp sp lE lN wE wA)
variable {w0 w w' : World} {B : Nat} {A : Ad} {pg pg' : List (Int × Nat)} {W W' : Int → Int} {L L' : List Pg} {v v' : Value} {T T' : List Hd.Sl}

theorem full_no {m z a x : Int} {er : Int} (a0 : 0 ≤ a) (hk : (T.length : Int) < m) (e : openL m z T a = (x, er, T')) : er = 0 ∧ T'.length ≤ T.length + 1 := by
  have hf : So.fullB m z T = false := by unfold So.fullB; rw [decide_eq_false (by omega)]; rfl
  have h0 : er = 0 := by
    rcases So.full_open a0 e with ⟨_, h⟩ | ⟨h, _⟩
    · exact h
    · rw [hf] at h; cases h
  subst h0
  refine ⟨rfl, ?_⟩
  unfold openL at e
  rw [if_neg (by omega)] at e
  split at e
  · simp only [Prod.mk.injEq] at e
    obtain ⟨_, _, rfl⟩ := e
    simp
  · split at e
    · simp only [Prod.mk.injEq] at e
      obtain ⟨_, _, rfl⟩ := e
      simp
    · omega

/-- What a Put that fits leaves. -/
structure Fits (w0 w w' : World) (A : Ad) (pg : List (Int × Nat)) (W : Int → Int) (v : Value) (T : List Hd.Sl) (L' : List Pg) (x : Int) (ws : List Int) (pg' : List (Int × Nat)) (W' : Int → Int) (v' : Value) (T' : List Hd.Sl) : Prop where
  rn : Rn w0 w' A pg' W' L' v' T'
  len : T'.length ≤ T.length + 1
  ho : Ho T' W' x ws
  old : ∀ y ys, Ho T W y ys → y ≠ x ∧ Ho T' W' y ys
  off : ∀ y, y ≠ x → findL T' y = findL T y
  st : Stp A pg pg' v v' w w'
  op : op T' = op T + 1

theorem put_fits (h : Rn w0 w A pg W L v T) (t : ByteArray) (ht : t.size ≤ 1000) {a : Int} (ea : allocL A.q L (2 + ((Tx.wds (Tx.bs t)).length : Int)) = (a, 0, L')) (hk : (T.length : Int) < A.m) :
    Calls Tryz.prog 40 #[sp A.st, .string t] w fun e w' => ∃ x, e = .returned (.tuple #[.int .u64 x, .int .i64 0]) ∧ Aside (U64 x ∧ x ≠ 0 ∧ ∃ pg' W' v' T', Fits w0 w w' A pg W v T L' x (Tx.wds (Tx.bs t)) pg' W' v' T') := by
  have hsz : (Tx.wds (Tx.bs t)).length ≤ 126 := by
    have := Tx.wds_len (Tx.bs t)
    have := Tx.bs_len t
    omega
  refine (put_short h.s h.k.size t ht).mono ?_
  rintro e w2 (⟨a2, L2, x, T2, ea2, eo, rfl, pg2, W2, v2, sw, sm, ho, st⟩ | ⟨er, her, hc, rfl, _⟩)
  · rw [ea] at ea2
    simp only [Prod.mk.injEq] at ea2
    obtain ⟨rfl, _, rfl⟩ := ea2
    have a0 : 0 ≤ a := by
      obtain ⟨_, hR⟩ := So.allocRm h.s.b.wl (x := 2 + ((Tx.wds (Tx.bs t)).length : Int)) ⟨by omega, by omega⟩ ea
      have := sw.b.at ((hR _ _).2 (.inl ⟨rfl, rfl⟩))
      omega
    obtain ⟨_, _, x0, hoff, _⟩ := find_make a0 h.s.b.tl eo
    exact ⟨x, rfl, (So.nm_word a0 h.s.b.tl sw.b.tb.wf eo).2, x0, pg2, W2, v2, T2, ⟨sw, h.kst st⟩, (full_no a0 hk eo).2, ho, fun y ys hy => Ho.make h.s.r sm a0 h.s.b.tl eo hy, hoff, st, open_op a0 eo⟩
  · exfalso
    rcases hc with ⟨a2, e2, hne⟩ | ⟨_, hf, _⟩
    · rw [ea] at e2
      simp only [Prod.mk.injEq] at e2
      exact hne e2.2.1.symm
    · unfold So.fullB at hf
      rw [decide_eq_false (by omega)] at hf
      cases hf

def abc : ByteArray := ⟨#[97, 98, 99]⟩
end Bb
end Go.Proofs.YtbbjfebdihepnaaGreatDoor

/-
  Put on a store with room enough; a record's words one by one.
-/
namespace Go.Proofs.YtbbjfebdihepnaaGreatDoor
open Go.RowKit Go.Maps
attribute [local go_sem ↓] Go.wp_at_zero Go.wp_at_succ
namespace Bb
open Hp (Kept K No Pg BlR Bl Wl Same allocL granted)
open Hd (U64 findL openL)
open Go.Proofs.YtbbjfebdihepnaaGreatDoor.So (Ad Sb Sw Rec Rn Stp sp lE lN wE wA gV)
variable {w0 w w' : World} {B : Nat} {A : Ad} {pg pg' : List (Int × Nat)} {W W' : Int → Int} {L L' : List Pg} {v v' : Value} {T T' : List Hd.Sl}

theorem word_held (h : Rn w0 w A pg W L v T) {x : Int} (hx : U64 x) {ws : List Int} (ho : Ho T W x ws) {k : Nat} {y : Int} (hy : ws[k]? = some y) : Calls Tryz.prog 48 #[sp A.st, .int .u64 x, .int .i64 (k : Int)] w fun e w' => e = .returned (.tuple #[.int .u64 y, .int .i64 0]) ∧ K w w' := by
  have cg := So.get_any h.s x (k : Int) hx
  obtain ⟨i, hi⟩ := Option.isSome_iff_exists.1 ho.1
  obtain ⟨s, hs, so, _, n0, n1, _⟩ := h.s.live hi
  have hk := (List.getElem?_eq_some_iff.1 hy).1
  have ea : Hd.addrAt T i = s.a := by simp [Hd.addrAt, hs]
  have hl : (ws.length : Int) = W (s.a + 1) := by
    rw [← ho.2, rwI_len]
    have : lN T W x = W (s.a + 1) := by simp [lN, hi, ea]
    omega
  have e0 : wE T W x (k : Int) = 0 := by simp only [wE, hi, ea]; rw [if_pos ⟨by omega, by omega⟩]
  have e1 : gV T W x (k : Int) = y := by
    have := ho.2
    unfold rwI at this
    rw [← this, List.getElem?_map] at hy
    have hr : (List.range (lN T W x).toNat)[k]? = some k := by
      rw [List.getElem?_range]
      have := rwI_len T W x
      rw [ho.2] at this
      omega
    rw [hr] at hy
    exact Option.some.inj hy
  rw [e0, e1] at cg
  exact cg

end Bb
end Go.Proofs.YtbbjfebdihepnaaGreatDoor
