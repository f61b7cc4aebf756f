/-
  Put on a store with room enough; a record's words one by one.
-/
import Derived.Test.YtimedllggcfldaaGreatDoorL4
namespace Go.Proofs.YtimedllggcfldaaGreatDoor
open Go.RowKit Go.Maps
attribute [local go_sem ↓] Go.wp_at_zero Go.wp_at_succ
namespace Bb
open Hp (Kept K No Pg BlR Bl Wl Same allocL granted)
open Hd (U64 findL openL)
open Go.Proofs.YtimedllggcfldaaGreatDoor.So (Ad Sb Sw Rec Rn Stp sp lE lN wE wA gV)
variable {w0 w w' : World} {B : Nat} {A : Ad} {pg pg' : List (Int × Nat)} {W W' : Int → Int} {L L' : List Pg} {v v' : Value} {T T' : List Hd.Sl}

theorem alloc_room (l : Wl L) {q x : Int} (hx : 1 ≤ x ∧ x ≤ 4000) (hq : (granted L + 63) * 64 ≤ q) : ∃ a L', allocL q L x = (a, 0, L') ∧ granted L' ≤ granted L + 63 := by
  obtain ⟨h1, _, _, h4, _⟩ := l.alloc hx hq (show allocL q L x = ((allocL q L x).1, (allocL q L x).2.1, (allocL q L x).2.2) from rfl)
  exact ⟨_, _, by rw [← h1], h4⟩

theorem put_room (h : Rn w0 w A pg W L v T) (t : ByteArray) (ht : t.size ≤ 1000) (hq : (granted L + 63) * 64 ≤ A.q) (hk : (T.length : Int) < A.m) :
    Calls Tryz.prog 14 #[sp A.st, .string t] w fun e w' => ∃ x, e = .returned (.tuple #[.int .u64 x, .int .i64 0]) ∧ Aside (U64 x ∧ x ≠ 0 ∧ ∃ L' pg' W' v' T', granted L' ≤ granted L + 63 ∧ Fits w0 w w' A pg W v T L' x (Tx.wds (Tx.bs t)) pg' W' v' T') := by
  have hsz : (Tx.wds (Tx.bs t)).length ≤ 126 := by
    have := Tx.wds_len (Tx.bs t)
    have := Tx.bs_len t
    omega
  obtain ⟨a, L', ea, hg⟩ := alloc_room h.s.b.wl (x := 2 + ((Tx.wds (Tx.bs t)).length : Int)) ⟨by omega, by omega⟩ hq
  refine (put_fits h t ht ea hk).mono ?_
  rintro e w2 ⟨x, rfl, hx⟩
  obtain ⟨h1, h2, pg', W', v', T', f⟩ := hx.out
  exact ⟨x, rfl, h1, h2, L', pg', W', v', T', hg, f⟩

theorem word_held (h : Rn w0 w A pg W L v T) {x : Int} (hx : U64 x) {ws : List Int} (ho : Ho T W x ws) {k : Nat} {y : Int} (hy : ws[k]? = some y) : Calls Tryz.prog 22 #[sp A.st, .int .u64 x, .int .i64 (k : Int)] w fun e w' => e = .returned (.tuple #[.int .u64 y, .int .i64 0]) ∧ K w w' := by
  have cg := So.get_any h.s x (k : Int) hx
  obtain ⟨i, hi⟩ := Option.isSome_iff_exists.1 ho.1
  obtain ⟨s, hs, so, _, n0, n1, _⟩ := h.s.live hi
  have hk := (List.getElem?_eq_some_iff.1 hy).1
  have ea : Hd.addrAt T i = s.a := by simp [Hd.addrAt, hs]
  have hl : (ws.length : Int) = W (s.a + 1) := by
    rw [← ho.2, rwI_len]
    have : lN T W x = W (s.a + 1) := by simp [lN, hi, ea]
    omega
  have e0 : wE T W x (k : Int) = 0 := by simp only [wE, hi, ea]; rw [if_pos ⟨by omega, by omega⟩]
  have e1 : gV T W x (k : Int) = y := by
    have := ho.2
    unfold rwI at this
    rw [← this, List.getElem?_map] at hy
    have hr : (List.range (lN T W x).toNat)[k]? = some k := by
      rw [List.getElem?_range]
      have := rwI_len T W x
      rw [ho.2] at this
      omega
    rw [hr] at hy
    exact Option.some.inj hy
  rw [e0, e1] at cg
  exact cg

end Bb
end Go.Proofs.YtimedllggcfldaaGreatDoor
