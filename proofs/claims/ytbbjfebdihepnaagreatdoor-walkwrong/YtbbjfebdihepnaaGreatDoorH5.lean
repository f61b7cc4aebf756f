/-
  The walk of package heap's slideLarge: a large block goes to the least pages that it may have.
-/
import Derived.Test.YtbbjfebdihepnaaGreatDoorH4
namespace Go.Proofs.YtbbjfebdihepnaaGreatDoor
open Go.RowKit
attribute [local go_sem ↓] Go.wp_at_zero Go.wp_at_succ
namespace Hp
variable {w w' : World} {bh bs bm : Nat} {q : Int} {pg pg' : List (Int × Nat)} {W W' : Int → Int} {L : List Pg}

/-- The entry at another page. -/
def atN (p : Pg) (r : Int) : Pg := { p with n := r }

theorem ent_atN {p : Pg} (he : Ent p) (r : Int) : Ent (atN p r) := he

/-- The words behind the slide. -/
def slW (W : Int → Int) (p : Pg) (r : Int) (n : Nat) : Int → Int := Sl.laid (Sl.zr W p.n p.span) (64 * r) (fun i => W (64 * p.n + i)) n

theorem Lay.slide (l : Lay pg W L) {p : Pg} (hp : p ∈ L) {pg3 pg4 : List (Int × Nat)} (g : Sl.Gone pg pg3 p.n p.span) {r : Int} (g4 : Got pg3 pg4 r p.span) {n : Nat} (hn : (n : Int) = p.span * 64) : Lay pg4 (slW W p r n) (insL (atN p r) (delL L p.n)) := by
  have l3 := l.gone hp g
  have hs := (l.ent p hp).span
  refine l3.ins (p := atN p r) (ent_atN (l.ent p hp) r) g4.cov g4.free ?_ ?_ (fun y hy hne => ?_)
  · show slW W p r n (64 * r) = _
    unfold slW Sl.laid
    rw [if_pos (by omega), show (64 * r - 64 * r).toNat = 0 from by omega]
    show W (64 * p.n + ((0 : Nat) : Int)) = markI p
    rw [show (64 * p.n + ((0 : Nat) : Int)) = 64 * p.n from by omega]
    exact l.m p hp
  · show slW W p r n (64 * r + 1) = _
    unfold slW Sl.laid
    rw [if_pos (by omega), show (64 * r + 1 - 64 * r).toNat = 1 from by omega]
    exact l.h p hp
  · have hy1 := (l3.ent y hy).span
    have h2 : y.n + y.span ≤ r ∨ r + p.span ≤ y.n := by
      by_cases h : y.n + y.span ≤ r ∨ r + p.span ≤ y.n
      · exact h
      · exfalso
        by_cases h3 : r ≤ y.n
        · have := l3.has hy 0 (by omega) (by omega)
          rw [g4.free (y.n + 0) (by omega) (by omega)] at this
          cases this
        · have := l3.has hy (r - y.n) (by omega) (by omega)
          rw [g4.free (y.n + (r - y.n)) (by omega) (by omega)] at this
          cases this
    unfold slW Sl.laid
    rw [if_neg (by omega), if_neg (by omega)]
    exact ⟨rfl, rfl⟩

/-- What is so behind Slide of a block to another place. -/
def SlidePost (w : World) (bh bs bm : Nat) (q : Int) (pg : List (Int × Nat)) (W : Int → Int) (L : List Pg) (p : Pg) (s a : Int) (L' : List Pg) (w' : World) : Prop :=
  ∃ pg' W', St w' bh bs bm q pg' W' L' ∧ Sl.Step bs bm pg pg' w w' ∧ SameBut L p s W W' ∧ ∀ i, 0 ≤ i → i < roomI p → W' (a + i) = W (addrI p s + i)

end Hp
end Go.Proofs.YtbbjfebdihepnaaGreatDoor

/-
  Walks of package heap's slideSmall and Slide.
-/
namespace Go.Proofs.YtbbjfebdihepnaaGreatDoor
open Go.RowKit
attribute [local go_sem ↓] Go.wp_at_zero Go.wp_at_succ
namespace Hp
variable {w w' : World} {bh bs bm : Nat} {q : Int} {pg pg' : List (Int × Nat)} {W W' : Int → Int} {L : List Pg}

/-- The entry of p behind the taking of a slot of p2. -/
def turnP (p p2 : Pg) (s2 : Int) : Pg := if p.n = p2.n then withT p2 (Bt.setI p2.taken s2) else p
/-- What a slide of a small block makes of the entries. -/
def slideS (L : List Pg) (p : Pg) (s : Int) (p2 : Pg) (s2 : Int) : List Pg := dropL (updL L p2.n (withT p2 (Bt.setI p2.taken s2))) (turnP p p2 s2) s

theorem mem_turn {p2 : Pg} {s2 : Int} {r : Pg} (hr : r ∈ L) : turnP r p2 s2 ∈ updL L p2.n (withT p2 (Bt.setI p2.taken s2)) := List.mem_map.2 ⟨r, hr, by unfold turnP; rfl⟩

/-- What Slide answers, and makes of the entries. -/
def slideL (L : List Pg) (a : Int) : Int × Int × List Pg :=
  match findB L a with
  | none => (0, 5, L)
  | some (p, s) =>
    if p.kind = 2 then (addrI (atN p (fit p.span 0 (delL L p.n))) 0, 0, insL (atN p (fit p.span 0 (delL L p.n))) (delL L p.n))
    else match freeB L p.cls with
      | none => (a, 0, L)
      | some (p2, s2) => if a < addrI p2 s2 then (a, 0, L) else (addrI p2 s2, 0, slideS L p s p2 s2)

/-- What is so behind Slide. -/
def SlideAll (w : World) (bh bs bm : Nat) (q : Int) (pg : List (Int × Nat)) (W : Int → Int) (L : List Pg) (a : Int) (w' : World) : Prop :=
  (findB L a = none ∧ K w w') ∨ ∃ p s, findB L a = some (p, s) ∧ ((slideL L a = (a, 0, L) ∧ K w w') ∨ SlidePost w bh bs bm q pg W L p s (slideL L a).1 (slideL L a).2.2 w')

end Hp
end Go.Proofs.YtbbjfebdihepnaaGreatDoor

/-
  Walks of package heap's New, and of the statements' fixed example.
-/
namespace Go.Proofs.YtbbjfebdihepnaaGreatDoor
open Go.RowKit
attribute [local go_sem ↓] Go.wp_at_zero Go.wp_at_succ
namespace Hp
variable {w w' : World} {bh bs bm : Nat} {q : Int} {pg pg' : List (Int × Nat)} {W W' : Int → Int} {L : List Pg}

theorem new_any (ha : Sl.Arena w bs bm q pg W) (hT : Bt.Tab w) (h0 : ¬ Sl.foot bs bm pg 1) :
    Calls Tryz.prog 77 #[.pointer (some ⟨bs, 0, none⟩)] w fun e w' => (audI (heads pg W) = 0 → e = .returned (.tuple #[hp w.heap.size, .int .i64 0])) ∧ (audI (heads pg W) ≠ 0 → e = .returned (.tuple #[.pointer none, .int .i64 8])) ∧ Hw w' w.heap.size bs bm q pg W ∧ K w w' := by
  have k1 : K w (w.alloc (.cells #[.pointer (some ⟨bs, 0, none⟩)] 163)) := (K.refl w).alloc _
  have h1 : Hw (w.alloc (.cells #[.pointer (some ⟨bs, 0, none⟩)] 163)) w.heap.size bs bm q pg W :=
    ⟨ha.stays fun j hj => k1.same j (ha.foot_lt hj) (fun x => x), World.alloc_heap_new _ _, hT.keep k1.toBt, h0, fun hf => by have := ha.foot_lt hf; omega⟩
  have rd := Sl.read_any ha 0
  have re : Sl.readE pg 0 = 0 ∨ Sl.readE pg 0 = 5 := by
    unfold Sl.readE
    rw [if_pos (by decide)]
    split
    · exact .inl rfl
    · exact .inr rfl
  have re1 : (Sl.readE pg 0 == 1) = false := by rcases re with e | e <;> rw [e] <;> decide
  have au := audit_any h1
  clear re
  generalize Sl.readE pg 0 = er at *
  generalize Sl.readV pg W 0 = v at *
  have hcs : audI (heads pg W) = 0 ∨ audI (heads pg W) = 8 := by
    unfold audI
    split
    · exact .inr rfl
    · exact .inl rfl
  rcases hcs with hc | hc
  · rw [hc] at au ⊢
    go_enter Tryz.func77, Tryz.ntmps77
    go_wp2_with (first | (go_at_call 67; refine rd.mono ?_; rintro e w' ⟨rfl, rfl⟩) | (go_at_call 108; refine au.mono ?_; rintro e w2 ⟨rfl, k2⟩))
    go_ret2
    exact ⟨fun _ => rfl, fun h => absurd rfl h, h1.keep k2, k1.trans k2⟩
  · rw [hc] at au ⊢
    go_enter Tryz.func77, Tryz.ntmps77
    go_wp2_with (first | (go_at_call 67; refine rd.mono ?_; rintro e w' ⟨rfl, rfl⟩) | (go_at_call 108; refine au.mono ?_; rintro e w2 ⟨rfl, k2⟩))
    go_ret2
    exact ⟨fun h => (by cases h), fun _ => rfl, h1.keep k2, k1.trans k2⟩

/-- A heap that was made since w0: nothing that was there has turned. -/
structure Rn (w0 w : World) (bh bs bm : Nat) (q : Int) (pg : List (Int × Nat)) (W : Int → Int) (L : List Pg) : Prop where
  st : St w bh bs bm q pg W L
  k : K w0 w
  lo : ∀ k, Sl.foot bs bm pg k → w0.heap.size ≤ k

theorem Rn.keep {w0 : World} (h : Rn w0 w bh bs bm q pg W L) (k : K w w') : Rn w0 w' bh bs bm q pg W L := ⟨h.st.keep k, h.k.trans k, h.lo⟩
theorem Rn.step {w0 : World} {L' : List Pg} (h : Rn w0 w bh bs bm q pg W L) (s : St w' bh bs bm q pg' W' L') (t : Sl.Step bs bm pg pg' w w') : Rn w0 w' bh bs bm q pg' W' L' :=
  ⟨s, ⟨t.os.trans h.k.os, t.tape.trans h.k.tape, t.output.trans h.k.output, Nat.le_trans h.k.size t.size, fun j hj hn => (t.kept j (Nat.lt_of_lt_of_le hj h.k.size) (fun hf => by have := h.lo j hf; omega)).trans (h.k.same j hj hn)⟩, fun j hj => by
    rcases t.inn j hj with h2 | h2
    · exact h.lo j h2
    · exact Nat.le_trans h.k.size h2⟩

end Hp
end Go.Proofs.YtbbjfebdihepnaaGreatDoor
