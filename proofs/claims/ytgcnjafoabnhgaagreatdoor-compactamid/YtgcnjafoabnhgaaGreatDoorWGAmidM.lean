/-
  compact: Make, Drop, Put of a store whose pages suffice, told so that two stores with like records answer alike.
-/
import Derived.Test.YtgcnjafoabnhgaaGreatDoorWGFillW
import Derived.Test.YtgcnjafoabnhgaaGreatDoorWGAmidF
namespace Go.Proofs.YtgcnjafoabnhgaaGreatDoor
open Go.RowKit Go.Maps
namespace Co
open Hp (Kept K No Pg BlR Wl liveL granted lt_of_cell Same allocL dropL)
open Hd (U64 findL encU)
open Go.Proofs.YtgcnjafoabnhgaaGreatDoor.So (Ad sp Stp Sw)
variable {w0 w w' wb : World} {c : Nat} {A A2 : Ad} {pg pg' : List (Int × Nat)} {W W' W2 W2' : Int → Int} {L L' L2 : List Pg} {v v' u u' : Value} {T T' T2 T2' : List Hd.Sl} {m z : Int}

/-- What Make answers where the pages suffice. -/
def mkA (m z : Int) (T : List Hd.Sl) (n : Int) : Int × Int := if 0 ≤ n ∧ n ≤ 3998 then (if So.fullB m z T then (0, 10) else ((Hd.openL m z T 0).1, 0)) else (0, 2)

theorem al_full (h : Al T W T2 W2) : So.fullB m z T2 = So.fullB m z T := by
  have e : ∀ {T T2 : List Hd.Sl}, Al T W T2 W2 → (T2.all fun s => !Hd.fr z s) = (T.all fun s => !Hd.fr z s) := by
    intro T
    induction T with
    | nil =>
      intro T2 h
      obtain rfl : T2 = [] := List.eq_nil_of_length_eq_zero h.1
      rfl
    | cons s T ih =>
      intro T2 h
      obtain ⟨t, ht, ho, hg, _⟩ := h.2 0 s rfl
      cases T2 with
      | nil => simp at ht
      | cons t' T2 =>
        obtain rfl : t = t' := by simpa using ht.symm
        have h2 : Al T W T2 W2 := ⟨by have := h.1; simpa using this, fun i u hi => h.2 (i + 1) u hi⟩
        have hfr : Hd.fr z t = Hd.fr z s := by simp [Hd.fr, ho, hg]
        simp only [List.all_cons, hfr, ih h2]
  unfold So.fullB
  rw [h.1, e h]

theorem open_x {a b : Int} (a0 : 0 ≤ a) (b0 : 0 ≤ b) : (Hd.openL m z T a).1 = (Hd.openL m z T b).1 := by
  unfold Hd.openL
  rw [if_neg (show ¬ a < 0 by omega), if_neg (show ¬ b < 0 by omega)]
  cases Hd.freeAt z T with
  | some i => rfl
  | none =>
    simp only
    split <;> rfl
theorem al_open (h : Al T W T2 W2) : (Hd.openL m z T2 0).1 = (Hd.openL m z T 0).1 := by
  unfold Hd.openL
  rw [if_neg (show ¬ (0 : Int) < 0 by omega), if_neg (show ¬ (0 : Int) < 0 by omega), al_free h]
  cases Hd.freeAt z T with
  | some i => simp only [al_g h i]
  | none =>
    simp only [h.1]
    split <;> rfl
theorem al_mkA (h : Al T W T2 W2) (n : Int) : mkA m z T2 n = mkA m z T n := by
  unfold mkA
  rw [al_full h, al_open h]

/-- What Make turns. -/
def Mk (m z : Int) (T : List Hd.Sl) (W : Int → Int) (n : Int) (T' : List Hd.Sl) (W' : Int → Int) : Prop :=
  ((mkA m z T n).2 = 0 ∧ ∃ a x, 0 ≤ a ∧ Hd.openL m z T a = (x, 0, T') ∧ Al T W T W' ∧ W' (a + 1) = n ∧ ∀ k, 0 ≤ k → k < n → W' (a + 2 + k) = 0) ∨ ((mkA m z T n).2 ≠ 0 ∧ T' = T ∧ Al T W T W')

theorem Al.mk (h : Al T W T2 W2) {n : Int} (h1 : Mk m z T W n T' W') (h2 : Mk m z T2 W2 n T2' W2') : Al T' W' T2' W2' := by
  have e := al_mkA (m := m) (z := z) h n
  rcases h1 with ⟨a1, a, x, a2, a3, a4, a5, a6⟩ | ⟨a1, rfl, a3⟩
  · rcases h2 with ⟨_, b, y, b2, b3, b4, b5, b6⟩ | ⟨b1, _⟩
    · have hb : Al T W' T2 W2' := (a4.symm.trans h).trans b4
      exact (hb.make a2 b2 a3 b3 ⟨b5.trans a5.symm, fun k k0 k1 => by rw [a5] at k1; rw [a6 k k0 k1, b6 k k0 k1]⟩).2
    · rw [e] at b1
      exact absurd a1 b1
  · rcases h2 with ⟨b1, _⟩ | ⟨_, rfl, b3⟩
    · rw [e] at b1
      exact absurd b1 a1
    · exact (a3.symm.trans h).trans b3

theorem Cn.makeA (h : Cn w0 w A c pg W L v T) (hq : (granted L + 63) * 64 ≤ A.q) (n : Int) : Calls Tryz.prog 7 #[sp A.st, .int .i64 n] w fun e w' => e = .returned (.tuple #[.int .u64 (mkA A.m A.z T n).1, .int .i64 (mkA A.m A.z T n).2]) ∧
    ∃ pg' W' L' v' T', Aside (Cn w0 w' A c pg' W' L' v' T' ∧ Stp A pg pg' v v' w w' ∧ granted L' ≤ granted L + (if (mkA A.m A.z T n).2 = 0 then 63 else 0) ∧ U64 (mkA A.m A.z T n).1 ∧ Mk A.m A.z T W n T' W') := by
  have wl := h.rn.s.b.wl
  refine (So.make_any h.rn.s h.rn.k.size n).mono ?_
  rintro e w1 (⟨n0, n1, a, L1, x, T1, ea, eo, rfl, pg1, W1, v1, sw1, sm1, _, hw1, hz1, st1⟩ | ⟨er, her, hor, rfl, pg1, W1, v1, sw1, sm1, st1⟩)
  · have a0 : 0 ≤ a := by
      have := sw1.b.at ((So.allocRm wl (x := 2 + n) ⟨by omega, by omega⟩ ea).2 a _ |>.2 (.inl ⟨rfl, rfl⟩))
      omega
    have hfu : So.fullB A.m A.z T = false := by
      rcases So.full_open a0 eo with ⟨h1, _⟩ | ⟨_, h2, _⟩
      · exact h1
      · omega
    have hx : (Hd.openL A.m A.z T 0).1 = x := by rw [open_x (b := a) (Int.le_refl 0) a0, eo]
    have hm : mkA A.m A.z T n = (x, 0) := by
      unfold mkA
      rw [if_pos ⟨n0, n1⟩, hfu, hx]
      rfl
    rw [hm]
    refine ⟨rfl, pg1, W1, L1, v1, T1, h.call sw1 st1, st1, ?_, (So.nm_word a0 h.rn.s.b.tl sw1.b.tb.wf eo).2, .inl ⟨by rw [hm], a, x, a0, eo, Al.same h.rn.s.r sm1, hw1, hz1⟩⟩
    have := (wl.alloc (x := 2 + n) ⟨by omega, by omega⟩ hq ea).2.2.2.1
    simpa using this
  · have her2 : er ≠ 0 := by simpa using her
    have hm : mkA A.m A.z T n = (0, er) := by
      unfold mkA
      rcases hor with ⟨rfl, hn⟩ | ⟨n0, n1, ⟨a, ea, he⟩ | ⟨rfl, hfu, _⟩⟩
      · rw [if_neg hn]
      · exact absurd (wl.alloc (x := 2 + n) ⟨by omega, by omega⟩ hq ea).1 he
      · rw [if_pos ⟨n0, n1⟩, hfu]
        rfl
    rw [hm]
    exact ⟨rfl, pg1, W1, L, v1, T, h.call sw1 st1, st1, by simp [her2], by unfold U64; omega, .inr ⟨by rw [hm]; exact her2, rfl, Al.same h.rn.s.r sm1⟩⟩

end Co
end Go.Proofs.YtgcnjafoabnhgaaGreatDoor
