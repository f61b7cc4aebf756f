/-
  A table made since w0; the fixed example.
-/
import Derived.Test.YtfokpiapaacagaaDOpen
namespace Go.Proofs.Ytfokpiapaacagaa
open Go.RowKit Go.Maps
namespace Hd
open Hp (Kept K No)
variable {w0 w w' : World} {bt : Nat} {q z : Int} {v v' : Value} {L L' : List Sl}

/-- A table made since w0; nothing that was there at w0 has turned. -/
structure Rn (w0 w : World) (bt : Nat) (q z : Int) (v : Value) (L : List Sl) : Prop where
  tb : Tab w w0.heap.size bt q z v L
  k : K w0 w

theorem K.thenFoot {w1 : World} (h : K w0 w) (t : Tab w w0.heap.size bt q z v L) (k : Kept (foot bt v) w w1) : K w0 w1 :=
  ⟨k.os.trans h.os, k.tape.trans h.tape, k.output.trans h.output, Nat.le_trans h.size k.size, fun j hj hn => (k.same j (Nat.lt_of_lt_of_le hj h.size) (fun hf => by have := (t.foot_lt hf).1; omega)).trans (h.same j hj hn)⟩

theorem Rn.keep (h : Rn w0 w bt q z v L) (k : K w w') : Rn w0 w' bt q z v L := ⟨h.tb.keep k, h.k.trans k⟩
theorem Rn.step (h : Rn w0 w bt q z v L) (t : Tab w' w0.heap.size bt q z v' L') (k : Kept (foot bt v) w w') : Rn w0 w' bt q z v' L' := ⟨t, K.thenFoot h.k h.tb k⟩
theorem Rn.kept (h : Rn w0 w bt q z v L) {O : Nat → Prop} (k : Kept O w w') (hO : ∀ g, O g → w0.heap.size ≤ g ∧ ¬ foot bt v g) : Rn w0 w' bt q z v L :=
  ⟨h.tb.kept k (fun g hg ho => (hO g ho).2 hg), ⟨k.os.trans h.k.os, k.tape.trans h.k.tape, k.output.trans h.k.output, Nat.le_trans h.k.size k.size, fun j hj hn => (k.same j (Nat.lt_of_lt_of_le hj h.k.size) (fun hf => by have := (hO j hf).1; omega)).trans (h.k.same j hj hn)⟩⟩

theorem new_rn (q z : Int) (w : World) (q0 : 1 ≤ q) (q1 : q ≤ 65536) (z0 : 1 ≤ z) (z1 : z ≤ 4294967295) : Calls Try.prog 10 #[.int .i64 q, .int .u32 z] w fun e w' => e = .returned (.tuple #[tp w.heap.size, .int .i64 0]) ∧ Rn w w' w.heap.size q z (.slice none 0 0) [] := by
  refine (new_ok q z w q0 q1 z0 z1).mono ?_
  rintro e w1 ⟨rfl, h, k⟩
  exact ⟨rfl, h, k⟩

theorem Rn.open (h : Rn w0 w bt q z v L) (a x er : Int) (L' : List Sl) (a1 : a ≤ 9223372036854775807) (e : openL q z L a = (x, er, L')) : Calls Try.prog 17 #[tp bt, .int .i64 a] w fun e w' => e = .returned (.tuple #[.int .u64 x, .int .i64 er]) ∧ ∃ v', Rn w0 w' bt q z v' L' := by
  have := open_any h.tb a a1
  rw [e] at this
  refine this.mono ?_
  rintro e w1 ⟨rfl, v', t, k, _⟩
  exact ⟨rfl, v', h.step t k⟩
theorem Rn.close (h : Rn w0 w bt q z v L) (x er : Int) (L' : List Sl) (hx : U64 x) (e : closeL L x = (er, L')) : Calls Try.prog 20 #[tp bt, .int .u64 x] w fun e w' => e = .returned (.int .i64 er) ∧ Rn w0 w' bt q z v L' := by
  have := close_any h.tb x hx
  rw [e] at this
  refine this.mono ?_
  rintro e w1 ⟨rfl, t, k⟩
  exact ⟨rfl, h.step t k⟩
theorem Rn.at (h : Rn w0 w bt q z v L) (x a er : Int) (hx : U64 x) (e : atL L x = (a, er)) : Calls Try.prog 18 #[tp bt, .int .u64 x] w fun e w' => e = .returned (.tuple #[.int .i64 a, .int .i64 er]) ∧ Rn w0 w' bt q z v L := by
  have := at_any h.tb x hx
  rw [e] at this
  refine this.mono ?_
  rintro e w1 ⟨rfl, k⟩
  exact ⟨rfl, h.keep k⟩

theorem awake_any (w : World) : Calls Try.prog 9 #[] w fun e w' => e = .returned (.bool true) ∧ K w w' := by
  have hn := new_rn 2 2 w (by decide) (by decide) (by decide) (by decide)
  go_enter Try.func9, Try.ntmps9
  go_wp2_with fail
  refine hn.mono ?_
  rintro e w1 ⟨rfl, h1⟩
  generalize w.heap.size = b at h1 ⊢
  clear hn
  go_wp2_with fail
  refine (h1.open 10 4294967297 0 [⟨true, 1, 10⟩] (by decide) (by decide)).mono ?_
  rintro e w2 ⟨rfl, v2, h2⟩
  clear h1
  go_wp2_with fail
  refine (h2.open 20 4294967298 0 [⟨true, 1, 10⟩, ⟨true, 1, 20⟩] (by decide) (by decide)).mono ?_
  rintro e w3 ⟨rfl, v3, h3⟩
  clear h2
  go_wp2_with fail
  refine (h3.open 30 0 10 [⟨true, 1, 10⟩, ⟨true, 1, 20⟩] (by decide) (by decide)).mono ?_
  rintro e w4 ⟨rfl, v4, h4⟩
  clear h3
  go_wp2_with fail
  refine (h4.close 4294967297 0 [⟨false, 1, 0⟩, ⟨true, 1, 20⟩] ⟨by decide, by decide⟩ (by decide)).mono ?_
  rintro e w5 ⟨rfl, h5⟩
  clear h4
  go_wp2_with fail
  refine (h5.open 30 8589934593 0 [⟨true, 2, 30⟩, ⟨true, 1, 20⟩] (by decide) (by decide)).mono ?_
  rintro e w6 ⟨rfl, v6, h6⟩
  clear h5
  go_wp2_with fail
  refine (h6.at 4294967297 0 7 ⟨by decide, by decide⟩ (by decide)).mono ?_
  rintro e w7 ⟨rfl, h7⟩
  clear h6
  have hk := h7.k
  clear h7
  go_wp2
  go_ret
  exact ⟨rfl, hk⟩

end Hd
end Go.Proofs.Ytfokpiapaacagaa
