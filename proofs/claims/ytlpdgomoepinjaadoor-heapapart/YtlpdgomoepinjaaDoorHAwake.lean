/-
  Walks of package heap's New, and of the statements' fixed example.
-/
import Derived.Test.YtlpdgomoepinjaaDoorHSlideS
namespace Go.Proofs.YtlpdgomoepinjaaDoor
open Go.RowKit
attribute [local go_sem ↓] Go.wp_at_zero Go.wp_at_succ
namespace Hp
variable {w w' : World} {bh bs bm : Nat} {q : Int} {pg pg' : List (Int × Nat)} {W W' : Int → Int} {L : List Pg}

theorem new_any (ha : Sl.Arena w bs bm q pg W) (hT : Bt.Tab w) (h0 : ¬ Sl.foot bs bm pg 0) :
    Calls Tryd.prog 14 #[.pointer (some ⟨bs, 0, none⟩)] w fun e w' => (audI (heads pg W) = 0 → e = .returned (.tuple #[hp w.heap.size, .int .i64 0])) ∧ (audI (heads pg W) ≠ 0 → e = .returned (.tuple #[.pointer none, .int .i64 8])) ∧ Hw w' w.heap.size bs bm q pg W ∧ K w w' := by
  have k1 : K w (w.alloc (.cells #[.pointer (some ⟨bs, 0, none⟩)] 62)) := (K.refl w).alloc _
  have h1 : Hw (w.alloc (.cells #[.pointer (some ⟨bs, 0, none⟩)] 62)) w.heap.size bs bm q pg W :=
    ⟨ha.stays fun j hj => k1.same j (ha.foot_lt hj) (fun x => x), World.alloc_heap_new _ _, hT.keep k1.toBt, h0, fun hf => by have := ha.foot_lt hf; omega⟩
  have rd := Sl.read_any ha 0
  have re : Sl.readE pg 0 = 0 ∨ Sl.readE pg 0 = 5 := by
    unfold Sl.readE
    rw [if_pos (by decide)]
    split
    · exact .inl rfl
    · exact .inr rfl
  have re1 : (Sl.readE pg 0 == 1) = false := by rcases re with e | e <;> rw [e] <;> decide
  have au := audit_any h1
  clear re
  generalize Sl.readE pg 0 = er at *
  generalize Sl.readV pg W 0 = v at *
  have hcs : audI (heads pg W) = 0 ∨ audI (heads pg W) = 8 := by
    unfold audI
    split
    · exact .inr rfl
    · exact .inl rfl
  rcases hcs with hc | hc
  · rw [hc] at au ⊢
    go_enter Tryd.func14, Tryd.ntmps14
    go_wp2_with (first | (go_at_call 7; refine rd.mono ?_; rintro e w' ⟨rfl, rfl⟩) | (go_at_call 11; refine au.mono ?_; rintro e w2 ⟨rfl, k2⟩))
    go_ret2
    exact ⟨fun _ => rfl, fun h => absurd rfl h, h1.keep k2, k1.trans k2⟩
  · rw [hc] at au ⊢
    go_enter Tryd.func14, Tryd.ntmps14
    go_wp2_with (first | (go_at_call 7; refine rd.mono ?_; rintro e w' ⟨rfl, rfl⟩) | (go_at_call 11; refine au.mono ?_; rintro e w2 ⟨rfl, k2⟩))
    go_ret2
    exact ⟨fun h => (by cases h), fun _ => rfl, h1.keep k2, k1.trans k2⟩

/-- A heap that was made since w0: nothing that was there has turned. -/
structure Rn (w0 w : World) (bh bs bm : Nat) (q : Int) (pg : List (Int × Nat)) (W : Int → Int) (L : List Pg) : Prop where
  st : St w bh bs bm q pg W L
  k : K w0 w
  lo : ∀ k, Sl.foot bs bm pg k → w0.heap.size ≤ k

theorem Rn.keep {w0 : World} (h : Rn w0 w bh bs bm q pg W L) (k : K w w') : Rn w0 w' bh bs bm q pg W L := ⟨h.st.keep k, h.k.trans k, h.lo⟩
theorem Rn.step {w0 : World} {L' : List Pg} (h : Rn w0 w bh bs bm q pg W L) (s : St w' bh bs bm q pg' W' L') (t : Sl.Step bs bm pg pg' w w') : Rn w0 w' bh bs bm q pg' W' L' :=
  ⟨s, ⟨t.os.trans h.k.os, t.tape.trans h.k.tape, t.output.trans h.k.output, Nat.le_trans h.k.size t.size, fun j hj hn => (t.kept j (Nat.lt_of_lt_of_le hj h.k.size) (fun hf => by have := h.lo j hf; omega)).trans (h.k.same j hj hn)⟩, fun j hj => by
    rcases t.inn j hj with h2 | h2
    · exact h.lo j h2
    · exact Nat.le_trans h.k.size h2⟩

/-- made: a heap without blocks. -/
theorem made_ok (n : Int) (w : World) (hT : Bt.Tab w) (h0 : 0 ≤ n) (h1 : n ≤ 262144) :
    Calls Tryd.prog 5 #[.int .i64 n] w fun e w' => ∃ bh bs bm, e = .returned (.tuple #[.pointer (some ⟨bs, 0, none⟩), hp bh, .bool true]) ∧ Rn w w' bh bs bm n [] (fun _ => 0) [] ∧ w.heap.size ≤ bs ∧ w.heap.size ≤ bm ∧ w.heap.size ≤ bh := by
  have sn := Sl.new_ok n w h0 h1
  have hz := lt0 hT
  go_enter Tryd.func5, Tryd.ntmps5
  go_wp2_with fail
  refine sn.mono ?_
  rintro e w1 ⟨rfl, a1, b1⟩
  have k1 := K.of_below b1
  have hn := new_any a1 (hT.keep k1.toBt) (fun hf => by
    rcases hf with h | h | ⟨p, hp, _⟩
    · omega
    · omega
    · cases hp)
  go_wp2_with fail
  refine hn.mono ?_
  rintro e w2 ⟨he, _, h2, k2⟩
  have e0 := he (by decide)
  subst e0
  have HR : Aside (Rn w w2 w1.heap.size (w.heap.size + 1) w.heap.size n [] (fun _ => 0) []) := ⟨⟨h2, Lay.nil _⟩, k1.trans k2, fun j hj => by
    rcases hj with h | h | ⟨p, hp, _⟩
    · omega
    · omega
    · cases hp⟩
  have hsz := k1.size
  clear he h2 hn
  go_wp2
  go_ret3
  exact ⟨w1.heap.size, w.heap.size + 1, w.heap.size, rfl, HR.out, by omega, by omega, hsz⟩

theorem aw1 : allocL 640 [] 2 = (2, 0, [⟨0, 1, 0, 1, 0, 1⟩]) := by decide +kernel
theorem aw2 : allocL 640 [⟨0, 1, 0, 1, 0, 1⟩] 2 = (4, 0, [⟨0, 1, 0, 3, 0, 1⟩]) := by decide +kernel
theorem aw3 : allocL 640 [⟨0, 1, 0, 3, 0, 1⟩] 28 = (66, 0, [⟨0, 1, 0, 3, 0, 1⟩, ⟨1, 1, 7, 1, 0, 1⟩]) := by decide +kernel
theorem aw4 : allocL 640 [⟨0, 1, 0, 3, 0, 1⟩, ⟨1, 1, 7, 1, 0, 1⟩] 100 = (130, 0, [⟨0, 1, 0, 3, 0, 1⟩, ⟨1, 1, 7, 1, 0, 1⟩, ⟨2, 2, 0, 0, 100, 2⟩]) := by decide +kernel
theorem aw5 : findB [⟨0, 1, 0, 3, 0, 1⟩, ⟨1, 1, 7, 1, 0, 1⟩, ⟨2, 2, 0, 0, 100, 2⟩] 4 = some (⟨0, 1, 0, 3, 0, 1⟩, 1) := by decide +kernel
theorem aw5' : dropL [⟨0, 1, 0, 3, 0, 1⟩, ⟨1, 1, 7, 1, 0, 1⟩, ⟨2, 2, 0, 0, 100, 2⟩] ⟨0, 1, 0, 3, 0, 1⟩ 1 = [⟨0, 1, 0, 1, 0, 1⟩, ⟨1, 1, 7, 1, 0, 1⟩, ⟨2, 2, 0, 0, 100, 2⟩] := by decide +kernel
theorem aw6 : findB [⟨0, 1, 0, 1, 0, 1⟩, ⟨1, 1, 7, 1, 0, 1⟩, ⟨2, 2, 0, 0, 100, 2⟩] 66 = some (⟨1, 1, 7, 1, 0, 1⟩, 0) := by decide +kernel
theorem aw6' : dropL [⟨0, 1, 0, 1, 0, 1⟩, ⟨1, 1, 7, 1, 0, 1⟩, ⟨2, 2, 0, 0, 100, 2⟩] ⟨1, 1, 7, 1, 0, 1⟩ 0 = [⟨0, 1, 0, 1, 0, 1⟩, ⟨2, 2, 0, 0, 100, 2⟩] := by decide +kernel
theorem aw7 : slideL [⟨0, 1, 0, 1, 0, 1⟩, ⟨2, 2, 0, 0, 100, 2⟩] 130 = (66, 0, [⟨0, 1, 0, 1, 0, 1⟩, ⟨1, 2, 0, 0, 100, 2⟩]) := by decide +kernel

/-- A call's word on the entries, at their values. -/
theorem Rn.alloc {w0 : World} (h : Rn w0 w bh bs bm q pg W L) (x a er : Int) (L' : List Pg) (e : allocL q L x = (a, er, L')) : Calls Tryd.prog 6 #[hp bh, .int .i64 x] w fun e w' => e = .returned (.tuple #[.int .i64 a, .int .i64 er]) ∧ ∃ pg' W', Rn w0 w' bh bs bm q pg' W' L' := by
  have := alloc_any h.st x
  rw [e] at this
  refine this.mono ?_
  rintro e w1 ⟨rfl, pg1, W1, s1, t1, _, _⟩
  exact ⟨rfl, pg1, W1, h.step s1 t1⟩
theorem Rn.free {w0 : World} (h : Rn w0 w bh bs bm q pg W L) (a : Int) (ha : In64 a) (p : Pg) (s : Int) (L' : List Pg) (e : findB L a = some (p, s)) (e2 : dropL L p s = L') : Calls Tryd.prog 9 #[hp bh, .int .i64 a] w fun e w' => e = .returned (.int .i64 0) ∧ ∃ pg' W', Rn w0 w' bh bs bm q pg' W' L' := by
  have hfr : (freeL L a).1 = 0 := by unfold freeL; rw [e]
  have := free_any h.st a ha
  rw [hfr] at this
  refine this.mono ?_
  rintro e3 w1 ⟨rfl, (⟨h1, _⟩ | ⟨p', s', h1, pg1, W1, s1, t1, _⟩)⟩
  · rw [e] at h1; cases h1
  · rw [e] at h1
    obtain ⟨rfl, rfl⟩ := Prod.mk.inj (Option.some.inj h1)
    rw [e2] at s1
    exact ⟨rfl, pg1, W1, h.step s1 t1⟩
theorem Rn.slide {w0 : World} (h : Rn w0 w bh bs bm q pg W L) (a : Int) (ha : In64 a) (b er : Int) (L' : List Pg) (e : slideL L a = (b, er, L')) : Calls Tryd.prog 10 #[hp bh, .int .i64 a] w fun e w' => e = .returned (.tuple #[.int .i64 b, .int .i64 er]) ∧ ∃ pg' W', Rn w0 w' bh bs bm q pg' W' L' := by
  have := slide_any h.st a ha
  rw [e] at this
  refine this.mono ?_
  rintro e3 w1 ⟨rfl, (⟨h1, k1⟩ | ⟨p', s', h1, (⟨h2, k1⟩ | ⟨pg1, W1, s1, t1, _⟩)⟩)⟩
  · have e4 : slideL L a = (0, 5, L) := by unfold slideL; rw [h1]
    rw [e] at e4
    obtain ⟨_, e5⟩ := Prod.mk.inj e4
    obtain ⟨_, e6⟩ := Prod.mk.inj e5
    subst e6
    exact ⟨rfl, pg, W, h.keep k1⟩
  · rw [e] at h2
    obtain ⟨_, e5⟩ := Prod.mk.inj h2
    obtain ⟨_, e6⟩ := Prod.mk.inj e5
    subst e6
    exact ⟨rfl, pg, W, h.keep k1⟩
  · rw [e] at s1
    exact ⟨rfl, pg1, W1, h.step s1 t1⟩

set_option maxRecDepth 100000 in
set_option maxHeartbeats 1000000 in
theorem awake_any (w : World) (hT : Bt.Tab w) : Calls Tryd.prog 4 #[] w fun e w' => e = .returned (.bool true) ∧ K w w' := by
  have md := made_ok 640 w hT (by omega) (by omega)
  go_enter Tryd.func4, Tryd.ntmps4
  go_wp2_with fail
  refine md.mono ?_
  rintro e w1 ⟨bh, bs, bm, rfl, r1, _⟩
  have c1 := r1.alloc 2 _ _ _ aw1
  go_wp2_with fail
  refine c1.mono ?_
  rintro e w2 ⟨rfl, pg2, W2, r2⟩
  have c2 := r2.alloc 2 _ _ _ aw2
  clear c1 r1
  go_wp2_with fail
  refine c2.mono ?_
  rintro e w3 ⟨rfl, pg3, W3, r3⟩
  have c3 := r3.alloc 28 _ _ _ aw3
  clear c2 r2
  go_wp2_with fail
  refine c3.mono ?_
  rintro e w4 ⟨rfl, pg4, W4, r4⟩
  have c4 := r4.alloc 100 _ _ _ aw4
  clear c3 r3
  go_wp2_with fail
  refine c4.mono ?_
  rintro e w5 ⟨rfl, pg5, W5, r5⟩
  have c5 := r5.free 4 ⟨by decide, by decide⟩ _ _ _ aw5 aw5'
  clear c4 r4
  go_wp2_with fail
  refine c5.mono ?_
  rintro e w6 ⟨rfl, pg6, W6, r6⟩
  have c6 := r6.free 66 ⟨by decide, by decide⟩ _ _ _ aw6 aw6'
  clear c5 r5
  go_wp2_with fail
  refine c6.mono ?_
  rintro e w7 ⟨rfl, pg7, W7, r7⟩
  have c7 := r7.slide 130 ⟨by decide, by decide⟩ _ _ _ aw7
  clear c6 r6
  go_wp2_with fail
  refine c7.mono ?_
  rintro e w8 ⟨rfl, pg8, W8, r8⟩
  have k8 := r8.k
  clear c7 r7 r8
  go_wp2
  go_ret
  exact ⟨rfl, k8⟩

end Hp
end Go.Proofs.YtlpdgomoepinjaaDoor
