/-
  Proved below: a place has as many words as its class, or as was asked for; a large block begins at a page's third word; what is no block's address is told so.
-/
import Derived.Test.YtlpdgomoepinjabGreatDoorHLive
namespace Go.Proofs.YtlpdgomoepinjabGreatDoor
open Go.RowKit
attribute [local go_sem ↓] Go.wp_at_zero Go.wp_at_succ
namespace Hp
variable {w w' : World} {bh bs bm : Nat} {q : Int} {pg pg' : List (Int × Nat)} {W W' : Int → Int} {L : List Pg}

/-- What is so of a heap with one block, of x words. -/
structure One (x : Int) (p : Pg) : Prop where
  al : allocL 262144 [] x = (2, 0, [p])
  fd : ∀ a, findB [p] a = if a = 2 then some (p, 0) else none
  sl : slideL [p] 2 = (2, 0, [p])

theorem find_one {p : Pg} (hn : p.n = 0) (hs : slotsOf p = [0]) (ha : addrI p 0 = 2) (a : Int) : findB [p] a = if a = 2 then some (p, 0) else none := by
  unfold findB pgOf slOf
  simp only [List.find?_cons, List.find?_nil, hn]
  by_cases h : a = 2
  · subst h
    rw [show (0 == Int.tdiv 2 64) = true by decide]
    simp [hs, ha]
  · rw [if_neg h]
    cases (0 == Int.tdiv a 64) with
    | false => rfl
    | true =>
      simp only [Option.bind_some, hs, List.find?_cons, List.find?_nil, ha]
      rw [show (2 == a) = false by simpa using (fun e : (2 : Int) = a => h e.symm)]
      rfl

theorem one_small {x : Int} (hx : 1 ≤ x ∧ x ≤ 4000) (hs : Cl.smaI x = true) : One x (smallPg 0 (Cl.clsI x)) ∧ roomI (smallPg 0 (Cl.clsI x)) = Cl.sizI (Cl.clsI x) := by
  obtain ⟨c0, c1, c2⟩ := cls_in hx hs
  have e1 : allocL 262144 [] x = (addrI (smallPg 0 (Cl.clsI x)) 0, 0, [smallPg 0 (Cl.clsI x)]) := by
    unfold allocL
    rw [if_pos hx, if_pos hs]
    rfl
  rw [show (0 : Int) = 0 from rfl] at e1
  generalize Cl.clsI x = c at *
  have hc : c = 0 ∨ c = 1 ∨ c = 2 ∨ c = 3 ∨ c = 4 ∨ c = 5 ∨ c = 6 ∨ c = 7 := by omega
  clear c2
  rcases hc with rfl | rfl | rfl | rfl | rfl | rfl | rfl | rfl <;> exact ⟨⟨by rw [e1]; rfl, find_one rfl (by decide +kernel) (by decide +kernel), by decide +kernel⟩, rfl⟩

theorem one_large {x : Int} (hx : 1 ≤ x ∧ x ≤ 4000) (hs : Cl.smaI x = false) : One x (largePg 0 x) ∧ roomI (largePg 0 x) = x := by
  have hp : Cl.pagI x = (x + 65) / 64 := if_pos hx
  have ha : addrI (largePg 0 x) 0 = 2 := rfl
  have hf := find_one (p := largePg 0 x) rfl rfl ha
  refine ⟨⟨?_, hf, ?_⟩, rfl⟩
  · unfold allocL
    rw [if_pos hx, if_neg (by rw [hs]; simp), if_pos (by rw [hp]; simp [granted]; omega)]
    rfl
  · unfold slideL
    rw [hf 2, if_pos rfl]
    rfl

theorem alloc_bad {x : Int} (hx : ¬ (1 ≤ x ∧ x ≤ 4000)) (q : Int) (L : List Pg) : allocL q L x = (0, 2, L) := if_neg hx

theorem Rn.room {w0 : World} (h : Rn w0 w bh bs bm q pg W L) (a : Int) (ha : In64 a) (r er : Int) (e : roomL L a = (r, er)) : Calls Tryz.prog 9 #[hp bh, .int .i64 a] w fun e w' => e = .returned (.tuple #[.int .i64 r, .int .i64 er]) ∧ Rn w0 w' bh bs bm q pg W L := by
  have := room_call h.st a ha
  rw [e] at this
  refine this.mono ?_
  rintro e3 w1 ⟨rfl, k1⟩
  exact ⟨rfl, h.keep k1⟩
theorem Rn.freeNone {w0 : World} (h : Rn w0 w bh bs bm q pg W L) (a : Int) (ha : In64 a) (e : findB L a = none) : Calls Tryz.prog 12 #[hp bh, .int .i64 a] w fun e w' => e = .returned (.int .i64 5) ∧ Rn w0 w' bh bs bm q pg W L := by
  have := free_any h.st a ha
  rw [show (freeL L a).1 = 5 by unfold freeL; rw [e]] at this
  refine this.mono ?_
  rintro e3 w1 ⟨rfl, (⟨h1, k1⟩ | ⟨p', s', h1, _⟩)⟩
  · exact ⟨rfl, h.keep k1⟩
  · rw [e] at h1; cases h1
theorem Rn.tab {w0 : World} (h : Rn w0 w bh bs bm q pg W L) : Bt.Tab w := h.st.hw.tab

theorem One.roomAt {x : Int} {p : Pg} (o : One x p) (a : Int) : roomL [p] a = if a = 2 then (roomI p, 0) else (0, 5) := by
  unfold roomL
  rw [o.fd a]
  split <;> simp_all

theorem owns_shape {b n k : Nat} {t : TypeId} {v : Value} {xs : List Value} (h : w.ownsRow b t k v n xs) : ∃ ad cap, v = .slice ad n cap := by
  rcases h.2 with ⟨rfl, rfl⟩ | ⟨g, cap, _, rfl, _⟩
  · exact ⟨_, _, rfl⟩
  · exact ⟨_, _, rfl⟩

set_option maxRecDepth 100000 in
set_option maxHeartbeats 1000000 in
theorem told_bad (x at_ : Int) (hx : ¬ (1 ≤ x ∧ x ≤ 4000)) (w : World) (hT : Bt.Tab w) : Calls Tryz.prog 3 #[.int .i64 x, .int .i64 at_] w fun e w' => e = .returned (.bool true) ∧ K w w' := by
  have md := made_ok 262144 w hT (by omega) (by omega)
  have hco : Cl.errW x = 2 := if_neg hx
  go_enter Tryz.func3, Tryz.ntmps3
  go_wp2_with fail
  refine md.mono ?_
  rintro e w1 ⟨bh, bs, bm, rfl, r1, _⟩
  have c1 := r1.alloc x _ _ _ (alloc_bad hx _ _)
  go_wp2_with fail
  refine c1.mono ?_
  rintro e w2 ⟨rfl, pg2, W2, r2⟩
  have co := Cl.of_any x w2
  rw [hco] at co
  clear c1 r1 md
  go_wp2_with fail
  refine co.mono ?_
  rintro e w3 ⟨rfl, k3⟩
  have r3 := r2.keep (K.cl k3)
  have cl := live_any r3.st (by decide)
  go_wp2_with fail
  refine cl.mono ?_
  rintro e w4 ⟨v, rfl, hv, k4⟩
  obtain ⟨ad, cap, rfl⟩ := owns_shape hv
  have HV : Aside _ := hv
  clear hv cl
  have aw := awake_any w4 (r3.keep k4).tab
  have kk := (r3.keep k4).k
  go_wp2_with (go_at_call 8; refine aw.mono ?_; rintro e w6 ⟨rfl, k6⟩)
  go_ret
  exact ⟨rfl, kk.trans k6⟩

set_option maxRecDepth 100000 in
set_option maxHeartbeats 1000000 in
theorem told_small_at (x : Int) (hat : In64 2) (hx : 1 ≤ x ∧ x ≤ 4000) (hs : Cl.smaI x = true) {p : Pg} (o : One x p) (hr : roomI p = Cl.sizI (Cl.clsI x)) (w : World) (hT : Bt.Tab w) : Calls Tryz.prog 3 #[.int .i64 x, .int .i64 2] w fun e w' => e = .returned (.bool true) ∧ K w w' := by
  have md := made_ok 262144 w hT (by omega) (by omega)
  have hco : Cl.errW x = 0 := if_pos hx
  have rm2 := o.roomAt 2
  rw [if_pos rfl, hr] at rm2
  go_enter Tryz.func3, Tryz.ntmps3
  go_wp2_with fail
  refine md.mono ?_
  rintro e w1 ⟨bh, bs, bm, rfl, r1, _⟩
  have c1 := r1.alloc x _ _ _ o.al
  go_wp2_with fail
  refine c1.mono ?_
  rintro e w2 ⟨rfl, pg2, W2, r2⟩
  have co := Cl.of_any x w2
  rw [hco, hs] at co
  clear c1 r1 md
  go_wp2_with fail
  refine co.mono ?_
  rintro e w3 ⟨rfl, k3⟩
  have r3 := r2.keep (K.cl k3)
  have c3 := r3.room 2 ⟨by decide, by decide⟩ _ _ rm2
  clear co r2
  go_wp2_with fail
  refine c3.mono ?_
  rintro e w4 ⟨rfl, r4⟩
  have cz := Cl.size_any (Cl.clsI x) w4
  clear c3 r3
  go_wp2_with fail
  refine cz.mono ?_
  rintro e w5 ⟨rfl, k5⟩
  have r5 := r4.keep (K.cl k5)
  have c5 := r5.room 2 hat _ _ rm2
  clear cz r4
  go_wp2_with fail
  refine c5.mono ?_
  rintro e w6 ⟨rfl, r6⟩
  have c6 := r6.slide 2 hat _ _ _ o.sl
  clear c5 r5
  go_wp2_with fail
  refine c6.mono ?_
  rintro e w7 ⟨rfl, pg7, W7, r7⟩
  clear c6 r6
  have c7 := r7.free 2 hat p 0 _ (by rw [o.fd, if_pos rfl]) rfl
  go_wp2_with fail
  refine c7.mono ?_
  rintro e w8 ⟨rfl, pg8, W8, r8⟩
  have aw := awake_any w8 r8.tab
  have kk := r8.k
  clear c7 r7 r8
  go_wp2_with (go_at_call 8; refine aw.mono ?_; rintro e w9 ⟨rfl, k9⟩)
  go_ret
  exact ⟨rfl, kk.trans k9⟩

set_option maxRecDepth 100000 in
set_option maxHeartbeats 1000000 in
theorem told_small_off (x at_ : Int) (hat : In64 at_) (hx : 1 ≤ x ∧ x ≤ 4000) (hs : Cl.smaI x = true) (h2 : at_ ≠ 2) {p : Pg} (o : One x p) (hr : roomI p = Cl.sizI (Cl.clsI x)) (w : World) (hT : Bt.Tab w) : Calls Tryz.prog 3 #[.int .i64 x, .int .i64 at_] w fun e w' => e = .returned (.bool true) ∧ K w w' := by
  have md := made_ok 262144 w hT (by omega) (by omega)
  have hco : Cl.errW x = 0 := if_pos hx
  have rm2 := o.roomAt 2
  have rmA := o.roomAt at_
  rw [if_pos rfl, hr] at rm2
  rw [if_neg h2] at rmA
  go_enter Tryz.func3, Tryz.ntmps3
  go_wp2_with fail
  refine md.mono ?_
  rintro e w1 ⟨bh, bs, bm, rfl, r1, _⟩
  have c1 := r1.alloc x _ _ _ o.al
  go_wp2_with fail
  refine c1.mono ?_
  rintro e w2 ⟨rfl, pg2, W2, r2⟩
  have co := Cl.of_any x w2
  rw [hco, hs] at co
  clear c1 r1 md
  go_wp2_with fail
  refine co.mono ?_
  rintro e w3 ⟨rfl, k3⟩
  have r3 := r2.keep (K.cl k3)
  have c3 := r3.room 2 ⟨by decide, by decide⟩ _ _ rm2
  clear co r2
  go_wp2_with fail
  refine c3.mono ?_
  rintro e w4 ⟨rfl, r4⟩
  have cz := Cl.size_any (Cl.clsI x) w4
  clear c3 r3
  go_wp2_with fail
  refine cz.mono ?_
  rintro e w5 ⟨rfl, k5⟩
  have r5 := r4.keep (K.cl k5)
  have c5 := r5.room at_ hat _ _ rmA
  clear cz r4
  go_wp2_with fail
  refine c5.mono ?_
  rintro e w6 ⟨rfl, r6⟩
  have c6 := r6.slide at_ hat _ _ _ (show slideL [p] at_ = (0, 5, [p]) by unfold slideL; rw [o.fd, if_neg h2])
  clear c5 r5
  go_wp2_with fail
  refine c6.mono ?_
  rintro e w7 ⟨rfl, pg7, W7, r7⟩
  clear c6 r6
  have c7 := r7.freeNone at_ hat (by rw [o.fd, if_neg h2])
  go_wp2_with fail
  refine c7.mono ?_
  rintro e w8 ⟨rfl, r8⟩
  have aw := awake_any w8 r8.tab
  have kk := r8.k
  clear c7 r7 r8
  go_wp2_with (go_at_call 8; refine aw.mono ?_; rintro e w9 ⟨rfl, k9⟩)
  go_ret
  exact ⟨rfl, kk.trans k9⟩

set_option maxRecDepth 100000 in
set_option maxHeartbeats 1000000 in
theorem told_large_at (x : Int) (hat : In64 2) (hx : 1 ≤ x ∧ x ≤ 4000) (hs : Cl.smaI x = false) {p : Pg} (o : One x p) (hr : roomI p = x) (w : World) (hT : Bt.Tab w) : Calls Tryz.prog 3 #[.int .i64 x, .int .i64 2] w fun e w' => e = .returned (.bool true) ∧ K w w' := by
  have md := made_ok 262144 w hT (by omega) (by omega)
  have hco : Cl.errW x = 0 := if_pos hx
  have rm2 := o.roomAt 2
  rw [if_pos rfl, hr] at rm2
  go_enter Tryz.func3, Tryz.ntmps3
  go_wp2_with fail
  refine md.mono ?_
  rintro e w1 ⟨bh, bs, bm, rfl, r1, _⟩
  have c1 := r1.alloc x _ _ _ o.al
  go_wp2_with fail
  refine c1.mono ?_
  rintro e w2 ⟨rfl, pg2, W2, r2⟩
  have co := Cl.of_any x w2
  rw [hco, hs] at co
  clear c1 r1 md
  go_wp2_with fail
  refine co.mono ?_
  rintro e w3 ⟨rfl, k3⟩
  have r3 := r2.keep (K.cl k3)
  have c3 := r3.room 2 ⟨by decide, by decide⟩ _ _ rm2
  clear co r2
  go_wp2_with fail
  refine c3.mono ?_
  rintro e w4 ⟨rfl, r4⟩
  have cz := Cl.size_any (Cl.clsI x) w4
  clear c3 r3
  go_wp2_with fail
  refine cz.mono ?_
  rintro e w5 ⟨rfl, k5⟩
  have r5 := r4.keep (K.cl k5)
  have c5 := r5.room 2 hat _ _ rm2
  clear cz r4
  go_wp2_with fail
  refine c5.mono ?_
  rintro e w6 ⟨rfl, r6⟩
  have c6 := r6.slide 2 hat _ _ _ o.sl
  clear c5 r5
  go_wp2_with fail
  refine c6.mono ?_
  rintro e w7 ⟨rfl, pg7, W7, r7⟩
  clear c6 r6
  have c7 := r7.free 2 hat p 0 _ (by rw [o.fd, if_pos rfl]) rfl
  go_wp2_with fail
  refine c7.mono ?_
  rintro e w8 ⟨rfl, pg8, W8, r8⟩
  have aw := awake_any w8 r8.tab
  have kk := r8.k
  clear c7 r7 r8
  go_wp2_with (go_at_call 8; refine aw.mono ?_; rintro e w9 ⟨rfl, k9⟩)
  go_ret
  exact ⟨rfl, kk.trans k9⟩

set_option maxRecDepth 100000 in
set_option maxHeartbeats 1000000 in
theorem told_large_off (x at_ : Int) (hat : In64 at_) (hx : 1 ≤ x ∧ x ≤ 4000) (hs : Cl.smaI x = false) (h2 : at_ ≠ 2) {p : Pg} (o : One x p) (hr : roomI p = x) (w : World) (hT : Bt.Tab w) : Calls Tryz.prog 3 #[.int .i64 x, .int .i64 at_] w fun e w' => e = .returned (.bool true) ∧ K w w' := by
  have md := made_ok 262144 w hT (by omega) (by omega)
  have hco : Cl.errW x = 0 := if_pos hx
  have rm2 := o.roomAt 2
  have rmA := o.roomAt at_
  rw [if_pos rfl, hr] at rm2
  rw [if_neg h2] at rmA
  go_enter Tryz.func3, Tryz.ntmps3
  go_wp2_with fail
  refine md.mono ?_
  rintro e w1 ⟨bh, bs, bm, rfl, r1, _⟩
  have c1 := r1.alloc x _ _ _ o.al
  go_wp2_with fail
  refine c1.mono ?_
  rintro e w2 ⟨rfl, pg2, W2, r2⟩
  have co := Cl.of_any x w2
  rw [hco, hs] at co
  clear c1 r1 md
  go_wp2_with fail
  refine co.mono ?_
  rintro e w3 ⟨rfl, k3⟩
  have r3 := r2.keep (K.cl k3)
  have c3 := r3.room 2 ⟨by decide, by decide⟩ _ _ rm2
  clear co r2
  go_wp2_with fail
  refine c3.mono ?_
  rintro e w4 ⟨rfl, r4⟩
  have cz := Cl.size_any (Cl.clsI x) w4
  clear c3 r3
  go_wp2_with fail
  refine cz.mono ?_
  rintro e w5 ⟨rfl, k5⟩
  have r5 := r4.keep (K.cl k5)
  have c5 := r5.room at_ hat _ _ rmA
  clear cz r4
  go_wp2_with fail
  refine c5.mono ?_
  rintro e w6 ⟨rfl, r6⟩
  have c6 := r6.slide at_ hat _ _ _ (show slideL [p] at_ = (0, 5, [p]) by unfold slideL; rw [o.fd, if_neg h2])
  clear c5 r5
  go_wp2_with fail
  refine c6.mono ?_
  rintro e w7 ⟨rfl, pg7, W7, r7⟩
  clear c6 r6
  have c7 := r7.freeNone at_ hat (by rw [o.fd, if_neg h2])
  go_wp2_with fail
  refine c7.mono ?_
  rintro e w8 ⟨rfl, r8⟩
  have aw := awake_any w8 r8.tab
  have kk := r8.k
  clear c7 r7 r8
  go_wp2_with (go_at_call 8; refine aw.mono ?_; rintro e w9 ⟨rfl, k9⟩)
  go_ret
  exact ⟨rfl, kk.trans k9⟩

theorem told_walk (x at_ : Int) (_ : In64 x) (hat : In64 at_) (w : World) (hT : Bt.Tab w) : Calls Tryz.prog 3 #[.int .i64 x, .int .i64 at_] w fun e w' => e = .returned (.bool true) ∧ K w w' := by
  by_cases hx : 1 ≤ x ∧ x ≤ 4000
  · cases hs : Cl.smaI x with
    | true =>
      obtain ⟨o, hr⟩ := one_small hx hs
      by_cases h2 : at_ = 2
      · subst h2; exact told_small_at x hat hx hs o hr w hT
      · exact told_small_off x at_ hat hx hs h2 o hr w hT
    | false =>
      obtain ⟨o, hr⟩ := one_large hx hs
      by_cases h2 : at_ = 2
      · subst h2; exact told_large_at x hat hx hs o hr w hT
      · exact told_large_off x at_ hat hx hs h2 o hr w hT
  · exact told_bad x at_ hx w hT

end Hp
end Go.Proofs.YtlpdgomoepinjabGreatDoor
