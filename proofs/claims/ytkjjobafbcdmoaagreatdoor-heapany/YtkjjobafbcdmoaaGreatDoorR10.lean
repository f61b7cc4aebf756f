/-
  The law's play: what is not alloc, and the calls on the n-th block.
-/
import Derived.Test.YtkjjobafbcdmoaaGreatDoorR9
namespace Go.Proofs.YtkjjobafbcdmoaaGreatDoor
open Go.RowKit Go.Maps
namespace Hp
variable {w0 w w' : World} {bh bs bm br : Nat} {q : Int} {L M : List Pg} {E : List Re}

theorem Pe.live_r (h : Pe w0 w bh bs bm br q L M) : ∃ (a : Option Addr) (cap n : Nat), w.heap[br]? = some (.cells #[.int .i64 q, .slice a n cap] 46) ∧ (∀ wx, K w wx → Calls Tryz.prog 31 #[.agg #[.int .i64 q, .slice a n cap]] wx fun e w' => ∃ v', e = .returned v' ∧ w'.ownsRow wx.heap.size 3 1 v' (liveL M).length ((liveL M).map encI) ∧ K wx w') ∧ (∀ x wx, K w wx → Calls Tryz.prog 35 #[.agg #[.int .i64 q, .slice a n cap], .int .i64 x] wx fun e w' => e = .returned (.tuple #[.int .i64 (roomL M x).1, .int .i64 (roomL M x).2]) ∧ K wx w') ∧ (liveL M).length ≤ 100000 ∧ ∀ x, In64 (nthI (liveL M) x) := by
  obtain ⟨a, cap, E, h1, rfl, hE, g, hr⟩ := h.val
  exact ⟨a, cap, E.length, h1, fun wx k => rLive_any (q := q) (hr.keep k) hE, fun x wx k => rRoom_any (q := q) (hr.keep k) hE x, live_few hE, nth_in hE⟩

set_option maxRecDepth 100000 in
set_option maxHeartbeats 4000000 in
theorem play_room (h : Pe w0 w bh bs bm br q L L) (d n : Int) (hn : In64 n) (d1 : d ≠ 1) (d2 : d ≠ 2) (d3 : d ≠ 3) (d4 : d ≠ 4) (d5 : d ≠ 5) : Calls Tryz.prog 13 #[hp bh, .pointer (some ⟨br, 0, none⟩), .agg #[.int .i64 d, .int .i64 n]] w fun e w' => e = .returned (.bool true) ∧ ∃ L', Pe w0 w' bh bs bm br q L' L' := by
  have HP : Aside (Pe w0 (w.alloc (.cells #[.int .i64 d, .int .i64 n] 50)) bh bs bm br q L L) := h.keep ((K.refl _).alloc _)
  have ca := HP.out.room_h n hn
  have e1 : (d == 1) = false := by simpa using d1
  have e2 : (d == 2) = false := by simpa using d2
  have e3 : (d == 3) = false := by simpa using d3
  have e4 : (d == 4) = false := by simpa using d4
  have e5 : (d == 5) = false := by simpa using d5
  clear h d1 d2 d3 d4 d5
  go_enter Tryz.func13, Tryz.ntmps13
  go_wp2_with fail
  refine ca.mono ?_
  rintro e w1 ⟨rfl, P1⟩
  obtain ⟨a, cap, m, s0, _, cr, _, _⟩ := P1.live_r
  have cr1 := cr n _ (K.refl _)
  have HP1 : Aside _ := P1
  have c0 : w1.cell? ⟨br, 0, none⟩ = some (.int .i64 q) := by simp [World.cell?, s0]
  have c1 : w1.cell? ⟨br, 1, none⟩ = some (.slice a m cap) := by simp [World.cell?, s0]
  clear ca P1 cr
  generalize (roomL L n).1 = r1 at *
  generalize (roomL L n).2 = r2 at *
  go_wp2_with fail
  refine cr1.mono ?_
  rintro e w2 ⟨rfl, k2⟩
  go_wp2
  go_ret
  exact ⟨rfl, _, Pe.keep HP1.out k2⟩

set_option maxRecDepth 100000 in
set_option maxHeartbeats 4000000 in
theorem play_free2 (h : Pe w0 w bh bs bm br q L L) (n : Int) (hn : In64 n) : Calls Tryz.prog 13 #[hp bh, .pointer (some ⟨br, 0, none⟩), .agg #[.int .i64 2, .int .i64 n]] w fun e w' => e = .returned (.bool true) ∧ ∃ L', Pe w0 w' bh bs bm br q L' L' := by
  have kz : K w (w.alloc (.cells #[.int .i64 2, .int .i64 n] 50)) := (K.refl _).alloc _
  have hb : (w.alloc (.cells #[.int .i64 2, .int .i64 n] 50)).heap[w.heap.size]? = some (.cells #[.int .i64 2, .int .i64 n] 50) := (MapKept.heap_alloc w _).1
  have HP : Aside (Pe w0 (w.alloc (.cells #[.int .i64 2, .int .i64 n] 50)) bh bs bm br q L L) := h.keep kz
  have RB : Aside (∀ wx : World, wx.heap[w.heap.size]? = some (.cells #[.int .i64 2, .int .i64 n] 50) → wx.cell? ⟨w.heap.size, 0, none⟩ = some (.int .i64 2) ∧ wx.cell? ⟨w.heap.size, 1, none⟩ = some (.int .i64 n)) := fun wx hw => by
    constructor <;> simp [World.cell?, hw]
  clear h
  go_enter Tryz.func13, Tryz.ntmps13
  go_wp2
  obtain ⟨a, cap, m, s0, cl, _, hfew, hin⟩ := HP.out.live_r
  have CL : Aside _ := cl
  have HIN : Aside _ := hin
  have CN : Aside (∀ (wx : World) (B : Nat) (v : Value), wx.ownsRow B 3 1 v (liveL L).length ((liveL L).map encI) → Calls Tryz.prog 30 #[v, .int .i64 n] wx fun e w' => e = .returned (.int .i64 (nthI (liveL L) n)) ∧ wx = w') := fun wx B v ho => nthI_any ho rfl hfew n hn.1 hn.2
  clear cl hin kz hfew
  generalize w.alloc (.cells #[.int .i64 2, .int .i64 n] 50) = W at *
  generalize w.heap.size = wb at *
  obtain ⟨b0, b1⟩ := RB.out _ hb
  have c0 : W.cell? ⟨br, 0, none⟩ = some (.int .i64 q) := by simp [World.cell?, s0]
  have c1 : W.cell? ⟨br, 1, none⟩ = some (.slice a m cap) := by simp [World.cell?, s0]
  have kW := K.refl W
  go_region_with (first
    | (go_at_call 31; refine (CL.out _ (by first | exact kW | exact kW.drewN _ | exact kW.drew)).mono ?_; rintro e w3 ⟨v3, rfl, ho3, k3⟩; have k4 : K W w3 := (by first | exact kW.trans k3 | exact (kW.drewN _).trans k3 | exact kW.drew.trans k3); obtain ⟨b03, b13⟩ := RB.out _ (k4.block hb))
    | (go_at_call 30; refine (CN.out _ _ _ ho3).mono ?_; rintro e w5 ⟨rfl, rfl⟩))
  all_goals
    have P3 := Pe.keep HP.out k4
    have ca := P3.free_h (nthI (liveL L) n) (HIN.out n)
    clear P3 b0 b1 c0 c1 s0 ho3 CL CN HIN RB hb kW k3
    generalize nthI (liveL L) n = x at *
    go_wp2_with fail
    refine ca.mono ?_
    rintro e w6 ⟨rfl, P1⟩
    have cr := Pe.free_r P1
    clear ca P1
    generalize (freeL L x).1 = r1 at *
    go_wp2_with fail
    refine cr.mono ?_
    rintro e w7 ⟨rfl, P2⟩
    clear cr
    go_wp2
    go_ret
    exact ⟨rfl, _, P2⟩

set_option maxRecDepth 100000 in
set_option maxHeartbeats 4000000 in
theorem play_slide3 (h : Pe w0 w bh bs bm br q L L) (n : Int) (hn : In64 n) : Calls Tryz.prog 13 #[hp bh, .pointer (some ⟨br, 0, none⟩), .agg #[.int .i64 3, .int .i64 n]] w fun e w' => e = .returned (.bool true) ∧ ∃ L', Pe w0 w' bh bs bm br q L' L' := by
  have kz : K w (w.alloc (.cells #[.int .i64 3, .int .i64 n] 50)) := (K.refl _).alloc _
  have hb : (w.alloc (.cells #[.int .i64 3, .int .i64 n] 50)).heap[w.heap.size]? = some (.cells #[.int .i64 3, .int .i64 n] 50) := (MapKept.heap_alloc w _).1
  have HP : Aside (Pe w0 (w.alloc (.cells #[.int .i64 3, .int .i64 n] 50)) bh bs bm br q L L) := h.keep kz
  have RB : Aside (∀ wx : World, wx.heap[w.heap.size]? = some (.cells #[.int .i64 3, .int .i64 n] 50) → wx.cell? ⟨w.heap.size, 0, none⟩ = some (.int .i64 3) ∧ wx.cell? ⟨w.heap.size, 1, none⟩ = some (.int .i64 n)) := fun wx hw => by
    constructor <;> simp [World.cell?, hw]
  clear h
  go_enter Tryz.func13, Tryz.ntmps13
  go_wp2
  obtain ⟨a, cap, m, s0, cl, _, hfew, hin⟩ := HP.out.live_r
  have CL : Aside _ := cl
  have HIN : Aside _ := hin
  have CN : Aside (∀ (wx : World) (B : Nat) (v : Value), wx.ownsRow B 3 1 v (liveL L).length ((liveL L).map encI) → Calls Tryz.prog 30 #[v, .int .i64 n] wx fun e w' => e = .returned (.int .i64 (nthI (liveL L) n)) ∧ wx = w') := fun wx B v ho => nthI_any ho rfl hfew n hn.1 hn.2
  clear cl hin kz hfew
  generalize w.alloc (.cells #[.int .i64 3, .int .i64 n] 50) = W at *
  generalize w.heap.size = wb at *
  obtain ⟨b0, b1⟩ := RB.out _ hb
  have c0 : W.cell? ⟨br, 0, none⟩ = some (.int .i64 q) := by simp [World.cell?, s0]
  have c1 : W.cell? ⟨br, 1, none⟩ = some (.slice a m cap) := by simp [World.cell?, s0]
  have kW := K.refl W
  go_region_with (first
    | (go_at_call 31; refine (CL.out _ (by first | exact kW | exact kW.drewN _ | exact kW.drew)).mono ?_; rintro e w3 ⟨v3, rfl, ho3, k3⟩; have k4 : K W w3 := (by first | exact kW.trans k3 | exact (kW.drewN _).trans k3 | exact kW.drew.trans k3); obtain ⟨b03, b13⟩ := RB.out _ (k4.block hb))
    | (go_at_call 30; refine (CN.out _ _ _ ho3).mono ?_; rintro e w5 ⟨rfl, rfl⟩))
  all_goals
    have P3 := Pe.keep HP.out k4
    have ca := P3.slide_h (nthI (liveL L) n) (HIN.out n)
    clear P3 b0 b1 c0 c1 s0 ho3 CL CN HIN RB hb kW k3
    generalize nthI (liveL L) n = x at *
    go_wp2_with fail
    refine ca.mono ?_
    rintro e w6 ⟨rfl, P1⟩
    have cr := Pe.slide_r P1
    clear ca P1
    generalize (slideL L x).1 = r1 at *
    generalize (slideL L x).2.1 = r2 at *
    go_wp2_with fail
    refine cr.mono ?_
    rintro e w7 ⟨rfl, P2⟩
    clear cr
    go_wp2
    go_ret
    exact ⟨rfl, _, P2⟩

theorem play_any (h : Pe w0 w bh bs bm br q L L) (d n : Int) (hn : In64 n) : Calls Tryz.prog 13 #[hp bh, .pointer (some ⟨br, 0, none⟩), .agg #[.int .i64 d, .int .i64 n]] w fun e w' => e = .returned (.bool true) ∧ ∃ L', Pe w0 w' bh bs bm br q L' L' := by
  by_cases d1 : d = 1
  · subst d1; exact play_alloc h n
  by_cases d2 : d = 2
  · subst d2; exact play_free2 h n hn
  by_cases d3 : d = 3
  · subst d3; exact play_slide3 h n hn
  by_cases d4 : d = 4
  · subst d4; exact play_free4 h n hn
  by_cases d5 : d = 5
  · subst d5; exact play_slide5 h n hn
  exact play_room h d n hn d1 d2 d3 d4 d5

end Hp
end Go.Proofs.YtkjjobafbcdmoaaGreatDoor
