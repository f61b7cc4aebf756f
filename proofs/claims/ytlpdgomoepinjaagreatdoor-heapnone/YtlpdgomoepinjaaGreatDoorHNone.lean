/-
  A heap that is not there, or that nobody made; and the walk of the statement on it.
-/
import Derived.Test.YtlpdgomoepinjaaGreatDoorHAwake
import Derived.Test.YtlpdgomoepinjaaGreatDoorSNone
namespace Go.Proofs.YtlpdgomoepinjaaGreatDoor
open Go.RowKit
attribute [local go_sem ↓] Go.wp_at_zero Go.wp_at_succ
namespace Hp
variable {w w' : World} {bh bs bm : Nat} {q : Int} {pg pg' : List (Int × Nat)} {W W' : Int → Int} {L : List Pg} {v : Value}

/-- No heap. -/
def Un (w : World) (v : Value) : Prop := ∀ w', K w w' → Calls Tryz.prog 36 #[v] w' fun e w'' => e = .returned (.bool false) ∧ w' = w''
theorem Un.keep (h : Un w v) (k : K w w') : Un w' v := fun w2 k2 => h w2 (k.trans k2)
theorem un_nil (w : World) : Un w (.pointer none) := fun w' _ => made_nil w'
theorem un_zero {b : Nat} (c : w.cell? ⟨b, 0, none⟩ = some (.pointer none)) : Un w (hp b) := fun w' k => made_zero b w' (k.cell c)

theorem alloc_un (h : Un w v) (n : Int) : Calls Tryz.prog 19 #[v, .int .i64 n] w fun e w' => e = .returned (.tuple #[.int .i64 0, .int .i64 1]) ∧ K w w' := by
  have hm := h w (K.refl w)
  go_enter Tryz.func19, Tryz.ntmps19
  go_wp2_with (go_at_call 36; refine hm.mono ?_; rintro e w' ⟨rfl, rfl⟩)
  go_ret2
  exact ⟨rfl, K.refl w⟩

theorem find_un (h : Un w v) (n : Int) : Calls Tryz.prog 51 #[v, .int .i64 n] w fun e w' => e = .returned (.tuple #[.agg zeroB, .int .i64 1]) ∧ K w w' := by
  have hm := h _ ((((K.refl w).alloc (.cells #[.int .i64 n] 3)).alloc (.cells zeroB 72)).alloc (.cells #[.int .i64 0] 39))
  go_enter Tryz.func51, Tryz.ntmps51
  go_wp2_with (go_at_call 36; refine hm.mono ?_; rintro e w' ⟨rfl, rfl⟩)
  exact bodyPost_ret (v := .tuple #[.agg zeroB, .int .i64 1]) (by simp [results, Tryz.results51, go_sem]) rfl ⟨rfl, (((K.refl w).alloc _).alloc _).alloc _⟩

theorem room_un (h : Un w v) (n : Int) : Calls Tryz.prog 20 #[v, .int .i64 n] w fun e w' => e = .returned (.tuple #[.int .i64 0, .int .i64 1]) ∧ K w w' := by
  have hf := find_un h n
  go_enter Tryz.func20, Tryz.ntmps20
  go_wp2_with (go_at_call 51; refine hf.mono ?_; rintro e w1 ⟨rfl, k1⟩)
  go_ret2
  exact ⟨rfl, k1.alloc _⟩
theorem slide_un (h : Un w v) (n : Int) : Calls Tryz.prog 21 #[v, .int .i64 n] w fun e w' => e = .returned (.tuple #[.int .i64 0, .int .i64 1]) ∧ K w w' := by
  have hf := find_un h n
  go_enter Tryz.func21, Tryz.ntmps21
  go_wp2_with (go_at_call 51; refine hf.mono ?_; rintro e w1 ⟨rfl, k1⟩)
  go_ret2
  exact ⟨rfl, k1.alloc _⟩
theorem free_un (h : Un w v) (n : Int) : Calls Tryz.prog 22 #[v, .int .i64 n] w fun e w' => e = .returned (.int .i64 1) ∧ K w w' := by
  have hf := find_un h n
  go_enter Tryz.func22, Tryz.ntmps22
  go_wp2_with (go_at_call 51; refine hf.mono ?_; rintro e w1 ⟨rfl, k1⟩)
  go_ret
  exact ⟨rfl, k1.alloc _⟩
theorem audit_un (h : Un w v) : Calls Tryz.prog 16 #[v] w fun e w' => e = .returned (.int .i64 1) ∧ K w w' := by
  have hm := h _ ((K.refl w).alloc (.cells #[.int .i64 0] 39))
  go_enter Tryz.func16, Tryz.ntmps16
  go_wp2_with (go_at_call 36; refine hm.mono ?_; rintro e w' ⟨rfl, rfl⟩)
  exact bodyPost_ret (v := .int .i64 1) (by simp [results, Tryz.results16, go_sem]) rfl ⟨rfl, (K.refl w).alloc _⟩
theorem live_un (h : Un w v) : Calls Tryz.prog 12 #[v] w fun e w' => e = .returned (.slice none 0 0) ∧ K w w' := by
  have hm := h w (K.refl w)
  go_enter Tryz.func12, Tryz.ntmps12
  go_wp2_with (go_at_call 36; refine hm.mono ?_; rintro e w' ⟨rfl, rfl⟩)
  go_ret
  exact ⟨rfl, K.refl w⟩
theorem spare_un (h : Un w v) (c : Int) : Calls Tryz.prog 17 #[v, .int .i64 c] w fun e w' => e = .returned (.int .i64 0) ∧ K w w' := by
  have hm := h _ ((K.refl w).alloc (.cells #[.int .i64 c] 3))
  go_enter Tryz.func17, Tryz.ntmps17
  go_wp2_with (go_at_call 36; refine hm.mono ?_; rintro e w' ⟨rfl, rfl⟩)
  go_ret
  exact ⟨rfl, (K.refl w).alloc _⟩

theorem new_none (w : World) : Calls Tryz.prog 25 #[.pointer none] w fun e w' => e = .returned (.tuple #[.pointer none, .int .i64 1]) ∧ K w w' := by
  have rd := Sl.read_none (w := w) (v := .pointer none) (Sl.made_nil w) 0
  go_enter Tryz.func25, Tryz.ntmps25
  go_wp2_with (go_at_call 60; refine rd.mono ?_; rintro e w' ⟨rfl, rfl⟩)
  go_ret2
  exact ⟨rfl, K.refl w⟩

/-- One page, of zeros: no heap's. -/
theorem zero_page {r : Int} (h0 : 0 ≤ r) (hl : pg.length = 1) (hb : (Sl.blk pg r).isSome = true) : audI (heads pg (fun _ => 0)) = 8 := by
  obtain ⟨x, rfl⟩ := List.length_eq_one_iff.1 hl
  obtain ⟨b, hb⟩ := Option.isSome_iff_exists.1 hb
  have e : (r, b) = x := by simpa using Sl.blk_mem hb
  subst e
  unfold heads
  simp only [List.map_cons, List.map_nil]
  have hk : ∀ n, (look [(r, b)] (fun _ => 0) n).kind = 0 := fun n => by
    unfold look
    rw [if_neg (by simp [classOk]), if_neg (by simp [largeOk])]
  rw [scan_take _ _ _ _ (by omega)]
  simp [audI, hk, scan]

set_option maxRecDepth 100000 in
set_option maxHeartbeats 2000000 in
theorem none_walk (n : Int) (w : World) (hT : Bt.Tab w) : Calls Tryz.prog 4 #[.int .i64 n] w fun e w' => e = .returned (.bool true) ∧ K w w' := by
  obtain ⟨w1, hw1⟩ : ∃ w1, w1 = w.alloc (.cells #[.pointer none] 45) := ⟨_, rfl⟩
  have k1 : K w w1 := by rw [hw1]; exact (K.refl w).alloc _
  have hc1 : w1.cell? ⟨w.heap.size, 0, none⟩ = some (.pointer none) := by
    have : w1.heap[w.heap.size]? = some (.cells #[.pointer none] 45) := by rw [hw1]; exact World.alloc_heap_new _ _
    simp [World.cell?, this]
  go_enter Tryz.func4, Tryz.ntmps4
  go_wp2
  rw [← hw1]
  clear hw1
  go_loopw [3, 5, 6, 7, 8, 9, 10, 11] (fun h i _ _ _ _ _ _ wr => K w1 wr ∧ ((i = .int .i64 0 ∧ h = .pointer none) ∨ (i = .int .i64 1 ∧ h = .pointer none) ∨ i = .int .i64 2)) (fun _ i _ _ _ _ _ _ _ => 2 - (intOf i).toNat)
  case atStart => exact ⟨K.refl _, .inl ⟨rfl, rfl⟩⟩
  case round =>
    obtain ⟨kr, hc⟩ := hrel
    rcases hc with ⟨rfl, rfl⟩ | ⟨rfl, rfl⟩ | rfl
    · have un : Un wr (.pointer none) := un_nil wr
      have U : Aside _ := un
      clear un
      go_wp2_with fail
      refine (alloc_un U.out n).mono ?_
      rintro e a1 ⟨rfl, q1⟩
      go_wp2_with fail
      refine (room_un (Un.keep U.out q1) n).mono ?_
      rintro e a2 ⟨rfl, q2⟩
      have p2 := K.trans q1 q2
      go_wp2_with fail
      refine (slide_un (Un.keep U.out p2) n).mono ?_
      rintro e a3 ⟨rfl, q3⟩
      have p3 := K.trans p2 q3
      go_wp2_with fail
      refine (free_un (Un.keep U.out p3) n).mono ?_
      rintro e a4 ⟨rfl, q4⟩
      have p4 := K.trans p3 q4
      go_wp2_with fail
      refine (audit_un (Un.keep U.out p4)).mono ?_
      rintro e a5 ⟨rfl, q5⟩
      have p5 := K.trans p4 q5
      go_wp2_with fail
      refine (live_un (Un.keep U.out p5)).mono ?_
      rintro e a6 ⟨rfl, q6⟩
      have p6 := K.trans p5 q6
      go_wp2_with fail
      refine (spare_un (Un.keep U.out p6) 0).mono ?_
      rintro e a7 ⟨rfl, q7⟩
      have p7 := K.trans p6 q7
      go_wp2
      go_roundw
      case rel => exact ⟨kr.trans p7, .inr (.inl ⟨rfl, rfl⟩)⟩
      case measure => simp [intOf]
    · have un : Un wr (hp w.heap.size) := un_zero (kr.cell hc1)
      have U : Aside _ := un
      clear un
      go_wp2_with fail
      refine (alloc_un U.out n).mono ?_
      rintro e a1 ⟨rfl, q1⟩
      go_wp2_with fail
      refine (room_un (Un.keep U.out q1) n).mono ?_
      rintro e a2 ⟨rfl, q2⟩
      have p2 := K.trans q1 q2
      go_wp2_with fail
      refine (slide_un (Un.keep U.out p2) n).mono ?_
      rintro e a3 ⟨rfl, q3⟩
      have p3 := K.trans p2 q3
      go_wp2_with fail
      refine (free_un (Un.keep U.out p3) n).mono ?_
      rintro e a4 ⟨rfl, q4⟩
      have p4 := K.trans p3 q4
      go_wp2_with fail
      refine (audit_un (Un.keep U.out p4)).mono ?_
      rintro e a5 ⟨rfl, q5⟩
      have p5 := K.trans p4 q5
      go_wp2_with fail
      refine (live_un (Un.keep U.out p5)).mono ?_
      rintro e a6 ⟨rfl, q6⟩
      have p6 := K.trans p5 q6
      go_wp2_with fail
      refine (spare_un (Un.keep U.out p6) 0).mono ?_
      rintro e a7 ⟨rfl, q7⟩
      have p7 := K.trans p6 q7
      go_wp2
      go_roundw
      case rel => exact ⟨kr.trans p7, .inr (.inr rfl)⟩
      case measure => simp [intOf]
    · have k2 := k1.trans kr
      have sn := Sl.new_ok 64 wr (by omega) (by omega)
      go_wp2_with fail
      refine sn.mono ?_
      rintro e w2 ⟨rfl, a2, b2⟩
      have k3 := K.of_below b2
      have gr := Sl.grant_ok a2 1 (by decide)
      go_wp2_with fail
      refine gr.mono ?_
      rintro e w3 h3
      have hz : 0 < wr.heap.size := lt0 (hT.keep k2.toBt)
      have key : ∃ e0 : Value, e = .returned e0 ∧ ∃ pg3, audI (heads pg3 (fun _ => 0)) = 8 ∧ Sl.Arena w3 (wr.heap.size + 1) wr.heap.size 64 pg3 (fun _ => 0) ∧ K wr w3 ∧ ¬ Sl.foot (wr.heap.size + 1) wr.heap.size pg3 0 := by
        rcases h3 with ⟨r, rfl, hle, pg3, hadd, ha, hs⟩ | ⟨_, hno, _⟩
        · refine ⟨_, rfl, pg3, zero_page (r := r) hle.lo (by have := hadd.len; simp at this; omega) (hadd.new r (Int.le_refl _) (by omega)), ha, ?_, ?_⟩
          · refine ⟨hs.os.trans k3.os, hs.tape.trans k3.tape, hs.output.trans k3.output, Nat.le_trans k3.size hs.size, fun j hj hn => (hs.kept j (Nat.lt_of_lt_of_le hj k3.size) (fun hf => ?_)).trans (k3.same j hj hn)⟩
            rcases hf with h | h | ⟨p, hp, _⟩
            · omega
            · omega
            · cases hp
          · intro hf
            rcases hs.inn 0 hf with h | h
            · rcases h with h | h | ⟨p, hp, _⟩
              · omega
              · omega
              · cases hp
            · have := k3.size
              omega
        · exact absurd hno (Sl.not_nowhere (by omega) (by simp))
      obtain ⟨e0, rfl, pg3, hau, ha3, kk3, hf3⟩ := key
      have hT3 := (hT.keep k2.toBt).keep kk3.toBt
      clear h3 gr sn a2
      have nn := new_none w3
      go_wp2_with fail
      refine nn.mono ?_
      rintro e w4 ⟨rfl, k4⟩
      have ha4 : Sl.Arena w4 (wr.heap.size + 1) wr.heap.size 64 pg3 (fun _ => 0) := ha3.stays fun j hj => k4.same j (ha3.foot_lt hj) (fun x => x)
      have na := new_any ha4 (hT3.keep k4.toBt) hf3
      go_wp2_with fail
      refine na.mono ?_
      rintro e w5 ⟨_, he5, _, k5⟩
      have e5 := he5 (by rw [hau]; decide)
      subst e5
      have kf := ((k2.trans kk3).trans k4).trans k5
      have aw := awake_any w5 ((hT3.keep k4.toBt).keep k5.toBt)
      clear na nn he5 hau ha3 ha4
      go_wp2_with (go_at_call 8; refine aw.mono ?_; rintro e w6 ⟨rfl, k6⟩)
      go_ret
      exact ⟨rfl, kf.trans k6⟩

end Hp
end Go.Proofs.YtlpdgomoepinjaaGreatDoor
