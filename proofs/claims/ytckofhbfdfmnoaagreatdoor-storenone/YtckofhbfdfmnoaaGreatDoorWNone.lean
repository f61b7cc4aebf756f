/-
  A store that is not there, or that nobody made; and the walk of the statement on it.
-/
import Derived.Test.YtckofhbfdfmnoaaGreatDoorE4
namespace Go.Proofs.YtckofhbfdfmnoaaGreatDoor
open Go.RowKit Go.Maps
attribute [local go_sem ↓] Go.wp_at_zero Go.wp_at_succ
namespace So
open Hp (Kept K No)
variable {w w' : World} {v : Value}

/-- No store. -/
def Un (w : World) (v : Value) : Prop := ∀ w', K w w' → Calls Tryz.prog 43 #[v] w' fun e w'' => e = .returned (.bool false) ∧ w' = w''
theorem Un.keep (h : Un w v) (k : K w w') : Un w' v := fun w2 k2 => h w2 (k.trans k2)
theorem un_nil (w : World) : Un w (.pointer none) := fun w' _ => made_nil w'
theorem un_zero {b : Nat} (c : w.cell? ⟨b, 2, none⟩ = some (.pointer none)) : Un w (sp b) := fun w' k => made_zero b w' (k.cell c)

theorem make_un {p : Option Addr} (h : Un w (.pointer p)) (n : Int) : Calls Tryz.prog 16 #[.pointer p, .int .i64 n] w fun e w' => e = .returned (.tuple #[.int .u64 0, .int .i64 1]) ∧ K w w' := by
  have hmf : ∀ (fn : Fn) (first cap : Array Value) (w : World), (Instr.makeFunc fn first cap).run Tryz.prog w = .ok (.func fn first cap) w := fun _ _ _ _ => rfl
  obtain ⟨w1, hw1⟩ : ∃ w1, w1 = (w.alloc (.cells #[.pointer p] 25)).alloc (.cells #[.int .i64 0] 26) := ⟨_, rfl⟩
  have k1 : K w w1 := by rw [hw1]; exact ((K.refl w).alloc _).alloc _
  have hb : w1.heap[w.heap.size + 1]? = some (.cells #[.int .i64 0] 26) := by
    rw [hw1]
    have := World.alloc_heap_new (w.alloc (.cells #[.pointer p] 25)) (.cells #[.int .i64 0] 26)
    simpa using this
  have c1 : w1.cell? ⟨w.heap.size + 1, 0, none⟩ = some (.int .i64 0) := by simp [World.cell?, hb]
  have f1 : w1.frozen? ⟨w.heap.size + 1, 0, none⟩ = false := by simp [World.frozen?, hb]
  have g1 := Sl.heap_setCell_same (i := 0) hb (.int .i64 1)
  have ce : (w1.setCell ⟨w.heap.size + 1, 0, none⟩ (.int .i64 1)).cell? ⟨w.heap.size + 1, 0, none⟩ = some (.int .i64 1) := by simp [World.cell?, g1]
  have hm := h w1 k1
  clear hb g1
  go_enter_defers Tryz.func16, Tryz.ntmps16
  go_wp2_with fail
  rw [← hw1]
  clear hw1
  refine hm.mono ?_
  rintro e w2 ⟨rfl, rfl⟩
  go_wp2
  refine ⟨.tuple #[.int .u64 0, .int .i64 1], by simp [results, Tryz.results16, go_sem, ce], rfl, k1.setCell _ (by show w.heap.size ≤ w.heap.size + 1; omega)⟩

theorem find_un (h : Un w v) (x : Int) : Calls Tryz.prog 50 #[v, .int .u64 x] w fun e w' => e = .returned (.tuple #[recV 0 0, .int .i64 1]) ∧ K w w' := by
  have hm := h _ ((K.refl w).alloc (.cells #[.int .i64 0, .int .i64 0] 117))
  go_enter Tryz.func50, Tryz.ntmps50
  go_wp2_with (go_at_call 43; refine hm.mono ?_; rintro e w' ⟨rfl, rfl⟩)
  exact bodyPost_ret (v := .tuple #[recV 0 0, .int .i64 1]) (by simp [results, Tryz.results50, go_sem]) rfl ⟨rfl, (K.refl w).alloc _⟩

theorem wordAt_un (h : Un w v) (x k : Int) : Calls Tryz.prog 41 #[v, .int .u64 x, .int .i64 k] w fun e w' => e = .returned (.tuple #[.int .i64 0, .int .i64 1]) ∧ K w w' := by
  have hf := find_un h x
  go_enter Tryz.func41, Tryz.ntmps41
  go_wp2_with (go_at_call 50; refine hf.mono ?_; rintro e w1 ⟨rfl, k1⟩)
  go_ret2
  exact ⟨rfl, k1.alloc _⟩
theorem get_un (h : Un w v) (x k : Int) : Calls Tryz.prog 15 #[v, .int .u64 x, .int .i64 k] w fun e w' => e = .returned (.tuple #[.int .u64 0, .int .i64 1]) ∧ K w w' := by
  have hf := wordAt_un h x k
  go_enter Tryz.func15, Tryz.ntmps15
  go_wp2_with (go_at_call 41; refine hf.mono ?_; rintro e w1 ⟨rfl, k1⟩)
  go_ret2
  exact ⟨rfl, k1⟩
theorem put_un (h : Un w v) (x k y : Int) : Calls Tryz.prog 21 #[v, .int .u64 x, .int .i64 k, .int .u64 y] w fun e w' => e = .returned (.int .i64 1) ∧ K w w' := by
  have hf := wordAt_un h x k
  go_enter Tryz.func21, Tryz.ntmps21
  go_wp2_with (go_at_call 41; refine hf.mono ?_; rintro e w1 ⟨rfl, k1⟩)
  go_ret
  exact ⟨rfl, k1⟩
theorem len_un (h : Un w v) (x : Int) : Calls Tryz.prog 17 #[v, .int .u64 x] w fun e w' => e = .returned (.tuple #[.int .i64 0, .int .i64 1]) ∧ K w w' := by
  have hf := find_un h x
  go_enter Tryz.func17, Tryz.ntmps17
  go_wp2_with (go_at_call 50; refine hf.mono ?_; rintro e w1 ⟨rfl, k1⟩)
  go_ret2
  exact ⟨rfl, k1.alloc _⟩
theorem slide_un (h : Un w v) (x : Int) : Calls Tryz.prog 18 #[v, .int .u64 x] w fun e w' => e = .returned (.tuple #[.bool false, .int .i64 1]) ∧ K w w' := by
  have hf := find_un h x
  go_enter Tryz.func18, Tryz.ntmps18
  go_wp2_with (go_at_call 50; refine hf.mono ?_; rintro e w1 ⟨rfl, k1⟩)
  go_ret2
  exact ⟨rfl, k1.alloc _⟩
theorem drop_un (h : Un w v) (x : Int) : Calls Tryz.prog 20 #[v, .int .u64 x] w fun e w' => e = .returned (.int .i64 1) ∧ K w w' := by
  have hf := find_un h x
  go_enter Tryz.func20, Tryz.ntmps20
  go_wp2_with (go_at_call 50; refine hf.mono ?_; rintro e w1 ⟨rfl, k1⟩)
  go_ret
  exact ⟨rfl, k1.alloc _⟩
theorem audit_un (h : Un w v) : Calls Tryz.prog 22 #[v] w fun e w' => e = .returned (.int .i64 1) ∧ K w w' := by
  have hm := h w (K.refl w)
  go_enter Tryz.func22, Tryz.ntmps22
  go_wp2_with (go_at_call 43; refine hm.mono ?_; rintro e w' ⟨rfl, rfl⟩)
  go_ret
  exact ⟨rfl, K.refl w⟩
theorem all_un (h : Un w v) : Calls Tryz.prog 23 #[v] w fun e w' => e = .returned (.slice none 0 0) ∧ w' = w := by
  have hm := h w (K.refl w)
  go_enter Tryz.func23, Tryz.ntmps23
  go_wp2_with (go_at_call 43; refine hm.mono ?_; rintro e w' ⟨rfl, rfl⟩)
  go_ret
  exact ⟨rfl, rfl⟩
theorem words_un (h : Un w v) : Calls Tryz.prog 24 #[v] w fun e w' => e = .returned (.int .i64 0) ∧ w' = w := by
  have hm := h w (K.refl w)
  go_enter Tryz.func24, Tryz.ntmps24
  go_wp2_with (go_at_call 43; refine hm.mono ?_; rintro e w' ⟨rfl, rfl⟩)
  go_ret
  exact ⟨rfl, rfl⟩
theorem spare_un (h : Un w v) (c : Int) : Calls Tryz.prog 25 #[v, .int .i64 c] w fun e w' => e = .returned (.int .i64 0) ∧ w' = w := by
  have hm := h w (K.refl w)
  go_enter Tryz.func25, Tryz.ntmps25
  go_wp2_with (go_at_call 43; refine hm.mono ?_; rintro e w' ⟨rfl, rfl⟩)
  go_ret
  exact ⟨rfl, rfl⟩
abbrev rawZ : Array Value := #[.int .i64 0, .int .i64 0, .int .u32 0, .slice none 0 0, .slice none 0 0]
theorem raw_un (h : Un w v) : Calls Tryz.prog 19 #[v] w fun e w' => e = .returned (.agg rawZ) ∧ K w w' := by
  have hm := h _ ((K.refl w).alloc (.cells rawZ 70))
  go_enter Tryz.func19, Tryz.ntmps19
  go_wp2_with (go_at_call 43; refine hm.mono ?_; rintro e w' ⟨rfl, rfl⟩)
  exact bodyPost_ret (v := .agg rawZ) (by simp [results, Tryz.results19, go_sem]) rfl ⟨rfl, (K.refl w).alloc _⟩

set_option maxRecDepth 100000 in
set_option maxHeartbeats 2000000 in
theorem none_walk (x : Int) (_ : 0 ≤ x ∧ x ≤ 18446744073709551615) (k : Int) (_ : Hp.In64 k) (y : Int) (_ : 0 ≤ y ∧ y ≤ 18446744073709551615) (w : World) (hT : Bt.Tab w) : Calls Tryz.prog 4 #[.int .u64 x, .int .i64 k, .int .u64 y] w fun e w' => e = .returned (.bool true) ∧ K w w' := by
  have aw := fun w1 (k1 : K w w1) => awake_any w1 (hT.keep k1.toBt)
  obtain ⟨w1, hw1⟩ : ∃ w1, w1 = w.alloc (.cells #[.pointer none, .pointer none, .pointer none, .int .i64 0, .int .u32 0] 60) := ⟨_, rfl⟩
  have k1 : K w w1 := by rw [hw1]; exact (K.refl w).alloc _
  have hb : w1.heap[w.heap.size]? = some (.cells #[.pointer none, .pointer none, .pointer none, .int .i64 0, .int .u32 0] 60) := by rw [hw1]; exact World.alloc_heap_new _ _
  have c2 : w1.cell? ⟨w.heap.size, 2, none⟩ = some (.pointer none) := by simp [World.cell?, hb]
  have UZ : Aside (Un w1 (sp w.heap.size)) := un_zero c2
  clear hb c2
  go_enter Tryz.func4, Tryz.ntmps4
  go_wp2
  rw [← hw1]
  clear hw1
  go_loopw [7, 9, 10, 11, 12, 13, 14, 15, 16, 17, 18] (fun h i _ _ _ _ _ _ _ _ _ wr => K w1 wr ∧ ((i = .int .i64 0 ∧ h = .pointer none) ∨ (i = .int .i64 1 ∧ h = .pointer none) ∨ i = .int .i64 2)) (fun _ i _ _ _ _ _ _ _ _ _ _ => 2 - (intOf i).toNat)
  case atStart => exact ⟨K.refl _, .inl ⟨rfl, rfl⟩⟩
  case round =>
    obtain ⟨kr, hc⟩ := hrel
    rcases hc with ⟨rfl, rfl⟩ | ⟨rfl, rfl⟩ | rfl
    · have un : Un wr (.pointer none) := un_nil wr
      have U : Aside _ := un
      clear un aw
      go_wp2_with fail
      refine (make_un U.out k).mono ?_
      rintro e a1 ⟨rfl, q1⟩
      go_wp2_with fail
      refine (len_un (Un.keep U.out q1) x).mono ?_
      rintro e a2 ⟨rfl, q2⟩
      have p2 := K.trans q1 q2
      clear q1 q2
      go_wp2_with fail
      refine (get_un (Un.keep U.out p2) x k).mono ?_
      rintro e a3 ⟨rfl, q3⟩
      have p3 := K.trans p2 q3
      clear p2 q3
      go_wp2_with fail
      refine (slide_un (Un.keep U.out p3) x).mono ?_
      rintro e a4 ⟨rfl, q4⟩
      have p4 := K.trans p3 q4
      clear p3 q4
      go_wp2_with fail
      refine (raw_un (Un.keep U.out p4)).mono ?_
      rintro e a5 ⟨rfl, q5⟩
      have p5 := K.trans p4 q5
      clear p4 q5
      obtain ⟨a6, ha6⟩ : ∃ a6, a6 = a5.alloc (.cells rawZ 70) := ⟨_, rfl⟩
      have hb6 : a6.heap[a5.heap.size]? = some (.cells rawZ 70) := by rw [ha6]; exact World.alloc_heap_new _ _
      have p6 : K wr a6 := by rw [ha6]; exact p5.alloc _
      go_wp2_with fail
      rw [← ha6]
      clear ha6 p5
      refine (drop_un (Un.keep U.out p6) x).mono ?_
      rintro e a7 ⟨rfl, q7⟩
      have p7 := K.trans p6 q7
      have hb7 := q7.block hb6
      clear p6 q7 hb6
      go_wp2_with fail
      refine (put_un (Un.keep U.out p7) x k y).mono ?_
      rintro e a8 ⟨rfl, q8⟩
      have p8 := K.trans p7 q8
      have hb8 := q8.block hb7
      clear p7 q8 hb7
      go_wp2_with fail
      refine (audit_un (Un.keep U.out p8)).mono ?_
      rintro e a9 ⟨rfl, q9⟩
      have p9 := K.trans p8 q9
      have hb9 := q9.block hb8
      clear p8 q9 hb8
      generalize a5.heap.size = nb at *
      have d0 : a9.cell? ⟨nb, 0, none⟩ = some (.int .i64 0) := by simp [World.cell?, hb9]
      have d1 : a9.cell? ⟨nb, 1, none⟩ = some (.int .i64 0) := by simp [World.cell?, hb9]
      have d2 : a9.cell? ⟨nb, 2, none⟩ = some (.int .u32 0) := by simp [World.cell?, hb9]
      have d3 : a9.cell? ⟨nb, 3, none⟩ = some (.slice none 0 0) := by simp [World.cell?, hb9]
      have d4 : a9.cell? ⟨nb, 4, none⟩ = some (.slice none 0 0) := by simp [World.cell?, hb9]
      have all9 := fun n => all_un (Un.keep U.out (p9.drewN n))
      have wds9 := fun n => words_un (Un.keep U.out (p9.drewN n))
      have spa9 := fun n => spare_un (Un.keep U.out (p9.drewN n)) 0
      clear hb9
      go_wp2
      go_quiet (first
        | (go_at_call 23; refine Calls.quiet_of_same (all9 _))
        | (go_at_call 24; refine Calls.quiet_of_same (wds9 _))
        | (go_at_call 25; refine Calls.quiet_of_same (spa9 _)))
      go_wp2
      go_roundw
      case rel => exact ⟨kr.trans (p9.drewN _), .inr (.inl ⟨rfl, rfl⟩)⟩
      case measure => simp [intOf]
    · have un : Un wr (sp w.heap.size) := Un.keep UZ.out kr
      have U : Aside _ := un
      clear un aw
      go_wp2_with fail
      refine (make_un U.out k).mono ?_
      rintro e a1 ⟨rfl, q1⟩
      go_wp2_with fail
      refine (len_un (Un.keep U.out q1) x).mono ?_
      rintro e a2 ⟨rfl, q2⟩
      have p2 := K.trans q1 q2
      clear q1 q2
      go_wp2_with fail
      refine (get_un (Un.keep U.out p2) x k).mono ?_
      rintro e a3 ⟨rfl, q3⟩
      have p3 := K.trans p2 q3
      clear p2 q3
      go_wp2_with fail
      refine (slide_un (Un.keep U.out p3) x).mono ?_
      rintro e a4 ⟨rfl, q4⟩
      have p4 := K.trans p3 q4
      clear p3 q4
      go_wp2_with fail
      refine (raw_un (Un.keep U.out p4)).mono ?_
      rintro e a5 ⟨rfl, q5⟩
      have p5 := K.trans p4 q5
      clear p4 q5
      obtain ⟨a6, ha6⟩ : ∃ a6, a6 = a5.alloc (.cells rawZ 70) := ⟨_, rfl⟩
      have hb6 : a6.heap[a5.heap.size]? = some (.cells rawZ 70) := by rw [ha6]; exact World.alloc_heap_new _ _
      have p6 : K wr a6 := by rw [ha6]; exact p5.alloc _
      go_wp2_with fail
      rw [← ha6]
      clear ha6 p5
      refine (drop_un (Un.keep U.out p6) x).mono ?_
      rintro e a7 ⟨rfl, q7⟩
      have p7 := K.trans p6 q7
      have hb7 := q7.block hb6
      clear p6 q7 hb6
      go_wp2_with fail
      refine (put_un (Un.keep U.out p7) x k y).mono ?_
      rintro e a8 ⟨rfl, q8⟩
      have p8 := K.trans p7 q8
      have hb8 := q8.block hb7
      clear p7 q8 hb7
      go_wp2_with fail
      refine (audit_un (Un.keep U.out p8)).mono ?_
      rintro e a9 ⟨rfl, q9⟩
      have p9 := K.trans p8 q9
      have hb9 := q9.block hb8
      clear p8 q9 hb8
      generalize a5.heap.size = nb at *
      have d0 : a9.cell? ⟨nb, 0, none⟩ = some (.int .i64 0) := by simp [World.cell?, hb9]
      have d1 : a9.cell? ⟨nb, 1, none⟩ = some (.int .i64 0) := by simp [World.cell?, hb9]
      have d2 : a9.cell? ⟨nb, 2, none⟩ = some (.int .u32 0) := by simp [World.cell?, hb9]
      have d3 : a9.cell? ⟨nb, 3, none⟩ = some (.slice none 0 0) := by simp [World.cell?, hb9]
      have d4 : a9.cell? ⟨nb, 4, none⟩ = some (.slice none 0 0) := by simp [World.cell?, hb9]
      have all9 := fun n => all_un (Un.keep U.out (p9.drewN n))
      have wds9 := fun n => words_un (Un.keep U.out (p9.drewN n))
      have spa9 := fun n => spare_un (Un.keep U.out (p9.drewN n)) 0
      clear hb9
      go_wp2
      go_quiet (first
        | (go_at_call 23; refine Calls.quiet_of_same (all9 _))
        | (go_at_call 24; refine Calls.quiet_of_same (wds9 _))
        | (go_at_call 25; refine Calls.quiet_of_same (spa9 _)))
      go_wp2
      go_roundw
      case rel => exact ⟨kr.trans (p9.drewN _), .inr (.inr rfl)⟩
      case measure => simp [intOf]
    · have k2 := k1.trans kr
      go_wp2_with (go_at_call 9; refine (aw _ k2).mono ?_; rintro e w9 ⟨rfl, k9⟩)
      go_ret
      exact ⟨rfl, k2.trans k9⟩

end So
end Go.Proofs.YtckofhbfdfmnoaaGreatDoor
