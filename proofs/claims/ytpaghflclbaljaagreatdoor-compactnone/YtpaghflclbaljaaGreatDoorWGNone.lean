/-
  The walk of CompactNone.
-/
import Derived.Test.YtpaghflclbaljaaGreatDoorG7
namespace Go.Proofs.YtpaghflclbaljaaGreatDoor
open Go.RowKit Go.Maps
attribute [local go_sem ↓] Go.wp_at_zero Go.wp_at_succ
namespace Co
open Hp (Kept K No)
variable {w w' : World} {v : Value}

theorem Un.keep (h : Un w v) (k : K w w') : Un w' v := fun w2 k2 => h w2 (k.trans k2)
theorem un_nil (w : World) : Un w (.pointer none) := fun w' _ => made_nil w'
theorem un_zero {b : Nat} (c : w.cell? ⟨b, 0, none⟩ = some (.pointer none)) : Un w (cp b) := fun _ k => made_zero (k.cell c)

set_option maxRecDepth 100000 in
set_option maxHeartbeats 2000000 in
theorem none_walk (x : Int) (_ : Hp.In64 x) (w : World) (hT : Bt.Tab w) : Calls Tryz.prog 4 #[.int .i64 x] w fun e w' => e = .returned (.bool true) ∧ K w w' := by
  have aw := fun w1 (k1 : K w w1) => awake_any w1 (hT.keep k1.toBt)
  obtain ⟨w1, hw1⟩ : ∃ w1, w1 = w.alloc (.cells #[.pointer none] 60) := ⟨_, rfl⟩
  have k1 : K w w1 := by rw [hw1]; exact (K.refl w).alloc _
  have hb : w1.heap[w.heap.size]? = some (.cells #[.pointer none] 60) := by rw [hw1]; exact World.alloc_heap_new _ _
  have c2 : w1.cell? ⟨w.heap.size, 0, none⟩ = some (.pointer none) := by simp [World.cell?, hb]
  have UZ : Aside (Un w1 (cp w.heap.size)) := un_zero c2
  clear hb c2
  go_enter Tryz.func4, Tryz.ntmps4
  go_wp2
  rw [← hw1]
  clear hw1
  go_loopw [3, 5, 6, 7, 8, 9, 10] (fun h i _ _ _ _ _ wr => K w1 wr ∧ ((i = .int .i64 0 ∧ h = .pointer none) ∨ (i = .int .i64 1 ∧ h = .pointer none) ∨ i = .int .i64 2)) (fun _ i _ _ _ _ _ _ => 2 - (intOf i).toNat)
  case atStart => exact ⟨K.refl _, .inl ⟨rfl, rfl⟩⟩
  case round =>
    obtain ⟨kr, hc⟩ := hrel
    rcases hc with ⟨rfl, rfl⟩ | ⟨rfl, rfl⟩ | rfl
    · have un : Un wr (.pointer none) := un_nil wr
      have U : Aside _ := un
      clear un aw
      go_wp2_with fail
      refine (step_un U.out).mono ?_
      rintro e a1 ⟨rfl, q1⟩
      go_wp2_with fail
      refine (run_un (Un.keep U.out q1) x).mono ?_
      rintro e a2 ⟨rfl, q2⟩
      have p2 := K.trans q1 q2
      clear q1 q2
      go_wp2
      go_roundw
      case rel => exact ⟨kr.trans p2, .inr (.inl ⟨rfl, rfl⟩)⟩
      case measure => simp [intOf]
    · have un : Un wr (cp w.heap.size) := Un.keep UZ.out kr
      have U : Aside _ := un
      clear un aw
      go_wp2_with fail
      refine (step_un U.out).mono ?_
      rintro e a1 ⟨rfl, q1⟩
      go_wp2_with fail
      refine (run_un (Un.keep U.out q1) x).mono ?_
      rintro e a2 ⟨rfl, q2⟩
      have p2 := K.trans q1 q2
      clear q1 q2
      go_wp2
      go_roundw
      case rel => exact ⟨kr.trans p2, .inr (.inr rfl)⟩
      case measure => simp [intOf]
    · have k2 := k1.trans kr
      have nn := new_nil wr
      go_wp2_with fail
      refine nn.mono ?_
      rintro e w8 ⟨rfl, k8⟩
      have k3 := k2.trans k8
      go_wp2_with (go_at_call 9; refine (aw _ k3).mono ?_; rintro e w9 ⟨rfl, k9⟩)
      go_ret
      exact ⟨rfl, k3.trans k9⟩

end Co
end Go.Proofs.YtpaghflclbaljaaGreatDoor
