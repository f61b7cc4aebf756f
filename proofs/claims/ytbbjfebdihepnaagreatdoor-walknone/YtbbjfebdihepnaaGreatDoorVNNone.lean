/-
  Nodes without a store; the statement on what is none.
-/
import Derived.Test.YtbbjfebdihepnaaGreatDoorN3
import Derived.Test.YtbbjfebdihepnaaGreatDoorE7
namespace Go.Proofs.YtbbjfebdihepnaaGreatDoor
open Go.RowKit Go.Maps
attribute [local go_sem ↓] Go.wp_at_zero Go.wp_at_succ
namespace Nd
open Hp (Kept K No)
open Hd (U64 findL)
open Go.Proofs.YtbbjfebdihepnaaGreatDoor.So (Ad Sw Rn sp Un)
variable {w w' : World}

theorem len_un {v : Value} (h : Un w v) (x : Int) : Calls Tryz.prog 52 #[v, .int .u64 x] w fun e w' => e = .returned (.tuple #[.int .i64 0, .int .i64 1]) ∧ K w w' := by
  have hf := So.find_un h x
  go_enter Tryz.func52, Tryz.ntmps52
  go_wp2_with (go_at_call 60; refine hf.mono ?_; rintro e w1 ⟨rfl, k1⟩)
  go_ret2
  exact ⟨rfl, k1.alloc _⟩

theorem check_un {v : Value} (h : Un w v) (x : Int) : Calls Tryz.prog 47 #[v, .int .u64 x] w fun e w' => e = .returned (.int .i64 1) ∧ K w w' := by
  have ln := len_un h x
  go_enter Tryz.func47, Tryz.ntmps47
  go_wp2_with (go_at_call 52; refine ln.mono ?_; rintro e w1 ⟨rfl, k1⟩)
  go_ret
  exact ⟨rfl, k1⟩

set_option maxRecDepth 100000 in
theorem get_un {p : Option Addr} (h : Un w (.pointer p)) (x : Int) : Calls Tryz.prog 26 #[.pointer p, .int .u64 x] w fun e w' => e = .returned (.tuple #[nv0.v, .int .i64 1]) ∧ K w w' := by
  have ck : Aside (∀ V, K w V → Calls Tryz.prog 47 #[.pointer p, .int .u64 x] V fun e w' => e = .returned (.int .i64 1) ∧ K V w') := fun V k => check_un (h.keep k) x
  have BX : Aside (∀ V, K (w.alloc (.cells zero6 54)) V → K w V ∧ V.heap[w.heap.size]? = some (.cells zero6 54)) := fun V k => ⟨((K.refl w).alloc _).trans k, k.block (World.alloc_heap_new _ _)⟩
  clear h
  go_enter Tryz.func26, Tryz.ntmps26
  go_wp2_with fail
  refine (ck.out _ ((K.refl w).alloc _)).mono ?_
  rintro e w1 ⟨rfl, k1⟩
  obtain ⟨q6, b6⟩ := BX.out w1 k1
  have Q6 : Aside _ := q6
  have B6 : Aside _ := b6
  clear ck BX k1 q6 b6
  go_wp2_with (with_reducible refine wrapN ?_)
  unfold Wrapd
  refine wpList_store_six (v0 := encU 0) (v1 := encU 0) (v2 := encU 0) (v3 := encU 0) (v4 := encU 0) (v5 := encU 0) rfl 54 (.tmp 4) (.tmp 14) rfl (by kernel_rfl) w.heap.size B6.out rfl rfl (by simp [Value.oneCell']) ?_
  intro w7 b7 st7
  obtain ⟨d0, d1, d2, d3, d4, d5⟩ := six b7
  have KF : Aside (K w w7) := Hp.K.thenKept Q6.out st7 (Nat.le_refl _)
  clear b7 st7 Q6 B6
  go_wp2
  refine bodyPost_ret (v := .tuple #[nv0.v, .int .i64 1]) (by simp [results, Tryz.results26, go_sem, nv0, d0, d1, d2, d3, d4, d5]; try rfl) rfl ?_
  exact ⟨rfl, KF.out⟩

end Nd
end Go.Proofs.YtbbjfebdihepnaaGreatDoor
