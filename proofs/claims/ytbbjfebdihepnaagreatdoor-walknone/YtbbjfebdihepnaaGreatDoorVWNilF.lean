/-
  Trees without a store.
-/
import Derived.Test.YtbbjfebdihepnaaGreatDoorWL
import Derived.Test.YtbbjfebdihepnaaGreatDoorVNNone
namespace Go.Proofs.YtbbjfebdihepnaaGreatDoor
open Go.RowKit Go.Maps
attribute [local go_sem ↓] Go.wp_at_zero Go.wp_at_succ
attribute [local go_sem] Oper.semAt_some
namespace Wa
open Hp (Kept K No)
open Hd (U64)
open Nd (Nv nv0 encU Wrapd)
variable {w w' : World} {x : Int}

theorem nil_get (x : Int) (w : World) : Calls Tryz.prog 26 #[.pointer none, .int .u64 x] w fun e w' => e = .returned (.tuple #[nv0.v, .int .i64 1]) ∧ K w w' := Nd.get_un (So.un_nil w) x

theorem nil_made (w : World) : Calls Tryz.prog 29 #[.pointer none] w fun e w' => e = .returned (.bool false) ∧ K w w' := by
  have ln := Nd.len_un (So.un_nil w) 0
  go_enter Tryz.func29, Tryz.ntmps29
  go_wp2_with fail
  refine ln.mono ?_
  rintro e w1 ⟨rfl, k1⟩
  go_wp2_with fail
  go_ret
  exact ⟨rfl, k1⟩

set_option maxRecDepth 100000 in
set_option maxHeartbeats 400000 in
theorem nil_look (x : Int) (w : World) : Calls Tryz.prog 35 #[.pointer none, .int .u64 x] w fun e w' => e = .returned (.tuple #[pv 0 nv0, .bool false]) ∧ K w w' := by
  have BX : Aside (∀ V V', K (w.alloc (.cells zero7 71)) V → K V V' → K w V' ∧ V'.heap[w.heap.size]? = some (.cells zero7 71)) := fun V V' k k' => ⟨(((K.refl w).alloc _).trans k).trans k', (k.trans k').block (World.alloc_heap_new _ _)⟩
  have c0 := nil_get x (w.alloc (.cells zero7 71))
  go_enter Tryz.func35, Tryz.ntmps35
  go_wp2_with fail
  refine c0.mono ?_
  rintro e w1 ⟨rfl, k1⟩
  go_wp2_with (with_reducible refine wrapP ?_)
  unfold Wrapd
  obtain ⟨k2, b2⟩ := BX.out w1 _ k1 ((K.refl w1).alloc (.cells #[encU 0, encU 0, encU 0, encU 0, encU 0, encU 0] 54))
  refine wpList_store_seven (v0 := encU 0) (v1 := encU 0) (v2 := encU 0) (v3 := encU 0) (v4 := encU 0) (v5 := encU 0) (v6 := encU 0) rfl 71 (.tmp 4) (.tmp 21) rfl (by kernel_rfl) w.heap.size b2 rfl rfl (by simp [Value.oneCell']) ?_
  intro w5 b5 st5
  have KF : Aside (K w w5) := Hp.K.thenKept k2 st5 (Nat.le_refl _)
  obtain ⟨d0, d1, d2, d3, d4, d5, d6⟩ := seven b5
  clear b5 st5 k2 b2 BX k1
  go_wp2
  refine bodyPost_ret (v := .tuple #[pv 0 nv0, .bool false]) (by simp [results, Tryz.results35, go_sem, nv0, d0, d1, d2, d3, d4, d5, d6]; try rfl) rfl ?_
  exact ⟨rfl, KF.out⟩

set_option maxRecDepth 100000 in
theorem nil_size (x : Int) (w : World) : Calls Tryz.prog 13 #[.pointer none, .int .u64 x] w fun e w' => e = .returned (.int .i64 0) ∧ K w w' := by
  have cl := nil_look x w
  go_enter Tryz.func13, Tryz.ntmps13
  go_wp2_with fail
  refine cl.mono ?_
  rintro e w1 ⟨rfl, k1⟩
  have k2 := fun o => k1.alloc o
  clear cl
  go_wp2
  go_ret
  exact ⟨by simp [nv0, wrap64], k2 _⟩

set_option maxRecDepth 100000 in
set_option maxHeartbeats 400000 in
theorem nil_seek (x : Int) (key : ByteArray) (w : World) :
    Calls Tryz.prog 36 #[.pointer none, .int .u64 x, .string key] w fun e w' => e = .returned (.tuple #[.int .u64 0, .int .i64 0]) ∧ K w w' := by
  have c2 := nil_look x w
  go_enter Tryz.func36, Tryz.ntmps36
  go_wp2_with fail
  refine c2.mono ?_
  rintro e w3 ⟨rfl, q3⟩
  have K0 : Aside (K w (w3.alloc (pbx 0 nv0))) := q3.alloc _
  clear c2 q3
  go_wp2_with fail
  go_loopg [7, 8, 9] 0 (fun _ t7 t8 t9 wr => t7 = .int .i64 0 ∧ (∃ b : Nat, t8 = .pointer (some ⟨b, 0, none⟩)) ∧ t9 = .bool false ∧ Aside (K w wr))
  case atStart => exact ⟨rfl, ⟨_, rfl⟩, rfl, K0⟩
  case round =>
    obtain ⟨rfl, ⟨b, rfl⟩, rfl, KR⟩ := hrel
    clear K0
    go_wp2_with fail
    go_ret2
    exact ⟨rfl, KR.out⟩

theorem nil_find (x : Int) (key : ByteArray) (w : World) : Calls Tryz.prog 14 #[.pointer none, .int .u64 x, .string key] w fun e w' => e = .returned (.tuple #[.int .u64 0, .bool false]) ∧ K w w' := by
  have cs := nil_seek x key w
  go_enter Tryz.func14, Tryz.ntmps14
  go_wp2_with fail
  refine cs.mono ?_
  rintro e w1 ⟨rfl, k⟩
  clear cs
  go_wp2_with fail
  go_ret2
  exact ⟨rfl, k⟩

theorem nil_rank (x : Int) (key : ByteArray) (w : World) : Calls Tryz.prog 16 #[.pointer none, .int .u64 x, .string key] w fun e w' => e = .returned (.int .i64 0) ∧ K w w' := by
  have cs := nil_seek x key w
  go_enter Tryz.func16, Tryz.ntmps16
  go_wp2_with fail
  refine cs.mono ?_
  rintro e w1 ⟨rfl, k⟩
  clear cs
  go_wp2_with fail
  go_ret
  exact ⟨rfl, k⟩

theorem nil_at (x k : Int) (w : World) : Calls Tryz.prog 19 #[.pointer none, .int .u64 x, .int .i64 k] w fun e w' => e = .returned (.tuple #[.int .u64 0, .int .i64 1]) ∧ K w w' := by
  have cm := nil_made w
  go_enter Tryz.func19, Tryz.ntmps19
  go_wp2_with fail
  refine cm.mono ?_
  rintro e w1 ⟨rfl, q1⟩
  clear cm
  go_wp2_with fail
  go_ret2
  exact ⟨rfl, q1⟩

set_option maxRecDepth 100000 in
set_option maxHeartbeats 400000 in
theorem nil_pair (x : Int) (w : World) : Calls Tryz.prog 18 #[.pointer none, .int .u64 x] w fun e w' => e = .returned (.tuple #[prV ⟨#[]⟩ ⟨#[]⟩, .int .i64 1]) ∧ K w w' := by
  have BX : Aside (∀ V, K (w.alloc (.cells zero2 39)) V → K w V ∧ V.heap[w.heap.size]? = some (.cells zero2 39)) := fun V k => ⟨((K.refl w).alloc _).trans k, k.block (World.alloc_heap_new _ _)⟩
  have c0 := nil_get x (w.alloc (.cells zero2 39))
  go_enter Tryz.func18, Tryz.ntmps18
  go_wp2_with fail
  refine c0.mono ?_
  rintro e1 w1 ⟨rfl, k1⟩
  obtain ⟨k2, b2⟩ := BX.out _ (k1.alloc (.cells nv0.cs 54))
  have K2A : Aside _ := k2
  have B2 : Aside _ := b2
  clear c0 k1 k2 b2 BX
  go_wp2_with (with_reducible refine wrap2 ?_)
  unfold Wrapd
  refine wpList_store_two (v0 := .string ⟨#[]⟩) (v1 := .string ⟨#[]⟩) rfl 39 _ _ rfl (by kernel_rfl) w.heap.size B2.out rfl rfl (by simp [Value.oneCell']) ?_
  intro w5 b5 st5
  have KF : Aside (K w w5) := Hp.K.thenKept K2A.out st5 (Nat.le_refl _)
  obtain ⟨d0, d1⟩ := two b5
  clear b5 st5
  go_wp2
  refine bodyPost_ret (v := .tuple #[prV ⟨#[]⟩ ⟨#[]⟩, .int .i64 1]) (by simp [results, Tryz.results18, go_sem, d0, d1]; try rfl) rfl ?_
  exact ⟨rfl, KF.out⟩

set_option maxRecDepth 100000 in
set_option maxHeartbeats 400000 in
theorem nil_checkI (x : Int) (w : World) : CallsIn Fence.wide 0 Tryz.prog 12 #[.pointer none, .int .u64 x] w fun e w' => e = .returned (.int .i64 1) ∧ K w w' := by
  refine callsIn_of_wp_marks Tryz.func12 rfl trivial ?_ rfl
  simp only [Tryz.ntmps12, List.size_toArray, List.length_cons, List.length_nil, Nat.reduceAdd, Nat.reduceSub, Array.replicate_succ, Array.replicate_zero, List.push_toArray, List.append_toArray, List.nil_append, List.cons_append]
  gi_wp2
  refine ⟨trivial, rfl, (callsIn_wide.2 (nil_made _)).mono ?_⟩
  rintro e w1 ⟨rfl, k1⟩
  have b1 : Boxed w1 (w.heap.size + 1) 31 (.int .i64 0) := k1.boxed (by have := Boxed.new (w.alloc (.cells #[.pointer none] 26)) 31 (.int .i64 0); rwa [World.size_alloc] at this)
  have K1 : Aside (K w w1) := (((K.refl w).alloc _).alloc _).trans k1
  have B1 : Aside (Boxed w1 (w.heap.size + 1) 31 (.int .i64 0)) := b1
  have hfz := b1.frozen
  have hcl := b1.cell
  clear k1 b1
  gi_wp2
  have hset := (Boxed.set (.int .i64 1) B1.out).cell
  refine ⟨.int .i64 1, ?_, rfl, Hp.K.setCell K1.out _ (Nat.le_succ _)⟩
  simp [results, Tryz.f12, go_sem, hset]
theorem nil_check (x : Int) (w : World) : Calls Tryz.prog 12 #[.pointer none, .int .u64 x] w fun e w' => e = .returned (.int .i64 1) ∧ K w w' := callsIn_wide.1 (nil_checkI x w)
theorem nil_free (x : Int) (w : World) : Calls Tryz.prog 23 #[.pointer none, .int .u64 x] w fun e w' => e = .returned (.int .i64 1) ∧ K w w' := free_err rfl (fun V _ => nil_check x V)

/-- A store that tells nothing. -/
def nilG : Vw := ⟨fun _ => none, fun _ => none⟩
theorem nilG_fit : nilG.Fit := ⟨rfl, fun l _ h => by
  cases l with
  | nil => simp
  | cons x l => exact absurd rfl (h x (by simp)), fun _ _ h => by cases h⟩
theorem nil_lst {k : Nat} {x : Int} {l : List Int} (h : Lst nilG k x [] [] (some l)) : l = [] := by
  cases h with
  | done => rfl
  | push _ hn => cases hn
theorem nil_list (hx : U64 x) (w : World) : Calls Tryz.prog 20 #[.pointer none, .int .u64 x] w fun e w' => (∃ a c, e = .returned (.slice a 0 c)) ∧ K w w' := by
  refine (callsIn_wide.1 (list_in (hs0 := []) (fun V _ y _ => ⟨fun n h => (by cases h), fun _ => ⟨1, rfl, nil_get y V⟩⟩) nilG_fit (fun y n h => by cases h) (by simp) hx)).mono ?_
  rintro e w1 ⟨rr, k, hl, hk, hc⟩
  rcases hc with ⟨_, rfl⟩ | ⟨l, v, rfl, rfl, hrow⟩
  · exact ⟨⟨_, _, rfl⟩, hk⟩
  · obtain rfl := nil_lst hl
    obtain ⟨g, a, c, rfl, _⟩ := So.row1 hrow
    exact ⟨⟨_, _, rfl⟩, hk⟩

end Wa
end Go.Proofs.YtbbjfebdihepnaaGreatDoor
