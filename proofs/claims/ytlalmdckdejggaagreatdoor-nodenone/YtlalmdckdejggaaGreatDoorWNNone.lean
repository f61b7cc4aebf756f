/-
  Nodes without a store; the statement on what is none.
-/
import Derived.Test.YtlalmdckdejggaaGreatDoorN3
import Derived.Test.YtlalmdckdejggaaGreatDoorE7
namespace Go.Proofs.YtlalmdckdejggaaGreatDoor
open Go.RowKit Go.Maps
attribute [local go_sem ↓] Go.wp_at_zero Go.wp_at_succ
namespace Nd
open Hp (Kept K No)
open Hd (U64 findL)
open Go.Proofs.YtlalmdckdejggaaGreatDoor.So (Ad Sw Rn sp Un)
variable {w w' : World}

theorem len_un {v : Value} (h : Un w v) (x : Int) : Calls Tryz.prog 23 #[v, .int .u64 x] w fun e w' => e = .returned (.tuple #[.int .i64 0, .int .i64 1]) ∧ K w w' := by
  have hf := So.find_un h x
  go_enter Tryz.func23, Tryz.ntmps23
  go_wp2_with (go_at_call 53; refine hf.mono ?_; rintro e w1 ⟨rfl, k1⟩)
  go_ret2
  exact ⟨rfl, k1.alloc _⟩
theorem check_un {v : Value} (h : Un w v) (x : Int) : Calls Tryz.prog 42 #[v, .int .u64 x] w fun e w' => e = .returned (.int .i64 1) ∧ K w w' := by
  have ln := len_un h x
  go_enter Tryz.func42, Tryz.ntmps42
  go_wp2_with (go_at_call 23; refine ln.mono ?_; rintro e w1 ⟨rfl, k1⟩)
  go_ret
  exact ⟨rfl, k1⟩
theorem make_un {p : Option Addr} (h : Un w (.pointer p)) (n : Nv) : Calls Tryz.prog 13 #[.pointer p, n.v] w fun e w' => e = .returned (.tuple #[.int .u64 0, .int .i64 1]) ∧ K w w' := by
  have k01 : K w (w.alloc (.cells n.cs 47)) := (K.refl w).alloc _
  have mk := So.make_un (h.keep k01) 6
  go_enter Tryz.func13, Tryz.ntmps13
  go_wp2_with (go_at_call 31; refine mk.mono ?_; rintro e w1 ⟨rfl, k1⟩)
  go_ret2
  exact ⟨rfl, k01.trans k1⟩
theorem put_un {p : Option Addr} (h : Un w (.pointer p)) (x : Int) (n : Nv) : Calls Tryz.prog 15 #[.pointer p, .int .u64 x, n.v] w fun e w' => e = .returned (.int .i64 1) ∧ K w w' := by
  have k01 : K w (w.alloc (.cells n.cs 47)) := (K.refl w).alloc _
  have ck := check_un (h.keep k01) x
  go_enter Tryz.func15, Tryz.ntmps15
  go_wp2_with (go_at_call 42; refine ck.mono ?_; rintro e w1 ⟨rfl, k1⟩)
  go_ret
  exact ⟨rfl, k01.trans k1⟩
theorem drop_un {p : Option Addr} (h : Un w (.pointer p)) (x : Int) : Calls Tryz.prog 16 #[.pointer p, .int .u64 x] w fun e w' => e = .returned (.int .i64 1) ∧ K w w' := by
  have ck := check_un h x
  go_enter Tryz.func16, Tryz.ntmps16
  go_wp2_with (go_at_call 42; refine ck.mono ?_; rintro e w1 ⟨rfl, k1⟩)
  go_ret
  exact ⟨rfl, k1⟩
set_option maxRecDepth 100000 in
theorem get_un {p : Option Addr} (h : Un w (.pointer p)) (x : Int) : Calls Tryz.prog 14 #[.pointer p, .int .u64 x] w fun e w' => e = .returned (.tuple #[nv0.v, .int .i64 1]) ∧ K w w' := by
  have ck : Aside (∀ V, K w V → Calls Tryz.prog 42 #[.pointer p, .int .u64 x] V fun e w' => e = .returned (.int .i64 1) ∧ K V w') := fun V k => check_un (h.keep k) x
  have BX : Aside (∀ V, K (w.alloc (.cells zero6 47)) V → K w V ∧ V.heap[w.heap.size]? = some (.cells zero6 47)) := fun V k => ⟨((K.refl w).alloc _).trans k, k.block (World.alloc_heap_new _ _)⟩
  clear h
  go_enter Tryz.func14, Tryz.ntmps14
  go_wp2_with fail
  refine (ck.out _ ((K.refl w).alloc _)).mono ?_
  rintro e w1 ⟨rfl, k1⟩
  obtain ⟨q6, b6⟩ := BX.out w1 k1
  have Q6 : Aside _ := q6
  have B6 : Aside _ := b6
  clear ck BX k1 q6 b6
  go_wp2_with (with_reducible refine wrapN ?_)
  unfold Wrapd
  refine wpList_store_six (v0 := encU 0) (v1 := encU 0) (v2 := encU 0) (v3 := encU 0) (v4 := encU 0) (v5 := encU 0) rfl 47 (.tmp 4) (.tmp 14) rfl (by kernel_rfl) w.heap.size B6.out rfl rfl (by simp [Value.oneCell']) ?_
  intro w7 b7 st7
  obtain ⟨d0, d1, d2, d3, d4, d5⟩ := six b7
  have KF : Aside (K w w7) := Hp.K.thenKept Q6.out st7 (Nat.le_refl _)
  clear b7 st7 Q6 B6
  go_wp2
  refine bodyPost_ret (v := .tuple #[nv0.v, .int .i64 1]) (by simp [results, Tryz.results14, go_sem, nv0, d0, d1, d2, d3, d4, d5]; try rfl) rfl ?_
  exact ⟨rfl, KF.out⟩

set_option maxRecDepth 100000 in
set_option maxHeartbeats 2000000 in
theorem none_walk (x : Int) (hx : 0 ≤ x ∧ x ≤ 18446744073709551615) (n : Nv) (_ : n.Ok) (w : World) (hT : Bt.Tab w) : Calls Tryz.prog 4 #[.int .u64 x, n.v] w fun e w' => e = .returned (.bool true) ∧ K w w' := by
  have ca : Aside (∀ w1, K w w1 → Calls Tryz.prog 8 #[] w1 fun e w' => e = .returned (.bool true) ∧ K w w') := fun w1 k => (awake_any w1 (hT.keep ⟨k.below⟩)).mono fun e w2 h => ⟨h.1, k.trans h.2⟩
  have k01 : K w (w.alloc (.cells n.cs 47)) := (K.refl w).alloc _
  have cn := Rn.new 640 9 9 _ (hT.keep ⟨k01.below⟩) (by decide) (by decide) (by decide) (by decide) (by decide) (by decide)
  have MU : Aside (∀ V, Calls Tryz.prog 13 #[.pointer none, n.v] V fun e w' => e = .returned (.tuple #[.int .u64 0, .int .i64 1]) ∧ K V w') := fun V => make_un (So.un_nil V) n
  have GU : Aside (∀ V, Calls Tryz.prog 14 #[.pointer none, .int .u64 x] V fun e w' => e = .returned (.tuple #[nv0.v, .int .i64 1]) ∧ K V w') := fun V => get_un (So.un_nil V) x
  have PU : Aside (∀ V, Calls Tryz.prog 15 #[.pointer none, .int .u64 x, n.v] V fun e w' => e = .returned (.int .i64 1) ∧ K V w') := fun V => put_un (So.un_nil V) x n
  have DU : Aside (∀ V, Calls Tryz.prog 16 #[.pointer none, .int .u64 x] V fun e w' => e = .returned (.int .i64 1) ∧ K V w') := fun V => drop_un (So.un_nil V) x
  have K01 : Aside _ := k01
  have HB : Aside ((w.alloc (.cells n.cs 47)).heap[w.heap.size]? = some (.cells n.cs 47)) := World.alloc_heap_new _ _
  have hx2 : U64 x := hx
  have ht : findL [] x = none := by unfold findL; split <;> rfl
  clear k01 hx
  go_enter Tryz.func4, Tryz.ntmps4
  go_wp2_with fail
  refine cn.mono ?_
  rintro e w1 ⟨A, v, rfl, HA, k1⟩
  have GS : Aside (∀ V, K w1 V → Calls Tryz.prog 14 #[sp A.st, .int .u64 x] V fun e w' => e = .returned (.tuple #[nv0.v, .int .i64 7]) ∧ K V w') := fun V k => by
    have he : ckE [] (fun _ => 0) x = 7 := by simp [ckE, ht]
    have := get_err (HA.out.1.keep k).s hx2 (by rw [he]; rfl)
    rw [he] at this
    exact this
  have PS : Aside (∀ V, K w1 V → Calls Tryz.prog 15 #[sp A.st, .int .u64 x, n.v] V fun e w' => e = .returned (.int .i64 7) ∧ K V w') := fun V k => by
    have he : ckE [] (fun _ => 0) x = 7 := by simp [ckE, ht]
    have := put_no (HA.out.1.keep k).s hx2 (by rw [he]; rfl) n
    rw [he] at this
    exact this
  have DS : Aside (∀ V, K w1 V → Calls Tryz.prog 16 #[sp A.st, .int .u64 x] V fun e w' => e = .returned (.int .i64 7) ∧ K V w') := fun V k => by
    have he : ckE [] (fun _ => 0) x = 7 := by simp [ckE, ht]
    have := drop_no (HA.out.1.keep k).s hx2 (by rw [he]; rfl)
    rw [he] at this
    exact this
  have KA : Aside (K w w1) := K01.out.trans k1
  have hb1 := k1.block HB.out
  obtain ⟨d0, d1, d2, d3, d4, d5⟩ := six hb1
  have hlt : w.heap.size < w1.heap.size := (Array.getElem?_eq_some_iff.1 hb1).1
  clear HA cn ht K01 HB hb1 k1
  go_wp2_with fail
  refine (MU.out _).mono ?_
  rintro e w2 ⟨rfl, k2⟩
  have hlt2 : w.heap.size < w2.heap.size := Nat.lt_of_lt_of_le hlt k2.size
  have B2 : Aside (∀ V, K w2 V → (V.cell? ⟨w.heap.size, 0, none⟩ = some (encU n.a) ∧ V.cell? ⟨w.heap.size, 1, none⟩ = some (encU n.b) ∧ V.cell? ⟨w.heap.size, 2, none⟩ = some (encU n.c) ∧ V.cell? ⟨w.heap.size, 3, none⟩ = some (encU n.d) ∧ V.cell? ⟨w.heap.size, 4, none⟩ = some (encU n.e) ∧ V.cell? ⟨w.heap.size, 5, none⟩ = some (encU n.f)) ∧ w.heap.size < V.heap.size ∧ K w1 V) := fun V q => ⟨⟨q.cell (k2.cell d0), q.cell (k2.cell d1), q.cell (k2.cell d2), q.cell (k2.cell d3), q.cell (k2.cell d4), q.cell (k2.cell d5)⟩, Nat.lt_of_lt_of_le hlt2 q.size, k2.trans q⟩
  clear k2 MU d0 d1 d2 d3 d4 d5 hlt hlt2
  go_wp2_with fail
  refine (GU.out _).mono ?_
  rintro e w3 ⟨rfl, k3⟩
  have K3 : Aside (K w2 w3) := k3
  obtain ⟨w4, hw4⟩ : ∃ w4, w4 = w3.alloc (.cells nv0.cs 47) := ⟨_, rfl⟩
  have K4 : Aside (K w2 w4) := by have := K3.out.trans ((K.refl w3).alloc (.cells nv0.cs 47)); rw [← hw4] at this; exact this
  have HB4 : Aside (w4.heap[w3.heap.size]? = some (.cells nv0.cs 47)) := by show w4.heap[w3.heap.size]? = _; rw [hw4]; exact World.alloc_heap_new _ _
  have HW4 : Aside (w3.alloc (.cells #[.int .u64 nv0.a, .int .u64 nv0.b, .int .u64 nv0.c, .int .u64 nv0.d, .int .u64 nv0.e, .int .u64 nv0.f] 47) = w4) := hw4.symm
  clear k3 hw4 GU K3
  go_wp2_with fail
  rw [HW4.out]
  have gs := GS.out w4 (B2.out w4 K4.out).2.2
  clear HW4 GS
  refine gs.mono ?_
  rintro e w5 ⟨rfl, k5⟩
  have K5 : Aside (K w2 w5) := K4.out.trans k5
  have HB5 : Aside (w5.heap[w3.heap.size]? = some (.cells nv0.cs 47)) := k5.block HB4.out
  obtain ⟨⟨d0, d1, d2, d3, d4, d5⟩, hlt, KW⟩ := B2.out w5 K5.out
  obtain ⟨e0, e1, e2, e3, e4, e5⟩ := six (w := w5) (show w5.heap[w3.heap.size]? = some (.cells #[encU 0, encU 0, encU 0, encU 0, encU 0, encU 0] 47) from HB5.out)
  have hlt3 : w3.heap.size < w5.heap.size := (Array.getElem?_eq_some_iff.1 HB5.out).1
  have KWA : Aside (K w1 w5) := KW
  obtain ⟨w6, hw6⟩ : ∃ w6, w6 = w5.alloc (.cells nv0.cs 47) := ⟨_, rfl⟩
  have k56 : K w5 w6 := by rw [hw6]; exact (K.refl w5).alloc _
  have hb6 : w6.heap[w5.heap.size]? = some (.cells #[encU 0, encU 0, encU 0, encU 0, encU 0, encU 0] 47) := by rw [hw6]; exact World.alloc_heap_new _ _
  have B6 : Aside (∀ V, K w6 V → ((V.cell? ⟨w.heap.size, 0, none⟩ = some (encU n.a) ∧ V.cell? ⟨w.heap.size, 1, none⟩ = some (encU n.b) ∧ V.cell? ⟨w.heap.size, 2, none⟩ = some (encU n.c) ∧ V.cell? ⟨w.heap.size, 3, none⟩ = some (encU n.d) ∧ V.cell? ⟨w.heap.size, 4, none⟩ = some (encU n.e) ∧ V.cell? ⟨w.heap.size, 5, none⟩ = some (encU n.f)) ∧ w.heap.size < V.heap.size) ∧ ((V.cell? ⟨w3.heap.size, 0, none⟩ = some (encU 0) ∧ V.cell? ⟨w3.heap.size, 1, none⟩ = some (encU 0) ∧ V.cell? ⟨w3.heap.size, 2, none⟩ = some (encU 0) ∧ V.cell? ⟨w3.heap.size, 3, none⟩ = some (encU 0) ∧ V.cell? ⟨w3.heap.size, 4, none⟩ = some (encU 0) ∧ V.cell? ⟨w3.heap.size, 5, none⟩ = some (encU 0)) ∧ w3.heap.size < V.heap.size) ∧ ((V.cell? ⟨w5.heap.size, 0, none⟩ = some (encU 0) ∧ V.cell? ⟨w5.heap.size, 1, none⟩ = some (encU 0) ∧ V.cell? ⟨w5.heap.size, 2, none⟩ = some (encU 0) ∧ V.cell? ⟨w5.heap.size, 3, none⟩ = some (encU 0) ∧ V.cell? ⟨w5.heap.size, 4, none⟩ = some (encU 0) ∧ V.cell? ⟨w5.heap.size, 5, none⟩ = some (encU 0)) ∧ w5.heap.size < V.heap.size) ∧ K w1 V ∧ K w V) := fun V q => by
    have q5 := k56.trans q
    have hb := q.block hb6
    exact ⟨⟨⟨q5.cell d0, q5.cell d1, q5.cell d2, q5.cell d3, q5.cell d4, q5.cell d5⟩, Nat.lt_of_lt_of_le hlt q5.size⟩, ⟨⟨q5.cell e0, q5.cell e1, q5.cell e2, q5.cell e3, q5.cell e4, q5.cell e5⟩, Nat.lt_of_lt_of_le hlt3 q5.size⟩, ⟨six hb, (Array.getElem?_eq_some_iff.1 hb).1⟩, KWA.out.trans q5, KA.out.trans (KWA.out.trans q5)⟩
  have HW6 : Aside (w5.alloc (.cells #[.int .u64 nv0.a, .int .u64 nv0.b, .int .u64 nv0.c, .int .u64 nv0.d, .int .u64 nv0.e, .int .u64 nv0.f] 47) = w6) := hw6.symm
  clear k5 HB4 HB5 K4 K5 gs B2 KW k56 hb6 hw6
  go_wp2_with fail
  rw [HW6.out]
  clear HW6 d0 d1 d2 d3 d4 d5 e0 e1 e2 e3 e4 e5 hlt hlt3 KWA KA
  refine (PU.out w6).mono ?_
  rintro e w7 ⟨rfl, k7⟩
  have K7 : Aside (K w6 w7) := k7
  obtain ⟨⟨⟨d0, d1, d2, d3, d4, d5⟩, hlt⟩, ⟨⟨e0, e1, e2, e3, e4, e5⟩, hlt3⟩, ⟨⟨f0, f1, f2, f3, f4, f5⟩, hlt5⟩, _, _⟩ := B6.out w7 K7.out
  clear k7 PU
  go_wp2_with fail
  clear d0 d1 d2 d3 d4 d5 e0 e1 e2 e3 e4 e5 f0 f1 f2 f3 f4 f5 hlt hlt3 hlt5
  refine (DU.out w7).mono ?_
  rintro e w8 ⟨rfl, k8⟩
  have K8 : Aside (K w6 w8) := K7.out.trans k8
  obtain ⟨⟨⟨d0, d1, d2, d3, d4, d5⟩, hlt⟩, ⟨⟨e0, e1, e2, e3, e4, e5⟩, hlt3⟩, ⟨⟨f0, f1, f2, f3, f4, f5⟩, hlt5⟩, _, _⟩ := B6.out w8 K8.out
  clear k8 DU K7
  go_wp2_with fail
  clear d0 d1 d2 d3 d4 d5 e0 e1 e2 e3 e4 e5 f0 f1 f2 f3 f4 f5 hlt hlt3 hlt5
  refine (PS.out w8 (B6.out w8 K8.out).2.2.2.1).mono ?_
  rintro e w9 ⟨rfl, k9⟩
  have K9 : Aside (K w6 w9) := K8.out.trans k9
  obtain ⟨⟨⟨d0, d1, d2, d3, d4, d5⟩, hlt⟩, _, _, _, _⟩ := B6.out w9 K9.out
  clear k9 PS K8
  go_wp2_with fail
  clear d0 d1 d2 d3 d4 d5 hlt
  refine (DS.out w9 (B6.out w9 K9.out).2.2.2.1).mono ?_
  rintro e w10 ⟨rfl, k10⟩
  have K10 : Aside (K w6 w10) := K9.out.trans k10
  clear k10 DS K9
  go_wp2_with fail
  refine (ca.out w10 (B6.out w10 K10.out).2.2.2.2).mono ?_
  rintro e w11 ⟨rfl, k11⟩
  go_wp2_with fail
  go_ret
  exact ⟨rfl, k11⟩

end Nd
end Go.Proofs.YtlalmdckdejggaaGreatDoor
