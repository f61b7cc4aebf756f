/-
  The walk of the statement on the room that nodes take.
-/
import Derived.Test.YtlalmdckdejggaaGreatDoorWNRoomF
namespace Go.Proofs.YtlalmdckdejggaaGreatDoor
open Go.RowKit Go.Maps
attribute [local go_sem ↓] Go.wp_at_zero Go.wp_at_succ
namespace Nd
open Hp (Kept K No granted)
open Go.Proofs.YtlalmdckdejggaaGreatDoor.So (Ad Rn sp cl)

set_option maxRecDepth 100000 in
set_option maxHeartbeats 2000000 in
theorem room_out (q m : Int) (n : Nv) (w : World) (hT : Bt.Tab w) (h : q < 0 ∨ 0 ≤ q ∧ (640 < q ∨ q ≤ 640 ∧ (m < 1 ∨ 1 ≤ m ∧ 100 < m))) : Calls Tryz.prog 7 #[.int .i64 q, .int .i64 m, n.v] w fun e w' => e = .returned (.bool true) ∧ K w w' := by
  have k01 : K w (w.alloc (.cells n.cs 47)) := (K.refl w).alloc _
  have ca := awake_any _ (hT.keep ⟨k01.below⟩)
  rcases h with h | ⟨h0, h | ⟨h1, h | ⟨h2, h⟩⟩⟩
  all_goals
    go_enter Tryz.func7, Tryz.ntmps7
    go_wp2_with (go_at_call 8; refine ca.mono ?_; rintro e w1 ⟨rfl, k1⟩)
    go_ret
    exact ⟨rfl, k01.trans k1⟩

set_option maxRecDepth 100000 in
set_option maxHeartbeats 4000000 in
theorem room_main (q m : Int) (n : Nv) (hn : n.Ok) (w : World) (hT : Bt.Tab w) (q0 : 0 ≤ q) (q1 : q ≤ 640) (m0 : 1 ≤ m) (m1 : m ≤ 100) : Calls Tryz.prog 7 #[.int .i64 q, .int .i64 m, n.v] w fun e w' => e = .returned (.bool true) ∧ K w w' := by
  have ca : Aside (∀ w1, K w w1 → Calls Tryz.prog 8 #[] w1 fun e w' => e = .returned (.bool true) ∧ K w w') := fun w1 k => (awake_any w1 (hT.keep ⟨k.below⟩)).mono fun e w2 h => ⟨h.1, k.trans h.2⟩
  obtain ⟨w0, hw0⟩ : ∃ w0, w0 = w.alloc (.cells n.cs 47) := ⟨_, rfl⟩
  have k01 : K w w0 := by rw [hw0]; exact (K.refl w).alloc _
  have hb0 : w0.heap[w.heap.size]? = some (.cells n.cs 47) := by rw [hw0]; exact World.alloc_heap_new _ _
  have cn : Aside (Calls Tryz.prog 9 #[.int .i64 q, .int .i64 m, .int .u32 9] w0 fun e w' => ∃ A, e = .returned (.tuple #[sp A.st, .int .i64 0]) ∧ Aside (Rm w0 w' A q m 0)) := by
    refine (Rn.new q m 9 w0 (hT.keep ⟨k01.below⟩) q0 (by omega) m0 (by omega) (by decide) (by decide)).mono ?_
    rintro e w1 ⟨A, v, rfl, HA, _⟩
    exact ⟨A, rfl, ⟨[], fun _ => 0, v, [], HA.out.1, rfl, rfl⟩, HA.out.2.1, HA.out.2.2.1⟩
  have BX : Aside (∀ V, K w0 V → ((V.cell? ⟨w.heap.size, 0, none⟩ = some (encU n.a) ∧ V.cell? ⟨w.heap.size, 1, none⟩ = some (encU n.b) ∧ V.cell? ⟨w.heap.size, 2, none⟩ = some (encU n.c) ∧ V.cell? ⟨w.heap.size, 3, none⟩ = some (encU n.d) ∧ V.cell? ⟨w.heap.size, 4, none⟩ = some (encU n.e) ∧ V.cell? ⟨w.heap.size, 5, none⟩ = some (encU n.f)) ∧ w.heap.size < V.heap.size) ∧ K w V) := fun V k => ⟨⟨six (k.block hb0), (Array.getElem?_eq_some_iff.1 (k.block hb0)).1⟩, k01.trans k⟩
  have HW0 : Aside (w.alloc (.cells #[.int .u64 n.a, .int .u64 n.b, .int .u64 n.c, .int .u64 n.d, .int .u64 n.e, .int .u64 n.f] 47) = w0) := hw0.symm
  obtain ⟨many, hmany⟩ : ∃ many : Nat, (many : Int) = min m (6 * (q / 64)) := ⟨(min m (6 * (q / 64))).toNat, by omega⟩
  have HN : Aside _ := hn
  have LAST : Aside ((((many : Int) == 6 * (q / 64)) = true ∧ many % 6 = 0 ∧ q < ((many / 6 : Nat) + 1) * 64) ∨ (((many : Int) == 6 * (q / 64)) = false ∧ many < 60 ∧ ((many / 6 : Nat) + 1) * 64 ≤ q ∧ m ≤ many)) := by
    by_cases h : m < 6 * (q / 64)
    · refine .inr ⟨by simp; omega, by omega, by omega, by omega⟩
    · refine .inl ⟨by simp; omega, by omega, by omega⟩
  have STEP : Aside (∀ i : Nat, i < many → i < 60 ∧ ((i / 6 : Nat) + 1) * 64 ≤ q ∧ (i : Int) < m) := fun i hi => ⟨by omega, by omega, by omega⟩
  have M60 : Aside (many ≤ 60) := by show many ≤ 60; omega
  have hm1 : many ≤ 100 := by omega
  have hw1 : wrap64 (6 * (q / 64)) = 6 * (q / 64) := by unfold wrap64; omega
  have hmin : min m (6 * (q / 64)) = (many : Int) := by omega
  clear hT hn hw0 k01 hb0 hmany hw1
  have hw1 : wrap64 (6 * (q / 64)) = 6 * (q / 64) := by unfold wrap64; omega
  go_enter Tryz.func7, Tryz.ntmps7
  go_wp2_with fail
  rw [HW0.out]
  refine cn.out.mono ?_
  rintro e w1 ⟨A, rfl, R0⟩
  clear cn HW0
  go_wp2_with fail
  go_loopg [10] many (fun gh t wx => ∃ i : Nat, i + gh = many ∧ t = .int .i64 i ∧ Aside (Rm w0 wx A q m i))
  case atStart => exact ⟨0, by omega, rfl, R0⟩
  case round =>
    obtain ⟨i, hig, rfl, RI⟩ := hrel
    clear R0
    by_cases hlt : i < many
    · obtain ⟨s1, s2, s3⟩ := STEP.out i hlt
      have cm := RI.out.make s1 s2 s3 n HN.out
      obtain ⟨⟨⟨d0, d1, d2, d3, d4, d5⟩, dl⟩, _⟩ := BX.out wr RI.out.k
      clear RI s1 s2 s3
      go_wp2_with fail
      refine cm.mono ?_
      rintro e w2 ⟨x, rfl, H2⟩
      have cg := H2.out.2 w2 (K.refl w2)
      clear cm d0 d1 d2 d3 d4 d5 dl
      go_wp2_with fail
      refine cg.mono ?_
      rintro e w3 ⟨rfl, k3⟩
      have R3 : Aside (Rm w0 (w3.alloc (.cells #[.int .u64 n.a, .int .u64 n.b, .int .u64 n.c, .int .u64 n.d, .int .u64 n.e, .int .u64 n.f] 47)) A q m (i + 1)) := H2.out.1.keep (k3.trans ((K.refl w3).alloc _))
      obtain ⟨⟨⟨d0, d1, d2, d3, d4, d5⟩, dl⟩, _⟩ := BX.out w3 (H2.out.1.keep k3).k
      clear cg H2 k3
      go_wp2_with fail
      go_roundg (many - (i + 1))
      case measure => omega
      case rel => exact ⟨i + 1, by omega, by go_num, R3⟩
    · obtain rfl : i = many := by omega
      obtain ⟨⟨⟨d0, d1, d2, d3, d4, d5⟩, dl⟩, _⟩ := BX.out wr RI.out.k
      rcases LAST.out with ⟨e1, e2, e3⟩ | ⟨e1, e2, e3, e4⟩
      · have cl := RI.out.last M60.out n HN.out (.inl ⟨rfl, e2, e3⟩)
        clear RI e2 e3
        go_wp2_with fail
        refine cl.mono ?_
        rintro e w2 ⟨rfl, R2⟩
        have cal := R2.out.all
        have K2 : Aside (K w w2) := (BX.out w2 R2.out.k).2
        clear cl R2 d0 d1 d2 d3 d4 d5 dl BX
        go_wp2_with fail
        refine cal.mono ?_
        rintro e w3 ⟨⟨a, c, rfl⟩, k3⟩
        have cx := ca.out w3 (K2.out.trans k3)
        clear cal K2 k3
        go_wp2_with fail
        refine cx.mono ?_
        rintro e w4 ⟨rfl, k4⟩
        go_wp2_with fail
        go_ret
        exact ⟨rfl, k4⟩
      · have cl := RI.out.last M60.out n HN.out (.inr ⟨rfl, e2, e3, e4⟩)
        clear RI e2 e3 e4
        go_wp2_with fail
        refine cl.mono ?_
        rintro e w2 ⟨rfl, R2⟩
        have cal := R2.out.all
        have K2 : Aside (K w w2) := (BX.out w2 R2.out.k).2
        clear cl R2 d0 d1 d2 d3 d4 d5 dl BX
        go_wp2_with fail
        refine cal.mono ?_
        rintro e w3 ⟨⟨a, c, rfl⟩, k3⟩
        have cx := ca.out w3 (K2.out.trans k3)
        clear cal K2 k3
        go_wp2_with fail
        refine cx.mono ?_
        rintro e w4 ⟨rfl, k4⟩
        go_wp2_with fail
        go_ret
        exact ⟨rfl, k4⟩

theorem room_walk (q : Int) (_ : Hp.In64 q) (m : Int) (_ : Hp.In64 m) (n : Nv) (hn : n.Ok) (w : World) (hT : Bt.Tab w) : Calls Tryz.prog 7 #[.int .i64 q, .int .i64 m, n.v] w fun e w' => e = .returned (.bool true) ∧ K w w' := by
  by_cases h : q < 0 ∨ 0 ≤ q ∧ (640 < q ∨ q ≤ 640 ∧ (m < 1 ∨ 1 ≤ m ∧ 100 < m))
  · exact room_out q m n w hT h
  · exact room_main q m n hn w hT (by omega) (by omega) (by omega) (by omega)

end Nd
end Go.Proofs.YtlalmdckdejggaaGreatDoor
