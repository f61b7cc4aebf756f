/-
  The walks of package store's lay and takeBack.
-/
import Derived.Test.YtckofhbfdfmnoaaGreatDoorWPagesS
namespace Go.Proofs.YtckofhbfdfmnoaaGreatDoor
open Go.RowKit Go.Maps
attribute [local go_sem ↓] Go.wp_at_zero Go.wp_at_succ
namespace So
open Hp (Kept K No Pg BlR Bl Wl SameBut dropL findB)
variable {w w' : World} {B : Nat} {A : Ad} {pg : List (Int × Nat)} {W V : Int → Int} {L : List Pg} {v : Value} {T : List Hd.Sl}

theorem run_index_w64 (cs : Array Value) (k : Nat) (hk : k < 64) (y : Int) (hc : cs[k]? = some (.int .u64 y)) (w : World) : (Instr.index 91 (.agg cs) (.int .i64 (k : Int))).run Tryz.prog w = .ok (.int .u64 y) w := by
  have hu : Tryz.prog.underlying 91 = some (.array 64 44) := by kernel_rfl
  have hs : (sizeOf 44).run Tryz.prog w = .ok 1 w := by kernel_rfl
  have ha : (isAgg 44).run Tryz.prog w = .ok false w := by kernel_rfl
  have hr : (0 : Int) ≤ k ∧ (k : Int) < (64 : Nat) := by omega
  simp [Instr.index, asIntOf, run_underlying hu, hr, hs, part, ha, hc, Result.andThen]
  intro h
  omega

/-- The 64 words of a page by value. -/
theorem load_w64 {g : Nat} {N : Int} (h : w.heap[g]? = some (.cells (pArr V N) 93)) : (Instr.loadAt 91 (.pointer (some ⟨g, 1, none⟩))).run Tryz.prog w = .ok (.agg (Sl.words V N)) w := by
  have hr : w.rangeAt g 1 (Sl.words V N).toList := fun j u hu => by
    have hj : j < 64 := by
      have := (List.getElem?_eq_some_iff.1 hu).1
      rw [Array.length_toList, Sl.words_size] at this
      exact this
    simp only [World.cell?, h]
    rw [if_neg (by simp), pArr_word _ _ _ hj]
    rw [Array.getElem?_toList, Sl.words_get _ _ _ hj] at hu
    exact hu
  have := run_loadAt_mid (P := Tryz.prog) w g 1 91 (Sl.words V N).toList _ hr Tryz.underlying91 rfl (by rw [Array.length_toList, Sl.words_size]; kernel_rfl)
  simpa using this
theorem wpList_load_w64 {ops : Array Oper} {rest : List Oper} {ac : Act} {w : World} {Q : Exit → Act → World → Prop} {d : Option Tmp} {ty : TypeId} {ps : String} {af : Array Edge} {x : Operand} (g : Nat) (V : Int → Int) (N : Int) (hc : w.heap[g]? = some (.cells (pArr V N) 93)) (hx : ac.eval x = .pointer (some ⟨g, 1, none⟩))
    (h : wpList Tryz.prog ops Q rest (ac.put d (.agg (Sl.words V N))) w) : wpList Tryz.prog ops Q ({ dst := d, op := Op.load 91 x, type := ty, pos := ps, after := af, guard := none } :: rest) ac w := by
  refine wpList_plain rfl fun K hK => ?_
  unfold Oper.wp
  simp only [execOp, hx, load_w64 hc, Sem.run_bind, Result.andThen_ok]
  exact hK _ _ h

/-- The first k words of a page are laid. -/
def layW (W V : Int → Int) (N : Int) (k : Nat) : Int → Int := fun a => if 64 * N ≤ a ∧ a < 64 * N + k then V a else W a
theorem layW_zero (W V : Int → Int) (N : Int) : layW W V N 0 = W := funext fun a => by unfold layW; rw [if_neg (by omega)]
theorem layW_succ (W V : Int → Int) (N : Int) (k : Nat) : Sl.upd (layW W V N k) (64 * N + k) (V (64 * N + k)) = layW W V N (k + 1) := funext fun a => by
  unfold Sl.upd layW
  by_cases e : a = 64 * N + k
  · rw [if_pos e, if_pos (by omega), e]
  · rw [if_neg e]
    by_cases h : 64 * N ≤ a ∧ a < 64 * N + k
    · rw [if_pos h, if_pos (by omega)]
    · rw [if_neg h, if_neg (by omega)]

set_option maxRecDepth 100000 in
set_option maxHeartbeats 1000000 in
theorem lay_any {bs bm : Nat} {q : Int} (ha : Sl.Arena w bs bm q pg W) {N : Int} (hN : (Sl.blk pg N).isSome = true) (r0 : 0 ≤ N) (r1 : N ≤ 1048575) (hV : ∀ a, Sl.WordOk (V a)) :
    Calls Tryz.prog 86 #[.pointer (some ⟨bs, 0, none⟩), .agg (pArr V N)] w fun e w' => e = .returned (.tuple #[]) ∧ Sl.Arena w' bs bm q pg (layW W V N 64) ∧ Sl.Step bs bm pg pg w w' := by
  obtain ⟨w1, hw1⟩ : ∃ w1, w1 = w.alloc (.cells (pArr V N) 93) := ⟨_, rfl⟩
  have k1 : K w w1 := by rw [hw1]; exact (K.refl w).alloc _
  have hb1 : w1.heap[w.heap.size]? = some (.cells (pArr V N) 93) := by rw [hw1]; exact World.alloc_heap_new _ _
  have hP : ¬ Sl.foot bs bm pg w.heap.size := fun hf => by have := ha.foot_lt hf; omega
  have a1 : Sl.Arena w1 bs bm q pg W := ha.stays fun j hj => k1.same j (ha.foot_lt hj) (fun x => x)
  have HB : Aside _ := hb1
  have hs1 := pArr_size V N
  go_enter Tryz.func86, Tryz.ntmps86
  go_wp2_with (first
    | ((with_reducible refine wpList_load_w64 w.heap.size V N ?_ ?_ ?_); (· rw [← hw1]; exact HB.out); (· rfl)))
  rw [← hw1]
  clear hw1 hs1
  generalize hPs : w.heap.size = P at *
  clear hPs
  go_loopg [8] 64 (fun gh t wx => ∃ k : Nat, k + gh = 64 ∧ t = .int .i64 k ∧ Sl.Arena wx bs bm q pg (layW W V N k) ∧ Sl.Step bs bm pg pg w1 wx)
  case atStart => exact ⟨0, by omega, rfl, by rw [layW_zero]; exact a1, Sl.Step.refl _ _ _ _⟩
  case round =>
    obtain ⟨k, hkg, rfl, ax, sx⟩ := hrel
    by_cases hk64 : k < 64
    · have hix := run_index_w64 (Sl.words V N) k hk64 (V (64 * N + k)) (Sl.words_get _ _ _ hk64)
      have hlt : P < w1.heap.size := (Array.getElem?_eq_some_iff.1 HB.out).1
      have hbx := (sx.kept P hlt hP).trans HB.out
      have dc : wr.cell? ⟨P, 0, none⟩ = some (.int .i64 N) := by
        simp only [World.cell?, hbx]
        rw [if_neg (by simp)]
        exact pArr_zero _ _
      have wrt := Sl.write_ok ax (64 * N + k) (V (64 * N + k)) (Hp.readE_in r0 r1 hN k (by omega) (by omega)) (hV _)
      rw [layW_succ, show 64 * N + (k : Int) = N * 64 + k by omega] at wrt
      rw [show 64 * N + (k : Int) = N * 64 + k by omega] at hix
      generalize V (N * 64 + k) = y at *
      clear hbx ax
      go_wp2_with (go_at_call 49; refine wrt.mono ?_; rintro e w5 ⟨rfl, a5, s5⟩)
      go_roundg (64 - (k + 1))
      case measure => omega
      case rel => exact ⟨k + 1, by omega, by go_num, a5, sx.trans s5⟩
    · obtain rfl : k = 64 := by omega
      have AX : Aside _ := ax
      clear ax
      go_wp2
      go_end0
      exact ⟨rfl, AX.out, k1.thenStep sx⟩

end So
end Go.Proofs.YtckofhbfdfmnoaaGreatDoor
