/-
  The iterator over the pages that have heads: they come as 'heads' tells, until a round says no more.
-/
import Derived.Test.YtlpdgomoepinjaaDoorHLook
namespace Go.Proofs.YtlpdgomoepinjaaDoor
open Go.RowKit Go.Shelf
attribute [local go_sem] Oper.semAt_some
namespace Hp
variable {w : World} {bh bs bm : Nat} {q : Int} {pg : List (Int × Nat)} {W : Int → Int}

abbrev encP (p : Pg) : Array Value := #[pgV p]

theorem scan_pre (f : Int → Pg) (l : List Int) (k : Nat) (b : Int) (pre : List Pg) (n : Int) (hn : l[k]? = some n) (hs : pre ++ scan f (l.drop k) b = scan f l 0) :
    (n < b → pre ++ scan f (l.drop (k + 1)) b = scan f l 0) ∧ (¬ n < b → (pre ++ [f n]) ++ scan f (l.drop (k + 1)) (n + (f n).span) = scan f l 0) := by
  have hd : l.drop k = n :: l.drop (k + 1) := by
    rw [List.drop_eq_getElem_cons (List.getElem?_eq_some_iff.1 hn).1]
    congr 1
    exact (List.getElem?_eq_some_iff.1 hn).2
  rw [hd] at hs
  constructor
  · intro h
    rw [scan_skip _ _ _ _ h] at hs
    exact hs
  · intro h
    rw [scan_take _ _ _ _ h] at hs
    simpa using hs

set_option maxRecDepth 100000 in
set_option maxHeartbeats 1000000 in
theorem pages_seq (h : Hw w bh bs bm q pg W) (O : Nat → Prop) (hO : ∀ k, O k → ¬ Sl.foot bs bm pg k ∧ k ≠ bh ∧ k ≠ 0) :
    SeqIn Tryd.prog 25 #[hp bh] encP (heads pg W) O w := fun n l J Jx W0 k0 hl0 hOlt hJ hJx hY h0 => by
  have h := h.keep k0
  have c0 := h.c0
  have hlen := h.ar.len
  refine callsIn_of_wp Tryd.func25 rfl trivial ?_ rfl
  simp only [Tryd.ntmps25, List.size_toArray, List.length_cons, List.length_nil, Nat.reduceAdd, Nat.reduceSub, Array.replicate_succ, Array.replicate_zero, List.push_toArray, List.append_toArray, List.nil_append, List.cons_append]
  gi_wp2
  refine ⟨trivial, fun h => (by cases h), (callsIn_wide.2 (Sl.pages_said _ _ _ _ _ _ h.ar)).mono ?_⟩
  rintro e w1 ⟨a, cap, rfl, kb1, hrow⟩
  have k1 := K.of_below kb1
  have hJ1 := hJ _ _ _ _ h0 k1
  have h1 := h.keep k1
  have hs0 := k1.size
  gi_wp2
  gi_loopw [4, 6, 7, 14] (fun b _ _ i wr => ∃ (k : Nat) (pre : List Pg) (bb : Int), k ≤ pg.length ∧ i = .int .i64 (k : Int) ∧ b = .int .i64 bb ∧ 0 ≤ bb ∧ bb ≤ 1048640 ∧ Aside (pre ++ scan (look pg W) ((pg.map fun p => p.1).drop k) bb = heads pg W) ∧ ∃ M : Nat → Prop, J pre M wr ∧ Hw wr bh bs bm q pg W ∧ (∀ k, M k → ¬ Sl.foot bs bm pg k ∧ k ≠ bh ∧ k ≠ 0) ∧ w1.heap.size ≤ wr.heap.size ∧ (∀ k, k < w1.heap.size → W0.heap.size ≤ k → ¬ M k ∧ wr.heap[k]? = w1.heap[k]?)) (fun _ _ _ i _ => pg.length - (intOf i).toNat)
  case atStart => exact ⟨0, [], 0, Nat.zero_le _, rfl, rfl, by omega, by omega, rfl, O, hJ1, h1, hO, Nat.le_refl _, fun k _ hk => ⟨fun ho => by have := hOlt _ ho; omega, rfl⟩⟩
  case round =>
    obtain ⟨k, pre, bb, hk, rfl, rfl, hb0, hb1, HS, M, hJr, hr, hMf, hszr, hkr⟩ := hrel
    by_cases hlt : k < pg.length
    · obtain ⟨g, rfl, hgb, hcell⟩ := hrow (by omega)
      obtain ⟨p, hp⟩ : ∃ p, pg[k]? = some p := ⟨_, List.getElem?_eq_getElem hlt⟩
      have hm := List.mem_of_getElem? hp
      have hrg := h.ar.rng p hm
      have hbl : (Sl.blk pg p.1).isSome = true := by rw [Sl.blk_of_mem h.ar.rise (show (p.1, p.2) ∈ pg from hm)]; rfl
      have hgw : g < w1.heap.size := lt_of_cell (hcell k p hp)
      have hc : wr.cell? ⟨g, k, none⟩ = some (.int .i64 p.1) := (World.cell?_of_block (a := ⟨g, k, none⟩) (hkr g hgw hgb).2).trans (hcell k p hp)
      have hl := look_any hr p.1 hrg.1 hrg.2 hbl
      have HQ := scan_pre (look pg W) (pg.map fun p => p.1) k bb pre p.1 (by simp [hp]) HS.out
      have hsp := look_span pg W p.1
      have hpre : ¬ p.1 < bb → pre ++ [look pg W p.1] <+: heads pg W := fun hn => ⟨_, HQ.2 hn⟩
      have HP : Aside _ := HQ
      clear HQ
      clear hm hrow hbl hp
      generalize p.1 = m at *
      generalize look pg W m = P at *
      by_cases hb : m < bb
      · gi_wp2
        go_roundw
        case rel => exact ⟨k + 1, pre, bb, by omega, by go_num, rfl, hb0, hb1, HP.out.1 hb, M, hJr, hr, hMf, hszr, hkr⟩
        case measure => simp [intOf]; omega
      · gi_wp2
        refine ⟨trivial, fun h => (by cases h), (callsIn_wide.2 hl).mono ?_⟩
        rintro e w2 ⟨rfl, k2⟩
        have kA : K wr (w2.alloc (.cells #[.int .i64 P.n, .int .i64 P.kind, .int .i64 P.cls, .int .u64 P.taken, .int .i64 P.words, .int .i64 P.span] 56)) := k2.alloc _
        obtain ⟨fn, tmps, assign, body, hy, hR⟩ := hY pre P M _ (hpre (by omega)) (hJ _ _ _ _ hJr kA)
        dsimp only [encP, pgV] at hy
        gi_wp2
        refine ⟨fun h => (by cases h), hR.mono ?_⟩
        rintro e w3 (⟨rfl, M3, hJ3, k3, g3⟩ | ⟨rfl, M3, hJx3, k3⟩)
        · gi_wp2
          go_roundw
          case rel => exact ⟨k + 1, pre ++ [P], m + P.span, by omega, by go_num, rfl, by omega, by omega, HP.out.2 (by omega), M3, hJ3, (hr.keep kA).kept k3 hMf, fun j hj => by
            rcases g3 j hj with h | h
            · exact hMf j h
            · have hz := kA.size
              exact ⟨fun hf => by have := hr.ar.foot_lt hf; omega, fun e => by have : bh < wr.heap.size := lt_of_cell hr.c0; omega, fun e => by have := lt0 hr.tab; omega⟩, Nat.le_trans (Nat.le_trans hszr kA.size) k3.size, fun j hj hj2 => by
            obtain ⟨q1, q2⟩ := hkr j hj hj2
            refine ⟨fun hm => ?_, ?_⟩
            · rcases g3 j hm with h | h
              · exact q1 h
              · have := kA.size
                omega
            · rw [k3.same j (by have := kA.size; omega) q1, kA.same j (by omega) (fun x => x)]
              exact q2⟩
          case measure => simp [intOf]; omega
        · gi_wp2
          refine bodyPost_ret (results_none rfl _ _ _) rfl ?_
          exact ⟨⟨_, rfl⟩, .inr ⟨_, M3, hpre (by omega), hJx3⟩⟩
    · obtain rfl : k = pg.length := by omega
      gi_wp2
      go_end0
      refine ⟨⟨_, rfl⟩, .inl ?_⟩
      have := HS.out
      rw [List.drop_of_length_le (by simp)] at this
      simp only [scan, List.append_nil] at this
      rw [← this]
      exact ⟨M, hJr⟩

end Hp
end Go.Proofs.YtlpdgomoepinjaaDoor
