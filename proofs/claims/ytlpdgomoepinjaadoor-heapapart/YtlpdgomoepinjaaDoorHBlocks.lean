/-
  The iterator over the blocks of a page: they come as 'slotsOf' tells, until a round says no more.
-/
import Derived.Test.YtlpdgomoepinjaaDoorHAudit
namespace Go.Proofs.YtlpdgomoepinjaaDoor
open Go.RowKit Go.Shelf
attribute [local go_sem] Oper.semAt_some
namespace Hp

abbrev encB (p : Pg) (s : Int) : Array Value := #[bkV p s]

/-- The taken ones of the first n slots. -/
def takenTo (t : Int) (n : Nat) : List Int := ((List.range n).map fun (k : Nat) => (k : Int)).filter fun k => Bt.hasI t k
/-- The slots of a page's blocks. -/
def slotsOf (p : Pg) : List Int := if p.kind = 2 then [0] else if p.kind = 1 then takenTo p.taken (Cl.sloI p.cls).toNat else []

theorem takenTo_succ (t : Int) (n : Nat) : takenTo t (n + 1) = if Bt.hasI t n = true then takenTo t n ++ [(n : Int)] else takenTo t n := by
  unfold takenTo
  rw [List.range_succ, List.map_append, List.filter_append]
  simp only [List.map_cons, List.map_nil, List.filter_cons, List.filter_nil]
  split <;> simp
theorem takenTo_pre (t : Int) {m n : Nat} (h : m ≤ n) : takenTo t m <+: takenTo t n := by
  induction n with
  | zero =>
    obtain rfl : m = 0 := by omega
    exact List.prefix_refl _
  | succ n ih =>
    rcases Nat.lt_or_eq_of_le h with h1 | h1
    · refine (ih (by omega)).trans ?_
      rw [takenTo_succ]
      split
      · exact List.prefix_append _ _
      · exact List.prefix_refl _
    · subst h1
      exact List.prefix_refl _

theorem slo_range (c : Int) : 0 ≤ Cl.sloI c ∧ Cl.sloI c ≤ 31 := by
  rcases Cl.siz_cases c with ⟨_, _, _, a⟩ | ⟨_, _, _, a⟩ | ⟨_, _, _, a⟩ | ⟨_, _, _, a⟩ | ⟨_, _, _, a⟩ | ⟨_, _, _, a⟩ | ⟨_, _, _, a⟩ | ⟨_, _, _, a⟩ | ⟨_, _, _, a⟩ <;> omega

set_option maxRecDepth 100000 in
set_option maxHeartbeats 1000000 in
theorem blocks_seq (w : World) (p : Pg) (hU : p.kind = 1 → Bt.U p.taken) (O : Nat → Prop) : SeqIn Tryd.prog 26 #[pgV p] (encB p) (slotsOf p) O w := fun n l J Jx W0 k0 hl0 hOlt hJ hJx hY h0 => by
  obtain ⟨pn, kd, cl, tk, ws, sp⟩ := p
  have k1 : K W0 (W0.alloc (.cells #[.int .i64 pn, .int .i64 kd, .int .i64 cl, .int .u64 tk, .int .i64 ws, .int .i64 sp] 56)) := (K.refl W0).alloc _
  have hB1 : (W0.alloc (.cells #[.int .i64 pn, .int .i64 kd, .int .i64 cl, .int .u64 tk, .int .i64 ws, .int .i64 sp] 56)).heap[W0.heap.size]? = some (.cells #[.int .i64 pn, .int .i64 kd, .int .i64 cl, .int .u64 tk, .int .i64 ws, .int .i64 sp] 56) := World.alloc_heap_new _ _
  have hJ1 := hJ _ _ _ _ h0 k1
  have hOB : ¬ O W0.heap.size := fun ho => by have := hOlt _ ho; omega
  by_cases hk2 : kd = 2
  · subst hk2
    have hs : slotsOf ⟨pn, 2, cl, tk, ws, sp⟩ = [0] := by simp [slotsOf]
    rw [hs] at hY ⊢
    obtain ⟨fn, tmps, assign, body, hy, hR⟩ := hY [] 0 O _ (List.prefix_refl _) hJ1
    dsimp only [encB, bkV] at hy
    refine callsIn_of_wp Tryd.func26 rfl trivial ?_ rfl
    simp only [Tryd.ntmps26, List.size_toArray, List.length_cons, List.length_nil, Nat.reduceAdd, Nat.reduceSub, Array.replicate_succ, Array.replicate_zero, List.push_toArray, List.append_toArray, List.nil_append, List.cons_append]
    gi_wp2
    refine ⟨fun h => (by cases h), hR.mono ?_⟩
    rintro e w3 (⟨rfl, M3, hJ3, k3, g3⟩ | ⟨rfl, M3, hJx3, k3⟩)
    · have c1 := (six (k3.block hB1 hOB)).1.2.1
      gi_wp2
      refine bodyPost_ret (results_none rfl _ _ _) rfl ?_
      exact ⟨⟨_, rfl⟩, .inl ⟨M3, hJ3⟩⟩
    · have c1 := (six (k3.block hB1 (fun h => h.elim hOB (fun e => by omega)))).1.2.1
      gi_wp2
      refine bodyPost_ret (results_none rfl _ _ _) rfl ?_
      exact ⟨⟨_, rfl⟩, .inr ⟨_, M3, List.prefix_refl _, hJx3⟩⟩
  · by_cases hk1 : kd = 1
    · subst hk1
      have hs : slotsOf ⟨pn, 1, cl, tk, ws, sp⟩ = takenTo tk (Cl.sloI cl).toNat := by simp [slotsOf]
      rw [hs] at hY ⊢
      have hT : Bt.U tk := hU rfl
      clear hU
      obtain ⟨n0, n1⟩ := slo_range cl
      have cs := fun w => pageSlots_any ⟨pn, 1, cl, tk, ws, sp⟩ w
      dsimp only at cs
      have hnn : ((Cl.sloI cl).toNat : Int) = Cl.sloI cl := by omega
      obtain ⟨N, hN⟩ : ∃ N : Nat, N = (Cl.sloI cl).toNat := ⟨_, rfl⟩
      rw [← hN] at hY hnn ⊢
      rw [← hnn] at cs n0 n1
      clear hN hnn hs hk2
      refine callsIn_of_wp Tryd.func26 rfl trivial ?_ rfl
      simp only [Tryd.ntmps26, List.size_toArray, List.length_cons, List.length_nil, Nat.reduceAdd, Nat.reduceSub, Array.replicate_succ, Array.replicate_zero, List.push_toArray, List.append_toArray, List.nil_append, List.cons_append]
      gi_wp2
      refine ⟨trivial, fun h => (by cases h), (callsIn_wide.2 (cs _)).mono ?_⟩
      rintro e w2 ⟨rfl, k2⟩
      have hB2 := k2.block hB1
      have hJ2 := hJ _ _ _ _ hJ1 k2
      have ks := k1.trans k2
      gi_wp2
      gi_loopw [4, 17] (fun _ i wr => ∃ k : Nat, k ≤ N ∧ i = .int .i64 (k : Int) ∧ ∃ M : Nat → Prop, J (takenTo tk k) M wr ∧ ¬ M W0.heap.size ∧ wr.heap[W0.heap.size]? = some (.cells #[.int .i64 pn, .int .i64 1, .int .i64 cl, .int .u64 tk, .int .i64 ws, .int .i64 sp] 56)) (fun _ i _ => N - (intOf i).toNat)
      case atStart => exact ⟨0, Nat.zero_le _, rfl, O, hJ2, hOB, hB2⟩
      case round =>
        obtain ⟨k, hk, rfl, M, hJr, hMB, hBr⟩ := hrel
        obtain ⟨⟨c0, c1, c2, c3, c4, c5⟩, _⟩ := six hBr
        by_cases hlt : k < N
        · have hsu := takenTo_succ tk k
          have hpf := takenTo_pre tk (show k + 1 ≤ N from hlt)
          have hh := Bt.has_any tk k hT wr
          cases hb : Bt.hasI tk k with
          | true =>
            rw [hb] at hsu hh
            simp only [if_true] at hsu
            rw [hsu] at hpf
            have HS : Hid _ := hsu
            obtain ⟨fn, tmps, assign, body, hy, hR⟩ := hY _ _ M wr hpf hJr
            dsimp only [encB, bkV] at hy
            clear hsu
            gi_wp2
            refine ⟨trivial, fun h => (by cases h), (callsIn_wide.2 hh).mono ?_⟩
            rintro e w3 ⟨rfl, rfl⟩
            gi_wp2
            refine ⟨fun h => (by cases h), hR.mono ?_⟩
            rintro e w3 (⟨rfl, M3, hJ3, k3, g3⟩ | ⟨rfl, M3, hJx3, k3⟩)
            · gi_wp2
              go_roundw
              case rel => exact ⟨k + 1, by omega, by go_num, M3, by rw [HS.out]; exact hJ3, fun hm => by
                rcases g3 _ hm with h | h
                · exact hMB h
                · have := (Array.getElem?_eq_some_iff.1 hBr).1
                  omega, k3.block hBr hMB⟩
              case measure => simp [intOf]; omega
            · gi_wp2
              refine bodyPost_ret (results_none rfl _ _ _) rfl ?_
              exact ⟨⟨_, rfl⟩, .inr ⟨_, M3, hpf, hJx3⟩⟩
          | false =>
            rw [hb] at hsu hh
            simp only [Bool.false_eq_true, if_false] at hsu
            have HS : Hid _ := hsu
            clear hsu
            gi_wp2
            refine ⟨trivial, fun h => (by cases h), (callsIn_wide.2 hh).mono ?_⟩
            rintro e w3 ⟨rfl, rfl⟩
            gi_wp2
            all_goals (refine ⟨fun _ h => (by cases h), ?_⟩; gi_wp2)
            all_goals
              go_roundw
              case rel => exact ⟨k + 1, by omega, by go_num, M, by rw [HS.out]; exact hJr, hMB, hBr⟩
              case measure => simp [intOf]; omega
        · obtain rfl : k = N := by omega
          gi_wp2
          go_end0
          exact ⟨⟨_, rfl⟩, .inl ⟨M, hJr⟩⟩
    · have hs : slotsOf ⟨pn, kd, cl, tk, ws, sp⟩ = [] := by simp [slotsOf, hk1, hk2]
      rw [hs] at hY ⊢
      have e1 : (kd == 2) = false := by simpa using hk2
      have e2 : (kd == 1) = false := by simpa using hk1
      refine callsIn_of_wp Tryd.func26 rfl trivial ?_ rfl
      simp only [Tryd.ntmps26, List.size_toArray, List.length_cons, List.length_nil, Nat.reduceAdd, Nat.reduceSub, Array.replicate_succ, Array.replicate_zero, List.push_toArray, List.append_toArray, List.nil_append, List.cons_append]
      gi_wp2
      refine bodyPost_ret (results_none rfl _ _ _) rfl ?_
      exact ⟨⟨_, rfl⟩, .inl ⟨O, hJ1⟩⟩

end Hp
end Go.Proofs.YtlpdgomoepinjaaDoor
