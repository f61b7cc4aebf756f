/-
  The walk of the statement on List, At and Find of each place.
-/
import Derived.Test.YtbbjfebdihepnaaGreatDoorWK
namespace Go.Proofs.YtbbjfebdihepnaaGreatDoor
open Go.RowKit Go.Maps
attribute [local go_sem ↓] Go.wp_at_zero Go.wp_at_succ
namespace Wa
open Hp (Kept K No)
open Hd (U64 findL)
open Nd (Nv encU)
open Go.Proofs.YtbbjfebdihepnaaGreatDoor.So (Ad sp)

theorem run_ixH (g n cap i : Nat) (hi : i < n) (w' : World) : (Instr.indexAt 45 (.slice (some ⟨g, 0, none⟩) n cap) (.int .i64 (i : Int))).run Tryz.prog w' = .ok (.pointer (some ⟨g, i, none⟩)) w' := by
  have := So.run_ixg Tryz.underlying45 (m := 1) (by kernel_rfl) (fun w => by kernel_rfl) g 0 n cap i hi w'
  rw [Nat.mul_one, Nat.zero_add] at this
  exact this
theorem k_drawn {w w' : World} (h : K w w') (n : Nat) : K w (w'.drewN n) := ⟨h.os, h.tape, h.output, h.size, h.same⟩

set_option maxRecDepth 100000 in
set_option maxHeartbeats 4000000 in
theorem lists_walk (w : World) (a : Option Addr) (n cap : Nat) (l : List Pr) (hP : Prw w a n cap l) (sa : Option Addr) (sn sc : Nat) (sh : Shp w sa sn sc) (hT : Bt.Tab w) :
    Calls Tryz.prog 4 #[.slice a n cap, .slice sa sn sc] w fun e w' => e = .returned (.bool true) ∧ K w w' := by
  have CA : Aside (∀ V, K w V → Calls Tryz.prog 10 #[] V fun e w' => e = .returned (.bool true) ∧ K w w') := fun V k => (awake_any V (hT.keep ⟨k.below⟩)).mono fun e w2 h => ⟨h.1, k.trans h.2⟩
  have hnm : n ≤ 9223372036854775807 := by have := hP.p.cp; have := hP.p.mx; unfold maxLen at *; omega
  by_cases h60 : 60 < n
  · have hd : decide ((60 : Int) < (n : Int)) = true := decide_eq_true (by omega)
    have ca := CA.out w (K.refl w)
    clear CA
    go_enter Tryz.func4, Tryz.ntmps4
    go_wp2_with fail
    refine ca.mono ?_
    rintro e w1 ⟨rfl, k1⟩
    clear ca
    go_wp2_with fail
    go_ret
    exact ⟨rfl, k1⟩
  · have hd : decide ((60 : Int) < (n : Int)) = false := decide_eq_false (by omega)
    have cl := long_any hP.p hP.mx
    have HP : Aside _ := hP
    have SH : Aside _ := sh
    have HT : Aside (Bt.Tab w) := hT
    have h60 : n ≤ 60 := by omega
    clear hP sh hT
    go_enter Tryz.func4, Tryz.ntmps4
    go_wp2_with fail
    refine cl.mono ?_
    rintro e w1 ⟨b, rfl, hb, k1⟩
    have K1 : Aside (K w w1) := k1
    have HB : Aside (b = false → shortL l) := hb.out
    clear cl hb k1
    cases b with
    | true =>
      have ca := CA.out w1 K1.out
      clear CA
      go_wp2_with fail
      refine ca.mono ?_
      rintro e w2 ⟨rfl, k2⟩
      clear ca
      go_wp2_with fail
      go_ret
      exact ⟨rfl, k2⟩
    | false =>
      have HS : Aside (shortL l) := HB.out rfl
      have cm := made_ans (HT.out.keep ⟨K1.out.below⟩) (HP.out.p.keep K1.out) HS.out h60 (SH.out.keep K1.out)
      go_wp2_with fail
      refine cm.mono ?_
      rintro e w2 ⟨A, root, hd, a2, n2, c2, rfl, hm⟩
      obtain ⟨k2, an, sr, up, ss, hn2⟩ := hm.out
      generalize sortedP l = P at an sr up ss
      have AN : Aside _ := an
      have SR : Aside _ := sr
      have UP : Aside (upP P) := up
      have K2 : Aside (K w w2) := K1.out.trans k2
      have hn60 : n2 ≤ 60 := by omega
      have cc := an.list w2 (K.refl w2)
      have HL : Aside (P.length = n2) := sr.len
      rw [sr.len] at cc
      clear cm hm an sr up ss hn2 k2 K1 HP SH HT HB HS
      go_wp2_with fail
      refine cc.mono ?_
      rintro e w3 ⟨v, rfl, hrow, k3⟩
      obtain ⟨g, a9, c9, rfl, ha9, hc9⟩ := So.row1 hrow
      have K3 : Aside (K w2 w3) := k3
      have RH : Aside (∀ i, i < n2 → a9 = some ⟨g, 0, none⟩ ∧ w3.cell? ⟨g, i, none⟩ = some (.int .u64 (hd i))) := fun i hi => ⟨ha9 (by omega), by
        have := hc9 i (encU (hd i)) (by rw [List.getElem?_map, List.getElem?_range hi]; rfl)
        exact this⟩
      have k0 : Aside (K w3 w3) := K.refl w3
      clear cc k3 hrow ha9 hc9
      go_wp2_with fail
      go_loopw [10] (fun t wr => ∃ i : Nat, t = .int .i64 i ∧ i ≤ n2 ∧ Aside (K w3 wr)) (fun t _ => n2 - (intOf t).toNat)
      case atStart => exact ⟨0, rfl, by omega, k0.out⟩
      case round =>
        obtain ⟨i, rfl, hi, HI⟩ := hrel
        clear k0
        by_cases hlt : i < n2
        · obtain ⟨rfl, cg⟩ := RH.out i hlt
          have ixg := fun w' => run_ixH g n2 c9 i hlt w'
          have CG : Aside (w3.cell? ⟨g, i, none⟩ = some (.int .u64 (hd i))) := cg
          have KR : Aside (K w2 wr) := K3.out.trans HI.out
          have hcg := HI.out.cell cg
          obtain ⟨b, off, q, rfl, hq, _, _⟩ := (SR.out.keep KR.out).at hlt
          have ix := fun w' => run_ixQ b off n2 c2 i hlt w'
          have HQ : Aside (P[i]? = some q) := hq
          have AT : Aside (∀ V, K w2 V → V.cell? ⟨b, off + i * 2, none⟩ = some (.string q.k) ∧ V.cell? ⟨b, off + i * 2 + 1, none⟩ = some (.string q.x)) := fun V k => by
            obtain ⟨b', off', q', e, hq', d0, d1⟩ := (SR.out.keep k).at hlt
            cases e
            obtain rfl := Option.some.inj (hq.symm.trans hq')
            exact ⟨d0, d1⟩
          have cp := AN.out.pair wr KR.out i q hq
          obtain ⟨x, ex⟩ : ∃ x, hd i = x := ⟨_, rfl⟩
          have EX : Aside (hd i = x) := ex
          rw [ex] at hcg cp
          obtain ⟨qk, qx⟩ := q
          simp only at cp
          clear cg hq ex
          go_wp2_with fail
          refine cp.mono ?_
          rintro e w4 ⟨rfl, k4⟩
          have K4 : Aside (K wr w4) := k4
          have KB : Aside (K wr (w4.alloc (.cells #[.string qk, .string qx] 39))) := k4.alloc _
          have BX : Aside ((w4.alloc (.cells #[.string qk, .string qx] 39)).heap[w4.heap.size]? = some (.cells #[.string qk, .string qx] 39)) := World.alloc_heap_new _ _
          have ca := AN.out.att _ (KR.out.trans KB.out) i (by rw [HL.out]; exact hlt)
          rw [EX.out] at ca
          clear cp k4 hcg
          go_wp2_with fail
          refine ca.mono ?_
          rintro e w5 ⟨rfl, k5⟩
          have K5 : Aside (K wr w5) := KB.out.trans k5
          have BX5 : Aside (w5.heap[w4.heap.size]? = some (.cells #[.string qk, .string qx] 39)) := k5.block BX.out
          obtain ⟨d0, d1⟩ := AT.out w5 (KR.out.trans K5.out)
          have cf := AN.out.find w5 (KR.out.trans K5.out) qk
          rw [show findP P qk = (i : Int) from find_self UP.out HQ.out, show hdO hd (i : Int) = hd i by unfold hdO; rw [if_neg (by omega), Int.toNat_natCast], decide_eq_true (show (0 : Int) ≤ (i : Int) by omega), EX.out] at cf
          clear ca k5 KB BX
          go_wp2_with fail
          refine cf.mono ?_
          rintro e w6 ⟨rfl, k6⟩
          have K6 : Aside (K wr w6) := K5.out.trans k6
          obtain ⟨e0, e1⟩ := two (k6.block BX5.out)
          obtain ⟨d0, d1⟩ := AT.out w6 (KR.out.trans K6.out)
          have hcg := (HI.out.trans K6.out).cell CG.out
          rw [EX.out] at hcg
          have KF : Aside (K w3 w6) := HI.out.trans K6.out
          clear cf k6 K5 BX5 K4 KR HI AT K6 HQ CG
          go_wp2_with fail
          go_quiet (fail)
          clear e0 e1 d0 d1 hcg
          go_wp2_with fail
          go_roundw
          case measure => simp [intOf]; omega
          case rel =>
            refine ⟨i + 1, by go_num, by omega, k_drawn KF.out _⟩
        · obtain rfl : i = n2 := by omega
          have cw := CA.out wr (K2.out.trans (K3.out.trans HI.out))
          clear CA HI
          go_wp2_with fail
          refine cw.mono ?_
          rintro e w7 ⟨rfl, k7⟩
          clear cw
          go_wp2_with fail
          go_ret
          exact ⟨rfl, k7⟩

end Wa
end Go.Proofs.YtbbjfebdihepnaaGreatDoor
