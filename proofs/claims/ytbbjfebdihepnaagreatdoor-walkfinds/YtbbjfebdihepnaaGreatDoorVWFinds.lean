/-
  The walk of the statement on Find, Rank, At.
-/
import Derived.Test.YtbbjfebdihepnaaGreatDoorWJ
namespace Go.Proofs.YtbbjfebdihepnaaGreatDoor
open Go.RowKit Go.Maps
attribute [local go_sem ↓] Go.wp_at_zero Go.wp_at_succ
namespace Wa
open Hp (Kept K No)
open Hd (U64 findL)
open Nd (Nv encU)
open Go.Proofs.YtbbjfebdihepnaaGreatDoor.So (Ad sp)

set_option maxRecDepth 100000 in
set_option maxHeartbeats 4000000 in
theorem finds_walk (w : World) (a : Option Addr) (n cap : Nat) (l : List Pr) (hP : Prw w a n cap l) (sa : Option Addr) (sn sc : Nat) (sh : Shp w sa sn sc) (key : ByteArray) (hk : key.size ≤ maxLen) (k : Int) (hk64 : Hp.In64 k) (hT : Bt.Tab w) :
    Calls Tryz.prog 3 #[.slice a n cap, .slice sa sn sc, .string key, .int .i64 k] w fun e w' => e = .returned (.bool true) ∧ K w w' := by
  have CA : Aside (∀ V, K w V → Calls Tryz.prog 10 #[] V fun e w' => e = .returned (.bool true) ∧ K w w') := fun V k => (awake_any V (hT.keep ⟨k.below⟩)).mono fun e w2 h => ⟨h.1, k.trans h.2⟩
  have CB : Aside (∀ V, K w V → Calls Tryz.prog 10 #[] V fun e w' => e = .returned (.bool true) ∧ K V w') := fun V k => awake_any V (hT.keep ⟨k.below⟩)
  have hnm : n ≤ 9223372036854775807 := by have := hP.p.cp; have := hP.p.mx; unfold maxLen at *; omega
  have hkm : key.size ≤ 9223372036854775807 := by unfold maxLen at hk; omega
  by_cases h60 : 60 < n
  · have ca := CA.out w (K.refl w)
    have hd : decide ((60 : Int) < (n : Int)) = true := decide_eq_true (by omega)
    clear CA
    go_enter Tryz.func3, Tryz.ntmps3
    go_wp2_with fail
    refine ca.mono ?_
    rintro e w1 ⟨rfl, k1⟩
    clear ca
    go_wp2_with fail
    go_ret
    exact ⟨rfl, k1⟩
  · have hd : decide ((60 : Int) < (n : Int)) = false := decide_eq_false (by omega)
    have cl := long_any hP.p hP.mx
    have HP : Aside _ := hP
    have SH : Aside _ := sh
    have HT : Aside (Bt.Tab w) := hT
    have HK : Aside (Hp.In64 k) := hk64
    have h60 : n ≤ 60 := by omega
    clear hP sh hT hk64
    go_enter Tryz.func3, Tryz.ntmps3
    go_wp2_with fail
    refine cl.mono ?_
    rintro e w1 ⟨b, rfl, hb, k1⟩
    have K1 : Aside (K w w1) := k1
    have HB : Aside (b = false → shortL l) := hb.out
    clear cl hb k1
    cases b with
    | true =>
      have ca := CA.out w1 K1.out
      clear CA
      go_wp2_with fail
      refine ca.mono ?_
      rintro e w2 ⟨rfl, k2⟩
      clear ca
      go_wp2_with fail
      go_ret
      exact ⟨rfl, k2⟩
    | false =>
      have HS : Aside (shortL l) := HB.out rfl
      by_cases h2 : 2000 < key.size
      · have hd2 : decide ((2000 : Int) < (key.size : Int)) = true := decide_eq_true (by omega)
        have ca := CA.out w1 K1.out
        clear CA
        go_wp2_with fail
        refine ca.mono ?_
        rintro e w2 ⟨rfl, k2⟩
        clear ca
        go_wp2_with fail
        go_ret
        exact ⟨rfl, k2⟩
      · have hd2 : decide ((2000 : Int) < (key.size : Int)) = false := decide_eq_false (by omega)
        have HK2 : Aside (key.size ≤ 2000) := by show key.size ≤ 2000; omega
        have cm := made_ans (HT.out.keep ⟨K1.out.below⟩) (HP.out.p.keep K1.out) HS.out h60 (SH.out.keep K1.out)
        clear h2
        go_wp2_with fail
        refine cm.mono ?_
        rintro e w2 ⟨A, root, hd, a2, n2, c2, rfl, hm⟩
        obtain ⟨k2, an, sr, up, ss, hn2⟩ := hm.out
        generalize sortedP l = P at an sr up ss
        have AN : Aside _ := an
        have SR : Aside _ := sr
        have SS : Aside (shortL P) := ss
        have K2 : Aside (K w w2) := K1.out.trans k2
        have hn60 : n2 ≤ 60 := by omega
        have cc := an.check w2 (K.refl w2)
        have HL : Aside (P.length = n2) := sr.len
        clear cm hm an sr up ss hn2 k2 K1 HP SH HT HB HS
        go_wp2_with fail
        refine cc.mono ?_
        rintro e w3 ⟨rfl, k3⟩
        have K3 : Aside (K w2 w3) := k3
        have cs := AN.out.size w3 k3
        rw [HL.out] at cs
        clear cc k3
        go_wp2_with fail
        refine cs.mono ?_
        rintro e w4 ⟨rfl, k4⟩
        have K4 : Aside (K w2 w4) := K3.out.trans k4
        have cf := AN.out.find w4 K4.out key
        clear cs k4 K3
        have hr : rankP P key ≤ n2 := by rw [← HL.out]; exact rankP_le _ _
        rcases find_cases P key with ⟨q, hq, hqk, e⟩ | ⟨hn, e⟩
        · rw [e, show hdO hd (rankP P key : Int) = hd (rankP P key) by unfold hdO; rw [if_neg (by omega), Int.toNat_natCast], decide_eq_true (show (0 : Int) ≤ (rankP P key : Int) by omega)] at cf
          have hlt : rankP P key < P.length := (List.getElem?_eq_some_iff.1 hq).1
          have hne := (AN.out.ne _ hlt).1
          obtain ⟨r, er⟩ : ∃ r, rankP P key = r := ⟨_, rfl⟩
          have ER : Aside (rankP P key = r) := er
          have E : Aside (findP P key = (r : Int)) := by rw [← er]; exact e
          rw [er] at cf hq hlt hne hr
          have HQ : Aside (P[r]? = some q) := hq
          obtain ⟨h, eh⟩ : ∃ h, hd r = h := ⟨_, rfl⟩
          rw [eh] at cf hne
          have EH : Aside (hd r = h) := eh
          have hb0 : (h == 0) = false := by simpa using hne
          have hlt2 : r < n2 := by rw [← HL.out]; exact hlt
          clear hqk e er eh hne hq hlt
          go_wp2_with fail
          refine cf.mono ?_
          rintro e w5 ⟨rfl, k5⟩
          have K5 : Aside (K w2 w5) := K4.out.trans k5
          have rf := rfind_any (SR.out.keep K5.out) SS.out (by omega) key HK2.out
          rw [E.out] at rf
          clear cf k5 K4
          have hge : decide ((0 : Int) ≤ (r : Int)) = true := decide_eq_true (by omega)
          go_wp2_with fail
          refine rf.mono ?_
          rintro e w6 ⟨rfl, k6⟩
          have K6 : Aside (K w2 w6) := K5.out.trans k6
          have cr := AN.out.rank w6 K6.out key
          rw [ER.out] at cr
          clear rf k6 K5
          go_wp2_with fail
          refine cr.mono ?_
          rintro e w7 ⟨rfl, k7⟩
          have K7 : Aside (K w2 w7) := K6.out.trans k7
          have rr := rrank_any (SR.out.keep K7.out) SS.out (by omega) key HK2.out
          rw [ER.out] at rr
          clear cr k7 K6
          go_wp2_with fail
          refine rr.mono ?_
          rintro e w8 ⟨rfl, k8⟩
          have K8 : Aside (K w2 w8) := K7.out.trans k8
          have cp := AN.out.pair w8 K8.out r q HQ.out
          rw [EH.out] at cp
          clear rr k8 K7
          go_wp2_with fail
          refine cp.mono ?_
          rintro e w9 ⟨rfl, k9⟩
          have K9 : Aside (K w2 w9) := K8.out.trans k9
          obtain ⟨b, off, q', rfl, hq', c0, c1⟩ := (SR.out.keep (K9.out.alloc (.cells #[.string q.k, .string q.x] 39))).at hlt2
          obtain rfl := Option.some.inj (HQ.out.symm.trans hq')
          have ix := fun w' => run_ixQ b off n2 c2 r hlt2 w'
          clear cp k9 K8 hq'
          go_wp2_with fail
          go_quiet (fail)
          have KX : Aside (K w2 ((w9.alloc (.cells #[.string q.k, .string q.x] 39)).drewN nq)) := by
            have k0 : K w2 (w9.alloc (.cells #[.string q.k, .string q.x] 39)) := K9.out.alloc _
            exact ⟨k0.os, k0.tape, k0.output, k0.size, k0.same⟩
          clear K9 c0 c1 ix

          clear hlt2
          rcases (show k < 0 ∨ (0 ≤ k ∧ (n2 : Int) ≤ k) ∨ (0 ≤ k ∧ k < n2) by omega) with h1 | ⟨h1, h2⟩ | ⟨h1, h2⟩
          · have hk0 : decide (k < (0 : Int)) = true := decide_eq_true h1
            have ca := AN.out.atno _ KX.out k (.inl h1)
            clear h1
            go_wp2_with fail
            refine ca.mono ?_
            rintro e wa ⟨rfl, ka⟩
            have cw := CA.out wa (K2.out.trans (KX.out.trans ka))
            clear ca ka KX
            go_wp2_with fail
            refine cw.mono ?_
            rintro e wb ⟨rfl, kb⟩
            clear cw
            go_wp2_with fail
            go_ret
            exact ⟨rfl, kb⟩
          · have hk0 : decide (k < (0 : Int)) = false := decide_eq_false (by omega)
            have hk1 : decide ((n2 : Int) ≤ k) = true := decide_eq_true h2
            have ca := AN.out.atno _ KX.out k (.inr (by rw [HL.out]; exact h2))
            clear h1 h2
            go_wp2_with fail
            refine ca.mono ?_
            rintro e wa ⟨rfl, ka⟩
            have cw := CA.out wa (K2.out.trans (KX.out.trans ka))
            clear ca ka KX
            go_wp2_with fail
            refine cw.mono ?_
            rintro e wb ⟨rfl, kb⟩
            clear cw
            go_wp2_with fail
            go_ret
            exact ⟨rfl, kb⟩
          · obtain ⟨i, rfl⟩ : ∃ i : Nat, k = i := ⟨k.toNat, by omega⟩
            have hi : i < n2 := by omega
            have hk0 : decide ((i : Int) < (0 : Int)) = false := decide_eq_false (by omega)
            have hk1 : decide ((n2 : Int) ≤ (i : Int)) = false := decide_eq_false (by omega)
            have ca := AN.out.att _ KX.out i (by rw [HL.out]; exact hi)
            obtain ⟨x, ex⟩ : ∃ x, hd i = x := ⟨_, rfl⟩
            rw [ex] at ca
            have EX : Aside (hd i = x) := ex
            clear h1 h2 ex
            go_wp2_with fail
            refine ca.mono ?_
            rintro e wa ⟨rfl, ka⟩
            have KA : Aside (K w2 wa) := KX.out.trans ka
            obtain ⟨q2, hq2⟩ : ∃ q2, P[i]? = some q2 := ⟨_, List.getElem?_eq_getElem (by rw [HL.out]; exact hi)⟩
            have HQ2 : Aside (P[i]? = some q2) := hq2
            have cp := AN.out.pair wa KA.out i q2 hq2
            rw [EX.out] at cp
            clear ca ka KX hq2
            go_wp2_with fail
            refine cp.mono ?_
            rintro e wb ⟨rfl, kb⟩
            have KB : Aside (K w2 wb) := KA.out.trans kb
            clear cp kb KA
            obtain ⟨b2, off2, q3, e2, hq3, d0, d1⟩ := (SR.out.keep (KB.out.alloc (.cells #[.string q2.k, .string q2.x] 39))).at hi
            try subst e2
            obtain rfl := Option.some.inj (HQ2.out.symm.trans hq3)
            have ix := fun w' => run_ixQ b2 off2 n2 c2 i hi w'
            obtain ⟨x0, x1⟩ := two (World.alloc_heap_new wb (.cells #[.string q2.k, .string q2.x] 39))
            have cw : Calls Tryz.prog 10 #[] (wb.alloc (.cells #[.string q2.k, .string q2.x] 39)).drew fun e w' => e = .returned (.bool true) ∧ (w'.cell? ⟨wb.heap.size, 0, none⟩ = some (.string q2.k) ∧ w'.cell? ⟨wb.heap.size, 1, none⟩ = some (.string q2.x) ∧ w'.cell? ⟨b2, off2 + i * 2, none⟩ = some (.string q2.k) ∧ w'.cell? ⟨b2, off2 + i * 2 + 1, none⟩ = some (.string q2.x)) ∧ K w w' := by
              refine (CB.out _ (K2.out.trans (KB.out.alloc _).drew)).mono ?_
              rintro e w1 ⟨rfl, k1⟩
              exact ⟨rfl, ⟨k1.cell x0, k1.cell x1, k1.cell d0, k1.cell d1⟩, (K2.out.trans (KB.out.alloc _).drew).trans k1⟩
            clear hq3 CA CB KB
            go_wp2_with fail
            go_region_held3 (fun V => V.cell? ⟨wb.heap.size, 0, none⟩ = some (.string q2.k) ∧ V.cell? ⟨wb.heap.size, 1, none⟩ = some (.string q2.x) ∧ V.cell? ⟨b2, off2 + i * 2, none⟩ = some (.string q2.k) ∧ V.cell? ⟨b2, off2 + i * 2 + 1, none⟩ = some (.string q2.x))
              (first | exact ⟨x0, x1, d0, d1⟩ | exact y1)
              (first | (go_at_call 10; refine cw.mono ?_; rintro e w6 ⟨rfl, y1, y2⟩))
            all_goals
              go_wp2
              go_ret
              exact ⟨rfl, y2⟩
        · rw [e, show hdO hd (-1) = 0 from rfl, show decide ((0 : Int) ≤ -1) = false from rfl] at cf
          obtain ⟨r, er⟩ : ∃ r, rankP P key = r := ⟨_, rfl⟩
          have ER : Aside (rankP P key = r) := er
          have E : Aside (findP P key = -1) := e
          rw [er] at hr
          clear hn e er
          go_wp2_with fail
          refine cf.mono ?_
          rintro e w5 ⟨rfl, k5⟩
          have K5 : Aside (K w2 w5) := K4.out.trans k5
          have rf := rfind_any (SR.out.keep K5.out) SS.out (by omega) key HK2.out
          rw [E.out] at rf
          clear cf k5 K4
          have hge : decide ((0 : Int) ≤ (-1 : Int)) = false := rfl
          go_wp2_with fail
          refine rf.mono ?_
          rintro e w6 ⟨rfl, k6⟩
          have K6 : Aside (K w2 w6) := K5.out.trans k6
          have cr := AN.out.rank w6 K6.out key
          rw [ER.out] at cr
          clear rf k6 K5
          go_wp2_with fail
          refine cr.mono ?_
          rintro e w7 ⟨rfl, k7⟩
          have K7 : Aside (K w2 w7) := K6.out.trans k7
          have rr := rrank_any (SR.out.keep K7.out) SS.out (by omega) key HK2.out
          rw [ER.out] at rr
          clear cr k7 K6
          go_wp2_with fail
          refine rr.mono ?_
          rintro e w8 ⟨rfl, k8⟩
          have KX : Aside (K w2 w8) := K7.out.trans k8
          have hlt2 : True := trivial
          clear rr k8 K7

          clear hlt2
          rcases (show k < 0 ∨ (0 ≤ k ∧ (n2 : Int) ≤ k) ∨ (0 ≤ k ∧ k < n2) by omega) with h1 | ⟨h1, h2⟩ | ⟨h1, h2⟩
          · have hk0 : decide (k < (0 : Int)) = true := decide_eq_true h1
            have ca := AN.out.atno _ KX.out k (.inl h1)
            clear h1
            go_wp2_with fail
            refine ca.mono ?_
            rintro e wa ⟨rfl, ka⟩
            have cw := CA.out wa (K2.out.trans (KX.out.trans ka))
            clear ca ka KX
            go_wp2_with fail
            refine cw.mono ?_
            rintro e wb ⟨rfl, kb⟩
            clear cw
            go_wp2_with fail
            go_ret
            exact ⟨rfl, kb⟩
          · have hk0 : decide (k < (0 : Int)) = false := decide_eq_false (by omega)
            have hk1 : decide ((n2 : Int) ≤ k) = true := decide_eq_true h2
            have ca := AN.out.atno _ KX.out k (.inr (by rw [HL.out]; exact h2))
            clear h1 h2
            go_wp2_with fail
            refine ca.mono ?_
            rintro e wa ⟨rfl, ka⟩
            have cw := CA.out wa (K2.out.trans (KX.out.trans ka))
            clear ca ka KX
            go_wp2_with fail
            refine cw.mono ?_
            rintro e wb ⟨rfl, kb⟩
            clear cw
            go_wp2_with fail
            go_ret
            exact ⟨rfl, kb⟩
          · obtain ⟨i, rfl⟩ : ∃ i : Nat, k = i := ⟨k.toNat, by omega⟩
            have hi : i < n2 := by omega
            have hk0 : decide ((i : Int) < (0 : Int)) = false := decide_eq_false (by omega)
            have hk1 : decide ((n2 : Int) ≤ (i : Int)) = false := decide_eq_false (by omega)
            have ca := AN.out.att _ KX.out i (by rw [HL.out]; exact hi)
            obtain ⟨x, ex⟩ : ∃ x, hd i = x := ⟨_, rfl⟩
            rw [ex] at ca
            have EX : Aside (hd i = x) := ex
            clear h1 h2 ex
            go_wp2_with fail
            refine ca.mono ?_
            rintro e wa ⟨rfl, ka⟩
            have KA : Aside (K w2 wa) := KX.out.trans ka
            obtain ⟨q2, hq2⟩ : ∃ q2, P[i]? = some q2 := ⟨_, List.getElem?_eq_getElem (by rw [HL.out]; exact hi)⟩
            have HQ2 : Aside (P[i]? = some q2) := hq2
            have cp := AN.out.pair wa KA.out i q2 hq2
            rw [EX.out] at cp
            clear ca ka KX hq2
            go_wp2_with fail
            refine cp.mono ?_
            rintro e wb ⟨rfl, kb⟩
            have KB : Aside (K w2 wb) := KA.out.trans kb
            clear cp kb KA
            obtain ⟨b2, off2, q3, e2, hq3, d0, d1⟩ := (SR.out.keep (KB.out.alloc (.cells #[.string q2.k, .string q2.x] 39))).at hi
            try subst e2
            obtain rfl := Option.some.inj (HQ2.out.symm.trans hq3)
            have ix := fun w' => run_ixQ b2 off2 n2 c2 i hi w'
            obtain ⟨x0, x1⟩ := two (World.alloc_heap_new wb (.cells #[.string q2.k, .string q2.x] 39))
            have cw : Calls Tryz.prog 10 #[] (wb.alloc (.cells #[.string q2.k, .string q2.x] 39)).drew fun e w' => e = .returned (.bool true) ∧ (w'.cell? ⟨wb.heap.size, 0, none⟩ = some (.string q2.k) ∧ w'.cell? ⟨wb.heap.size, 1, none⟩ = some (.string q2.x) ∧ w'.cell? ⟨b2, off2 + i * 2, none⟩ = some (.string q2.k) ∧ w'.cell? ⟨b2, off2 + i * 2 + 1, none⟩ = some (.string q2.x)) ∧ K w w' := by
              refine (CB.out _ (K2.out.trans (KB.out.alloc _).drew)).mono ?_
              rintro e w1 ⟨rfl, k1⟩
              exact ⟨rfl, ⟨k1.cell x0, k1.cell x1, k1.cell d0, k1.cell d1⟩, (K2.out.trans (KB.out.alloc _).drew).trans k1⟩
            clear hq3 CA CB KB
            go_wp2_with fail
            go_region_held3 (fun V => V.cell? ⟨wb.heap.size, 0, none⟩ = some (.string q2.k) ∧ V.cell? ⟨wb.heap.size, 1, none⟩ = some (.string q2.x) ∧ V.cell? ⟨b2, off2 + i * 2, none⟩ = some (.string q2.k) ∧ V.cell? ⟨b2, off2 + i * 2 + 1, none⟩ = some (.string q2.x))
              (first | exact ⟨x0, x1, d0, d1⟩ | exact y1)
              (first | (go_at_call 10; refine cw.mono ?_; rintro e w6 ⟨rfl, y1, y2⟩))
            all_goals
              go_wp2
              go_ret
              exact ⟨rfl, y2⟩

end Wa
end Go.Proofs.YtbbjfebdihepnaaGreatDoor
