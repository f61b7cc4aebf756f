/-
  The walk of the statement on what ranks do.
-/
import Derived.Test.YtbbjfebdihepnaaGreatDoorWK
import Derived.Laws.Concat
namespace Go.Proofs.YtbbjfebdihepnaaGreatDoor
open Go.RowKit Go.Maps
attribute [local go_sem ↓] Go.wp_at_zero Go.wp_at_succ
namespace Wa
open Hp (Kept K No)
open Hd (U64 findL)
open Nd (Nv encU)
open Go.Proofs.YtbbjfebdihepnaaGreatDoor.So (Ad sp)

set_option maxRecDepth 100000 in
set_option maxHeartbeats 4000000 in
theorem ranks_walk (w : World) (a : Option Addr) (n cap : Nat) (l : List Pr) (hP : Prw w a n cap l) (sa : Option Addr) (sn sc : Nat) (sh : Shp w sa sn sc) (ka : ByteArray) (hka : ka.size ≤ maxLen) (kb : ByteArray) (hkb : kb.size ≤ maxLen) (hT : Bt.Tab w) :
    Calls Tryz.prog 8 #[.slice a n cap, .slice sa sn sc, .string ka, .string kb] w fun e w' => e = .returned (.bool true) ∧ K w w' := by
  have CA : Aside (∀ V, K w V → Calls Tryz.prog 10 #[] V fun e w' => e = .returned (.bool true) ∧ K w w') := fun V k => (awake_any V (hT.keep ⟨k.below⟩)).mono fun e w2 h => ⟨h.1, k.trans h.2⟩
  have hnm : n ≤ 9223372036854775807 := by have := hP.p.cp; have := hP.p.mx; unfold maxLen at *; omega
  have hkm : ka.size ≤ 9223372036854775807 := by unfold maxLen at hka; omega
  have hkn : kb.size ≤ 9223372036854775807 := by unfold maxLen at hkb; omega
  by_cases h60 : 60 < n
  · have hd : decide ((60 : Int) < (n : Int)) = true := decide_eq_true (by omega)
    have ca := CA.out w (K.refl w)
    clear CA
    go_enter Tryz.func8, Tryz.ntmps8
    go_wp2_with fail
    refine ca.mono ?_
    rintro e w2 ⟨rfl, k2⟩
    clear ca
    go_wp2_with fail
    go_ret
    exact ⟨rfl, k2⟩
  · have hd : decide ((60 : Int) < (n : Int)) = false := decide_eq_false (by omega)
    have cl := long_any hP.p hP.mx
    have HP : Aside _ := hP
    have SH : Aside _ := sh
    have HT : Aside (Bt.Tab w) := hT
    have h60 : n ≤ 60 := by omega
    clear hP sh hT
    go_enter Tryz.func8, Tryz.ntmps8
    go_wp2_with fail
    refine cl.mono ?_
    rintro e w1 ⟨b, rfl, hb, k1⟩
    have K1 : Aside (K w w1) := k1
    have HB : Aside (b = false → shortL l) := hb.out
    clear cl hb k1
    by_cases hx : b = true ∨ 2000 < ka.size ∨ 2000 < kb.size
    · have ca := CA.out w1 K1.out
      clear CA
      cases b with
      | true =>
        go_wp2_with fail
        refine ca.mono ?_
        rintro e w2 ⟨rfl, k2⟩
        clear ca
        go_wp2_with fail
        go_ret
        exact ⟨rfl, k2⟩
      | false =>
        by_cases h2 : 2000 < ka.size
        · have hd2 : decide ((2000 : Int) < (ka.size : Int)) = true := decide_eq_true (by omega)
          go_wp2_with fail
          refine ca.mono ?_
          rintro e w2 ⟨rfl, k2⟩
          clear ca
          go_wp2_with fail
          go_ret
          exact ⟨rfl, k2⟩
        · have hd2 : decide ((2000 : Int) < (ka.size : Int)) = false := decide_eq_false (by omega)
          have hd3 : decide ((2000 : Int) < (kb.size : Int)) = true := decide_eq_true (by rcases hx with h | h | h <;> first | cases h | omega)
          clear hx
          go_wp2_with fail
          refine ca.mono ?_
          rintro e w2 ⟨rfl, k2⟩
          clear ca
          go_wp2_with fail
          go_ret
          exact ⟨rfl, k2⟩
    · obtain rfl : b = false := by simpa using fun h => hx (.inl h)
      have hk2 : ka.size ≤ 2000 ∧ kb.size ≤ 2000 := by omega
      have hd2 : decide ((2000 : Int) < (ka.size : Int)) = false := decide_eq_false (by omega)
      have hd3 : decide ((2000 : Int) < (kb.size : Int)) = false := decide_eq_false (by omega)
      have HS : Aside (shortL l) := HB.out rfl
      have cm := made_ans (HT.out.keep ⟨K1.out.below⟩) (HP.out.p.keep K1.out) HS.out h60 (SH.out.keep K1.out)
      obtain ⟨kz, ez⟩ : ∃ kz, ka ++ (⟨#[0]⟩ : ByteArray) = kz := ⟨_, rfl⟩
      have hadd : ∀ V, (Op.stringOp .add ka ⟨#[0]⟩).run Tryz.prog V = .ok (.string kz) V := fun V => by rw [← ez]; exact run_string_add_sum V ka ⟨#[0]⟩ (by have : (⟨#[0]⟩ : ByteArray).size = 1 := rfl; omega)
      have HZ : Aside (∀ x, cmp x kz < 0 ↔ cmp x ka ≤ 0) := fun x => by rw [← ez]; exact cmp_behind x ka
      clear hx ez hk2 HB
      go_wp2_with fail
      refine cm.mono ?_
      rintro e w2 ⟨A, root, hd, a2, n2, c2, rfl, hm⟩
      obtain ⟨k2, an, sr, up, ss, hn2⟩ := hm.out
      generalize sortedP l = P at an sr up ss
      have AN : Aside _ := an
      have UP : Aside (upP P) := up
      have K2 : Aside (K w w2) := K1.out.trans k2
      have hn60 : n2 ≤ 60 := by omega
      have cc := an.rank w2 (K.refl w2) ka
      have HL : Aside (P.length = n2) := sr.len
      obtain ⟨x, ex⟩ : ∃ x, rankP P ka = x := ⟨_, rfl⟩
      obtain ⟨y, ey⟩ : ∃ y, rankP P kb = y := ⟨_, rfl⟩
      obtain ⟨z, ez⟩ : ∃ z, rankP P kz = z := ⟨_, rfl⟩
      have EX : Aside (rankP P ka = x) := ex
      have EY : Aside (rankP P kb = y) := ey
      have EZ : Aside (rankP P kz = z) := ez
      have hxr : x ≤ n2 := by rw [← ex, ← HL.out]; exact rankP_le _ _
      have hyr : y ≤ n2 := by rw [← ey, ← HL.out]; exact rankP_le _ _
      have hzr : z ≤ n2 := by rw [← ez, ← HL.out]; exact rankP_le _ _
      rw [ex] at cc
      clear cm hm an sr up ss hn2 k2 K1 HP SH HT HS ex ey ez
      go_wp2_with fail
      refine cc.mono ?_
      rintro e w3 ⟨rfl, k3⟩
      have K3 : Aside (K w2 w3) := k3
      have cs := AN.out.rank w3 k3 kb
      rw [EY.out] at cs
      clear cc k3
      go_wp2_with fail
      refine cs.mono ?_
      rintro e w4 ⟨rfl, k4⟩
      have K4 : Aside (K w2 w4) := K3.out.trans k4
      have cz := AN.out.rank w4 K4.out kz
      rw [EZ.out] at cz
      clear cs k4 K3
      go_wp2_with fail
      refine cz.mono ?_
      rintro e w5 ⟨rfl, k5⟩
      have K5 : Aside (K w2 w5) := K4.out.trans k5
      have cf := AN.out.find w5 K5.out ka
      clear cz k5 K4
      have HZ2 : Aside (z = x + (if 0 ≤ findP P ka then 1 else 0)) := by rw [← EZ.out, ← EX.out]; exact rank_snoc UP.out HZ.out
      have HM : Aside ((cmp ka kb ≤ 0 → x ≤ y) ∧ (0 ≤ cmp ka kb → y ≤ x)) := ⟨fun h => by rw [← EX.out, ← EY.out]; exact rank_mono h, fun h => by rw [← EX.out, ← EY.out]; exact rank_mono (by rw [cmp_sw]; omega)⟩
      clear HZ UP EX EY EZ hadd
      have hx0 : decide ((0 : Int) ≤ (x : Int)) = true := decide_eq_true (by omega)
      have hx1 : decide ((x : Int) ≤ (n2 : Int)) = true := decide_eq_true (by omega)
      obtain ⟨hf, ehf⟩ : ∃ hf, hdO hd (findP P ka) = hf := ⟨_, rfl⟩
      rw [ehf] at cf
      clear ehf
      by_cases hi : 0 ≤ findP P ka
      · have hz1 : x + 1 = z := by have := HZ2.out; rw [if_pos hi] at this; exact this.symm
        subst hz1
        rw [decide_eq_true hi] at cf
        clear HZ2
        go_wp2_with fail
        refine cf.mono ?_
        rintro e w6 ⟨rfl, k6⟩
        have cw := CA.out w6 (K2.out.trans (K5.out.trans k6))
        clear cf k6 K5 CA
        rcases (show cmp ka kb < 0 ∨ cmp ka kb = 0 ∨ 0 < cmp ka kb by omega) with h | h | h
        · have g1 : Op.bytesLess ka.toList kb.toList = true := lss_of (decide_eq_true h)
          have g2 : (ka.toList == kb.toList) = false := eql_of (decide_eq_false (by omega))
          have g3 : x ≤ y := HM.out.1 (by omega)
          clear HM h
          go_wp2_with fail
          refine cw.mono ?_
          rintro e w7 ⟨rfl, k7⟩
          clear cw
          go_wp2_with fail
          go_ret
          exact ⟨rfl, k7⟩
        · have g1 : Op.bytesLess ka.toList kb.toList = false := lss_of (decide_eq_false (by omega))
          have g2 : (ka.toList == kb.toList) = true := eql_of (decide_eq_true h)
          have g3 : x ≤ y := HM.out.1 (by omega)
          have g4 : y ≤ x := HM.out.2 (by omega)
          clear HM h
          go_wp2_with fail
          refine cw.mono ?_
          rintro e w7 ⟨rfl, k7⟩
          clear cw
          go_wp2_with fail
          go_ret
          exact ⟨rfl, k7⟩
        · have g1 : Op.bytesLess ka.toList kb.toList = false := lss_of (decide_eq_false (by omega))
          have g2 : (ka.toList == kb.toList) = false := eql_of (decide_eq_false (by omega))
          have g4 : y ≤ x := HM.out.2 (by omega)
          clear HM h
          go_wp2_with fail
          refine cw.mono ?_
          rintro e w7 ⟨rfl, k7⟩
          clear cw
          go_wp2_with fail
          go_ret
          exact ⟨rfl, k7⟩
      · have hz1 : x = z := by have := HZ2.out; rw [if_neg hi] at this; exact this.symm
        subst hz1
        rw [decide_eq_false hi] at cf
        clear HZ2
        go_wp2_with fail
        refine cf.mono ?_
        rintro e w6 ⟨rfl, k6⟩
        have cw := CA.out w6 (K2.out.trans (K5.out.trans k6))
        clear cf k6 K5 CA
        rcases (show cmp ka kb < 0 ∨ cmp ka kb = 0 ∨ 0 < cmp ka kb by omega) with h | h | h
        · have g1 : Op.bytesLess ka.toList kb.toList = true := lss_of (decide_eq_true h)
          have g2 : (ka.toList == kb.toList) = false := eql_of (decide_eq_false (by omega))
          have g3 : x ≤ y := HM.out.1 (by omega)
          clear HM h
          go_wp2_with fail
          refine cw.mono ?_
          rintro e w7 ⟨rfl, k7⟩
          clear cw
          go_wp2_with fail
          go_ret
          exact ⟨rfl, k7⟩
        · have g1 : Op.bytesLess ka.toList kb.toList = false := lss_of (decide_eq_false (by omega))
          have g2 : (ka.toList == kb.toList) = true := eql_of (decide_eq_true h)
          have g3 : x ≤ y := HM.out.1 (by omega)
          have g4 : y ≤ x := HM.out.2 (by omega)
          clear HM h
          go_wp2_with fail
          refine cw.mono ?_
          rintro e w7 ⟨rfl, k7⟩
          clear cw
          go_wp2_with fail
          go_ret
          exact ⟨rfl, k7⟩
        · have g1 : Op.bytesLess ka.toList kb.toList = false := lss_of (decide_eq_false (by omega))
          have g2 : (ka.toList == kb.toList) = false := eql_of (decide_eq_false (by omega))
          have g4 : y ≤ x := HM.out.2 (by omega)
          clear HM h
          go_wp2_with fail
          refine cw.mono ?_
          rintro e w7 ⟨rfl, k7⟩
          clear cw
          go_wp2_with fail
          go_ret
          exact ⟨rfl, k7⟩

end Wa
end Go.Proofs.YtbbjfebdihepnaaGreatDoor
