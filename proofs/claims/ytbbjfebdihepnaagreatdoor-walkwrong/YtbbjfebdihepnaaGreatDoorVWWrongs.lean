/-
  The walk of the statement on trees of which a node was changed.
-/
import Derived.Test.YtbbjfebdihepnaaGreatDoorVWWrongG
import Derived.Test.YtbbjfebdihepnaaGreatDoorN1
namespace Go.Proofs.YtbbjfebdihepnaaGreatDoor
open Go.RowKit Go.Maps
attribute [local go_sem ↓] Go.wp_at_zero Go.wp_at_succ
namespace Wa
open Hp (Kept K No)
open Hd (U64 findL)
open Nd (Nv encU six wrapN)
open Go.Proofs.YtbbjfebdihepnaaGreatDoor.So (Ad sp)

theorem tv_no {w0 w : World} {A : Ad} {c : Nat} {T : List Hd.Sl} {W : Int → Int} (h : Gs w0 w A c T W) : Tv w0 w A c T W .nil [] := ⟨h, ⟨trivial, by simp [Tr.items, hsOf], by simp [Tr.items]⟩, ⟨by decide, by decide⟩, rfl⟩

set_option maxRecDepth 100000 in
set_option maxHeartbeats 8000000 in
theorem wrong_walk (w : World) (a : Option Addr) (n cap : Nat) (l : List Pr) (hP : Prw w a n cap l) (sa : Option Addr) (sn sc : Nat) (sh : Shp w sa sn sc) (pt : Int) (_ : Hp.In64 pt) (o : Nv) (ho : o.Ok) (sd : Bool) (key : ByteArray) (hk : key.size ≤ maxLen) (hT : Bt.Tab w) :
    Calls Tryz.prog 6 #[.slice a n cap, .slice sa sn sc, .int .i64 pt, o.v, .bool sd, .string key] w fun e w' => e = .returned (.bool true) ∧ K w w' := by
  have CA : Aside (∀ V, K w V → Calls Tryz.prog 10 #[] V fun e w' => e = .returned (.bool true) ∧ K w w') := fun V k => (awake_any V (hT.keep ⟨k.below⟩)).mono fun e w2 h => ⟨h.1, k.trans h.2⟩
  have hnm : n ≤ 9223372036854775807 := by have := hP.p.cp; have := hP.p.mx; unfold maxLen at *; omega
  have hkm : key.size ≤ 9223372036854775807 := by unfold maxLen at hk; omega
  have hb0 : (w.alloc (.cells o.cs 54)).heap[w.heap.size]? = some (.cells o.cs 54) := World.alloc_heap_new _ _
  have HB0 : Aside ((w.alloc (.cells o.cs 54)).heap[w.heap.size]? = some (.cells o.cs 54)) := hb0
  have K0 : Aside (K w (w.alloc (.cells o.cs 54))) := (K.refl w).alloc _
  have hV : 1 < w.heap.size := Hp.lt0 hT
  have HV : Aside (1 < w.heap.size) := hV
  have OK : Aside o.Ok := ho
  have hc0 := ho.c.1
  have hc1 := ho.c.2
  clear hb0 hV ho
  obtain ⟨oa, ob, oc, od, oe, of⟩ := o
  simp only at hc0 hc1
  by_cases h60 : 30 < n
  · have hd : decide ((30 : Int) < (n : Int)) = true := decide_eq_true (by omega)
    have ca := CA.out _ K0.out
    go_enter Tryz.func6, Tryz.ntmps6
    clear CA
    go_wp2_with fail
    refine ca.mono ?_
    rintro e wx ⟨rfl, kx⟩
    clear ca
    go_wp2_with fail
    go_ret
    exact ⟨rfl, kx⟩
  have hd : decide ((30 : Int) < (n : Int)) = false := decide_eq_false (by omega)
  have cl := long_any (hP.keep K0.out).p hP.mx
  have HP : Aside _ := hP
  have SH : Aside _ := sh
  have HT : Aside (Bt.Tab w) := hT
  have h60 : n ≤ 30 := by omega
  clear hP sh hT
  go_enter Tryz.func6, Tryz.ntmps6
  go_wp2_with fail
  refine cl.mono ?_
  rintro e w1 ⟨b, rfl, hb, k1⟩
  have K1 : Aside (K w w1) := K0.out.trans k1
  have HB1 : Aside (w1.heap[w.heap.size]? = some (.cells #[encU oa, encU ob, encU oc, encU od, encU oe, encU of] 54)) := k1.block HB0.out
  have HB : Aside (b = false → shortL l) := hb.out
  clear cl hb k1 HB0
  cases b with
  | true =>
    have ca := CA.out w1 K1.out
    clear CA
    go_wp2_with fail
    refine ca.mono ?_
    rintro e wx ⟨rfl, kx⟩
    clear ca
    go_wp2_with fail
    go_ret
    exact ⟨rfl, kx⟩
  | false =>
    have HS : Aside (shortL l) := HB.out rfl
    clear HB
    by_cases h2 : 1000 < key.size
    · have hd2 : decide ((1000 : Int) < (key.size : Int)) = true := decide_eq_true (by omega)
      have ca := CA.out w1 K1.out
      clear CA
      go_wp2_with fail
      refine ca.mono ?_
      rintro e wx ⟨rfl, kx⟩
      clear ca
      go_wp2_with fail
      go_ret
      exact ⟨rfl, kx⟩
    have hd2 : decide ((1000 : Int) < (key.size : Int)) = false := decide_eq_false (by omega)
    have cm := made_any (HT.out.keep ⟨K1.out.below⟩) (HP.out.p.keep K1.out) HS.out (by omega) (SH.out.keep K1.out)
    clear h2
    go_wp2_with fail
    refine cm.mono ?_
    rintro e w2 ⟨A, root, a2, n2, c2, rfl, hm⟩
    obtain ⟨⟨T, W, t, tv, hroot, _⟩, sr, hn2⟩ := hm.out
    have h3 := sr.p.len
    have hup : upP (sortedP l) := sorted_all l
    generalize sortedP l = P at tv h3 hup
    subst hroot
    have TV : Aside (Tv w1 w2 A 180 T W t P) := tv
    have HL : Aside (P.length = n2) := h3
    have HB2 : Aside (w2.heap[w.heap.size]? = some (.cells #[encU oa, encU ob, encU oc, encU od, encU oe, encU of] 54)) := tv.k.block HB1.out
    have cq := (tv.ans hup).list w2 (K.refl w2)
    rw [h3] at cq
    have hn30 : n2 ≤ 30 := by omega
    obtain ⟨root, hroot⟩ : ∃ root, t.root = root := ⟨_, rfl⟩
    rw [hroot] at cq ⊢
    have HR : Aside (t.root = root) := hroot
    have HLT : Aside (w.heap.size < w1.heap.size) := (Array.getElem?_eq_some_iff.1 HB1.out).1
    clear cm hm tv sr hn2 h3 hup HP HS SH HT HB1 hroot
    go_wp2_with fail
    refine cq.mono ?_
    rintro e w3 ⟨v, rfl, hrow, k3⟩
    obtain ⟨g, a9, c9, rfl, ha9, hc9⟩ := So.row1 hrow
    have K3 : Aside (K w2 w3) := k3
    have RH : Aside (∀ i, i < n2 → a9 = some ⟨g, 0, none⟩ ∧ w3.cell? ⟨g, i, none⟩ = some (.int .u64 (hdI t.items i))) := fun i hi => ⟨ha9 (by omega), by
      have := hc9 i (encU (hdI t.items i)) (by rw [List.getElem?_map, List.getElem?_range hi]; rfl)
      exact this⟩
    clear cq k3 hrow ha9 hc9
    by_cases h0 : n2 = 0
    · subst h0
      have cc := (tv_no (TV.out.gs.keep K3.out)).check
      go_wp2_with fail
      refine cc.mono ?_
      rintro e w4 ⟨rfl, k4⟩
      have cs := (tv_no (TV.out.gs.keep (K3.out.trans k4))).size
      have K4 : Aside (K w3 w4) := k4
      clear cc k4
      go_wp2_with fail
      refine cs.mono ?_
      rintro e w5 ⟨rfl, k5⟩
      have ca := CA.out w5 (K1.out.trans (TV.out.k.trans (K3.out.trans (K4.out.trans k5))))
      clear cs k5
      clear CA
      go_wp2_with fail
      refine ca.mono ?_
      rintro e wx ⟨rfl, kx⟩
      clear ca
      go_wp2_with fail
      go_ret
      exact ⟨rfl, kx⟩
    have hnb : ((n2 : Int) == 0) = false := by simp; omega
    have hn0 : 0 < n2 := by omega
    obtain ⟨r, i, hr, hr0, hr1, hri, hi⟩ := idx_of pt hn0
    obtain ⟨rfl, cg⟩ := RH.out i hi
    have ixg := fun w' => run_ixH g n2 c9 i hi w'
    obtain ⟨old, hold, hu9, hok9⟩ := TV.out.node (i := i) (by rw [HL.out]; exact hi)
    obtain ⟨x, ex⟩ : ∃ x, hdI t.items i = x := ⟨_, rfl⟩
    rw [ex] at cg hold hu9
    have HOLD : Aside ((vw T W).nd x = some old ∧ U64 x ∧ old.Ok) := ⟨hold, hu9, hok9⟩
    have cn := (TV.out.gs.keep K3.out).nget hold
    clear hold hu9 hok9 ex h0
    obtain ⟨ua, ub, uc, ud, ue, uf⟩ := old
    go_wp2_with fail
    refine cn.mono ?_
    rintro e w4 ⟨rfl, k4⟩
    have K34 : Aside (K w2 w4) := K3.out.trans k4
    have K44 : Aside (K w3 w4) := k4
    have HZ : Aside ((w4.alloc (.cells #[encU 0, encU 0, encU 0, encU 0, encU 0, encU 0] 54)).heap[w4.heap.size]? = some (.cells #[encU 0, encU 0, encU 0, encU 0, encU 0, encU 0] 54)) := World.alloc_heap_new _ _
    clear cn k4 K3 cg
    go_wp2_with (with_reducible refine wrapN ?_)
    unfold Nd.Wrapd
    refine Nd.wpList_store_six (v0 := encU ua) (v1 := encU ub) (v2 := encU uc) (v3 := encU ud) (v4 := encU ue) (v5 := encU uf) rfl 54 (.tmp 19) (.tmp 83) rfl (by kernel_rfl) w4.heap.size HZ.out rfl rfl (by simp [Value.oneCell']) ?_
    intro V4 hv4 kv4
    have HS4 : Aside (w2.heap.size ≤ w4.heap.size ∧ w.heap.size < w4.heap.size) := by
      have h1 := K34.out.size
      have h2 := HLT.out
      have h3 := TV.out.k.size
      exact ⟨h1, by omega⟩
    have K4 : Aside (K w2 V4) := Hp.K.thenKept (K34.out.alloc _) kv4 HS4.out.1
    have KK4 : Aside (K w3 V4) := Hp.K.thenKept (K44.out.alloc _) kv4 K44.out.size
    have HX4 : Aside (V4.heap[w.heap.size]? = some (.cells #[encU oa, encU ob, encU oc, encU od, encU oe, encU of] 54)) := K4.out.block HB2.out
    have HY4 : Aside (V4.heap[w4.heap.size]? = some (.cells #[encU ua, encU ub, encU uc, encU ud, encU ue, encU uf] 54)) := hv4
    clear hv4 kv4 HZ K34 K44
    cases sd with
    | true =>
      obtain ⟨m, j, hm, hm64, hmj, hj⟩ := idx_two oc hc0 hn0
      obtain ⟨_, cgj⟩ := RH.out j hj
      have cj := KK4.out.cell cgj
      have ixj := fun w' => run_ixH g n2 c9 j hj w'
      obtain ⟨y, ey⟩ : ∃ y, hdI t.items j = y := ⟨_, rfl⟩
      rw [ey] at cj
      have YU : Aside (U64 y) := by
        obtain ⟨_, _, h, _⟩ := TV.out.node (i := j) (by rw [HL.out]; exact hj)
        rw [← ey]
        exact h
      obtain ⟨e0, e1, e2, e3, e4, e5⟩ := six HX4.out
      obtain ⟨f0, f1, f2, f3, f4, f5⟩ := six HY4.out
      have fz := Nd.frz HY4.out 2
      have hy5 := (heap_setCell_same _ w4.heap.size 2 _ _ (encU y) HY4.out).trans (show _ = some (Obj.cells #[encU ua, encU ub, encU y, encU ud, encU ue, encU uf] 54) by rfl)
      obtain ⟨y0, y1, y2, y3, y4, y5⟩ := six hy5
      have K5 : Aside (K w2 (V4.setCell ⟨w4.heap.size, 2, none⟩ (encU y))) := Hp.K.setCell K4.out _ HS4.out.1
      have HX5 : Aside ((V4.setCell ⟨w4.heap.size, 2, none⟩ (encU y)).heap[w.heap.size]? = some (.cells #[encU oa, encU ob, encU oc, encU od, encU oe, encU of] 54)) := K5.out.block HB2.out
      clear hy5
      clear K4 HX4 HY4 KK4 cgj ey
      go_wp2_with (with_reducible refine wrapN ?_)
      unfold Nd.Wrapd
      refine Nd.wpList_store_six (v0 := encU ua) (v1 := encU ub) (v2 := encU y) (v3 := encU ud) (v4 := encU ue) (v5 := encU uf) rfl 54 (.tmp 9) (.tmp 97) rfl (by kernel_rfl) w.heap.size HX5.out rfl rfl (by simp [Value.oneCell']) ?_
      intro V hv kv
      have HXV : Aside (V.heap[w.heap.size]? = some (.cells #[encU ua, encU ub, encU y, encU ud, encU ue, encU uf] 54)) := hv
      have g0 := (TV.out.gs.keep K5.out).turn0 kv HLT.out HX5.out (by have := HV.out; omega) (Nat.le_refl _) K1.out
      have NOK : Aside (⟨ua, ub, y, ud, ue, uf⟩ : Nv).Ok := by
        have h := HOLD.out.2.2
        exact ⟨h.a, h.b, YU.out, h.d, h.e, h.f⟩
      clear hv kv e0 e1 e2 e3 e4 e5 f0 f1 f2 f3 f4 f5 fz y0 y1 y2 y3 y4 y5 HX5 K5 cj ixj hm hmj ixg hr hri
      obtain ⟨w0', kw0, gs0⟩ := g0
      have KW : Aside (K w w0') := kw0
      have cp := gs0.nput HOLD.out.1 NOK.out
      obtain ⟨e0, e1, e2, e3, e4, e5⟩ := six HXV.out
      clear gs0 kw0 HXV
      go_wp2_with fail
      refine cp.mono ?_
      rintro e w7 ⟨rfl, h7⟩
      obtain ⟨_, W', gs7⟩ := h7.out
      have wn := gs7.wng (x := root) (by rw [← HR.out]; exact TV.out.u)
      have WN : Aside (Wng w7 A root) := wn
      have KR : Aside (∀ V, K w7 V → K w V) := fun V k => KW.out.trans (gs7.keep k).k
      have cf := wn.find w7 (K.refl w7) key
      clear cp h7 gs7 wn e0 e1 e2 e3 e4 e5
      go_wp2_with fail
      refine cf.mono ?_
      rintro e w8 ⟨y8, b8, rfl, k8⟩
      have K8 : Aside (K w7 w8) := k8
      have cr := WN.out.rank w8 k8 key
      clear cf k8
      go_wp2_with fail
      refine cr.mono ?_
      rintro e w9 ⟨y9, rfl, k9⟩
      have K9 : Aside (K w7 w9) := K8.out.trans k9
      clear cr k9 K8
      go_wp2_with fail
      refine (WN.out.att w9 K9.out _).mono ?_
      rintro e w10 ⟨h10, y10, rfl, k10⟩
      have K10 : Aside (K w7 w10) := K9.out.trans k10
      clear k10 K9
      rcases WN.out.all with ⟨Q, hq, an, up, hle⟩ | ⟨bc, bf, bl⟩
      · obtain ⟨q, hql⟩ : ∃ q, Q.length = q := ⟨_, rfl⟩
        have AN : Aside _ := an
        have UP : Aside (upP Q) := up
        have QL : Aside (Q.length = q) := hql
        have cl := an.list w10 K10.out
        rw [hql] at cl hle
        clear an up hql
        go_wp2_with fail
        refine cl.mono ?_
        rintro e w11 ⟨v, rfl, hrow, k11⟩
        obtain ⟨g2, a21, c21, rfl, ha21, hc21⟩ := So.row1 hrow
        have K11 : Aside (K w7 w11) := K10.out.trans k11
        have RH2 : Aside (∀ i, i < q → a21 = some ⟨g2, 0, none⟩ ∧ w11.cell? ⟨g2, i, none⟩ = some (.int .u64 (hq i))) := fun i hi => ⟨ha21 (by omega), by
          have := hc21 i (encU (hq i)) (by rw [List.getElem?_map, List.getElem?_range hi]; rfl)
          exact this⟩
        have cc := AN.out.check w11 K11.out
        clear cl k11 hrow ha21 hc21 K10
        go_wp2_with fail
        refine cc.mono ?_
        rintro e w12 ⟨rfl, k12⟩
        have K12 : Aside (K w11 w12) := k12
        have k0 : Aside (K w12 w12) := K.refl w12
        clear cc k12
        go_wp2_with fail
        go_loopw [22, 23] (fun s t wr => ∃ (i : Nat) (lt : ByteArray), s = .string lt ∧ t = .int .i64 i ∧ i ≤ q ∧ Aside ((0 < i → ∃ p, Q[i - 1]? = some p ∧ p.k = lt) ∧ K w12 wr)) (fun _ t _ => q - (intOf t).toNat)
        case atStart => exact ⟨0, ⟨#[]⟩, rfl, rfl, by omega, (fun h => absurd h (by omega)), k0.out⟩
        case round =>
          obtain ⟨i2, lt, rfl, rfl, hi2, HI⟩ := hrel
          clear k0
          by_cases hlt : i2 < q
          · obtain ⟨rfl, cg⟩ := RH2.out i2 hlt
            have ixg := fun w' => run_ixH g2 q c21 i2 hlt w'
            have KR2 : Aside (K w7 wr) := K11.out.trans (K12.out.trans HI.out.2)
            have hcg := (K12.out.trans HI.out.2).cell cg
            obtain ⟨p, hp⟩ : ∃ p, Q[i2]? = some p := ⟨_, List.getElem?_eq_getElem (by rw [QL.out]; exact hlt)⟩
            have cp := AN.out.pair wr KR2.out i2 p hp
            have HPP : Aside (Q[i2]? = some p) := hp
            obtain ⟨x2, ex2⟩ : ∃ x2, hq i2 = x2 := ⟨_, rfl⟩
            rw [ex2] at hcg cp
            obtain ⟨pk, px⟩ := p
            simp only at cp
            clear cg hp ex2
            go_wp2_with fail
            refine cp.mono ?_
            rintro e w13 ⟨rfl, k13⟩
            obtain ⟨f0, f1⟩ := two (World.alloc_heap_new w13 (.cells #[.string pk, .string px] 39))
            have KF : Aside (K w12 (w13.alloc (.cells #[.string pk, .string px] 39))) := HI.out.2.trans (k13.alloc _)
            clear cp k13 hcg KR2
            by_cases hz : i2 = 0
            · subst hz
              clear HI
              go_wp2_with fail
              go_roundw
              case measure => simp [intOf]; omega
              case rel => exact ⟨1, pk, rfl, rfl, by omega, (fun _ => ⟨⟨pk, px⟩, HPP.out, rfl⟩), KF.out⟩
            · have hz0 : 0 < i2 := by omega
              have hcmp : cmp lt pk < 0 := by
                obtain ⟨p0, hp0, rfl⟩ := HI.out.1 hz0
                obtain ⟨l1, v1⟩ := List.getElem?_eq_some_iff.1 hp0
                obtain ⟨l2, v2⟩ := List.getElem?_eq_some_iff.1 HPP.out
                have := List.pairwise_iff_getElem.1 UP.out (i2 - 1) i2 l1 l2 (by omega)
                rw [v1, v2] at this
                exact this
              have g1 : Op.bytesLess pk.toList lt.toList = false := lss_of (decide_eq_false (by rw [cmp_sw]; omega))
              have g2' : (pk.toList == lt.toList) = false := eql_of (decide_eq_false (by rw [cmp_sw]; omega))
              clear HI hcmp
              go_wp2_with fail
              go_roundw
              case measure => simp [intOf]; omega
              case rel => exact ⟨i2 + 1, pk, rfl, by go_num, by omega, (fun _ => ⟨⟨pk, px⟩, HPP.out, rfl⟩), KF.out⟩
          · obtain rfl : i2 = q := by omega
            have cz := AN.out.size wr (K11.out.trans (K12.out.trans HI.out.2))
            rw [QL.out] at cz
            have KE : Aside (K w7 wr) := K11.out.trans (K12.out.trans HI.out.2)
            clear HI
            go_wp2_with fail
            refine cz.mono ?_
            rintro e w14 ⟨rfl, k14⟩
            have ca := CA.out w14 (KR.out _ (KE.out.trans k14))
            clear cz k14
            clear CA
            go_wp2_with fail
            refine ca.mono ?_
            rintro e wx ⟨rfl, kx⟩
            clear ca
            go_wp2_with fail
            go_ret
            exact ⟨rfl, kx⟩
      · have cl := bl w10 K10.out
        have BC : Aside _ := bc
        have BF : Aside _ := bf
        clear bc bf bl
        go_wp2_with fail
        refine cl.mono ?_
        rintro e w11 ⟨v, rfl, k11⟩
        have K11 : Aside (K w7 w11) := K10.out.trans k11
        have cc := BC.out w11 K11.out
        clear cl k11 K10
        go_wp2_with fail
        refine cc.mono ?_
        rintro e w12 ⟨rfl, k12⟩
        have K12 : Aside (K w7 w12) := K11.out.trans k12
        have cf := BF.out w12 K12.out
        clear cc k12 K11
        go_wp2_with fail
        refine cf.mono ?_
        rintro e w13 ⟨rfl, k13⟩
        have ca := CA.out w13 (KR.out _ (K12.out.trans k13))
        clear cf k13
        clear CA
        go_wp2_with fail
        refine ca.mono ?_
        rintro e wx ⟨rfl, kx⟩
        clear ca
        go_wp2_with fail
        go_ret
        exact ⟨rfl, kx⟩
    | false =>
      have g0 := (TV.out.gs.keep K4.out).turn0 (Kept.refl _ _) HLT.out HX4.out (by have := HV.out; omega) (Nat.le_refl _) K1.out
      have HXV : Aside _ := HX4.out
      have NOK : Aside (⟨oa, ob, oc, od, oe, of⟩ : Nv).Ok := OK.out
      clear HY4 KK4 K4 HX4 ixg hr hri
      obtain ⟨w0', kw0, gs0⟩ := g0
      have KW : Aside (K w w0') := kw0
      have cp := gs0.nput HOLD.out.1 NOK.out
      obtain ⟨e0, e1, e2, e3, e4, e5⟩ := six HXV.out
      clear gs0 kw0 HXV
      go_wp2_with fail
      refine cp.mono ?_
      rintro e w7 ⟨rfl, h7⟩
      obtain ⟨_, W', gs7⟩ := h7.out
      have wn := gs7.wng (x := root) (by rw [← HR.out]; exact TV.out.u)
      have WN : Aside (Wng w7 A root) := wn
      have KR : Aside (∀ V, K w7 V → K w V) := fun V k => KW.out.trans (gs7.keep k).k
      have cf := wn.find w7 (K.refl w7) key
      clear cp h7 gs7 wn e0 e1 e2 e3 e4 e5
      go_wp2_with fail
      refine cf.mono ?_
      rintro e w8 ⟨y8, b8, rfl, k8⟩
      have K8 : Aside (K w7 w8) := k8
      have cr := WN.out.rank w8 k8 key
      clear cf k8
      go_wp2_with fail
      refine cr.mono ?_
      rintro e w9 ⟨y9, rfl, k9⟩
      have K9 : Aside (K w7 w9) := K8.out.trans k9
      clear cr k9 K8
      go_wp2_with fail
      refine (WN.out.att w9 K9.out _).mono ?_
      rintro e w10 ⟨h10, y10, rfl, k10⟩
      have K10 : Aside (K w7 w10) := K9.out.trans k10
      clear k10 K9
      rcases WN.out.all with ⟨Q, hq, an, up, hle⟩ | ⟨bc, bf, bl⟩
      · obtain ⟨q, hql⟩ : ∃ q, Q.length = q := ⟨_, rfl⟩
        have AN : Aside _ := an
        have UP : Aside (upP Q) := up
        have QL : Aside (Q.length = q) := hql
        have cl := an.list w10 K10.out
        rw [hql] at cl hle
        clear an up hql
        go_wp2_with fail
        refine cl.mono ?_
        rintro e w11 ⟨v, rfl, hrow, k11⟩
        obtain ⟨g2, a21, c21, rfl, ha21, hc21⟩ := So.row1 hrow
        have K11 : Aside (K w7 w11) := K10.out.trans k11
        have RH2 : Aside (∀ i, i < q → a21 = some ⟨g2, 0, none⟩ ∧ w11.cell? ⟨g2, i, none⟩ = some (.int .u64 (hq i))) := fun i hi => ⟨ha21 (by omega), by
          have := hc21 i (encU (hq i)) (by rw [List.getElem?_map, List.getElem?_range hi]; rfl)
          exact this⟩
        have cc := AN.out.check w11 K11.out
        clear cl k11 hrow ha21 hc21 K10
        go_wp2_with fail
        refine cc.mono ?_
        rintro e w12 ⟨rfl, k12⟩
        have K12 : Aside (K w11 w12) := k12
        have k0 : Aside (K w12 w12) := K.refl w12
        clear cc k12
        go_wp2_with fail
        go_loopw [22, 23] (fun s t wr => ∃ (i : Nat) (lt : ByteArray), s = .string lt ∧ t = .int .i64 i ∧ i ≤ q ∧ Aside ((0 < i → ∃ p, Q[i - 1]? = some p ∧ p.k = lt) ∧ K w12 wr)) (fun _ t _ => q - (intOf t).toNat)
        case atStart => exact ⟨0, ⟨#[]⟩, rfl, rfl, by omega, (fun h => absurd h (by omega)), k0.out⟩
        case round =>
          obtain ⟨i2, lt, rfl, rfl, hi2, HI⟩ := hrel
          clear k0
          by_cases hlt : i2 < q
          · obtain ⟨rfl, cg⟩ := RH2.out i2 hlt
            have ixg := fun w' => run_ixH g2 q c21 i2 hlt w'
            have KR2 : Aside (K w7 wr) := K11.out.trans (K12.out.trans HI.out.2)
            have hcg := (K12.out.trans HI.out.2).cell cg
            obtain ⟨p, hp⟩ : ∃ p, Q[i2]? = some p := ⟨_, List.getElem?_eq_getElem (by rw [QL.out]; exact hlt)⟩
            have cp := AN.out.pair wr KR2.out i2 p hp
            have HPP : Aside (Q[i2]? = some p) := hp
            obtain ⟨x2, ex2⟩ : ∃ x2, hq i2 = x2 := ⟨_, rfl⟩
            rw [ex2] at hcg cp
            obtain ⟨pk, px⟩ := p
            simp only at cp
            clear cg hp ex2
            go_wp2_with fail
            refine cp.mono ?_
            rintro e w13 ⟨rfl, k13⟩
            obtain ⟨f0, f1⟩ := two (World.alloc_heap_new w13 (.cells #[.string pk, .string px] 39))
            have KF : Aside (K w12 (w13.alloc (.cells #[.string pk, .string px] 39))) := HI.out.2.trans (k13.alloc _)
            clear cp k13 hcg KR2
            by_cases hz : i2 = 0
            · subst hz
              clear HI
              go_wp2_with fail
              go_roundw
              case measure => simp [intOf]; omega
              case rel => exact ⟨1, pk, rfl, rfl, by omega, (fun _ => ⟨⟨pk, px⟩, HPP.out, rfl⟩), KF.out⟩
            · have hz0 : 0 < i2 := by omega
              have hcmp : cmp lt pk < 0 := by
                obtain ⟨p0, hp0, rfl⟩ := HI.out.1 hz0
                obtain ⟨l1, v1⟩ := List.getElem?_eq_some_iff.1 hp0
                obtain ⟨l2, v2⟩ := List.getElem?_eq_some_iff.1 HPP.out
                have := List.pairwise_iff_getElem.1 UP.out (i2 - 1) i2 l1 l2 (by omega)
                rw [v1, v2] at this
                exact this
              have g1 : Op.bytesLess pk.toList lt.toList = false := lss_of (decide_eq_false (by rw [cmp_sw]; omega))
              have g2' : (pk.toList == lt.toList) = false := eql_of (decide_eq_false (by rw [cmp_sw]; omega))
              clear HI hcmp
              go_wp2_with fail
              go_roundw
              case measure => simp [intOf]; omega
              case rel => exact ⟨i2 + 1, pk, rfl, by go_num, by omega, (fun _ => ⟨⟨pk, px⟩, HPP.out, rfl⟩), KF.out⟩
          · obtain rfl : i2 = q := by omega
            have cz := AN.out.size wr (K11.out.trans (K12.out.trans HI.out.2))
            rw [QL.out] at cz
            have KE : Aside (K w7 wr) := K11.out.trans (K12.out.trans HI.out.2)
            clear HI
            go_wp2_with fail
            refine cz.mono ?_
            rintro e w14 ⟨rfl, k14⟩
            have ca := CA.out w14 (KR.out _ (KE.out.trans k14))
            clear cz k14
            clear CA
            go_wp2_with fail
            refine ca.mono ?_
            rintro e wx ⟨rfl, kx⟩
            clear ca
            go_wp2_with fail
            go_ret
            exact ⟨rfl, kx⟩
      · have cl := bl w10 K10.out
        have BC : Aside _ := bc
        have BF : Aside _ := bf
        clear bc bf bl
        go_wp2_with fail
        refine cl.mono ?_
        rintro e w11 ⟨v, rfl, k11⟩
        have K11 : Aside (K w7 w11) := K10.out.trans k11
        have cc := BC.out w11 K11.out
        clear cl k11 K10
        go_wp2_with fail
        refine cc.mono ?_
        rintro e w12 ⟨rfl, k12⟩
        have K12 : Aside (K w7 w12) := K11.out.trans k12
        have cf := BF.out w12 K12.out
        clear cc k12 K11
        go_wp2_with fail
        refine cf.mono ?_
        rintro e w13 ⟨rfl, k13⟩
        have ca := CA.out w13 (KR.out _ (K12.out.trans k13))
        clear cf k13
        clear CA
        go_wp2_with fail
        refine ca.mono ?_
        rintro e wx ⟨rfl, kx⟩
        clear ca
        go_wp2_with fail
        go_ret
        exact ⟨rfl, kx⟩

end Wa
end Go.Proofs.YtbbjfebdihepnaaGreatDoor
