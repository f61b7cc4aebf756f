/-
  The walk of grow: a tree of pairs, whatever its shape.
-/
import Derived.Test.YtbbjfebdihepnaaGreatDoorWH
import Derived.Deep.DeepCutAuto
namespace Go.Proofs.YtbbjfebdihepnaaGreatDoor
open Go.RowKit Go.Maps
attribute [local go_sem ↓] Go.wp_at_zero Go.wp_at_succ
namespace Wa
open Hp (Kept K No)
open Hd (U64 findL)
open Nd (Nv encU)
open Go.Proofs.YtbbjfebdihepnaaGreatDoor.So (Ad sp)
variable {w0 w w' : World} {A : Ad} {W W1 W2 W3 W4 W5 : Int → Int} {T T1 T2 T3 T4 T5 : List Hd.Sl} {x : Int} {c : Nat}

def prOf (l : List It) : List Pr := l.map fun i => ⟨i.k, i.x⟩
theorem lay_found {t : Tr} (h : t.Lay (vw T W)) {y : Int} (hy : y ∈ hsOf t.items) : (findL T y).isSome = true := by
  obtain ⟨i, hi, hm⟩ := List.mem_flatMap.1 hy
  have ok := lay_mem h i hi
  simp only [It.hs, List.mem_cons, List.not_mem_nil, or_false] at hm
  rcases hm with rfl | rfl | rfl
  · exact (nd_some ok.nd).2.1
  · exact tx_find ok.k
  · exact tx_find ok.x
theorem Le.found {T' : List Hd.Sl} {W' : Int → Int} (h : Le T W T' W') {y : Int} (hy : (findL T y).isSome = true) : (findL T' y).isSome = true := (h y _ ⟨hy, rfl⟩).1
theorem ne_found {y z : Int} (hy : (findL T y).isSome = true) (hz : findL T z = none) : y ≠ z := fun e => by rw [e, hz] at hy; cases hy

theorem grow_join {ka va h : Int} {p : Pr} {tl tr : Tr} {n : Nv} (a0 : findL T ka = none) (l1 : Le T W T1 W1) (a1 : (vw T1 W1).tx ka = some p.k) (b0 : findL T1 va = none) (l2 : Le T1 W1 T2 W2) (b1 : (vw T2 W2).tx va = some p.x)
    (l3 : Le T2 W2 T3 W3) (tl1 : tl.Lay (vw T3 W3)) (tl2 : (hsOf tl.items).Nodup) (tl3 : ∀ y ∈ hsOf tl.items, findL T2 y = none) (l4 : Le T3 W3 T4 W4) (tr1 : tr.Lay (vw T4 W4)) (tr2 : (hsOf tr.items).Nodup) (tr3 : ∀ y ∈ hsOf tr.items, findL T3 y = none)
    (h0 : findL T4 h = none) (l5 : Le T4 W4 T5 W5) (h1 : (vw T5 W5).nd h = some n) (ea : n.a = ka) (eb : n.b = va) (ec : n.c = tl.root) (ed : n.d = tr.root) (ef : n.f = (tl.items.length : Int) + tr.items.length + 1) :
    (Tr.node ⟨h, n, p.k, p.x⟩ tl tr).Lay (vw T5 W5) ∧ (hsOf (Tr.node ⟨h, n, p.k, p.x⟩ tl tr).items).Nodup ∧ ∀ y ∈ hsOf (Tr.node ⟨h, n, p.k, p.x⟩ tl tr).items, findL T y = none := by
  subst ea eb
  have l15 := l2.trans (l3.trans (l4.trans l5))
  have l25 := l3.trans (l4.trans l5)
  have fa1 := tx_find a1
  have fb2 := tx_find b1
  have fa2 := l2.found fa1
  have fa3 := l3.found fa2
  have fb3 := l3.found fb2
  have fa4 := l4.found fa3
  have fb4 := l4.found fb3
  have fl3 : ∀ y ∈ hsOf tl.items, (findL T3 y).isSome = true := fun y hy => lay_found tl1 hy
  have fr4 : ∀ y ∈ hsOf tr.items, (findL T4 y).isSome = true := fun y hy => lay_found tr1 hy
  refine ⟨⟨⟨h1, l15.tx a1, l25.tx b1⟩, ec, ed, ef, (l4.trans l5).lay tl1, l5.lay tr1⟩, ?_, fun y hy => ?_⟩
  · simp only [Tr.items, hs_app, hs_cons]
    refine List.nodup_append.2 ⟨tl2, List.nodup_cons.2 ⟨?_, List.nodup_cons.2 ⟨?_, List.nodup_cons.2 ⟨?_, tr2⟩⟩⟩, ?_⟩
    · simp only [List.mem_cons, not_or]
      exact ⟨(ne_found fa4 h0).symm, (ne_found fb4 h0).symm, fun hm => ne_found (fr4 _ hm) h0 rfl⟩
    · simp only [List.mem_cons, not_or]
      exact ⟨ne_found fa1 b0, fun hm => ne_found fa3 (tr3 _ hm) rfl⟩
    · exact fun hm => ne_found fb3 (tr3 _ hm) rfl
    · intro y hy z hz e
      subst e
      simp only [List.mem_cons] at hz
      rcases hz with rfl | rfl | rfl | hz
      · exact ne_found (l4.found (fl3 _ hy)) h0 rfl
      · exact ne_found fa2 (tl3 _ hy) rfl
      · exact ne_found fb2 (tl3 _ hy) rfl
      · exact ne_found (fl3 _ hy) (tr3 _ hz) rfl
  · simp only [Tr.items, hs_app, hs_cons, List.mem_append, List.mem_cons] at hy
    rcases hy with hy | rfl | rfl | rfl | hy
    · exact (l1.trans l2).find (tl3 y hy)
    · exact (l1.trans (l2.trans (l3.trans l4))).find h0
    · exact a0
    · exact l1.find b0
    · exact (l1.trans (l2.trans l3)).find (tr3 y hy)

/-- The numbers that tell the shape. -/
structure Shp (w0 : World) (sa : Option Addr) (sn sc : Nat) : Prop where
  ix : ∀ i, i < sn → ∃ b off z, (∀ w', (Instr.indexAt 23 (.slice sa sn sc) (.int .i64 (i : Int))).run Tryz.prog w' = .ok (.pointer (some ⟨b, off, none⟩)) w') ∧ w0.cell? ⟨b, off, none⟩ = some (.int .i64 z) ∧ Hp.In64 z
  mx : sn ≤ maxLen
/-- What grow leaves. -/
def GrowT (w0 w : World) (A : Ad) (c : Nat) (T : List Hd.Sl) (W : Int → Int) (l : List Pr) (h : Int) (w' : World) : Prop := Fr w w' ∧ ∃ (t : Tr) (T' : List Hd.Sl) (W' : Int → Int), Gs w0 w' A (c + 3 * l.length) T' W' ∧ Le T W T' W' ∧ t.root = h ∧ U64 h ∧ t.Lay (vw T' W') ∧ prOf t.items = l ∧ (hsOf t.items).Nodup ∧ (∀ y ∈ hsOf t.items, findL T y = none) ∧ Bb.op T' = Bb.op T + 3 * l.length

set_option maxRecDepth 100000 in
set_option maxHeartbeats 8000000 in
theorem grow_any {sa : Option Addr} {sn sc : Nat} (sh : Shp w0 sa sn sc) : ∀ (N : Nat) (w : World) (c : Nat) (T : List Hd.Sl) (W : Int → Int) (a : Option Addr) (n cap : Nat) (l : List Pr) (d : Nat), n ≤ N → Gs w0 w A c T W → c + 3 * n ≤ 1000 → Srt w a n cap l → shortL l → d + n ≤ 100000 →
    Calls Tryz.prog 22 #[sp A.st, .slice a n cap, .slice sa sn sc, .int .i64 (d : Int)] w fun e w' => ∃ h, e = .returned (.int .u64 h) ∧ Aside (GrowT w0 w A c T W l h w') := by
  intro N
  induction N with
  | zero =>
    intro w c T W a n cap l d hN gs hc hs _ _
    obtain rfl : n = 0 := by omega
    have hl : l = [] := List.eq_nil_of_length_eq_zero hs.p.len
    have FIN : Aside (GrowT w0 w A c T W l 0 w) := ⟨Fr.ofK (K.refl w), .nil, T, W, by rw [hl]; exact gs, Le.refl _ _, rfl, ⟨by decide, by decide⟩, trivial, by rw [hl]; rfl, by simp [Tr.items, hsOf], by simp [Tr.items, hsOf], by rw [hl]; rfl⟩
    clear gs hs hc hN
    go_enter Tryz.func22, Tryz.ntmps22
    go_wp2_with fail
    go_ret
    exact ⟨0, rfl, FIN⟩
  | succ N ih =>
    intro w c T W a n cap l d hN gs hc hs hsh hd
    by_cases hn0 : n = 0
    · subst hn0
      have hl : l = [] := List.eq_nil_of_length_eq_zero hs.p.len
      have FIN : Aside (GrowT w0 w A c T W l 0 w) := ⟨Fr.ofK (K.refl w), .nil, T, W, by rw [hl]; exact gs, Le.refl _ _, rfl, ⟨by decide, by decide⟩, trivial, by rw [hl]; rfl, by simp [Tr.items, hsOf], by simp [Tr.items, hsOf], by rw [hl]; rfl⟩
      clear gs hs hc hN ih
      go_enter Tryz.func22, Tryz.ntmps22
      go_wp2_with fail
      go_ret
      exact ⟨0, rfl, FIN⟩
    · have SH : Aside _ := sh
      have IH : Aside _ := ih
      have GS : Aside _ := gs
      have SR : Aside _ := hs
      have SL : Aside (shortL l) := hsh
      have hnp : 0 < n := by omega
      have hb0 : ((n : Int) == 0) = false := by simp; omega
      have hnm : n ≤ 1000 := by omega
      have hdm : (d : Int) ≤ 100000 := by omega
      have K0 : Aside (K w0 w) := gs.k
      clear sh ih gs hs hsh hn0
      go_enter Tryz.func22, Tryz.ntmps22
      go_upto_region 4 with fail
      go_cut [34] (fun s34 wx => ∃ b : Bool, (b = true → d < sn ∧ ∀ b off z, (∀ w', (Instr.indexAt 23 (.slice sa sn sc) (.int .i64 (d : Int))).run Tryz.prog w' = .ok (.pointer (some ⟨b, off, none⟩)) w') → w0.cell? ⟨b, off, none⟩ = some (.int .i64 z) → 0 ≤ z) ∧ s34 = .bool b ∧ wx = w)
      case rest =>
        obtain ⟨b34, hb34, rfl, hwx⟩ := hcut
        have hwx := hwx.symm
        subst hwx
        go_upto_if 34 with fail
        go_cut [9] (fun s9 wx => ∃ k : Nat, k < n ∧ s9 = .int .i64 k ∧ wx = w)
        case rest =>
          obtain ⟨k, hk, rfl, hwx⟩ := hcut
          have hwx := hwx.symm
          subst hwx
          obtain ⟨b, off, p, rfl, hp, c0, c1⟩ := SR.out.p.at hk
          have ix := fun w' => run_ixQ b off n cap k hk w'
          obtain ⟨hs1, hs2⟩ := SL.out p (List.mem_of_getElem? hp)
          have cp := Gs.put GS.out (by omega) p.k hs1
          have HP : Aside (l[k]? = some p) := hp
          have HS2 : Aside (p.x.size ≤ 1000) := hs2
          have HLN : Aside (l.length = n) := SR.out.p.len
          obtain ⟨pk, px⟩ := p
          simp only at c0 c1 cp hs1
          clear hp hs1 hs2 hb34
          go_wp2_with fail
          refine cp.mono ?_
          rintro e w1 ⟨ka, rfl, h1⟩
          obtain ⟨u1, f1, fr1, T1, W1, gs1, le1, tx1, o1⟩ := h1.out
          have F1 : Aside (U64 ka ∧ findL T ka = none ∧ Fr w w1 ∧ Gs w0 w1 A (c + 1) T1 W1 ∧ Le T W T1 W1 ∧ (vw T1 W1).tx ka = some pk ∧ Bb.op T1 = Bb.op T + 1) := ⟨u1, f1, fr1, gs1, le1, tx1, o1⟩
          have SR1 : Aside _ := SR.out.fr fr1
          have cp := Gs.put gs1 (by omega) px HS2.out
          obtain ⟨b2, off2, p2, hab, hp2, c0, c1⟩ := SR1.out.p.at hk
          obtain ⟨rfl, rfl⟩ : b = b2 ∧ off = off2 := by
            have := Option.some.inj hab
            exact ⟨congrArg Addr.block this, congrArg Addr.off this⟩
          obtain rfl := Option.some.inj (HP.out.symm.trans hp2)
          simp only at c0 c1
          clear u1 f1 fr1 gs1 le1 tx1 o1 h1 hab hp2
          go_wp2_with fail
          refine cp.mono ?_
          rintro e w2 ⟨va, rfl, h2⟩
          obtain ⟨u2, f2, fr2, T2, W2, gs2, le2, tx2, o2⟩ := h2.out
          have F2 : Aside (U64 va ∧ findL T1 va = none ∧ Fr w1 w2 ∧ Gs w0 w2 A (c + 2) T2 W2 ∧ Le T1 W1 T2 W2 ∧ (vw T2 W2).tx va = some px ∧ Bb.op T2 = Bb.op T1 + 1) := ⟨u2, f2, fr2, gs2, le2, tx2, o2⟩
          have SR2 : Aside _ := SR1.out.fr fr2
          obtain ⟨slo, srl⟩ := SR2.out.lo (k := k) (by omega)
          have cl : Calls Tryz.prog 22 #[sp A.st, .slice (some ⟨b, off, none⟩) k cap, .slice sa sn sc, .int .i64 ((d : Int) + 1)] w2 fun e w' => ∃ h, e = .returned (.int .u64 h) ∧ Aside (GrowT w0 w2 A (c + 2) T2 W2 (l.take k) h w') := IH.out w2 (c + 2) T2 W2 _ k cap (l.take k) (d + 1) (by omega) gs2 (by omega) srl (fun q hq => SL.out q (List.mem_of_mem_take hq)) (by omega)
          clear u2 f2 fr2 gs2 le2 tx2 o2 h2 srl c0 c1 ix
          go_wp2_with fail
          refine cl.mono ?_
          rintro e w3 ⟨hl, rfl, h3⟩
          obtain ⟨fr3, tl, T3, W3, gs3, le3, rl, ul, layl, prl, ndl, newl, o3⟩ := h3.out
          rw [show c + 2 + 3 * (l.take k).length = c + 2 + 3 * k by rw [List.length_take, HLN.out]; omega] at gs3
          have F3 : Aside (Fr w2 w3 ∧ Gs w0 w3 A (c + 2 + 3 * k) T3 W3 ∧ Le T2 W2 T3 W3 ∧ tl.root = hl ∧ U64 hl ∧ tl.Lay (vw T3 W3) ∧ prOf tl.items = l.take k ∧ (hsOf tl.items).Nodup ∧ (∀ y ∈ hsOf tl.items, findL T2 y = none) ∧ Bb.op T3 = Bb.op T2 + 3 * (l.take k).length) := ⟨fr3, gs3, le3, rl, ul, layl, prl, ndl, newl, o3⟩
          have SR3 : Aside _ := SR2.out.fr fr3
          obtain ⟨oa, shi, srh⟩ := SR3.out.hi (k := k + 1) (by omega)
          have shi : ∀ w, (Instr.slice 22 (.slice (some ⟨b, off, none⟩) n cap) (some (.int .i64 ((k : Int) + 1))) none none).run Tryz.prog w = .ok (.slice oa (n - (k + 1)) (cap - (k + 1))) w := fun w => shi w
          have cl : Calls Tryz.prog 22 #[sp A.st, .slice oa (n - (k + 1)) (cap - (k + 1)), .slice sa sn sc, .int .i64 ((d : Int) + 1)] w3 fun e w' => ∃ h, e = .returned (.int .u64 h) ∧ Aside (GrowT w0 w3 A (c + 2 + 3 * k) T3 W3 (l.drop (k + 1)) h w') := IH.out w3 (c + 2 + 3 * k) T3 W3 oa (n - (k + 1)) (cap - (k + 1)) (l.drop (k + 1)) (d + 1) (by omega) gs3 (by omega) srh (fun q hq => SL.out q (List.mem_of_mem_drop hq)) (by omega)
          have hkm : (k : Int) ≤ 1000 := by omega
          clear fr3 gs3 le3 rl ul layl prl ndl newl o3 h3 srh slo
          go_wp2_with fail
          refine cl.mono ?_
          rintro e w4 ⟨hr, rfl, h4⟩
          obtain ⟨fr4, tr, T4, W4, gs4, le4, rr, ur, layr, prr, ndr, newr, o4⟩ := h4.out
          rw [show c + 2 + 3 * k + 3 * (l.drop (k + 1)).length = c + 3 * n - 1 by rw [List.length_drop, HLN.out]; omega] at gs4
          have F4 : Aside (Fr w3 w4 ∧ Gs w0 w4 A (c + 3 * n - 1) T4 W4 ∧ Le T3 W3 T4 W4 ∧ tr.root = hr ∧ U64 hr ∧ tr.Lay (vw T4 W4) ∧ prOf tr.items = l.drop (k + 1) ∧ (hsOf tr.items).Nodup ∧ (∀ y ∈ hsOf tr.items, findL T3 y = none) ∧ Bb.op T4 = Bb.op T3 + 3 * (l.drop (k + 1)).length) := ⟨fr4, gs4, le4, rr, ur, layr, prr, ndr, newr, o4⟩
          have cm : Calls Tryz.prog 41 #[sp A.st, .agg #[encU ka, encU va, encU hl, encU hr, encU 0, encU (n : Int)]] w4 fun e w' => ∃ x, e = .returned (.tuple #[.int .u64 x, .int .i64 0]) ∧ Aside (MakeT w0 w4 A (c + 3 * n - 1) T4 W4 ⟨ka, va, hl, hr, 0, n⟩ x w') := Gs.make gs4 (by omega) ⟨ka, va, hl, hr, 0, n⟩ ⟨F1.out.1, F2.out.1, F3.out.2.2.2.2.1, ur, ⟨Int.le_refl 0, by show (0 : Int) ≤ 18446744073709551615; decide⟩, ⟨by show (0 : Int) ≤ (n : Int); omega, by show (n : Int) ≤ _; omega⟩⟩
          clear fr4 gs4 le4 rr ur layr prr ndr newr o4 h4 shi
          go_wp2_with fail
          refine cm.mono ?_
          rintro e w5 ⟨hh, rfl, h5⟩
          have FIN : Aside (GrowT w0 w A c T W l hh w5) := by
            obtain ⟨u5, f5, fr5, T5, W5, gs5, le5, nd5, o5⟩ := h5.out
            obtain ⟨ua, fa, fra, gsa, lea, txa, opa⟩ := F1.out
            obtain ⟨ub, fb, frb, gsb, leb, txb, opb⟩ := F2.out
            obtain ⟨frl, gsl, lel, rl, ul, layl, prl, ndl, newl, opl⟩ := F3.out
            obtain ⟨frr, gsr, ler, rr, ur, layr, prr, ndr, newr, opr⟩ := F4.out
            have e1 : tl.items.length = k := by
              have := congrArg List.length prl
              rw [List.length_take, HLN.out] at this
              simp only [prOf, List.length_map] at this
              omega
            have e2 : tr.items.length = n - (k + 1) := by
              have := congrArg List.length prr
              rw [List.length_drop, HLN.out] at this
              simpa only [prOf, List.length_map] using this
            obtain ⟨j1, j2, j3⟩ := grow_join (p := ⟨pk, px⟩) (n := ⟨ka, va, hl, hr, 0, n⟩) fa lea txa fb leb txb lel layl ndl newl ler layr ndr newr f5 le5 nd5 rfl rfl rl.symm rr.symm (by show (n : Int) = _; omega)
            refine ⟨fra.trans (frb.trans (frl.trans (frr.trans fr5))), .node ⟨hh, ⟨ka, va, hl, hr, 0, n⟩, pk, px⟩ tl tr, T5, W5, ?_, lea.trans (leb.trans (lel.trans (ler.trans le5))), rfl, u5, j1, ?_, j2, j3, ?_⟩
            · rw [HLN.out]
              exact gs5.mono (by omega)
            · have hlt : k < l.length := by rw [HLN.out]; exact hk
              have e : l = l.take k ++ ⟨pk, px⟩ :: l.drop (k + 1) := by
                rw [show (⟨pk, px⟩ : Pr) = l[k] from (Option.some.inj ((List.getElem?_eq_getElem hlt).symm.trans HP.out)).symm, ← List.drop_eq_getElem_cons hlt, List.take_append_drop]
              rw [e, ← prl, ← prr]
              simp [Tr.items, prOf]
            · rw [List.length_take, HLN.out] at opl
              rw [List.length_drop, HLN.out] at opr
              rw [HLN.out]
              omega
          clear cm h5
          go_wp2_with fail
          go_ret
          exact ⟨hh, rfl, FIN⟩
        case first =>
          cases b34 with
          | true =>
            obtain ⟨h1, h2⟩ := hb34 rfl
            obtain ⟨b, off, z, ix, hz, hz64⟩ := SH.out.ix d h1
            have hcz := K0.out.cell hz
            have hz0 := h2 b off z ix hz
            have hm := Int.emod_lt_of_pos z (show (0 : Int) < (n : Int) by omega)
            have hm0 := Int.emod_nonneg z (show (n : Int) ≠ 0 by omega)
            go_wp2
            go_meet
            case rel => exact ⟨(z % (n : Int)).toNat, by omega, congrArg (Value.int .i64) (by omega), rfl⟩
          | false =>
            go_wp2
            go_meet
            case rel => exact ⟨n / 2, by omega, congrArg (Value.int .i64) (by omega), rfl⟩
      case first =>
        by_cases h1 : d < sn
        · obtain ⟨b, off, z, ix, hz, hz64⟩ := SH.out.ix d h1
          have hcz := K0.out.cell hz
          have hd1 : decide ((d : Int) < (sn : Int)) = true := decide_eq_true (by omega)
          by_cases h2 : 0 ≤ z
          · have hd2 : decide ((0 : Int) ≤ z) = true := decide_eq_true h2
            go_wp2
            go_meet
            case rel =>
              refine ⟨true, fun _ => ⟨h1, fun b2 off2 z2 ix2 hz2 => ?_⟩, rfl, rfl⟩
              have e := (ix w).symm.trans (ix2 w)
              injection e with e1
              injection e1 with e1
              injection e1 with e1
              rw [← e1, hz] at hz2
              injection hz2 with hz2
              injection hz2 with _ hz2
              omega
          · have hd2 : decide ((0 : Int) ≤ z) = false := decide_eq_false h2
            go_wp2
            go_meet
            case rel => exact ⟨false, fun h => (by cases h), rfl, rfl⟩
        · have hd1 : decide ((d : Int) < (sn : Int)) = false := decide_eq_false (by omega)
          go_wp2
          go_meet
          case rel => exact ⟨false, fun h => (by cases h), rfl, rfl⟩

end Wa
end Go.Proofs.YtbbjfebdihepnaaGreatDoor
