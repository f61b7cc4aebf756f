/-
  The walk of CompactEnds.
-/
import Derived.Test.YtpaghflclbaljaaGreatDoorWGEndsR
import Derived.Deep.DeepCutAuto
import Derived.Deep.CutBlock
import Derived.WalkSpells
namespace Go.Proofs.YtpaghflclbaljaaGreatDoor
open Go.RowKit Go.Maps
attribute [local go_sem ↓] Go.wp_at_zero Go.wp_at_succ
namespace Co
open Hp (Kept K No Pg Wl lt_of_cell granted liveL BlR)
open Hd (U64 findL encU)
open Go.Proofs.YtpaghflclbaljaaGreatDoor.So (Ad sp Script Opv Stp)
variable {w0 w w' : World}

theorem own_base {n0 n1 k m : Nat} {t : TypeId} {u : Value} {ys : List Value} (hle : n0 ≤ n1) (h : w.ownsRow n1 t m u k ys) : w.ownsRow n0 t m u k ys :=
  ⟨h.1, h.2.imp id fun ⟨g, cap, cur, a, b, r⟩ => ⟨g, cap, cur, a, Nat.le_trans hle b, r⟩⟩

set_option maxRecDepth 100000 in
set_option maxHeartbeats 4000000 in
theorem ends_main (q : Int) (q0 : 0 ≤ q) (q1 : q ≤ 4000) (m : Int) (m0 : 1 ≤ m) (m1 : m ≤ 1000) (a0 : Option Addr) (b off len cap : Nat) (z : Nat → Opv) (w : World) (hT : Bt.Tab w) (hS : Script w a0 b off len cap z) (hlen : len ≤ 60) :
    Calls Tryz.prog 5 #[.int .i64 q, .int .i64 m, .slice a0 len cap] w fun e w' => e = .returned (.bool true) ∧ K w w' := by
  have nw := lmade_ok q m q0 (by omega) m0 (by omega) w hT
  have aw : Aside (∀ w1, K w w1 → Calls Tryz.prog 9 #[] w1 fun e w' => e = .returned (.bool true) ∧ K w1 w') := fun w1 k1 => awake_any w1 (hT.keep k1.toBt)
  have HS : Aside _ := hS
  have hz0 : 0 < w.heap.size := Hp.lt0 hT
  obtain ⟨ii, hii, hsi, hbi, zi, hzi, hzsi⟩ := info_u64s
  have HI : Aside (Tryz.prog.info? 51 = some ii ∧ ii.size = 1 ∧ ii.bytes = 24 ∧ ii.zero = some zi ∧ zi.cells.size = 1) := ⟨hii, hsi, hbi, hzi, hzsi⟩
  clear hS hT hii hsi hbi hzi hzsi
  go_enter Tryz.func5, Tryz.ntmps5
  go_wp2_with fail
  refine nw.mono ?_
  rintro e w1 ⟨A, v, c, rfl, HR, _⟩
  have hn := HR.out.1.keep ((K.refl w1).alloc (.cells (refV q m) 35))
  have fl := fill_any hn hz0 HS.out hlen
  have hgt := fillP_hs A z [] [] len
  clear nw HR hn
  go_wp2_with fail
  refine fl.mono ?_
  rintro e w3 ⟨pg, W, v3, u3, rfl, H3⟩
  clear fl
  generalize fillP A z [] [] len = s at *
  obtain ⟨gl, al, cl, rfl, hal, hcl⟩ := So.row1 H3.out.hr.row
  have HU : Aside (∀ x ∈ s.hs, U64 x) := H3.out.hr.u
  have HN : Aside (Cn w w3 A c pg W s.L v3 s.T) := H3.out.cn
  have HC : Aside (∀ i x, s.hs[i]? = some x → w3.cell? ⟨gl, i, none⟩ = some (.int .u64 x)) := fun i x hx => hcl i _ (by rw [List.getElem?_map, hx]; rfl)
  have HO : Aside (Hr _ w3 A pg v3 _ s.hs) := H3.out.hr
  have HAL : Aside (0 < s.hs.length → al = some ⟨gl, 0, none⟩) := hal
  have hh60 : s.hs.length ≤ 60 := by omega
  clear hal hcl hgt H3
  obtain ⟨hn, hhn⟩ : ∃ hn, hn = s.hs.length := ⟨_, rfl⟩
  have HHN : Aside (hn = s.hs.length) := hhn
  rw [← hhn] at hh60 ⊢
  clear hhn
  go_wp2
  go_loopg [12, 13] hn (fun gh t12 t13 wx => ∃ (i : Nat) (a1 : Option Addr) (c1 : Nat), i + gh = hn ∧ t13 = .int .i64 i ∧ t12 = .slice a1 i c1 ∧ Aside (Ws w3 wx (.slice a1 i c1) i ((s.hs.take i).map (wds s.T W))) ∧ Aside (K w3 wx))
  case atStart => exact ⟨0, none, 0, by omega, rfl, rfl, Ws.nil _ _, K.refl _⟩
  case round =>
    obtain ⟨i, a1, c1, hig, rfl, rfl, HW, HK⟩ := hrel
    by_cases hlt : i < hn
    · obtain ⟨x, hx⟩ : ∃ x, s.hs[i]? = some x := ⟨_, List.getElem?_eq_getElem (by rw [← HHN.out]; exact hlt)⟩
      obtain rfl : al = some ⟨gl, 0, none⟩ := HAL.out (by rw [← HHN.out]; omega)
      have ix := Hd.run_ixh gl hn cl i hlt
      have hc := HK.out.cell (HC.out i x hx)
      have HX : Aside (s.hs[i]? = some x) := hx
      have wo := words_any (HN.out.keep HK.out).rn.s x (HU.out x (List.mem_of_getElem? hx))
      clear hx
      go_wp2_with fail
      refine wo.mono ?_
      rintro e w4 ⟨u4, rfl, R4, k4⟩
      obtain ⟨⟨cs, hrow, hin⟩, hl⟩ := HW.out.keep k4
      have hlw := wdK_len s.T W x (So.lN s.T W x).toNat
      change (wds s.T W x).length = _ at hlw
      obtain ⟨g4, a4, c4, rfl, ha4, _⟩ := So.row1 R4.out
      obtain rfl : a4 = some ⟨g4, 0, none⟩ := ha4 (by omega)
      have hsz4 : w3.heap.size ≤ wr.heap.size := HK.out.size
      have RD : Aside _ := own_base hsz4 R4.out
      have hne : Aside (some g4 ≠ (Value.slice a1 i c1).ownBlock) := fun e => by
        have h1 := (Hd.own_lt (g := g4) R4.out rfl).1
        obtain ⟨⟨cs0, hrow0, _⟩, _⟩ := HW.out
        have h2 := (Hd.own_lt hrow0 e).2
        omega
      have HIN : Aside _ := hin
      have HLD : Aside _ := hl
      have K4 : Aside _ := HK.out.trans k4
      have hsz5 : w3.heap.size ≤ w4.heap.size := K4.out.size
      clear wo ha4 hin hl k4 HW HK R4 hsz4 ix hc
      generalize hD : wds s.T W x = d at *
      clear hlw
      generalize hdl : d.length = dl at *
      have HDL : Aside _ := hdl
      have HD : Aside _ := hD
      clear hdl hD
      go_wp2_with (
        at_builtin
        refine wpList_append_own_at _ rfl _ _ 69 rfl w3.heap.size 51 ii zi 1 24 Tryz.underlying69 HI.out.1 HI.out.2.2.2.1 HI.out.2.1 HI.out.2.2.1 HI.out.2.2.2.2 (by decide) _ i _ rfl (hrow.alloc _) ⟨w4.heap.size, 0, none⟩ 1 1 [.slice (some ⟨g4, 0, none⟩) dl c4] rfl rfl (Hd.src_one w4 #[.slice (some ⟨g4, 0, none⟩) dl c4] 51) (one_s _ _ _) (by unfold maxLen; omega) (by omega) (by simp; omega) ?_
        intro v5 w5 hown hgrow _ hat
        have k5 : Aside (K w3 w5) := Hd.K.thenGrown K4.out hgrow (fun g hg => (Hd.own_lt hrow hg).1)
        have ws5 := ws_app (d := d) hrow HIN.out HLD.out (by rw [HDL.out]; exact RD.out) hne.out (by rw [HDL.out]; exact hown) hgrow hat
        obtain ⟨a5, c5, hv5⟩ := Hd.own_form hown
        subst hv5
        have WS5 : Aside _ := ws5
        clear hown hgrow hat hrow ws5 RD)
      have eD : (s.hs.take (i + 1)).map (wds s.T W) = (s.hs.take i).map (wds s.T W) ++ [d] := by
        rw [List.take_add_one, HX.out, List.map_append, ← HD.out]
        rfl
      go_roundg (hn - (i + 1))
      case measure => omega
      case rel => exact ⟨i + 1, _, c5, by omega, by go_num, rfl, (by rw [eD]; exact WS5.out), k5⟩
    · obtain rfl : i = hn := by omega
      have ws0 := HW.out
      rw [HHN.out, List.take_length] at ws0
      rw [← HHN.out] at ws0
      have HWS : Aside _ := ws0
      have n4 := HN.out.keep HK.out
      have o4 := HO.out.keep HK.out
      have flt3 : Aside (∀ b, w3.heap.size ≤ b → ¬ So.foot A pg v3 b) := fun b hb hf => by have := HN.out.rn.s.b.flt hf; omega
      clear HN HO HC HK HW ws0
      have N4 : Aside _ := n4
      have O4 : Aside _ := o4
      have al4 := So.all_any n4.rn.s.b
      have hll := n4.live
      clear n4 o4
      go_wp2_with fail
      refine al4.mono ?_
      rintro e w5 ⟨u5, rfl, r5, k5⟩
      obtain ⟨g5, a5, c5, rfl, _, _⟩ := So.row1 r5
      have n5 := N4.out.keep k5
      have wd5 := So.words_any n5.rn.s.b
      have O5 : Aside _ := O4.out.keep k5
      have WS5 : Aside _ := HWS.out.keep k5
      have N5 : Aside _ := n5
      clear al4 r5 k5 N4 O4 HWS n5
      go_wp2_with fail
      refine wd5.mono ?_
      rintro e w6 ⟨rfl, k6⟩
      have ra := (N5.out.keep k6).runAll rfl
      have O6 : Aside _ := O5.out.keep k6
      have WS6 : Aside _ := WS5.out.keep k6
      have hw : wrap64 (((liveL s.L).length : Int) + 1) = (liveL s.L).length + 1 := by unfold wrap64; omega
      clear wd5 k6 O5 WS5 N5
      generalize (liveL s.L).length = nl at *
      go_wp2_with fail
      refine ra.mono ?_
      rintro e w7 ⟨n, pg7, W7, L7, v7, T7, rfl, n0, n1, H7⟩
      have hg7 : ¬ 64 * granted s.L < 64 * granted L7 := by have := H7.out.2.2.2.1; omega
      have wd7 := So.words_any H7.out.1.rn.s.b
      clear ra
      generalize 64 * granted s.L = y4 at *
      generalize 64 * granted L7 = y7 at *
      go_wp2_with fail
      refine wd7.mono ?_
      rintro e w8 ⟨rfl, k8⟩
      have n8 := H7.out.1.keep k8
      have ST8 : Aside _ := H7.out.2.1.thenK k8
      have al8 := So.all_any n8.rn.s.b
      rw [H7.out.2.2.1] at al8
      have N8 : Aside _ := n8
      clear wd7 k8 n8
      go_wp2_with fail
      refine al8.mono ?_
      rintro e w9 ⟨u9, rfl, r9, k9⟩
      obtain ⟨g9, a9, c9, rfl, _, _⟩ := So.row1 r9
      have n9 := N8.out.keep k9
      have st9 := n9.step0 H7.out.2.2.2.2.1
      have ST9 : Aside _ := ST8.out.thenK k9
      clear al8 r9 k9 n9 N8 ST8
      go_wp2_with fail
      refine st9.mono ?_
      rintro e wa ⟨pga, Wa, va, rfl, HA⟩
      have STA := ST9.out.trans HA.out.2.1
      have OA : Aside _ := O6.out.step STA
      have WSA : Aside _ := WS6.out.kept STA.k flt3.out
      have NA : Aside _ := HA.out.1
      have EW : Aside (∀ x, wds T7 Wa x = wds s.T W x) := fun x => (HA.out.2.2 x).trans (H7.out.2.2.2.2.2 x)
      have SD : Aside (∀ k : Int, 0 ≤ k ∧ k ≤ 7 → Hp.spareL L7 k < Cl.sloI k) := fun k hk => spare_done HA.out.1.rn.s.b.wl H7.out.2.2.2.2.1 k hk
      clear st9 ST9 STA O6 WS6 HA H7 n0 n1 hg7 hw hll
      go_wp2
      go_loopw [21] (fun t wx => ∃ k : Nat, t = .int .i64 k ∧ k ≤ 8 ∧ Aside (K wa wx)) (fun t _ => 8 - (intOf t).toNat)
      case atStart => exact ⟨0, rfl, by omega, K.refl _⟩
      case round =>
        obtain ⟨k, rfl, hk, HK⟩ := hrel
        have cls := Cl.classes_any wr
        go_wp2_with fail
        refine cls.mono ?_
        rintro e wb ⟨rfl, kb'⟩
        have KB : Aside (K wa wb) := HK.out.trans (Hp.K.cl kb')
        clear cls kb' HK
        by_cases hk8 : k < 8
        · have sl := Cl.slots_any (k : Int) wb
          have e0 : Cl.errC (k : Int) = 0 := by
            rcases Cl.siz_cases (k : Int) with ⟨_, _, a, _⟩ | ⟨_, _, a, _⟩ | ⟨_, _, a, _⟩ | ⟨_, _, a, _⟩ | ⟨_, _, a, _⟩ | ⟨_, _, a, _⟩ | ⟨_, _, a, _⟩ | ⟨_, _, a, _⟩ | ⟨a, _, _, _⟩ <;> first | exact a | exact absurd (show Cl.C (k : Int) from ⟨by omega, by omega⟩) a
          have hsd := SD.out k ⟨by omega, by omega⟩
          rw [e0] at sl
          clear e0
          go_wp2_with fail
          refine sl.mono ?_
          rintro e wc ⟨rfl, kc⟩
          have KC : Aside (K wa wc) := KB.out.trans (Hp.K.cl kc)
          have sp1 := So.spare_s (NA.out.keep KC.out).rn.s.b (k : Int)
          clear sl kc KB
          generalize Hp.spareL L7 (k : Int) = s1 at *
          generalize Cl.sloI (k : Int) = s2 at *
          go_wp2_with fail
          refine sp1.mono ?_
          rintro e wd ⟨rfl, kd⟩
          have KD : Aside (K wa wd) := KC.out.trans kd
          clear sp1 kd KC
          go_wp2
          go_roundw
          case rel => exact ⟨k + 1, by go_num, by omega, KD⟩
          case measure => simp [intOf]; omega
        · have NE : Aside _ := NA.out.keep KB.out
          have OE : Aside _ := OA.out.keep KB.out
          have WSE : Aside _ := WSA.out.keep KB.out
          clear NA OA WSA SD KB flt3
          go_wp2
          go_loopw [24] (fun t wx => ∃ j : Nat, t = .int .i64 j ∧ j ≤ i ∧ Aside (K wb wx)) (fun t _ => i - (intOf t).toNat)
          case atStart => exact ⟨0, rfl, by omega, K.refl _⟩
          case round =>
            obtain ⟨j, rfl, hj, HK⟩ := hrel
            by_cases hji : j < i
            · obtain ⟨x, hx⟩ : ∃ x, s.hs[j]? = some x := ⟨_, List.getElem?_eq_getElem (by rw [← HHN.out]; exact hji)⟩
              obtain ⟨gh, ah, ch, eh, hah, hch⟩ := So.row1 OE.out.row
              cases eh
              obtain rfl : al = some ⟨gh, 0, none⟩ := hah (by rw [← HHN.out]; omega)
              have ix := Hd.run_ixh gh i cl j hji
              have hc := HK.out.cell (hch j (encU x) (by rw [List.getElem?_map, hx]; rfl))
              have wo := words_any (NE.out.keep HK.out).rn.s x (HU.out x (List.mem_of_getElem? hx))
              rw [EW.out x] at wo
              have HD : Aside _ := WSE.out.get (i := j) (d := wds s.T W x) (by rw [List.getElem?_map, hx]; rfl)
              have hlw := wdK_len s.T W x (So.lN s.T W x).toNat
              change (wds s.T W x).length = _ at hlw
              have hlb : (wds s.T W x).length ≤ 4000 := by
                rw [← EW.out x]
                have h1 := lN_rng NE.out.rn.s x
                have h2 := wdK_len T7 Wa x (So.lN T7 Wa x).toNat
                change (wds T7 Wa x).length = _ at h2
                omega
              clear hx hah hch
              go_wp2_with fail
              refine wo.mono ?_
              rintro e wf ⟨uf, rfl, Rf, kf⟩
              obtain ⟨gf, af, cf, rfl, haf, hcf⟩ := So.row1 Rf.out
              obtain rfl : af = some ⟨gf, 0, none⟩ := haf (by omega)
              obtain ⟨gu, capu, g, cap, hu, hcu, hcw⟩ := HD.out
              cases hu
              have KF : Aside (K wb wf) := HK.out.trans kf
              have CU : Aside _ := KF.out.cell hcu
              have C1 : Aside (∀ (k : Nat) y, (wds s.T W x)[k]? = some y → wf.cell? ⟨gf, k, none⟩ = some (.int .u64 y) ∧ wf.cell? ⟨g, k, none⟩ = some (.int .u64 y)) := fun k y hk => ⟨hcf k (encU y) (by rw [List.getElem?_map, hk]; rfl), KF.out.cell (hcw k y hk)⟩
              have ixr := run_ixR gu i c1 j hji
              clear wo haf hcf hcu hcw kf Rf HD HK ix hc
              generalize wds s.T W x = d at *
              obtain ⟨dl, hdl⟩ : ∃ dl, dl = d.length := ⟨_, rfl⟩
              have HDL : Aside (dl = d.length) := hdl
              rw [← hdl] at hlw hlb CU ⊢
              clear hdl
              have IXF : Aside (∀ k, k < dl → ∀ w', (Instr.indexAt 51 (.slice (some ⟨gf, 0, none⟩) dl cf) (.int .i64 (k : Int))).run Tryz.prog w' = .ok (.pointer (some ⟨gf, k, none⟩)) w' ∧ (Instr.indexAt 51 (.slice (some ⟨g, 0, none⟩) dl cap) (.int .i64 (k : Int))).run Tryz.prog w' = .ok (.pointer (some ⟨g, k, none⟩)) w') := fun k hk w' => ⟨run_ixI gf dl cf k hk w', run_ixI g dl cap k hk w'⟩
              clear hlw
              go_wp2
              go_loopw [26] (fun t wx => ∃ k : Nat, t = .int .i64 k ∧ k ≤ dl ∧ Aside (K wf wx)) (fun t _ => dl - (intOf t).toNat)
              case atStart => exact ⟨0, rfl, by omega, K.refl _⟩
              case round =>
                obtain ⟨k, rfl, hk, HK⟩ := hrel
                by_cases hkd : k < dl
                · obtain ⟨y, hy⟩ : ∃ y, d[k]? = some y := ⟨_, List.getElem?_eq_getElem (by rw [← HDL.out]; exact hkd)⟩
                  have cy1 := HK.out.cell (C1.out k y hy).1
                  have cy2 := HK.out.cell (C1.out k y hy).2
                  have cu := HK.out.cell CU.out
                  have ix1 := fun w' => (IXF.out k hkd w').1
                  have ix2 := fun w' => (IXF.out k hkd w').2
                  clear hy
                  go_wp2
                  go_region
                  all_goals go_wp2
                  go_roundw
                  case rel => exact ⟨k + 1, by go_num, by omega, HK.out.drew⟩
                  case measure => simp [intOf]; omega
                · have KE : Aside (K wb wr) := KF.out.trans HK.out
                  go_wp2
                  go_roundw
                  case rel => exact ⟨j + 1, by go_num, by omega, KE⟩
                  case measure => simp [intOf]; omega
            · have ne := NE.out.keep HK.out
              have au := So.audit_ok ne.rn.s
              have kk := ne.rn.k
              clear ne
              go_wp2_with fail
              refine au.mono ?_
              rintro e wf ⟨rfl, kf⟩
              have kw := kk.trans kf
              have aw9 := aw.out _ kw
              clear au
              go_wp2_with fail
              refine aw9.mono ?_
              rintro e wg ⟨rfl, kg⟩
              go_wp2
              go_ret
              exact ⟨rfl, kw.trans kg⟩

end Co
end Go.Proofs.YtpaghflclbaljaaGreatDoor
