/-
  The walk of the stage's theorem: blobs beside drops and runs of the compactor.
-/
import Derived.Test.YtimedllggcfldaaGreatDoorWLBackF
namespace Go.Proofs.YtimedllggcfldaaGreatDoor
open Go.RowKit Go.Maps
attribute [local go_sem ↓] Go.wp_at_zero Go.wp_at_succ
namespace Bb
open Hp (Kept K No granted)
open Hd (U64)
open Co (cp)
open Go.Proofs.YtimedllggcfldaaGreatDoor.So (Ad Rn Stp sp Hr Bx)

def g0 (ts : Nat → ByteArray) : Nat → Bool := fun k => decide (1000 < (ts k).size)

theorem info_bool : ∃ i0, Tryz.prog.info? 4 = some i0 ∧ i0.size = 1 ∧ i0.bytes = 1 ∧ i0.zero = some (.bool false) := by
  have hi : (Tryz.prog.info? 4).map (fun i => (i.zero, i.size, i.bytes)) = some (some (.bool false), 1, 1) := by kernel_rfl
  obtain ⟨i0, h1, h2, h3, h4⟩ := info_parts hi
  exact ⟨i0, h1, h3, h4, h2⟩
theorem made_rowT (n : Nat) : (madeCells (Value.bool false).cells (n * 1)).toList = (List.replicate n false).map encB := by
  show (madeCells #[.bool false] (n * 1)).toList = _
  rw [toList_madeCells_one, Nat.mul_one, List.map_replicate]

/-- Of a row of handles: a place, its cell. -/
theorem row_ixH {w0 w : World} {vl : Value} {hs : List Int} {n : Nat} (hl : hs.length = n) (h : w.ownsRow w0.heap.size 49 1 vl n (hs.map Hd.encU)) {k : Nat} (hk : k < n) : ∃ g cap x, vl = .slice (some ⟨g, 0, none⟩) n cap ∧ hs[k]? = some x ∧ w.cell? ⟨g, k, none⟩ = some (.int .u64 x) := by
  obtain ⟨g, a, cap, rfl, ha, hc⟩ := So.row1 h
  obtain ⟨x, hx⟩ : ∃ x, hs[k]? = some x := ⟨_, List.getElem?_eq_getElem (by omega)⟩
  exact ⟨g, cap, x, by rw [ha (by omega)], hx, hc k _ (by rw [List.getElem?_map, hx]; rfl)⟩

theorem row_ixB {w0 w : World} {vb : Value} {bs : List Bool} {n : Nat} (hl : bs.length = n) (h : w.ownsRow w0.heap.size 4 1 vb n (bs.map encB)) {k : Nat} (hk : k < n) : ∃ g cap, vb = .slice (some ⟨g, 0, none⟩) n cap ∧ w.cell? ⟨g, k, none⟩ = some (.bool (bs.getD k false)) ∧ w.frozen? ⟨g, k, none⟩ = false := by
  obtain ⟨g, a, cap, rfl, ha, hc⟩ := So.row1 h
  have hx : bs[k]? = some (bs.getD k false) := by
    rw [List.getD_eq_getElem?_getD, List.getElem?_eq_getElem (by omega)]
    rfl
  have e := ha (by omega)
  subst e
  exact ⟨g, cap, rfl, hc k _ (by rw [List.getElem?_map, hx]; rfl), World.ownsRow.frozenAt h k⟩
theorem run_ixT (g n cap i : Nat) (hi : i < n) (w' : World) : (Instr.indexAt 62 (.slice (some ⟨g, 0, none⟩) n cap) (.int .i64 (i : Int))).run Tryz.prog w' = .ok (.pointer (some ⟨g, i, none⟩)) w' := by
  have := So.run_ixg (t := 62) (e := 4) (m := 1) (by kernel_rfl) (by kernel_rfl) (fun w => by kernel_rfl) g 0 n cap i hi w'
  rwa [Nat.mul_one, Nat.zero_add] at this

set_option maxRecDepth 100000 in
set_option maxHeartbeats 8000000 in
theorem back_main (a0 : Option Addr) (b off len cap : Nat) (zz : Nat → ByteArray) (a1 : Option Addr) (b1 off1 len1 cap1 : Nat) (dd : Nat → Int) (st : Int) (w : World) (hT : Bt.Tab w) (hS : Strs w a0 b off len cap zz) (hD : So.Nums w a1 b1 off1 len1 cap1 dd) (hlen : len ≤ 30) (hlen1 : len1 ≤ 30) (s0 : 0 ≤ st) (s1 : st ≤ 100) :
    Calls Tryz.prog 5 #[.slice a0 len cap, .slice a1 len1 cap1, .int .i64 st] w fun e w' => e = .returned (.bool true) ∧ K w w' := by
  have cn := Rn.new 262144 100 4294967295 w hT (by decide) (by decide) (by decide) (by decide) (by decide) (by decide)
  have hz0 : Aside (0 < w.heap.size) := Hp.lt0 hT
  have ca : Aside (∀ w1, K w w1 → Calls Tryz.prog 9 #[] w1 fun e w' => e = .returned (.bool true) ∧ K w w') := fun w1 k => (awake_any w1 (hT.keep ⟨k.below⟩)).mono fun e w2 h => ⟨h.1, k.trans h.2⟩
  obtain ⟨ih, hih, hsh, hbh, zh, hzh, hzsh⟩ := Hd.info_handle
  have HH : Aside (Tryz.prog.info? 49 = some ih ∧ ih.size = 1 ∧ ih.bytes = 8 ∧ ih.zero = some zh ∧ zh.cells.size = 1) := ⟨hih, hsh, hbh, hzh, hzsh⟩
  obtain ⟨iu, hiu, hs1, hs2, hz⟩ := info_bool
  have HU : Aside (Tryz.prog.info? 4 = some iu ∧ iu.zero = some (.bool false) ∧ iu.size = 1 ∧ iu.bytes = 1) := ⟨hiu, hz, hs1, hs2⟩
  have HS : Aside _ := hS
  have HD : Aside _ := hD
  have hd1 : decide ((30 : Int) < (len : Int)) = false := decide_eq_false (by omega)
  have hd2 : decide ((30 : Int) < (len1 : Int)) = false := decide_eq_false (by omega)
  have hd3 : decide (st < (0 : Int)) = false := decide_eq_false (by omega)
  have hd4 : decide ((100 : Int) < st) = false := decide_eq_false (by omega)
  clear hS hD hih hsh hbh hzh hzsh hT hiu hs1 hs2 hz
  go_enter Tryz.func5, Tryz.ntmps5
  go_wp2_with fail
  refine cn.mono ?_
  rintro e w1 ⟨A, v, rfl, HR, k1⟩
  have HA : Aside (A.q = 262144 ∧ A.m = 100) := ⟨HR.out.2.1, HR.out.2.2.1⟩
  have rn1 := HR.out.1
  have cc := Co.new_ok rn1.s
  have RN : Aside _ := rn1
  clear cn HR k1 rn1
  go_wp2_with fail
  refine cc.mono ?_
  rintro e w2 ⟨c, rfl, hc1, hc2, k2⟩
  have S0 : Aside (Pt w w2 A c (.slice none 0 0) [] (g0 zz) zz 0) := by
    have rn2 := RN.out.keep k2
    exact ⟨⟨_, _, _, _, _, rn2, ⟨World.ownsRow_nil _ _ _ _, fun b h => by cases h⟩, ⟨hc2, fun hf => by have := RN.out.s.b.flt hf; omega⟩, by decide, by simp, Bv.nil⟩, rfl, fun h => by cases h⟩
  clear cc RN hc1 hc2 k2
  go_wp2_with fail
  go_loopg [11, 12] len (fun gh t11 t12 wx => ∃ (i : Nat) (a2 : Option Addr) (c2 : Nat) (hs : List Int), i + gh = len ∧ t12 = .int .i64 i ∧ t11 = .slice a2 i c2 ∧ Aside (Pt w wx A c (.slice a2 i c2) hs (g0 zz) zz i ∧ ∀ (k : Nat) y, hs[k]? = some y → g0 zz k = true → y = 0))
  case atStart => exact ⟨0, none, 0, [], by omega, rfl, rfl, S0, fun k y h => by simp at h⟩
  case round =>
    obtain ⟨i, a2, c2, hs, hig, rfl, rfl, HO⟩ := hrel
    clear S0
    by_cases hlt : i < len
    · have hix := HS.out.ix i hlt
      have hce := HO.out.1.k.cell (HS.out.cell i hlt)
      have fin : ∀ (w3 : World) (x er : Int), (er = 0 ↔ (zz i).size ≤ 1000) → (er = 0 ∨ er = 4) → Aside (Pq w w3 A c (.slice a2 i c2) hs x (g0 zz) zz i ∧ (g0 zz i = true → x = 0)) → True := fun _ _ _ _ _ _ => trivial
      clear fin
      by_cases h2 : 1000 < (zz i).size
      · have hdc : decide (((zz i).size : Int) ≤ (1000 : Int)) = false := decide_eq_false (by omega)
        have cp1 := HO.out.1.long h2 (by simp [g0, h2])
        clear hce
        have hce := HO.out.1.k.cell (HS.out.cell i hlt)
        go_wp2_with fail
        refine cp1.mono ?_
        rintro e w3 ⟨rfl, HX⟩
        obtain ⟨hrow, hsz, kx⟩ := HX.out.row
        have hce3 := kx.cell (HS.out.cell i hlt)
        clear cp1 hce kx
        go_wp2_with (at_builtin
                     refine wpList_append_own_at _ rfl _ _ 40 rfl w.heap.size 49 ih zh 1 8 Tryz.underlying40 HH.out.1 HH.out.2.2.2.1 HH.out.2.1 HH.out.2.2.1 HH.out.2.2.2.2 (by decide) _ i _ rfl (hrow.alloc _) ⟨w3.heap.size, 0, none⟩ 1 1 [Hd.encU 0] rfl rfl (Hd.src_one w3 #[.int .u64 0] 49) (Hd.one_u _) (by unfold maxLen; omega) (by omega) (by simp; omega) ?_
                     intro v4 w4 hown hgrow _ hat
                     have h4 := HX.out.app hz0.out hown hgrow hat
                     obtain ⟨a4, c4, hv4⟩ := Hd.own_form hown
                     subst hv4
                     have h5 : Aside _ := And.intro h4 (fun (k : Nat) y (hy : (hs ++ [(0 : Int)])[k]? = some y) (hg : g0 zz k = true) => (snoc_get hy).elim (fun h => HO.out.2 k y h.2 hg) (fun h => h.2))
                     clear hown hgrow hat hrow h4)
        go_roundg (len - (i + 1))
        case measure => omega
        case rel => exact ⟨i + 1, _, c4, hs ++ [0], by omega, by go_num, rfl, h5⟩
      · have hdc : decide (((zz i).size : Int) ≤ (1000 : Int)) = true := decide_eq_true (by omega)
        have hg : g0 zz i = false := decide_eq_false h2
        have cp1 := HO.out.1.put HA.out.1 HA.out.2 (by omega) (by omega) hg HO.out.2
        go_wp2_with fail
        refine cp1.mono ?_
        rintro e w3 ⟨x, rfl, HX⟩
        obtain ⟨hrow, hsz, kx⟩ := HX.out.1.row
        have hce3 := kx.cell (HS.out.cell i hlt)
        clear cp1 hce kx
        go_wp2_with (at_builtin
                     refine wpList_append_own_at _ rfl _ _ 40 rfl w.heap.size 49 ih zh 1 8 Tryz.underlying40 HH.out.1 HH.out.2.2.2.1 HH.out.2.1 HH.out.2.2.1 HH.out.2.2.2.2 (by decide) _ i _ rfl (hrow.alloc _) ⟨w3.heap.size, 0, none⟩ 1 1 [Hd.encU x] rfl rfl (Hd.src_one w3 #[.int .u64 x] 49) (Hd.one_u _) (by unfold maxLen; omega) (by omega) (by simp; omega) ?_
                     intro v4 w4 hown hgrow _ hat
                     have h4 := HX.out.1.app hz0.out hown hgrow hat
                     obtain ⟨a4, c4, hv4⟩ := Hd.own_form hown
                     subst hv4
                     have hlen2 := HO.out.1.ln
                     have h5 : Aside _ := And.intro h4 (fun (k : Nat) y (hy : (hs ++ [x])[k]? = some y) (hg2 : g0 zz k = true) => (snoc_get hy).elim (fun h => HO.out.2 k y h.2 hg2) (fun h => (by rw [h.1, hlen2, hg] at hg2; cases hg2)))
                     clear hown hgrow hat hrow h4 hlen2)
        go_roundg (len - (i + 1))
        case measure => omega
        case rel => exact ⟨i + 1, _, c4, hs ++ [x], by omega, by go_num, rfl, h5⟩
    · obtain rfl : i = len := by omega
      have PT : Aside _ := HO.out.1
      have hwb : w.heap.size ≤ wr.heap.size := HO.out.1.k.size
      clear HO
      go_wp2_with (
        at_make
        refine wpList_make_full _ rfl _ _ 62 rfl w.heap.size 4 iu (.bool false) 1 Tryz.underlying62 HU.out.1 HU.out.2.1 HU.out.2.2.1 .i64 .i64 i i i rfl rfl rfl rfl (by rw [HU.out.2.2.2]; omega) (by unfold maxLen; omega) hwb ?_
        intro w5 hown5 hgrow5
        rw [made_rowT] at hown5
        have B0 : Aside _ := PT.out.marks hown5 hgrow5
        clear hown5 hgrow5)
      obtain ⟨gb, hgb⟩ : ∃ gb, gb = wr.heap.size := ⟨_, rfl⟩
      rw [← hgb] at B0 ⊢
      clear hgb PT hwb
      go_loopg [16] len1 (fun gh t wx => ∃ (j : Nat) (bs : List Bool), j + gh = len1 ∧ t = .int .i64 j ∧ Aside (Bk w wx A c (.slice a2 i c2) (.slice (some ⟨gb, 0, none⟩) i i) hs bs (g0 zz) zz i))
      case atStart => exact ⟨0, _, by omega, rfl, B0⟩
      case round =>
        obtain ⟨j, bs, hj, rfl, HB⟩ := hrel
        clear B0
        by_cases hlt1 : j < len1
        · have hixd := HD.out.ix j hlt1
          have hced := HB.out.k.cell (HD.out.cell j hlt1)
          obtain ⟨d, hdj⟩ : ∃ d, d = dd j := ⟨_, rfl⟩
          rw [← hdj] at hced
          clear hdj
          by_cases d0 : 0 ≤ d
          · by_cases d1 : d < (i : Int)
            · obtain ⟨k, rfl⟩ : ∃ k : Nat, d = (k : Int) := ⟨d.toNat, by omega⟩
              have hkn : k < i := by omega
              obtain ⟨g, cap3, x, hvl, hx, hcx⟩ := row_ixH HB.out.ln (by obtain ⟨_, _, _, _, _, _, hr, _⟩ := HB.out.ex; have := hr.rl; rw [HB.out.ln] at this; exact this) hkn
              obtain ⟨rfl, rfl⟩ : a2 = some ⟨g, 0, none⟩ ∧ c2 = cap3 := by injection hvl with h1 h2 h3; exact ⟨h1, h3⟩
              have cd := HB.out.dropped hx
              have ixh := fun w' => So.run_ixF g i c2 k hkn w'
              have hix := HS.out.ix k hkn
              have hk0 : decide ((0 : Int) ≤ (k : Int)) = true := decide_eq_true (by omega)
              have hk1 : decide ((k : Int) < (i : Int)) = true := decide_eq_true (by omega)
              clear hvl hx
              by_cases hsz : 1000 < (zz k).size
              · have hgm : gm bs (g0 zz) k = true := by unfold gm g0; rw [decide_eq_true hsz]; simp
                have hdc : decide (((zz k).size : Int) ≤ (1000 : Int)) = false := decide_eq_false (by omega)
                rw [hgm] at cd
                go_wp2_with fail
                refine cd.mono ?_
                rintro e w6 ⟨rfl, HX⟩
                obtain ⟨rb6, ex6⟩ := HX.out
                obtain ⟨gb2, cap2, hvb, mc, mf⟩ := row_ixB HB.out.lb rb6 hkn
                obtain ⟨rfl, rfl⟩ : gb = gb2 ∧ i = cap2 := by injection hvb with h1 h2 h3; injection h1 with h4; injection h4 with h5; exact ⟨h5, h3⟩
                have k06 : K w w6 := by obtain ⟨_, _, _, _, _, rn6, _⟩ := ex6; exact rn6.k
                have hce6 := k06.cell (HS.out.cell k hkn)
                have hixb := fun w' => run_ixT gb i i k hkn w'
                skip
                have BN : Aside _ := Bk.mark rb6 HB.out.ln HB.out.lb HB.out.n1 hz0.out ex6
                have D6 : Aside _ := k06
                clear HX rb6 ex6 hvb cd hcx HB k06
                go_wp2_with fail
                go_roundg (len1 - (j + 1))
                case measure => omega
                case rel => exact ⟨j + 1, bs.set k true, by omega, by go_num, BN⟩
              · cases hmk : bs.getD k false with
                | true =>
                  have hgm : gm bs (g0 zz) k = true := by unfold gm g0; rw [hmk]; rfl
                  have hdc : decide (((zz k).size : Int) ≤ (1000 : Int)) = true := decide_eq_true (by omega)
                  rw [hgm] at cd
                  go_wp2_with fail
                  refine cd.mono ?_
                  rintro e w6 ⟨rfl, HX⟩
                  obtain ⟨rb6, ex6⟩ := HX.out
                  obtain ⟨gb2, cap2, hvb, mc, mf⟩ := row_ixB HB.out.lb rb6 hkn
                  obtain ⟨rfl, rfl⟩ : gb = gb2 ∧ i = cap2 := by injection hvb with h1 h2 h3; injection h1 with h4; injection h4 with h5; exact ⟨h5, h3⟩
                  have k06 : K w w6 := by obtain ⟨_, _, _, _, _, rn6, _⟩ := ex6; exact rn6.k
                  have hce6 := k06.cell (HS.out.cell k hkn)
                  have hixb := fun w' => run_ixT gb i i k hkn w'
                  rw [hmk] at mc
                  have BN : Aside _ := Bk.mark rb6 HB.out.ln HB.out.lb HB.out.n1 hz0.out ex6
                  have D6 : Aside _ := k06
                  clear HX rb6 ex6 hvb cd hcx HB k06
                  go_wp2_with fail
                  go_roundg (len1 - (j + 1))
                  case measure => omega
                  case rel => exact ⟨j + 1, bs.set k true, by omega, by go_num, BN⟩
                | false =>
                  have hgm : gm bs (g0 zz) k = false := by unfold gm g0; rw [hmk, decide_eq_false hsz]; rfl
                  have hdc : decide (((zz k).size : Int) ≤ (1000 : Int)) = true := decide_eq_true (by omega)
                  rw [hgm] at cd
                  go_wp2_with fail
                  refine cd.mono ?_
                  rintro e w6 ⟨rfl, HX⟩
                  obtain ⟨rb6, ex6⟩ := HX.out
                  obtain ⟨gb2, cap2, hvb, mc, mf⟩ := row_ixB HB.out.lb rb6 hkn
                  obtain ⟨rfl, rfl⟩ : gb = gb2 ∧ i = cap2 := by injection hvb with h1 h2 h3; injection h1 with h4; injection h4 with h5; exact ⟨h5, h3⟩
                  have k06 : K w w6 := by obtain ⟨_, _, _, _, _, rn6, _⟩ := ex6; exact rn6.k
                  have hce6 := k06.cell (HS.out.cell k hkn)
                  have hixb := fun w' => run_ixT gb i i k hkn w'
                  rw [hmk] at mc
                  have BN : Aside _ := Bk.mark rb6 HB.out.ln HB.out.lb HB.out.n1 hz0.out ex6
                  have D6 : Aside _ := k06
                  clear HX rb6 ex6 hvb cd hcx HB k06
                  go_wp2_with fail
                  go_roundg (len1 - (j + 1))
                  case measure => omega
                  case rel => exact ⟨j + 1, bs.set k true, by omega, by go_num, BN⟩
            · have hk0 : decide ((0 : Int) ≤ d) = true := decide_eq_true (by omega)
              have hk1 : decide (d < (i : Int)) = false := decide_eq_false (by omega)
              go_wp2_with fail
              go_roundg (len1 - (j + 1))
              case measure => omega
              case rel => exact ⟨j + 1, bs, by omega, by go_num, HB⟩
          · have hk0 : decide ((0 : Int) ≤ d) = false := decide_eq_false (by omega)
            go_wp2_with fail
            go_roundg (len1 - (j + 1))
            case measure => omega
            case rel => exact ⟨j + 1, bs, by omega, by go_num, HB⟩
        · obtain rfl : j = len1 := by omega
          have cr := HB.out.run s0 (bu := st) (by omega)
          clear HB
          go_wp2_with fail
          refine cr.mono ?_
          rintro e w7 ⟨⟨r1, r2, r3, rfl⟩, HB⟩
          have K7 : Aside (K w7 w7) := K.refl w7
          clear cr
          go_wp2_with fail
          go_loopg [19] i (fun gh t wx => ∃ (k : Nat), k + gh = i ∧ t = .int .i64 k ∧ Aside (K w7 wx))
          case atStart => exact ⟨0, by omega, rfl, K7⟩
          case round =>
            obtain ⟨k, hkg, rfl, HK⟩ := hrel
            clear K7
            by_cases hlt2 : k < i
            · obtain ⟨g, cap3, x, hvl, hx, hcx0⟩ := row_ixH HB.out.ln (by obtain ⟨_, _, _, _, _, _, hr, _⟩ := HB.out.ex; have := hr.rl; rw [HB.out.ln] at this; exact this) hlt2
              obtain ⟨rfl, rfl⟩ : a2 = some ⟨g, 0, none⟩ ∧ c2 = cap3 := by injection hvl with h1 h2 h3; exact ⟨h1, h3⟩
              have hcx := HK.out.cell hcx0
              obtain ⟨gb2, cap2, hvb, mc, mf⟩ := row_ixB HB.out.lb HB.out.rb hlt2
              obtain ⟨rfl, rfl⟩ : gb = gb2 ∧ i = cap2 := by injection hvb with h1 h2 h3; injection h1 with h4; injection h4 with h5; exact ⟨h5, h3⟩
              have hixb := fun w' => run_ixT gb i i k hlt2 w'
              have ixh := fun w' => So.run_ixF g i c2 k hlt2 w'
              have hix := HS.out.ix k hlt2
              have hce := HB.out.k.cell (HS.out.cell k hlt2)
              have cg := (HB.out.keep HK.out).get hx
              clear hvl hvb hcx0 mf hx
              cases hmk : bs.getD k false with
              | true =>
                have hgm : gm bs (g0 zz) k = true := by unfold gm g0; rw [hmk]; rfl
                skip
                rw [if_pos hgm, if_pos hgm] at cg
                go_wp2_with fail
                refine cg.mono ?_
                rintro e w8 ⟨rfl, k8⟩
                have KN : Aside (K w7 w8) := Hp.K.trans HK.out k8
                have mc8 := Hp.K.cell KN.out mc
                have hce8 := Hp.K.cell KN.out hce
                rw [hmk] at mc8
                clear cg HK mc
                go_wp2_with fail
                go_roundg (i - (k + 1))
                case measure => omega
                case rel => exact ⟨k + 1, by omega, by go_num, KN⟩
              | false =>
                by_cases hsz : 1000 < (zz k).size
                · have hgm : gm bs (g0 zz) k = true := by unfold gm g0; rw [hmk, decide_eq_true hsz]; rfl
                  have hdc : decide ((1000 : Int) < ((zz k).size : Int)) = true := decide_eq_true (by omega)
                  rw [if_pos hgm, if_pos hgm] at cg
                  go_wp2_with fail
                  refine cg.mono ?_
                  rintro e w8 ⟨rfl, k8⟩
                  have KN : Aside (K w7 w8) := Hp.K.trans HK.out k8
                  have mc8 := Hp.K.cell KN.out mc
                  have hce8 := Hp.K.cell KN.out hce
                  rw [hmk] at mc8
                  clear cg HK mc
                  go_wp2_with fail
                  go_roundg (i - (k + 1))
                  case measure => omega
                  case rel => exact ⟨k + 1, by omega, by go_num, KN⟩
                · have hgm : gm bs (g0 zz) k = false := by unfold gm g0; rw [hmk, decide_eq_false hsz]; rfl
                  have hdc : decide ((1000 : Int) < ((zz k).size : Int)) = false := decide_eq_false (by omega)
                  rw [if_neg (by rw [hgm]; decide), if_neg (by rw [hgm]; decide)] at cg
                  go_wp2_with fail
                  refine cg.mono ?_
                  rintro e w8 ⟨rfl, k8⟩
                  have KN : Aside (K w7 w8) := Hp.K.trans HK.out k8
                  have mc8 := Hp.K.cell KN.out mc
                  have hce8 := Hp.K.cell KN.out hce
                  rw [hmk] at mc8
                  clear cg HK mc
                  go_wp2_with fail
                  go_roundg (i - (k + 1))
                  case measure => omega
                  case rel => exact ⟨k + 1, by omega, by go_num, KN⟩
            · obtain rfl : k = i := by omega
              have cau := (HB.out.keep HK.out).audit
              have k07 := HB.out.k.trans HK.out
              clear HB HK
              go_wp2_with fail
              refine cau.mono ?_
              rintro e w8 ⟨rfl, k8⟩
              have cx := ca.out _ (k07.trans k8)
              clear cau
              go_wp2_with fail
              refine cx.mono ?_
              rintro e w9 ⟨rfl, k9⟩
              go_wp2_with fail
              go_ret
              exact ⟨rfl, k9⟩

end Bb
end Go.Proofs.YtimedllggcfldaaGreatDoor
