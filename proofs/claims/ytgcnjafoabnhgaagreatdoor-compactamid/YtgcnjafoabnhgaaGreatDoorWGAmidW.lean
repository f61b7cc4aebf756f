/-
  The walk of CompactAmid.
-/
import Derived.Test.YtgcnjafoabnhgaaGreatDoorWGAmidG
import Derived.Test.YtgcnjafoabnhgaaGreatDoorWGEndsR
import Derived.Test.YtgcnjafoabnhgaaGreatDoorG7
import Derived.Deep.DeepCutAuto
import Derived.Deep.CutBlock
import Derived.WalkSpells
import Derived.Deep.RegionHeld3
namespace Go.Proofs.YtgcnjafoabnhgaaGreatDoor
open Go.RowKit Go.Maps
attribute [local go_sem ↓] Go.wp_at_zero Go.wp_at_succ
namespace Co
open Hp (Kept K No Pg lt_of_cell)
open Hd (U64 findL encU)
open Go.Proofs.YtgcnjafoabnhgaaGreatDoor.So (Ad sp Script Opv Nums OpAt)
variable {w0 w w' : World}

theorem run_ixU (g n cap i : Nat) (hi : i < n) (w' : World) : (Instr.indexAt 52 (.slice (some ⟨g, 0, none⟩) n cap) (.int .i64 (i : Int))).run Tryz.prog w' = .ok (.pointer (some ⟨g, i, none⟩)) w' := by
  have := So.run_ixg Tryz.underlying52 (m := 1) (by kernel_rfl) (fun w => by kernel_rfl) g 0 n cap i hi w'
  rwa [Nat.mul_one, Nat.zero_add] at this

theorem wordOk_of {hh : Int} (h0 : 0 ≤ hh) (h1 : hh ≤ 18446744073709551615) : Sl.WordOk hh := by
  unfold Sl.WordOk
  have e1 : IntKind.u64.min = 0 := rfl
  have e2 : IntKind.u64.max = 18446744073709551615 := rfl
  simp only [Lit.wf, Bool.and_eq_true, decide_eq_true_eq]
  omega

set_option maxRecDepth 100000 in
set_option maxHeartbeats 4000000 in
theorem amid_main (a0 : Option Addr) (b off len cap : Nat) (z : Nat → Opv) (a9 : Option Addr) (b9 off9 len9 cap9 : Nat) (z9 : Nat → Int) (w : World) (hT : Bt.Tab w) (hS : Script w a0 b off len cap z) (hlen : len ≤ 60) (hN : Nums w a9 b9 off9 len9 cap9 z9) (hlen9 : len9 ≤ 60) :
    Calls Tryz.prog 3 #[.slice a0 len cap, .slice a9 len9 cap9] w fun e w' => e = .returned (.bool true) ∧ K w w' := by
  have nw := lmade_lo 262144 1000 (by omega) (by omega) (by omega) (by omega) w hT
  have nw2 : Aside (∀ w1, K w w1 → Calls Tryz.prog 5 #[.int .i64 262144, .int .i64 1000] w1 fun e w' => ∃ A v c, e = .returned (.tuple #[sp A.st, cp c, .agg (refV 262144 1000), .bool true]) ∧ Aside (Cn w1 w' A c [] (fun _ => 0) [] v [] ∧ A.q = 262144 ∧ A.m = 1000 ∧ A.z = 4294967295 ∧ w1.heap.size ≤ A.bh ∧ w1.heap.size ≤ A.st) ∧ K w1 w') := fun w1 k => lmade_lo 262144 1000 (by omega) (by omega) (by omega) (by omega) w1 (hT.keep k.toBt)
  have aw : Aside (∀ w1, K w w1 → Calls Tryz.prog 4 #[] w1 fun e w' => e = .returned (.bool true) ∧ K w1 w') := fun w1 k1 => awake_any w1 (hT.keep k1.toBt)
  have HS : Aside _ := hS
  have HN9 : Aside _ := hN
  have hz0 : 0 < w.heap.size := Hp.lt0 hT
  obtain ⟨ih, hih, hsh, hbh, zh, hzh, hzsh⟩ := Hd.info_handle
  have HH : Aside (Tryz.prog.info? 43 = some ih ∧ ih.size = 1 ∧ ih.bytes = 8 ∧ ih.zero = some zh ∧ zh.cells.size = 1) := ⟨hih, hsh, hbh, hzh, hzsh⟩
  clear hS hT hN hih hsh hbh hzh hzsh
  go_enter Tryz.func3, Tryz.ntmps3
  go_wp2_with fail
  refine nw.mono ?_
  rintro e w1 ⟨A, v, c, rfl, HR, _⟩
  have h1 := HR.out.1.keep ((K.refl w1).alloc (.cells (refV 262144 1000) 36))
  have EE : Aside _ := HR.out.2
  have mk2 := nw2.out _ h1.rn.k
  clear nw HR nw2
  go_wp2_with fail
  refine mk2.mono ?_
  rintro e w2 ⟨A2, v2, c2, rfl, HR2, _⟩
  have tw0 := Tw.made h1 (HR2.out.1.keep ((K.refl w2).alloc (.cells (refV 262144 1000) 36))) HR2.out.2.2.2.2.1 HR2.out.2.2.2.2.2 hz0
  have E2 : Aside (A.q = 262144 ∧ A2.q = 262144 ∧ A2.m = A.m ∧ A2.z = A.z) := ⟨EE.out.1, HR2.out.2.1, HR2.out.2.2.1.trans EE.out.2.1.symm, HR2.out.2.2.2.1.trans EE.out.2.2.1.symm⟩
  have st0 : Aside (Ag w (w2.alloc (.cells #[.int .i64 262144, .slice none 0 0, .int .i64 1000, .int .u32 4294967295, .slice none 0 0, .slice none 0 0] 36)) A c A2 c2 (.slice none 0 0) [] (63 * ((0 : Nat) : Int))) := Ag.up ⟨_, _, _, _, _, _, _, _, _, _, Am.nil tw0, Al.nil, Int.le_refl _, Int.le_refl _⟩ (by show (0 : Int) ≤ _; omega)
  clear mk2 HR2 EE h1 tw0
  go_wp2
  go_loopg [13, 14] len (fun gh t13 t14 wx => ∃ (i n : Nat) (a1 : Option Addr) (c1 : Nat) (hs : List Int), i + gh = len ∧ t14 = .int .i64 i ∧ t13 = .slice a1 n c1 ∧ n ≤ i ∧ Aside (hs.length = n) ∧ Aside (Ag w wx A c A2 c2 t13 hs (63 * (n : Int))))
  case atStart => exact ⟨0, 0, none, 0, [], by omega, rfl, rfl, Nat.le_refl _, rfl, st0⟩
  case round =>
    obtain ⟨i, n, a1, c1, hs, hig, rfl, rfl, hni, HNn, HG⟩ := hrel
    clear st0
    by_cases hlt : i < len
    · have hix := HS.out.ix i hlt
      have hop := (HS.out.cell i hlt).keep HG.out.k
      have hok := HS.out.ok i
      generalize z i = o at hop hok
      obtain ⟨d, x, a, hh⟩ := o
      obtain ⟨e0, e1, e2, e3⟩ := hop
      have x64 : -9223372036854775808 ≤ x := hok.n.1
      have x63 : x ≤ 9223372036854775807 := hok.n.2
      have h64 : Aside (Sl.WordOk hh) := wordOk_of hok.h.1 hok.h.2
      have hab : Aside (Ab w (wr.alloc (.cells (opB d x a hh) 42)) A c A2 c2 (.slice a1 n c1) hs (63 * (n : Int)) wr.heap.size (.cells (opB d x a hh) 42)) := HG.out.new _
      have hrow := hab.out.ag.row.1
      rw [HNn.out] at hrow
      have nt := nth_any hrow HNn.out (by omega) x x64 x63
      have hu : Aside (U64 (nthH hs x)) := nthH_u64 hab.out.ag.row.2 x
      clear hok hrow HG
      go_upto_block 2 with (go_at_call 6; refine nt.mono ?_; rintro e w6 ⟨rfl, rfl⟩)
      clear nt hix e0 e1 e2 e3
      go_cut [13] (fun s13 wx => ∃ (n : Nat) (a1 : Option Addr) (c1 : Nat) (hs : List Int), s13 = .slice a1 n c1 ∧ n ≤ i + 1 ∧ Aside (hs.length = n) ∧ Aside (Ag w wx A c A2 c2 s13 hs (63 * (n : Int))))
      case rest =>
        clear hab hu h64 HNn hni
        obtain ⟨n, a1, c1, hs, rfl, hni, HNn, HG⟩ := hcut
        have hn60 : n ≤ 60 := by omega
        by_cases h9 : i < len9
        · have ix9 := HN9.out.ix i h9
          have c9 := HG.out.k.cell (HN9.out.cell i h9)
          generalize z9 i = y9 at c9
          by_cases hpos : 0 < y9
          · have rn := HG.out.run (bu := y9 % 10) (by omega) (by omega)
            clear HG
            go_wp2_with fail
            refine rn.mono ?_
            rintro e w8 ⟨rn1, rb1, rfl, HG⟩
            clear rn
            go_wp2
            go_roundg (len - (i + 1))
            case measure => omega
            case rel => exact ⟨i + 1, n, a1, c1, hs, by omega, by go_num, rfl, hni, HNn, HG⟩
          · go_wp2
            go_roundg (len - (i + 1))
            case measure => omega
            case rel => exact ⟨i + 1, n, a1, c1, hs, by omega, by go_num, rfl, hni, HNn, HG⟩
        · go_wp2
          go_roundg (len - (i + 1))
          case measure => omega
          case rel => exact ⟨i + 1, n, a1, c1, hs, by omega, by go_num, rfl, hni, HNn, HG⟩
      case first =>
        obtain ⟨w5, hw5⟩ : ∃ w5, w5 = wr.alloc (.cells (opB d x a hh) 42) := ⟨_, rfl⟩
        rw [← hw5] at hab ⊢
        clear hw5
        have hnb := hab.out.box
        have b0 : w5.cell? ⟨wr.heap.size, 0, none⟩ = some (.int .i64 d) := by simp [World.cell?, hnb]
        have b1 : w5.cell? ⟨wr.heap.size, 1, none⟩ = some (.int .i64 x) := by simp [World.cell?, hnb]
        have b2 : w5.cell? ⟨wr.heap.size, 2, none⟩ = some (.int .i64 a) := by simp [World.cell?, hnb]
        have b3 : w5.cell? ⟨wr.heap.size, 3, none⟩ = some (.int .u64 hh) := by simp [World.cell?, hnb]
        by_cases hd1 : d = 1
        · subst hd1
          have mk := hab.out.make E2.out.1 E2.out.2.1 E2.out.2.2.1 E2.out.2.2.2 (by omega) a
          clear hab hnb
          go_wp2_with fail
          refine mk.mono ?_
          rintro e w6 ⟨y, er, rfl, hb6, M6⟩
          have b26 : w6.cell? ⟨wr.heap.size, 2, none⟩ = some (.int .i64 a) := by simp [World.cell?, hb6]
          have HY : Aside (U64 y) := M6.out.1
          have mk2 := M6.out.2
          clear mk hb6 M6 b0 b1 b2 b3
          go_wp2_with fail
          refine mk2.mono ?_
          rintro e w7 ⟨rfl, G7⟩
          clear mk2
          by_cases her : er = 0
          · subst her
            have hrow := G7.out.row.1
            rw [HNn.out] at hrow
            have hn60 : n ≤ 60 := by omega
            have hsz7 : w.heap.size ≤ w7.heap.size := G7.out.k.size
            go_wp2_with (
              at_builtin
              refine wpList_append_own_at _ rfl _ _ 39 rfl w.heap.size 43 ih zh 1 8 Tryz.underlying39 HH.out.1 HH.out.2.2.2.1 HH.out.2.1 HH.out.2.2.1 HH.out.2.2.2.2 (by decide) _ n _ rfl (hrow.alloc _) ⟨w7.heap.size, 0, none⟩ 1 1 [encU y] rfl rfl (Hd.src_one w7 #[.int .u64 y] 43) (Hd.one_u _) (by unfold maxLen; omega) (by omega) (by simp; omega) ?_
              intro v4 w8 hown hgrow _ hat
              have g8 := G7.out.app HY.out (by rw [HNn.out]; exact hown) hgrow hat
              have G8 : Aside (Ag w w8 A c A2 c2 v4 (hs ++ [y]) (63 * ((n + 1 : Nat) : Int))) := g8.up (by simp; omega)
              obtain ⟨a4, c4, hv4⟩ := Hd.own_form hown
              subst hv4
              clear hown hgrow hat g8)
            go_meet
            case rel => exact ⟨n + 1, _, _, hs ++ [y], rfl, by omega, (by show (hs ++ [y]).length = n + 1; rw [List.length_append, HNn.out]; rfl), G8⟩
          · have her : (er == 0) = false := by simpa using her
            have G8 : Aside (Ag w w7 A c A2 c2 (.slice a1 n c1) hs (63 * (n : Int))) := by
              have e : er ≠ 0 := by simpa using her
              have := G7.out
              rw [if_neg e] at this
              exact this.up (by omega)
            clear G7
            go_wp2
            go_meet
            case rel => exact ⟨n, a1, c1, hs, rfl, by omega, HNn, G8⟩
        · have hd1b : (d == 1) = false := by simpa using hd1
          by_cases hd2 : d = 2
          · subst hd2
            have dr := hab.out.drop (nthH hs x) hu.out
            clear hab hnb
            go_wp2_with fail
            refine dr.mono ?_
            rintro e w6 ⟨er, rfl, D6⟩
            have dr2 := D6.out
            clear dr D6
            go_wp2_with fail
            refine dr2.mono ?_
            rintro e w7 ⟨rfl, G7⟩
            clear dr2
            go_wp2
            go_meet
            case rel => exact ⟨n, a1, c1, hs, rfl, by omega, HNn, G7⟩
          · have hd2b : (d == 2) = false := by simpa using hd2
            by_cases hd3 : d = 3
            · subst hd3
              have pu := (hab.out.keep (K.drew (K.refl w5))).put (nthH hs x) a hh hu.out h64.out
              have PU : Calls Tryz.prog 9 #[sp A.st, .int .u64 (nthH hs x), .int .i64 a, .int .u64 hh] w5.drew fun e w1 => ∃ er, e = .returned (.int .i64 er) ∧ (w1.cell? ⟨wr.heap.size, 2, none⟩ = some (.int .i64 a) ∧ w1.cell? ⟨wr.heap.size, 3, none⟩ = some (.int .u64 hh)) ∧ Aside (Calls Tryz.prog 9 #[sp A2.st, .int .u64 (nthH hs x), .int .i64 a, .int .u64 hh] w1 fun e w2 => e = .returned (.int .i64 er) ∧ (w2.cell? ⟨wr.heap.size, 2, none⟩ = some (.int .i64 a) ∧ w2.cell? ⟨wr.heap.size, 3, none⟩ = some (.int .u64 hh)) ∧ Aside (Ag w w2 A c A2 c2 (.slice a1 n c1) hs (63 * (n : Int)))) := by
                refine pu.mono ?_
                rintro e w1 ⟨er, rfl, hb1, P1⟩
                refine ⟨er, rfl, ⟨by simp [World.cell?, hb1], by simp [World.cell?, hb1]⟩, ?_⟩
                refine P1.out.mono ?_
                rintro e w2 ⟨rfl, hb2, P2⟩
                exact ⟨rfl, ⟨by simp [World.cell?, hb2], by simp [World.cell?, hb2]⟩, P2⟩
              clear pu hab hnb
              go_wp2
              go_region_held3 (fun w' => w'.cell? ⟨wr.heap.size, 2, none⟩ = some (.int .i64 a) ∧ w'.cell? ⟨wr.heap.size, 3, none⟩ = some (.int .u64 hh))
                (first | exact ⟨b2, b3⟩ | exact y1 | exact y2)
                (first | (go_at_call 9; refine P2.mono ?_; rintro e w7 ⟨rfl, y2, G7⟩) | (go_at_call 9; refine PU.mono ?_; rintro e w6 ⟨er, rfl, y1, P1⟩; have P2 := P1.out))
              all_goals
                go_wp2
                go_meet
                case rel => exact ⟨n, a1, c1, hs, rfl, by omega, HNn, G7⟩
            · have hd3b : (d == 3) = false := by simpa using hd3
              have G5 : Aside _ := hab.out.ag
              clear hab hnb
              go_wp2
              go_meet
              case rel => exact ⟨n, a1, c1, hs, rfl, by omega, HNn, G5⟩
    · obtain rfl : i = len := by omega
      have hn60 : n ≤ 60 := by omega
      have hrow := HG.out.row
      rw [HNn.out] at hrow
      obtain ⟨gl, al, cl, he, hal, hcl⟩ := So.row1 hrow.1
      cases he
      have HA : Aside (0 < n → a1 = some ⟨gl, 0, none⟩) := hal
      have HC : Aside (∀ k, k < n → ∃ x, U64 x ∧ wr.cell? ⟨gl, k, none⟩ = some (.int .u64 x)) := fun k hk => by
        obtain ⟨x, hx⟩ : ∃ x, hs[k]? = some x := ⟨_, List.getElem?_eq_getElem (by rw [HNn.out]; exact hk)⟩
        exact ⟨x, hrow.2 x (List.mem_of_getElem? hx), hcl k (encU x) (by rw [List.getElem?_map, hx]; rfl)⟩
      obtain ⟨q, hq, hq0, hen⟩ := HG.out.ends
      obtain ⟨f, hf⟩ := HG.out.words
      have HE : Aside _ := hen
      have HF : Aside _ := hf
      have KW : Aside (K w wr) := HG.out.k
      clear hrow hal hcl hen hf HG hni
      obtain ⟨wo, rfl⟩ : ∃ wo, wo = wr := ⟨_, rfl⟩
      go_wp2
      go_loopw [21] (fun t wx => ∃ k : Nat, t = .int .i64 k ∧ k ≤ n ∧ Aside (K wo wx)) (fun t _ => n - (intOf t).toNat)
      case atStart => exact ⟨0, rfl, by omega, K.refl _⟩
      case round =>
        obtain ⟨k, rfl, hk, KR⟩ := hrel
        by_cases hkn : k < n
        · obtain ⟨x, hx64, hcx⟩ := HC.out k hkn
          obtain rfl : a1 = some ⟨gl, 0, none⟩ := HA.out (by omega)
          have ix := Hd.run_ixh gl n c1 k hkn
          have cx := KR.out.cell hcx
          obtain ⟨⟨fl0, fl1⟩, hw⟩ := HF.out x hx64
          have W1 : Calls Tryz.prog 11 #[sp A.st, .int .u64 x] wr.drew fun e wa => ∃ ga ca, e = .returned (.slice (some ⟨ga, 0, none⟩) (f x).length ca) ∧ wa.cell? ⟨gl, k, none⟩ = some (.int .u64 x) ∧ Aside (Calls Tryz.prog 11 #[sp A2.st, .int .u64 x] wa fun e wb => ∃ gb cb, e = .returned (.slice (some ⟨gb, 0, none⟩) (f x).length cb) ∧ wb.cell? ⟨gl, k, none⟩ = some (.int .u64 x) ∧ Aside (K wo wb ∧ ∀ (j : Nat) y, (f x)[j]? = some y → wb.cell? ⟨ga, j, none⟩ = some (.int .u64 y) ∧ wb.cell? ⟨gb, j, none⟩ = some (.int .u64 y))) := by
            have kd : K wo wr.drew := KR.out.drew
            refine (hw _ kd).1.mono ?_
            rintro e wa ⟨u, rfl, ra, ka⟩
            obtain ⟨ga, aa, ca, rfl, haa, hca⟩ := So.row1 ra.out
            obtain rfl := haa fl0
            have cwa := ka.cell ((K.drew (K.refl wr)).cell cx)
            refine ⟨ga, ca, rfl, cwa, ?_⟩
            have kwa := kd.trans ka
            refine (hw _ kwa).2.mono ?_
            rintro e wb ⟨u2, rfl, rb, kb⟩
            obtain ⟨gb, ab, cb, rfl, hab, hcb⟩ := So.row1 rb.out
            obtain rfl := hab fl0
            exact ⟨gb, cb, rfl, kb.cell cwa, kwa.trans kb, fun j y hj => ⟨kb.cell (hca j (encU y) (by rw [List.getElem?_map, hj]; rfl)), hcb j (encU y) (by rw [List.getElem?_map, hj]; rfl)⟩⟩
          generalize f x = d at *
          obtain ⟨dl, hdl⟩ : ∃ dl, dl = d.length := ⟨_, rfl⟩
          have HDL : Aside (dl = d.length) := hdl
          rw [← hdl] at fl0 fl1 W1
          have KR2 : Aside _ := KR
          clear hw hcx hdl hx64
          go_wp2
          go_region_held3 (fun w' => w'.cell? ⟨gl, k, none⟩ = some (.int .u64 x))
            (first | exact cx | exact y1 | exact y2)
            (first | (go_at_call 11; refine P2.mono ?_; rintro e wb ⟨gb, cb, rfl, y2, P3⟩) | (go_at_call 11; refine W1.mono ?_; rintro e wa ⟨ga, ca, rfl, y1, P1⟩; have P2 := P1.out))
          all_goals
            have IXF : Aside (∀ j, j < dl → ∀ w', (Instr.indexAt 52 (.slice (some ⟨ga, 0, none⟩) dl ca) (.int .i64 (j : Int))).run Tryz.prog w' = .ok (.pointer (some ⟨ga, j, none⟩)) w' ∧ (Instr.indexAt 52 (.slice (some ⟨gb, 0, none⟩) dl cb) (.int .i64 (j : Int))).run Tryz.prog w' = .ok (.pointer (some ⟨gb, j, none⟩)) w') := fun j hj w' => ⟨run_ixU ga dl ca j hj w', run_ixU gb dl cb j hj w'⟩
            have KB : Aside (K wo wb) := P3.out.1
            have CB : Aside (∀ (j : Nat) y, d[j]? = some y → wb.cell? ⟨ga, j, none⟩ = some (.int .u64 y) ∧ wb.cell? ⟨gb, j, none⟩ = some (.int .u64 y)) := P3.out.2
            clear P3 P2 P1 W1 y1 y2 cx ix
            go_wp2
            go_loopw [24] (fun t wx => ∃ j : Nat, t = .int .i64 j ∧ j ≤ dl ∧ Aside (K wb wx)) (fun t _ => dl - (intOf t).toNat)
            case atStart => exact ⟨0, rfl, by omega, K.refl _⟩
            case round =>
              obtain ⟨j, rfl, hj, KJ⟩ := hrel
              by_cases hjd : j < dl
              · obtain ⟨y, hy⟩ : ∃ y, d[j]? = some y := ⟨_, List.getElem?_eq_getElem (by rw [← HDL.out]; exact hjd)⟩
                have cy1 := KJ.out.cell (CB.out j y hy).1
                have cy2 := KJ.out.cell (CB.out j y hy).2
                have ix1 := fun w' => (IXF.out j hjd w').1
                have ix2 := fun w' => (IXF.out j hjd w').2
                clear hy
                go_wp2
                go_region
                all_goals go_wp2
                go_roundw
                case rel => exact ⟨j + 1, by go_num, by omega, KJ.out.drew⟩
                case measure => simp [intOf]; omega
              · have KE : Aside (K wo wr) := KB.out.trans KJ.out
                go_wp2
                go_roundw
                case rel => exact ⟨k + 1, by go_num, by omega, KE⟩
                case measure => simp [intOf]; omega
        · obtain ⟨e1, _⟩ := HE.out _ KR.out
          obtain rfl : k = n := by omega
          go_wp2_with fail
          refine e1.mono ?_
          rintro e wp ⟨rfl, kp⟩
          have KP : Aside (K wo wp) := KR.out.trans kp
          obtain ⟨_, e2⟩ := HE.out _ KP.out
          clear e1 kp
          go_wp2_with fail
          refine e2.mono ?_
          rintro e wq ⟨rfl, kq⟩
          have kw : K w wq := KW.out.trans (KP.out.trans kq)
          have aw9 := aw.out _ kw
          clear e2 kq
          go_wp2_with fail
          refine aw9.mono ?_
          rintro e wg ⟨rfl, kg⟩
          go_wp2
          go_ret
          exact ⟨rfl, kw.trans kg⟩

end Co
end Go.Proofs.YtgcnjafoabnhgaaGreatDoor
