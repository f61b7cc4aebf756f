/-
  The walk of StoreFull.
-/
import Derived.Test.YtckofhbfdfmnoabGreatDoorWFullF
namespace Go.Proofs.YtckofhbfdfmnoabGreatDoor
open Go.RowKit Go.Maps
attribute [local go_sem ↓] Go.wp_at_zero Go.wp_at_succ
namespace So
open Hp (Kept K No Pg Same SameBut allocL granted)
open Hd (U64 findL nm)

theorem no_words : allocL 0 [] (2 + 0) = (0, 3, []) := by decide +kernel

set_option maxRecDepth 100000 in
set_option maxHeartbeats 4000000 in
theorem full_main (N : Nat) (N0 : 1 ≤ N) (N1 : N ≤ 40) (a0 : Option Addr) (b off len cap : Nat) (zz : Nat → Int) (w : World) (hT : Bt.Tab w) (hS : Nums w a0 b off len cap zz) (hlen : len ≤ 40) :
    Calls Tryz.prog 3 #[.int .i64 (N : Int), .slice a0 len cap] w fun e w' => e = .returned (.bool true) ∧ K w w' := by
  have hnw := Rn.new 262144 (N : Int) 4294967295 w hT (by omega) (by omega) (by omega) (by omega) (by omega) (by omega)
  have hz0 : Aside (0 < w.heap.size) := Hp.lt0 hT
  have aw : Aside (∀ w1, K w w1 → Calls Tryz.prog 4 #[] w1 fun e w' => e = .returned (.bool true) ∧ K w1 w') := fun w1 k1 => awake_any w1 (hT.keep k1.toBt)
  have NW : Aside (∀ w1, K w w1 → Calls Tryz.prog 5 #[.int .i64 0, .int .i64 1, .int .u32 1] w1 fun e w' => ∃ A v, e = .returned (.tuple #[sp A.st, .int .i64 0]) ∧ Aside (Rn w1 w' A [] (fun _ => 0) [] v [] ∧ A.q = 0 ∧ A.m = 1 ∧ A.z = 1 ∧ w1.heap.size ≤ A.st ∧ w1.heap.size ≤ A.bh) ∧ K w1 w') := fun w1 k1 => Rn.new 0 1 1 w1 (hT.keep k1.toBt) (by omega) (by omega) (by omega) (by omega) (by omega) (by omega)
  obtain ⟨ih, hih, hsh, hbh, zh, hzh, hzsh⟩ := Hd.info_handle
  have HH : Aside (Tryz.prog.info? 31 = some ih ∧ ih.size = 1 ∧ ih.bytes = 8 ∧ ih.zero = some zh ∧ zh.cells.size = 1) := ⟨hih, hsh, hbh, hzh, hzsh⟩
  have HS : Aside _ := hS
  clear hS hih hsh hbh hzh hzsh hT
  go_enter Tryz.func3, Tryz.ntmps3
  go_wp2_with fail
  refine hnw.mono ?_
  rintro e w1 ⟨A, v, rfl, HR, k1⟩
  have rn1 := HR.out.1
  have AE : Aside (A.q = 262144 ∧ A.m = (N : Int) ∧ A.z = 4294967295) := ⟨HR.out.2.1, HR.out.2.2.1, HR.out.2.2.2.1⟩
  clear hnw HR k1
  go_wp2
  go_loopg [7, 8] N (fun gh t7 t8 wx => ∃ (i : Nat) (a1 : Option Addr) (c1 : Nat) (pg : List (Int × Nat)) (W : Int → Int) (L : List Pg) (v : Value) (T : List Hd.Sl) (hs : List Int), i + gh = N ∧ t8 = .int .i64 i ∧ t7 = .slice a1 i c1 ∧ Rn w wx A pg W L v T ∧ Hr w wx A pg v t7 hs ∧ Aside (hs.length = i ∧ T.length = i ∧ cl T = 0 ∧ (∀ s ∈ T, s.g = 1) ∧ granted L ≤ i ∧ ∀ (j : Nat) x, hs[j]? = some x → x = nm (j + 1) 1))
  case atStart => exact ⟨0, none, 0, _, _, _, _, _, [], by omega, rfl, rfl, rn1, ⟨World.ownsRow_nil _ _ _ _, fun b h => by cases h⟩, rfl, rfl, rfl, fun s h => (by cases h), by decide, fun j x h => by simp at h⟩
  case round =>
    obtain ⟨i, a1, c1, pg, W, L, v, T, hs, hig, rfl, rfl, rn, hr, HP⟩ := hrel
    clear rn1
    by_cases hlt : i < N
    · have hfu : fullB A.m A.z T = false := by
        have h1 := HP.out.2.1
        have h2 := AE.out.2.1
        have : ¬ A.m ≤ (T.length : Int) := by omega
        simp [fullB, this]
      obtain ⟨a, er, L', ea⟩ : ∃ a er L', allocL A.q L (2 + (i : Int)) = (a, er, L') := ⟨_, _, _, rfl⟩
      obtain ⟨rfl, hgr⟩ := alloc_few rn.s.b.wl (x := 2 + (i : Int)) ⟨by omega, by omega⟩ (by have h1 := HP.out.2.2.2.2.1; have h2 := AE.out.1; omega) ea
      have mk := make_ok rn.s rn.k.size i (by omega) (by omega) hfu ea
      have EA : Aside _ := ea
      have HGR : Aside _ := hgr
      have RN : Aside _ := rn
      have HRR : Aside _ := hr
      clear ea hfu hgr rn hr
      go_wp2_with fail
      refine mk.mono ?_
      rintro e w3 ⟨x, T', eo, rfl, pg3, W3, v3, sw3, _, _, _, _, t3⟩
      have ha0 : 0 ≤ a := by
        have := sw3.b.at ((allocRm RN.out.s.b.wl (x := 2 + (i : Int)) ⟨by omega, by omega⟩ EA.out).2 a _ |>.2 (.inl ⟨rfl, rfl⟩))
        omega
      have eo2 := open_next (m := A.m) (z := A.z) HP.out.2.2.1 (by have h1 := HP.out.2.1; have h2 := AE.out.2.1; omega) ha0
      rw [eo2] at eo
      obtain ⟨hx, e2⟩ := Prod.mk.inj eo
      obtain ⟨_, hT'⟩ := Prod.mk.inj e2
      have rn3 : Rn w w3 A pg3 W3 L' v3 T' := ⟨sw3, RN.out.kst t3⟩
      have hr3 := HRR.out.step t3
      have hrow := hr3.rl
      rw [HP.out.1] at hrow
      have hsz := rn3.k.size
      have HX : Aside _ := hx
      have HT' : Aside _ := hT'
      have RN3 : Aside _ := rn3
      have HR3 : Aside _ := hr3
      clear mk eo e2 hx hT' sw3 t3 eo2 rn3 hr3 RN HRR EA
      go_wp2_with (at_builtin
                   refine wpList_append_own_at _ rfl _ _ 29 rfl w.heap.size 31 ih zh 1 8 Tryz.underlying29 HH.out.1 HH.out.2.2.2.1 HH.out.2.1 HH.out.2.2.1 HH.out.2.2.2.2 (by decide) _ i _ rfl (hrow.alloc _) ⟨w3.heap.size, 0, none⟩ 1 1 [Hd.encU x] rfl rfl (Hd.src_one w3 #[.int .u64 x] 31) (Hd.one_u _) (by unfold maxLen; omega) (by omega) (by simp; omega) ?_
                   intro v4 w4 hown hgrow _ hat
                   have h4 := HR3.out.app (x := x) RN3.out hz0.out (by rw [HP.out.1]; exact hown) hgrow hat
                   obtain ⟨a4, c4, hv4⟩ := Hd.own_form hown
                   subst hv4
                   clear hown hgrow hat hrow)
      go_roundg (N - (i + 1))
      case measure => omega
      case rel =>
        refine ⟨i + 1, _, _, pg3, W3, L', v3, T', hs ++ [x], by omega, by go_num, rfl, h4.2, h4.1, by rw [List.length_append, HP.out.1]; rfl, ?_, ?_, fun s hs' => ?_, by have h1 := HGR.out; have h2 := HP.out.2.2.2.2.1; omega, fun j y hj => ?_⟩
        · rw [← HT'.out, List.length_append, HP.out.2.1]; rfl
        · rw [← HT'.out]
          have := HP.out.2.2.1
          unfold cl at this ⊢
          rw [List.countP_append, this]
          rfl
        · rw [← HT'.out] at hs'
          rcases List.mem_append.1 hs' with h | h
          · exact HP.out.2.2.2.1 s h
          · obtain rfl : s = ⟨true, 1, a⟩ := by simpa using h
            rfl
        · by_cases hj2 : j < hs.length
          · rw [List.getElem?_append_left hj2] at hj
            exact HP.out.2.2.2.2.2 j y hj
          · have hjl := (List.getElem?_eq_some_iff.1 hj).1
            simp at hjl
            have : j = hs.length := by omega
            subst this
            rw [List.getElem?_append_right (Nat.le_refl _)] at hj
            simp at hj
            rw [← hj, ← HX.out, HP.out.1, HP.out.2.1]
    · obtain rfl : i = N := by omega
      have wd := words_any rn.s.b
      have HRR : Aside _ := hr
      have RN : Aside _ := rn
      clear rn hr
      go_wp2_with fail
      refine wd.mono ?_
      rintro e w3 ⟨rfl, k3⟩
      have rn3 := RN.out.keep k3
      have hr3 := HRR.out.keep k3
      obtain ⟨a, er, L', ea⟩ : ∃ a er L', allocL A.q L (2 + 1) = (a, er, L') := ⟨_, _, _, rfl⟩
      obtain ⟨rfl, _⟩ := alloc_few rn3.s.b.wl (x := 2 + 1) ⟨by omega, by omega⟩ (by have h1 := HP.out.2.2.2.2.1; have h2 := AE.out.1; omega) ea
      have mf := rn3.makeFull 1 (by omega) (by omega) (full_of HP.out.2.2.1 (by have h1 := HP.out.2.1; have h2 := AE.out.2.1; omega)) ea
      have HR3 : Aside _ := hr3
      clear wd ea RN HRR k3 rn3 hr3
      go_wp2_with fail
      refine mf.mono ?_
      rintro e w4 ⟨rfl, pg4, W4, v4, rn4, t4⟩
      have hr4 := HR3.out.step t4
      have wd := words_any rn4.s.b
      have HR4 : Aside _ := hr4
      have RN4 : Aside _ := rn4
      clear mf hr4 rn4 t4 HR3
      generalize hgg : granted L = gg at *
      have HGG : Aside _ := hgg
      clear hgg
      go_wp2_with fail
      refine wd.mono ?_
      rintro e w5 ⟨rfl, k5⟩
      have rn5 := RN4.out.keep k5
      have hr5 := HR4.out.keep k5
      have al := all_any rn5.s.b
      have hll : (Hp.liveL L).length = i := by
        rw [rn5.s.r.len rn5.s.b.wl rn5.s.b.tl]
        have h1 := cl_opens T
        have h2 := HP.out.2.1
        have h3 := HP.out.2.2.1
        omega
      rw [hll] at al
      have HR5 : Aside _ := hr5
      have RN5 : Aside _ := rn5
      clear wd hr5 rn5 HR4 RN4 k5 hll
      go_wp2_with fail
      refine al.mono ?_
      rintro e w6 ⟨u6, rfl, hown6, k6⟩
      obtain ⟨g6, a6, cap6, rfl, _, _⟩ := row1 hown6
      have rn6 := RN5.out.keep k6
      have hr6 := HR5.out.keep k6
      clear al hown6 HR5 RN5 k6
      go_wp2
      go_loopg [14, 15] len (fun gh t14 t15 wx => ∃ (j gn : Nat) (pg : List (Int × Nat)) (W : Int → Int) (L : List Pg) (v : Value) (T : List Hd.Sl), j + gh = len ∧ t15 = .int .i64 j ∧ t14 = .int .i64 gn ∧ gn ≤ j ∧ Rn w wx A pg W L v T ∧ Hr w wx A pg v (.slice a1 i c1) hs ∧ Aside (T.length = i ∧ cl T = gn ∧ (∀ s ∈ T, s.g = 1) ∧ granted L ≤ i))
      case atStart => exact ⟨0, 0, pg4, W4, L, v4, T, by omega, rfl, rfl, Nat.le_refl _, rn6, hr6, HP.out.2.1, HP.out.2.2.1, HP.out.2.2.2.1, by rw [HGG.out]; exact HP.out.2.2.2.2.1⟩
      case round =>
        clear rn6 hr6
        obtain ⟨j, gn, pg, W, L, v, T, hjg, rfl, rfl, hgj, rn, hr, HQ⟩ := hrel
        by_cases hjl : j < len
        · have hix := HS.out.ix j hjl
          have hcell := rn.k.cell (HS.out.cell j hjl)
          generalize zz j = dv at hcell
          by_cases h0 : 0 ≤ dv
          · by_cases h1 : dv < (i : Int)
            · obtain ⟨k, rfl⟩ : ∃ k : Nat, dv = k := ⟨dv.toNat, by omega⟩
              have hki : k < i := by omega
              obtain ⟨x, hx⟩ : ∃ x, hs[k]? = some x := ⟨_, List.getElem?_eq_getElem (by rw [HP.out.1]; exact hki)⟩
              obtain ⟨s, hsk⟩ : ∃ s, T[k]? = some s := ⟨_, List.getElem?_eq_getElem (by rw [HQ.out.1]; exact hki)⟩
              have ex := HP.out.2.2.2.2.2 k x hx
              have hg := HQ.out.2.2.1 s (List.mem_of_getElem? hsk)
              have hu : U64 x := by
                rw [ex]
                unfold U64 nm
                omega
              obtain ⟨g, ad, cp, ev, hga, hcl⟩ := row1 hr.rl
              rw [HP.out.1] at ev
              cases ev
              obtain rfl := hga (by rw [HP.out.1]; omega)
              have dc := hcl k _ (by rw [List.getElem?_map, hx]; rfl)
              have ix1 := run_ixF g i c1 k hki
              have hfd := Hd.findL_nm (g := 1) hsk (by omega)
              rw [← ex, hg] at hfd
              cases so : s.o with
              | true =>
                rw [so, if_pos ⟨rfl, rfl⟩] at hfd
                have dr := drop_some rn.s rn.k.size x hu hfd hsk
                have RN : Aside _ := rn
                have HRR : Aside _ := hr
                clear hfd hx ex hg rn hr hga hcl hu
                go_wp2_with fail
                refine dr.mono ?_
                rintro e w7 ⟨rfl, pg7, W7, p, kk, hfb, _, sw7, t7⟩
                have rn7 : Rn w w7 A pg7 W7 _ v _ := ⟨sw7, RN.out.kst t7⟩
                have hr7 := HRR.out.step t7
                have NX : Aside ((T.set k ⟨false, s.g, 0⟩).length = i ∧ cl (T.set k ⟨false, s.g, 0⟩) = gn + 1 ∧ (∀ t ∈ T.set k ⟨false, s.g, 0⟩, t.g = 1) ∧ granted (Hp.dropL L p kk) ≤ i) := by
                  refine ⟨by rw [List.length_set]; exact HQ.out.1, by rw [cl_close hsk so, HQ.out.2.1], fun t ht => ?_, ?_⟩
                  · rcases List.mem_or_eq_of_mem_set ht with h | rfl
                    · exact HQ.out.2.2.1 t h
                    · exact HQ.out.2.2.1 s (List.mem_of_getElem? hsk)
                  · have h1 := drop_granted RN.out.s.b.wl (Hp.findB_some hfb).1 kk
                    have h2 := HQ.out.2.2.2
                    omega
                clear dr sw7 t7 hfb RN HRR
                go_wp2
                go_roundg (len - (j + 1))
                case measure => omega
                case rel => exact ⟨j + 1, gn + 1, pg7, W7, _, v, _, by omega, by go_num, by go_num, by omega, rn7, hr7, NX.out⟩
              | false =>
                rw [so, if_neg (by simp)] at hfd
                have dr := drop_none rn.s x hu hfd
                have RN : Aside _ := rn
                have HRR : Aside _ := hr
                clear hfd hx ex hg rn hr hga hcl hu
                go_wp2_with fail
                refine dr.mono ?_
                rintro e w7 ⟨rfl, k7⟩
                have rn7 := RN.out.keep k7
                have hr7 := HRR.out.keep k7
                clear dr k7 RN HRR
                go_wp2
                go_roundg (len - (j + 1))
                case measure => omega
                case rel => exact ⟨j + 1, gn, pg, W, L, v, T, by omega, by go_num, rfl, by omega, rn7, hr7, HQ.out⟩
            · go_wp2
              go_roundg (len - (j + 1))
              case measure => omega
              case rel => exact ⟨j + 1, gn, pg, W, L, v, T, by omega, by go_num, rfl, by omega, rn, hr, HQ.out⟩
          · go_wp2
            go_roundg (len - (j + 1))
            case measure => omega
            case rel => exact ⟨j + 1, gn, pg, W, L, v, T, by omega, by go_num, rfl, by omega, rn, hr, HQ.out⟩
        · have rn8 := rn
          clear hr rn
          go_wp2
          go_loopg [16] gn (fun gh t16 wx => ∃ (t : Nat) (pg : List (Int × Nat)) (W : Int → Int) (L : List Pg) (v : Value) (T : List Hd.Sl), t + gh = gn ∧ t16 = .int .i64 t ∧ Rn w wx A pg W L v T ∧ Aside (T.length = i ∧ cl T = gh ∧ (∀ s ∈ T, s.g ≤ 2 ∧ (s.o = false → s.g ≤ 1)) ∧ granted L ≤ i + t))
          case atStart => exact ⟨0, pg, W, L, v, T, by omega, rfl, rn8, HQ.out.1, HQ.out.2.1, fun s hs => (by rw [HQ.out.2.2.1 s hs]; exact ⟨by omega, fun _ => by omega⟩), by have := HQ.out.2.2.2; omega⟩
          case round =>
            clear rn8
            obtain ⟨t, pg, W, L, v, T, htg, rfl, rn, HX⟩ := hrel
            by_cases htl : t < gn
            · obtain ⟨a, er, L', ea⟩ : ∃ a er L', allocL A.q L (2 + 0) = (a, er, L') := ⟨_, _, _, rfl⟩
              obtain ⟨rfl, hgr⟩ := alloc_few rn.s.b.wl (x := 2 + 0) ⟨by omega, by omega⟩ (by have h1 := HX.out.2.2.2; have h2 := AE.out.1; omega) ea
              have hgz : ∀ s ∈ T, s.g ≠ A.z := fun s hs => by
                have h1 := (HX.out.2.2.1 s hs).1
                have h2 := AE.out.2.2
                omega
              have hcp : 0 < cl T := by have := HX.out.2.1; omega
              have hfu : fullB A.m A.z T = false := by
                obtain ⟨i0, s0, _, _, eo0⟩ := open_closed (m := A.m) (z := A.z) hcp hgz (a := 0) (by omega)
                rcases full_open (T := T) (by omega) eo0 with ⟨h, _⟩ | ⟨_, h, _⟩
                · exact h
                · cases h
              have mk := make_ok rn.s rn.k.size 0 (by omega) (by omega) hfu ea
              have EA : Aside _ := ea
              have RN : Aside _ := rn
              have HGR : Aside _ := hgr
              have HGZ : Aside _ := hgz
              clear ea hfu hgr rn hgz
              go_wp2_with fail
              refine mk.mono ?_
              rintro e w9 ⟨x, T', eo, rfl, pg9, W9, v9, sw9, _, _, _, _, t9⟩
              have ha0 : 0 ≤ a := by
                have := sw9.b.at ((allocRm RN.out.s.b.wl (x := 2 + 0) ⟨by omega, by omega⟩ EA.out).2 a _ |>.2 (.inl ⟨rfl, rfl⟩))
                omega
              obtain ⟨i0, s0, hs0, so0, eo0⟩ := open_closed (m := A.m) (z := A.z) hcp HGZ.out ha0
              rw [eo0] at eo
              obtain ⟨_, e2⟩ := Prod.mk.inj eo
              obtain ⟨_, hT'⟩ := Prod.mk.inj e2
              have rn9 : Rn w w9 A pg9 W9 L' v9 T' := ⟨sw9, RN.out.kst t9⟩
              have g1 : s0.g ≤ 1 := (HX.out.2.2.1 s0 (List.mem_of_getElem? hs0)).2 so0
              have NX : Aside (T'.length = i ∧ cl T' = gn - (t + 1) ∧ (∀ s ∈ T', s.g ≤ 2 ∧ (s.o = false → s.g ≤ 1)) ∧ granted L' ≤ i + (t + 1 : Nat)) := by
                have hc1 := cl_open hs0 so0 (s0.g + 1) a
                rw [hT'] at hc1
                refine ⟨by rw [← hT', List.length_set]; exact HX.out.1, by have := HX.out.2.1; omega, fun s hs => ?_, by have h1 := HGR.out; have h2 := HX.out.2.2.2; omega⟩
                rw [← hT'] at hs
                rcases List.mem_or_eq_of_mem_set hs with h | rfl
                · exact HX.out.2.2.1 s h
                · exact ⟨by show s0.g + 1 ≤ 2; omega, fun h => by cases h⟩
              clear mk eo e2 hT' sw9 t9 eo0 RN EA
              go_wp2
              go_roundg (gn - (t + 1))
              case measure => omega
              case rel => exact ⟨t + 1, pg9, W9, L', v9, T', by omega, by go_num, rn9, NX.out⟩
            · obtain ⟨a, er, L', ea⟩ : ∃ a er L', allocL A.q L (2 + 0) = (a, er, L') := ⟨_, _, _, rfl⟩
              obtain ⟨rfl, _⟩ := alloc_few rn.s.b.wl (x := 2 + 0) ⟨by omega, by omega⟩ (by have h1 := HX.out.2.2.2; have h2 := AE.out.1; omega) ea
              have mf := rn.makeFull 0 (by omega) (by omega) (full_of (by have := HX.out.2.1; omega) (by have h1 := HX.out.1; have h2 := AE.out.2.1; omega)) ea
              clear ea rn
              go_wp2_with fail
              refine mf.mono ?_
              rintro e w10 ⟨rfl, pg10, W10, v10, rn10, _⟩
              have k10 := rn10.k
              clear mf rn10
              go_wp2_with fail
              refine (NW.out _ k10).mono ?_
              rintro e w11 ⟨A2, v11, rfl, HR11, k11⟩
              have ea2 : allocL A2.q [] (2 + 0) = (0, 3, []) := by rw [HR11.out.2.1]; exact no_words
              have mn := make_no HR11.out.1.s HR11.out.1.k.size 0 (by omega) (by omega) ea2 (by omega)
              have RN11 : Aside _ := HR11.out.1
              clear ea2 HR11
              go_wp2_with fail
              refine mn.mono ?_
              rintro e w12 ⟨rfl, pg12, W12, sw12, _, t12⟩
              have k12 := k10.trans (RN11.out.kst t12)
              clear mn sw12 t12 RN11 k11 k10
              go_wp2_with (go_at_call 4; refine (aw.out _ k12).mono ?_; rintro e w13 ⟨rfl, k13⟩)
              go_ret
              exact ⟨rfl, k12.trans k13⟩

set_option maxRecDepth 100000 in
theorem full_out (m : Int) (a0 : Option Addr) (len cap : Nat) (w : World) (hT : Bt.Tab w) (h : m < 1 ∨ 40 < m ∨ 40 < len) (hmax : len ≤ maxLen) : Calls Tryz.prog 3 #[.int .i64 m, .slice a0 len cap] w fun e w' => e = .returned (.bool true) ∧ K w w' := by
  have ha := awake_any w hT
  have hl63 : (len : Int) ≤ 9223372036854775807 := by unfold maxLen at hmax; omega
  clear hmax hT
  by_cases h0 : m < 1
  · clear h
    go_enter Tryz.func3, Tryz.ntmps3
    go_wp2_with (go_at_call 4; refine ha.mono ?_; rintro e w1 ⟨rfl, hk⟩)
    go_ret
    exact ⟨rfl, hk⟩
  · by_cases h1 : 40 < m
    · clear h
      go_enter Tryz.func3, Tryz.ntmps3
      go_wp2_with (go_at_call 4; refine ha.mono ?_; rintro e w1 ⟨rfl, hk⟩)
      go_ret
      exact ⟨rfl, hk⟩
    · have h2 : (40 : Int) < len := by omega
      clear h
      go_enter Tryz.func3, Tryz.ntmps3
      go_wp2_with (go_at_call 4; refine ha.mono ?_; rintro e w1 ⟨rfl, hk⟩)
      go_ret
      exact ⟨rfl, hk⟩

theorem full_walk (m : Int) (_ : Hp.In64 m) (a0 : Option Addr) (b off len cap : Nat) (zz : Nat → Int) (w : World) (hT : Bt.Tab w) (hS : Nums w a0 b off len cap zz) (hmax : len ≤ maxLen) : Calls Tryz.prog 3 #[.int .i64 m, .slice a0 len cap] w fun e w' => e = .returned (.bool true) ∧ K w w' := by
  by_cases h : m < 1 ∨ 40 < m ∨ 40 < len
  · exact full_out m a0 len cap w hT h hmax
  · obtain ⟨N, rfl⟩ : ∃ N : Nat, m = N := ⟨m.toNat, by omega⟩
    exact full_main N (by omega) (by omega) a0 b off len cap zz w hT hS (by omega)

theorem storeFull_any (w : World) (m : Int) (hm : Hp.In64 m) (a0 : Option Addr) (b off len cap : Nat) (zz : Nat → Int) (hS : Nums w a0 b off len cap zz) (hmax : len ≤ maxLen) (hT : Bt.Tab w) : Calls Tryz.prog 3 #[.int .i64 m, .slice a0 len cap] w fun e w' => e = .returned (.bool true) ∧ K w w' := full_walk m hm a0 b off len cap zz w hT hS hmax

end So
end Go.Proofs.YtckofhbfdfmnoabGreatDoor
