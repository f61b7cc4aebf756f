/-
  The walk of StoreCosts.
-/
import Derived.Test.YtckofhbfdfmnoaaGreatDoorWCostsF
namespace Go.Proofs.YtckofhbfdfmnoaaGreatDoor
open Go.RowKit Go.Maps
attribute [local go_sem ↓] Go.wp_at_zero Go.wp_at_succ
namespace So
open Hp (Kept K No Pg Same SameBut allocL granted spareL)
open Hd (U64 findL nm)

theorem y_out {d y : Int} (hd : Hp.In64 d) (h : 3998 < d) (e : IntKind.i64.wrap (d + 2) = y) : ¬ Cl.Wd y := by
  obtain ⟨h0, h1⟩ := hd
  subst e
  simp only [IntKind.wrap, IntKind.signed, IntKind.bits, Cl.Wd]
  simp
  omega

set_option maxRecDepth 100000 in
set_option maxHeartbeats 4000000 in
theorem costs_main (a0 : Option Addr) (b off len cap : Nat) (zz : Nat → Int) (w : World) (hT : Bt.Tab w) (hS : Nums w a0 b off len cap zz) (hlen : len ≤ 30) :
    Calls Tryz.prog 8 #[.slice a0 len cap] w fun e w' => e = .returned (.bool true) ∧ K w w' := by
  have hnw := Rn.new 262144 100 4294967295 w hT (by omega) (by omega) (by omega) (by omega) (by omega) (by omega)
  have hz0 : Aside (0 < w.heap.size) := Hp.lt0 hT
  have aw : Aside (∀ w1, K w w1 → Calls Tryz.prog 9 #[] w1 fun e w' => e = .returned (.bool true) ∧ K w1 w') := fun w1 k1 => awake_any w1 (hT.keep k1.toBt)
  obtain ⟨ih, hih, hsh, hbh, zh, hzh, hzsh⟩ := Hd.info_handle
  have HH : Aside (Tryz.prog.info? 48 = some ih ∧ ih.size = 1 ∧ ih.bytes = 8 ∧ ih.zero = some zh ∧ zh.cells.size = 1) := ⟨hih, hsh, hbh, hzh, hzsh⟩
  have HS : Aside _ := hS
  clear hS hih hsh hbh hzh hzsh hT
  go_enter Tryz.func8, Tryz.ntmps8
  go_wp2_with fail
  refine hnw.mono ?_
  rintro e w1 ⟨A, v, rfl, HR, k1⟩
  have rn1 := HR.out.1
  have AE : Aside (A.q = 262144 ∧ A.m = 100 ∧ A.z = 4294967295) := ⟨HR.out.2.1, HR.out.2.2.1, HR.out.2.2.2.1⟩
  clear hnw HR k1
  go_wp2
  go_loopg [5, 6] len (fun gh t5 t6 wx => ∃ (i j : Nat) (a1 : Option Addr) (c1 : Nat) (pg : List (Int × Nat)) (W : Int → Int) (L : List Pg) (v : Value) (T : List Hd.Sl) (hs : List Int), i + gh = len ∧ t6 = .int .i64 i ∧ t5 = .slice a1 j c1 ∧ j ≤ i ∧ Rn w wx A pg W L v T ∧ Hr w wx A pg v t5 hs ∧ Aside (hs.length = j ∧ T.length = j ∧ cl T = 0 ∧ (∀ s ∈ T, s.g = 1) ∧ granted L ≤ 63 * i ∧ ∀ (k : Nat) x, hs[k]? = some x → x = nm (k + 1) 1))
  case atStart => exact ⟨0, 0, none, 0, _, _, _, _, _, [], by omega, rfl, rfl, by omega, rn1, ⟨World.ownsRow_nil _ _ _ _, fun b h => by cases h⟩, rfl, rfl, rfl, fun s h => (by cases h), by decide, fun j x h => by simp at h⟩
  case round =>
    obtain ⟨i, j, a1, c1, pg, W, L, v, T, hs, hig, rfl, rfl, hji, rn, hr, HP⟩ := hrel
    clear rn1
    by_cases hlt : i < len
    · have hix := HS.out.ix i hlt
      have hdo := HS.out.ok i
      have HC : Aside (∀ w', K w w' → w'.cell? ⟨b, off + i, none⟩ = some (.int .i64 (zz i))) := fun w' k => k.cell (HS.out.cell i hlt)
      have hcell := HC.out _ rn.k
      generalize zz i = dv at hcell HC hdo
      have wd := words_any rn.s.b
      have hg0 := granted_pos rn.s.b.wl
      have hg1 : granted L ≤ 63 * i := HP.out.2.2.2.2.1
      obtain ⟨G, hG⟩ : ∃ G, granted L = G := ⟨_, rfl⟩
      rw [hG] at wd hg0 hg1
      have HGG : Aside _ := hG
      have RN : Aside _ := rn
      have HRR : Aside _ := hr
      have HDO : Aside _ := hdo
      clear hG rn hr hdo
      by_cases hd0 : dv < 0
      · obtain ⟨y, hy⟩ : ∃ y, IntKind.i64.wrap (dv + 2) = y := ⟨_, rfl⟩
        go_wp2_with fail
        refine wd.mono ?_
        rintro e w3 ⟨rfl, k3⟩
        have hc3 := HC.out _ (RN.out.k.trans k3)
        have co := Cl.of_any y w3
        clear wd hcell
        go_wp2_with fail
        refine co.mono ?_
        rintro e w4 ⟨rfl, k4⟩
        have k34 := k3.trans (K.cl k4)
        have rn4 := RN.out.keep k34
        have hr4 := HRR.out.keep k34
        have hc4 := HC.out _ rn4.k
        have mk := make_arg rn4.s.b dv (by omega)
        have RN4 : Aside _ := rn4
        have HR4 : Aside _ := hr4
        clear co k3 k4 k34 rn4 hr4 hc3
        go_wp2_with fail
        refine mk.mono ?_
        rintro e w5 ⟨rfl, k5⟩
        have rn5 := RN4.out.keep k5
        have hr5 := HR4.out.keep k5
        clear mk k5 RN4 HR4 RN HRR hc4
        go_wp2
        go_roundg (len - (i + 1))
        case measure => omega
        case rel => exact ⟨i + 1, j, a1, c1, pg, W, L, v, T, hs, by omega, by go_num, rfl, by omega, rn5, hr5, HP.out.1, HP.out.2.1, HP.out.2.2.1, HP.out.2.2.2.1, by have := HP.out.2.2.2.2.1; push_cast; omega, HP.out.2.2.2.2.2⟩
      · by_cases hd1 : 3998 < dv
        · obtain ⟨y, hy⟩ : ∃ y, IntKind.i64.wrap (dv + 2) = y := ⟨_, rfl⟩
          have hyo := y_out HDO.out hd1 hy
          go_wp2_with fail
          refine wd.mono ?_
          rintro e w3 ⟨rfl, k3⟩
          have hc3 := HC.out _ (RN.out.k.trans k3)
          have co := Cl.of_any y w3
          rw [Cl.errW_out hyo] at co
          clear wd hcell
          go_wp2_with fail
          refine co.mono ?_
          rintro e w4 ⟨rfl, k4⟩
          have k34 := k3.trans (K.cl k4)
          have rn4 := RN.out.keep k34
          have hr4 := HRR.out.keep k34
          have hc4 := HC.out _ rn4.k
          have mk := make_arg rn4.s.b dv (by omega)
          have RN4 : Aside _ := rn4
          have HR4 : Aside _ := hr4
          clear co k3 k4 k34 rn4 hr4 hc3
          go_wp2_with fail
          refine mk.mono ?_
          rintro e w5 ⟨rfl, k5⟩
          have rn5 := RN4.out.keep k5
          have hr5 := HR4.out.keep k5
          clear mk k5 RN4 HR4 RN HRR hc4
          go_wp2
          go_roundg (len - (i + 1))
          case measure => omega
          case rel => exact ⟨i + 1, j, a1, c1, pg, W, L, v, T, hs, by omega, by go_num, rfl, by omega, rn5, hr5, HP.out.1, HP.out.2.1, HP.out.2.2.1, HP.out.2.2.2.1, by have := HP.out.2.2.2.2.1; push_cast; omega, HP.out.2.2.2.2.2⟩
        · have hw : IntKind.i64.wrap (dv + 2) = dv + 2 := Hp.wrap_i64 (by omega) (by omega)
          have hwd : Cl.Wd (dv + 2) := ⟨by omega, by omega⟩
          have hpg : Cl.pagI (dv + 2) = (dv + 2 + 65) / 64 := if_pos hwd
          have hfu : fullB A.m A.z T = false := by
            have h1 := HP.out.2.1
            have h2 := AE.out.2.1
            have : ¬ A.m ≤ (T.length : Int) := by omega
            simp [fullB, this]
          obtain ⟨a, er, L', ea⟩ : ∃ a er L', allocL A.q L (2 + dv) = (a, er, L') := ⟨_, _, _, rfl⟩
          have e2d : 2 + dv = dv + 2 := by omega
          obtain ⟨rfl, hgr⟩ := alloc_costs RN.out.s.b.wl (x := 2 + dv) ⟨by omega, by omega⟩ (by have h2 := AE.out.1; rw [HGG.out, e2d, hpg]; omega) ea
          unfold costI at hgr
          rw [HGG.out, e2d] at hgr
          have hpr : 0 ≤ Cl.pagI (dv + 2) ∧ Cl.pagI (dv + 2) ≤ 63 := by omega
          have EA : Aside _ := ea
          clear hpg
          go_wp2_with fail
          refine wd.mono ?_
          rintro e w3 ⟨rfl, k3⟩
          have rn3 := RN.out.keep k3
          have hr3 := HRR.out.keep k3
          have hc3 := HC.out _ rn3.k
          have co := Cl.of_any (dv + 2) w3
          rw [Cl.errW_in hwd] at co
          have RN3 : Aside _ := rn3
          have HR3 : Aside _ := hr3
          clear wd hcell k3 rn3 hr3 ea RN HRR
          obtain ⟨cl0, hcl0⟩ : ∃ c, Cl.clsI (dv + 2) = c := ⟨_, rfl⟩
          rw [hcl0] at co hgr
          obtain ⟨pgs, hpgs⟩ : ∃ c, Cl.pagI (dv + 2) = c := ⟨_, rfl⟩
          rw [hpgs] at hpr hgr
          clear hcl0
          have hw1 : IntKind.i64.wrap (64 * pgs) = 64 * pgs := Hp.wrap_i64 (by omega) (by omega)
          have hw2 : IntKind.i64.wrap (64 * G + 64 * pgs) = 64 * G + 64 * pgs := Hp.wrap_i64 (by omega) (by omega)
          cases hsm : Cl.smaI (dv + 2) with
          | false =>
            rw [hsm] at co hgr
            have hgr2 : granted L' = G + pgs := by rw [hgr]; simp
            have HG2 : Aside _ := hgr2
            clear hgr hgr2 hsm
            go_wp2_with fail
            refine co.mono ?_
            rintro e w4 ⟨rfl, k4⟩
            have rn4 := RN3.out.keep (K.cl k4)
            have hr4 := HR3.out.keep (K.cl k4)
            have hc4 := HC.out _ rn4.k
            have rn5 := rn4
            have hr5 := hr4
            have hc5 := hc4
            clear rn4 hr4
            have mk := make_ok rn5.s rn5.k.size dv (by omega) (by omega) hfu EA.out
            have RN5 : Aside _ := rn5
            have HR5 : Aside _ := hr5
            clear co k4 rn5 hr5 hc3 RN3 HR3 hfu
            go_wp2_with fail
            refine mk.mono ?_
            rintro e w6 ⟨x, T', eo, rfl, pg6, W6, v6, sw6, _, _, _, _, t6⟩
            have ha0 : 0 ≤ a := by
              have := sw6.b.at ((allocRm RN5.out.s.b.wl (x := 2 + dv) ⟨by omega, by omega⟩ EA.out).2 a _ |>.2 (.inl ⟨rfl, rfl⟩))
              omega
            have eo2 := open_next (m := A.m) (z := A.z) HP.out.2.2.1 (by have h1 := HP.out.2.1; have h2 := AE.out.2.1; omega) ha0
            rw [eo2] at eo
            obtain ⟨hx, e2⟩ := Prod.mk.inj eo
            obtain ⟨_, hT'⟩ := Prod.mk.inj e2
            have rn6 : Rn w w6 A pg6 W6 L' v6 T' := ⟨sw6, RN5.out.kst t6⟩
            have hr6 := HR5.out.step t6
            have hrow := hr6.rl
            rw [HP.out.1] at hrow
            have hsz := rn6.k.size
            have HX : Aside _ := hx
            have HT' : Aside _ := hT'
            have RN6 : Aside _ := rn6
            have HR6 : Aside _ := hr6
            clear mk eo e2 hx hT' sw6 t6 eo2 rn6 hr6 RN5 HR5 EA
            go_wp2_with (at_builtin
                         refine wpList_append_own_at _ rfl _ _ 40 rfl w.heap.size 48 ih zh 1 8 Tryz.underlying40 HH.out.1 HH.out.2.2.2.1 HH.out.2.1 HH.out.2.2.1 HH.out.2.2.2.2 (by decide) _ j _ rfl (hrow.alloc _) ⟨w6.heap.size, 0, none⟩ 1 1 [Hd.encU x] rfl rfl (Hd.src_one w6 #[.int .u64 x] 48) (Hd.one_u _) (by unfold maxLen; omega) (by omega) (by simp; omega) ?_
                         intro v7 w7 hown hgrow _ hat
                         have h7 := HR6.out.app (x := x) RN6.out hz0.out (by rw [HP.out.1]; exact hown) hgrow hat
                         obtain ⟨a7, c7, hv7⟩ := Hd.own_form hown
                         subst hv7
                         have hc7 := HC.out _ h7.2.k
                         have cp := Cl.pages_any (dv + 2) w7
                         rw [hpgs] at cp
                         clear hown hgrow hat hrow)
            refine cp.mono ?_
            rintro e w8 ⟨rfl, k8⟩
            have rn8 := h7.2.keep (K.cl k8)
            have hr8 := h7.1.keep (K.cl k8)
            have wd := words_any rn8.s.b
            rw [HG2.out, Int.mul_add] at wd
            have RN8 : Aside _ := rn8
            have HR8 : Aside _ := hr8
            clear cp k8 rn8 hr8 h7 hc7 RN6 HR6 hc4
            go_wp2_with fail
            refine wd.mono ?_
            rintro e w9 ⟨rfl, k9⟩
            have rn9 := RN8.out.keep k9
            have hr9 := HR8.out.keep k9
            clear wd k9 RN8 HR8
            go_wp2
            go_roundg (len - (i + 1))
            case measure => omega
            case rel =>
              refine ⟨i + 1, j + 1, _, _, pg6, W6, L', v6, T', hs ++ [x], by omega, by go_num, rfl, by omega, rn9, hr9, by rw [List.length_append, HP.out.1]; rfl, ?_, ?_, fun s hs' => ?_, by have h1 := HG2.out; push_cast; omega, fun k y hk => ?_⟩
              · rw [← HT'.out, List.length_append, HP.out.2.1]; rfl
              · rw [← HT'.out]
                have := HP.out.2.2.1
                unfold cl at this ⊢
                rw [List.countP_append, this]
                rfl
              · rw [← HT'.out] at hs'
                rcases List.mem_append.1 hs' with h | h
                · exact HP.out.2.2.2.1 s h
                · obtain rfl : s = ⟨true, 1, a⟩ := by simpa using h
                  rfl
              · by_cases hk2 : k < hs.length
                · rw [List.getElem?_append_left hk2] at hk
                  exact HP.out.2.2.2.2.2 k y hk
                · have hkl := (List.getElem?_eq_some_iff.1 hk).1
                  simp at hkl
                  have : k = hs.length := by omega
                  subst this
                  rw [List.getElem?_append_right (Nat.le_refl _)] at hk
                  simp at hk
                  rw [← hk, ← HX.out, HP.out.1, HP.out.2.1]
          | true =>
            obtain ⟨S0, hS0⟩ : ∃ s, spareL L cl0 = s := ⟨_, rfl⟩
            rw [hS0] at hgr
            by_cases hsp : 0 < S0
            · rw [hsm] at co hgr
              have hgr2 : granted L' = G + 0 := by rw [hgr]; simp [hsp]
              have HG2 : Aside _ := hgr2
              clear hgr hgr2 hsm
              go_wp2_with fail
              refine co.mono ?_
              rintro e w4 ⟨rfl, k4⟩
              have rn4 := RN3.out.keep (K.cl k4)
              have hr4 := HR3.out.keep (K.cl k4)
              have hc4 := HC.out _ rn4.k
              have sp4 := spare_s rn4.s.b cl0
              rw [hS0] at sp4
              have RN4 : Aside _ := rn4
              have HR4 : Aside _ := hr4
              clear rn4 hr4
              go_wp2_with fail
              refine sp4.mono ?_
              rintro e w5 ⟨rfl, k5⟩
              have rn5 := RN4.out.keep k5
              have hr5 := HR4.out.keep k5
              have hc5 := HC.out _ rn5.k
              clear sp4 k5 RN4 HR4
              have mk := make_ok rn5.s rn5.k.size dv (by omega) (by omega) hfu EA.out
              have RN5 : Aside _ := rn5
              have HR5 : Aside _ := hr5
              clear co k4 rn5 hr5 hc3 RN3 HR3 hfu
              go_wp2_with fail
              refine mk.mono ?_
              rintro e w6 ⟨x, T', eo, rfl, pg6, W6, v6, sw6, _, _, _, _, t6⟩
              have ha0 : 0 ≤ a := by
                have := sw6.b.at ((allocRm RN5.out.s.b.wl (x := 2 + dv) ⟨by omega, by omega⟩ EA.out).2 a _ |>.2 (.inl ⟨rfl, rfl⟩))
                omega
              have eo2 := open_next (m := A.m) (z := A.z) HP.out.2.2.1 (by have h1 := HP.out.2.1; have h2 := AE.out.2.1; omega) ha0
              rw [eo2] at eo
              obtain ⟨hx, e2⟩ := Prod.mk.inj eo
              obtain ⟨_, hT'⟩ := Prod.mk.inj e2
              have rn6 : Rn w w6 A pg6 W6 L' v6 T' := ⟨sw6, RN5.out.kst t6⟩
              have hr6 := HR5.out.step t6
              have hrow := hr6.rl
              rw [HP.out.1] at hrow
              have hsz := rn6.k.size
              have HX : Aside _ := hx
              have HT' : Aside _ := hT'
              have RN6 : Aside _ := rn6
              have HR6 : Aside _ := hr6
              clear mk eo e2 hx hT' sw6 t6 eo2 rn6 hr6 RN5 HR5 EA
              go_wp2_with (at_builtin
                           refine wpList_append_own_at _ rfl _ _ 40 rfl w.heap.size 48 ih zh 1 8 Tryz.underlying40 HH.out.1 HH.out.2.2.2.1 HH.out.2.1 HH.out.2.2.1 HH.out.2.2.2.2 (by decide) _ j _ rfl (hrow.alloc _) ⟨w6.heap.size, 0, none⟩ 1 1 [Hd.encU x] rfl rfl (Hd.src_one w6 #[.int .u64 x] 48) (Hd.one_u _) (by unfold maxLen; omega) (by omega) (by simp; omega) ?_
                           intro v7 w7 hown hgrow _ hat
                           have h7 := HR6.out.app (x := x) RN6.out hz0.out (by rw [HP.out.1]; exact hown) hgrow hat
                           obtain ⟨a7, c7, hv7⟩ := Hd.own_form hown
                           subst hv7
                           have hc7 := HC.out _ h7.2.k
                           have cp := Cl.pages_any (dv + 2) w7
                           rw [hpgs] at cp
                           clear hown hgrow hat hrow)
              refine cp.mono ?_
              rintro e w8 ⟨rfl, k8⟩
              have rn8 := h7.2.keep (K.cl k8)
              have hr8 := h7.1.keep (K.cl k8)
              have wd := words_any rn8.s.b
              rw [HG2.out, Int.add_zero] at wd
              have RN8 : Aside _ := rn8
              have HR8 : Aside _ := hr8
              clear cp k8 rn8 hr8 h7 hc7 RN6 HR6 hc4
              go_wp2_with fail
              refine wd.mono ?_
              rintro e w9 ⟨rfl, k9⟩
              have rn9 := RN8.out.keep k9
              have hr9 := HR8.out.keep k9
              clear wd k9 RN8 HR8
              go_wp2
              go_roundg (len - (i + 1))
              case measure => omega
              case rel =>
                refine ⟨i + 1, j + 1, _, _, pg6, W6, L', v6, T', hs ++ [x], by omega, by go_num, rfl, by omega, rn9, hr9, by rw [List.length_append, HP.out.1]; rfl, ?_, ?_, fun s hs' => ?_, by have h1 := HG2.out; push_cast; omega, fun k y hk => ?_⟩
                · rw [← HT'.out, List.length_append, HP.out.2.1]; rfl
                · rw [← HT'.out]
                  have := HP.out.2.2.1
                  unfold cl at this ⊢
                  rw [List.countP_append, this]
                  rfl
                · rw [← HT'.out] at hs'
                  rcases List.mem_append.1 hs' with h | h
                  · exact HP.out.2.2.2.1 s h
                  · obtain rfl : s = ⟨true, 1, a⟩ := by simpa using h
                    rfl
                · by_cases hk2 : k < hs.length
                  · rw [List.getElem?_append_left hk2] at hk
                    exact HP.out.2.2.2.2.2 k y hk
                  · have hkl := (List.getElem?_eq_some_iff.1 hk).1
                    simp at hkl
                    have : k = hs.length := by omega
                    subst this
                    rw [List.getElem?_append_right (Nat.le_refl _)] at hk
                    simp at hk
                    rw [← hk, ← HX.out, HP.out.1, HP.out.2.1]
            · rw [hsm] at co hgr
              have hgr2 : granted L' = G + pgs := by rw [hgr]; simp [hsp]
              have HG2 : Aside _ := hgr2
              clear hgr hgr2 hsm
              go_wp2_with fail
              refine co.mono ?_
              rintro e w4 ⟨rfl, k4⟩
              have rn4 := RN3.out.keep (K.cl k4)
              have hr4 := HR3.out.keep (K.cl k4)
              have hc4 := HC.out _ rn4.k
              have sp4 := spare_s rn4.s.b cl0
              rw [hS0] at sp4
              have RN4 : Aside _ := rn4
              have HR4 : Aside _ := hr4
              clear rn4 hr4
              go_wp2_with fail
              refine sp4.mono ?_
              rintro e w5 ⟨rfl, k5⟩
              have rn5 := RN4.out.keep k5
              have hr5 := HR4.out.keep k5
              have hc5 := HC.out _ rn5.k
              clear sp4 k5 RN4 HR4
              have mk := make_ok rn5.s rn5.k.size dv (by omega) (by omega) hfu EA.out
              have RN5 : Aside _ := rn5
              have HR5 : Aside _ := hr5
              clear co k4 rn5 hr5 hc3 RN3 HR3 hfu
              go_wp2_with fail
              refine mk.mono ?_
              rintro e w6 ⟨x, T', eo, rfl, pg6, W6, v6, sw6, _, _, _, _, t6⟩
              have ha0 : 0 ≤ a := by
                have := sw6.b.at ((allocRm RN5.out.s.b.wl (x := 2 + dv) ⟨by omega, by omega⟩ EA.out).2 a _ |>.2 (.inl ⟨rfl, rfl⟩))
                omega
              have eo2 := open_next (m := A.m) (z := A.z) HP.out.2.2.1 (by have h1 := HP.out.2.1; have h2 := AE.out.2.1; omega) ha0
              rw [eo2] at eo
              obtain ⟨hx, e2⟩ := Prod.mk.inj eo
              obtain ⟨_, hT'⟩ := Prod.mk.inj e2
              have rn6 : Rn w w6 A pg6 W6 L' v6 T' := ⟨sw6, RN5.out.kst t6⟩
              have hr6 := HR5.out.step t6
              have hrow := hr6.rl
              rw [HP.out.1] at hrow
              have hsz := rn6.k.size
              have HX : Aside _ := hx
              have HT' : Aside _ := hT'
              have RN6 : Aside _ := rn6
              have HR6 : Aside _ := hr6
              clear mk eo e2 hx hT' sw6 t6 eo2 rn6 hr6 RN5 HR5 EA
              go_wp2_with (at_builtin
                           refine wpList_append_own_at _ rfl _ _ 40 rfl w.heap.size 48 ih zh 1 8 Tryz.underlying40 HH.out.1 HH.out.2.2.2.1 HH.out.2.1 HH.out.2.2.1 HH.out.2.2.2.2 (by decide) _ j _ rfl (hrow.alloc _) ⟨w6.heap.size, 0, none⟩ 1 1 [Hd.encU x] rfl rfl (Hd.src_one w6 #[.int .u64 x] 48) (Hd.one_u _) (by unfold maxLen; omega) (by omega) (by simp; omega) ?_
                           intro v7 w7 hown hgrow _ hat
                           have h7 := HR6.out.app (x := x) RN6.out hz0.out (by rw [HP.out.1]; exact hown) hgrow hat
                           obtain ⟨a7, c7, hv7⟩ := Hd.own_form hown
                           subst hv7
                           have hc7 := HC.out _ h7.2.k
                           have cp := Cl.pages_any (dv + 2) w7
                           rw [hpgs] at cp
                           clear hown hgrow hat hrow)
              refine cp.mono ?_
              rintro e w8 ⟨rfl, k8⟩
              have rn8 := h7.2.keep (K.cl k8)
              have hr8 := h7.1.keep (K.cl k8)
              have wd := words_any rn8.s.b
              rw [HG2.out, Int.mul_add] at wd
              have RN8 : Aside _ := rn8
              have HR8 : Aside _ := hr8
              clear cp k8 rn8 hr8 h7 hc7 RN6 HR6 hc4
              go_wp2_with fail
              refine wd.mono ?_
              rintro e w9 ⟨rfl, k9⟩
              have rn9 := RN8.out.keep k9
              have hr9 := HR8.out.keep k9
              clear wd k9 RN8 HR8
              go_wp2
              go_roundg (len - (i + 1))
              case measure => omega
              case rel =>
                refine ⟨i + 1, j + 1, _, _, pg6, W6, L', v6, T', hs ++ [x], by omega, by go_num, rfl, by omega, rn9, hr9, by rw [List.length_append, HP.out.1]; rfl, ?_, ?_, fun s hs' => ?_, by have h1 := HG2.out; push_cast; omega, fun k y hk => ?_⟩
                · rw [← HT'.out, List.length_append, HP.out.2.1]; rfl
                · rw [← HT'.out]
                  have := HP.out.2.2.1
                  unfold cl at this ⊢
                  rw [List.countP_append, this]
                  rfl
                · rw [← HT'.out] at hs'
                  rcases List.mem_append.1 hs' with h | h
                  · exact HP.out.2.2.2.1 s h
                  · obtain rfl : s = ⟨true, 1, a⟩ := by simpa using h
                    rfl
                · by_cases hk2 : k < hs.length
                  · rw [List.getElem?_append_left hk2] at hk
                    exact HP.out.2.2.2.2.2 k y hk
                  · have hkl := (List.getElem?_eq_some_iff.1 hk).1
                    simp at hkl
                    have : k = hs.length := by omega
                    subst this
                    rw [List.getElem?_append_right (Nat.le_refl _)] at hk
                    simp at hk
                    rw [← hk, ← HX.out, HP.out.1, HP.out.2.1]
    · have HP2 : Aside _ := HP.out
      have rn8 := rn
      have hr8 := hr
      clear hr rn
      go_wp2
      go_loopg [16] j (fun gh t16 wx => ∃ (t : Nat) (pg : List (Int × Nat)) (W : Int → Int) (L : List Pg) (v : Value) (T : List Hd.Sl), t + gh = j ∧ t16 = .int .i64 t ∧ Rn w wx A pg W L v T ∧ Hr w wx A pg v (.slice a1 j c1) hs ∧ Aside (T.length = j ∧ ∀ (k : Nat) s, T[k]? = some s → s.g = 1 ∧ (k < t → s.o = false) ∧ (t ≤ k → s.o = true)))
      case atStart => exact ⟨0, pg, W, L, v, T, by omega, rfl, rn8, hr8, HP2.out.2.1, fun k s hk => ⟨HP2.out.2.2.2.1 s (List.mem_of_getElem? hk), fun h => by omega, fun _ => cl_zero HP2.out.2.2.1 s (List.mem_of_getElem? hk)⟩⟩
      case round =>
        clear rn8 hr8
        obtain ⟨t, pg, W, L, v, T, htg, rfl, rn, hr, HQ⟩ := hrel
        by_cases htl : t < j
        · obtain ⟨x, hx⟩ : ∃ x, hs[t]? = some x := ⟨_, List.getElem?_eq_getElem (by rw [HP.out.1]; exact htl)⟩
          obtain ⟨s, hst⟩ : ∃ s, T[t]? = some s := ⟨_, List.getElem?_eq_getElem (by rw [HQ.out.1]; exact htl)⟩
          have ex := HP.out.2.2.2.2.2 t x hx
          have hg := (HQ.out.2 t s hst).1
          have so := (HQ.out.2 t s hst).2.2 (Nat.le_refl _)
          have hu : U64 x := by
            rw [ex]
            unfold U64 nm
            omega
          obtain ⟨g, ad, cp, ev, hga, hcl⟩ := row1 hr.rl
          rw [HP.out.1] at ev
          cases ev
          obtain rfl := hga (by rw [HP.out.1]; omega)
          have dc := hcl t _ (by rw [List.getElem?_map, hx]; rfl)
          have ix1 := run_ixF g j c1 t htl
          have hfd := Hd.findL_nm (g := 1) hst (by omega)
          rw [← ex, hg, so, if_pos ⟨rfl, rfl⟩] at hfd
          have dr := drop_some rn.s rn.k.size x hu hfd hst
          have RN : Aside _ := rn
          have HRR : Aside _ := hr
          clear hfd hx ex hg rn hr hga hcl hu
          go_wp2_with fail
          refine dr.mono ?_
          rintro e w7 ⟨rfl, pg7, W7, p, kk, hfb, _, sw7, t7⟩
          have rn7 : Rn w w7 A pg7 W7 _ v _ := ⟨sw7, RN.out.kst t7⟩
          have hr7 := HRR.out.step t7
          have NX : Aside ((T.set t ⟨false, s.g, 0⟩).length = j ∧ ∀ (k : Nat) s', (T.set t ⟨false, s.g, 0⟩)[k]? = some s' → s'.g = 1 ∧ (k < t + 1 → s'.o = false) ∧ (t + 1 ≤ k → s'.o = true)) := by
            refine ⟨by rw [List.length_set]; exact HQ.out.1, fun k s' hk => ?_⟩
            by_cases hkt : t = k
            · subst hkt
              rw [List.getElem?_set_self (by rw [HQ.out.1]; exact htl)] at hk
              cases hk
              exact ⟨(HQ.out.2 t s hst).1, fun _ => rfl, fun h => by omega⟩
            · rw [List.getElem?_set_ne hkt] at hk
              have h := HQ.out.2 k s' hk
              exact ⟨h.1, fun h1 => h.2.1 (by omega), fun h1 => h.2.2 (by omega)⟩
          clear dr sw7 t7 hfb RN HRR
          go_wp2
          go_roundg (j - (t + 1))
          case measure => omega
          case rel => exact ⟨t + 1, pg7, W7, _, v, _, by omega, by go_num, rn7, hr7, NX.out⟩
        · have hL : L = [] := rn.s.r.none rn.s.b.wl (fun s hs => by
            obtain ⟨k, hk, e⟩ := List.getElem_of_mem hs
            have h := HQ.out.2 k s (by rw [List.getElem?_eq_getElem hk, e])
            have := HQ.out.1
            exact h.2.1 (by omega))
          subst hL
          have wd := words_any rn.s.b
          rw [show 64 * granted ([] : List Pg) = 0 from rfl] at wd
          have RN : Aside _ := rn
          clear rn hr
          go_wp2_with fail
          refine wd.mono ?_
          rintro e w10 ⟨rfl, k10⟩
          have rn10 := RN.out.keep k10
          have al := all_any rn10.s.b
          rw [show (Hp.liveL ([] : List Pg)).length = 0 from rfl] at al
          have RN10 : Aside _ := rn10
          clear wd k10 rn10 RN
          go_wp2_with fail
          refine al.mono ?_
          rintro e w11 ⟨u11, rfl, hown11, k11⟩
          obtain ⟨g11, a11, cap11, rfl, _, _⟩ := row1 hown11
          have k12 := (RN10.out.keep k11).k
          clear al hown11 k11 RN10
          go_wp2_with (go_at_call 9; refine (aw.out _ k12).mono ?_; rintro e w13 ⟨rfl, k13⟩)
          go_ret
          exact ⟨rfl, k12.trans k13⟩

set_option maxRecDepth 100000 in
theorem costs_out (a0 : Option Addr) (len cap : Nat) (w : World) (hT : Bt.Tab w) (h : 30 < len) (hmax : len ≤ maxLen) : Calls Tryz.prog 8 #[.slice a0 len cap] w fun e w' => e = .returned (.bool true) ∧ K w w' := by
  have ha := awake_any w hT
  have hl63 : (len : Int) ≤ 9223372036854775807 := by unfold maxLen at hmax; omega
  have h2 : (30 : Int) < len := by omega
  clear hmax hT h
  go_enter Tryz.func8, Tryz.ntmps8
  go_wp2_with (go_at_call 9; refine ha.mono ?_; rintro e w1 ⟨rfl, hk⟩)
  go_ret
  exact ⟨rfl, hk⟩

theorem storeCosts_any (w : World) (a0 : Option Addr) (b off len cap : Nat) (zz : Nat → Int) (hS : Nums w a0 b off len cap zz) (hmax : len ≤ maxLen) (hT : Bt.Tab w) : Calls Tryz.prog 8 #[.slice a0 len cap] w fun e w' => e = .returned (.bool true) ∧ K w w' := by
  by_cases h : 30 < len
  · exact costs_out a0 len cap w hT h hmax
  · exact costs_main a0 b off len cap zz w hT hS (by omega)

end So
end Go.Proofs.YtckofhbfdfmnoaaGreatDoor
