/-
  The walk of StoreApart.
-/
import Derived.Test.YtckofhbfdfmnoaaGreatDoorWApartW
import Derived.Deep.DeepCutAuto
import Derived.Deep.CutBlock
import Derived.WalkSpells
namespace Go.Proofs.YtckofhbfdfmnoaaGreatDoor
open Go.RowKit Go.Maps
attribute [local go_sem ↓] Go.wp_at_zero Go.wp_at_succ
namespace So
open Hp (Kept K No Pg Same SameBut)
open Hd (U64 findL)

theorem rem_round (x : Int) {N : Nat} (h : 0 < N) : ∃ (r : Int) (k : Nat), x.tmod N = r ∧ -(N : Int) < r ∧ r < N ∧ (r + N).tmod N = k ∧ k < N := by
  have h1 : x.tmod N < N := Int.tmod_lt_of_pos x (by omega)
  have h2 : -(N : Int) < x.tmod N := Int.lt_tmod_of_pos x (b := (N : Int)) (by omega)
  have h3 : (x.tmod N + N).tmod N < N := Int.tmod_lt_of_pos _ (by omega)
  have h4 : 0 ≤ (x.tmod N + N).tmod N := Int.tmod_nonneg _ (by omega)
  exact ⟨x.tmod N, ((x.tmod N + N).tmod N).toNat, rfl, h2, h1, by omega, by omega⟩

theorem grown_none {w w' : World} (h : w.grownBy w' none) : K w w' := ⟨h.os, h.tape, h.output, h.size, fun j hj _ => h.block j hj (by simp)⟩
theorem one_s (a : Option Addr) (n c : Nat) : ∀ u ∈ [Value.slice a n c], u.oneCell' = true := fun u hu => by
  obtain rfl : u = .slice a n c := by simpa using hu
  rfl
theorem cval_rep (g na : Nat) : cval (some (g, List.replicate na 0)) = .slice (some ⟨g, 0, none⟩) na na := by simp [cval]

/-- The call's box. -/
abbrev opB (d x a h : Int) : Array Value := #[.int .i64 d, .int .i64 x, .int .i64 a, .int .u64 h]

set_option maxRecDepth 100000 in
set_option maxHeartbeats 4000000 in
theorem apart_main (q : Int) (q0 : 0 ≤ q) (q1 : q ≤ 4000) (m : Int) (m0 : 1 ≤ m) (m1 : m ≤ 1000) (a0 : Option Addr) (b off len cap : Nat) (zz : Nat → Opv) (w : World) (hT : Bt.Tab w) (hS : Script w a0 b off len cap zz) (hlen : len ≤ 60) :
    Calls Tryz.prog 5 #[.int .i64 q, .int .i64 m, .slice a0 len cap] w fun e w' => e = .returned (.bool true) ∧ K w w' := by
  have hnw := Rn.new q m 4294967295 w hT q0 (by omega) m0 (by omega) (by omega) (by omega)
  have hz0 : Aside (0 < w.heap.size) := Hp.lt0 hT
  have aw : Aside (∀ w1, K w w1 → Calls Tryz.prog 9 #[] w1 fun e w' => e = .returned (.bool true) ∧ K w1 w') := fun w1 k1 => awake_any w1 (hT.keep k1.toBt)
  obtain ⟨ih, hih, hsh, hbh, zh, hzh, hzsh⟩ := Hd.info_handle
  have HH : Aside (Tryz.prog.info? 48 = some ih ∧ ih.size = 1 ∧ ih.bytes = 8 ∧ ih.zero = some zh ∧ zh.cells.size = 1) := ⟨hih, hsh, hbh, hzh, hzsh⟩
  obtain ⟨ii, hii, hsi, hbi, zi, hzi, hzsi⟩ := info_u64s
  have HI : Aside (Tryz.prog.info? 50 = some ii ∧ ii.size = 1 ∧ ii.bytes = 24 ∧ ii.zero = some zi ∧ zi.cells.size = 1) := ⟨hii, hsi, hbi, hzi, hzsi⟩
  obtain ⟨iu, hiu, hzu, hsu, hbu⟩ := info_u64
  have HU : Aside (Tryz.prog.info? 44 = some iu ∧ iu.zero = some (.int .u64 0) ∧ iu.size = 1 ∧ iu.bytes = 8) := ⟨hiu, hzu, hsu, hbu⟩
  have HS : Aside _ := hS
  have qn : ∀ (w : World) (a : Option Addr) (n c n' c' : Nat), (binOp .neq 50 (.slice a n c) (.slice none n' c')).run Tryz.prog w = .ok (.bool (!a.isNone)) w := fun w a n c n' c' => run_neq_slice_nil_any w _ _ a n c n' c' Tryz.underlying50
  have qe : ∀ (w : World) (a : Option Addr) (n c n' c' : Nat), (binOp .eql 50 (.slice a n c) (.slice none n' c')).run Tryz.prog w = .ok (.bool a.isNone) w := fun w a n c n' c' => Lib.run_eql_slice_nil w _ _ a n c n' c' Tryz.underlying50
  clear hS hih hsh hbh hzh hzsh hii hsi hbi hzi hzsi hiu hzu hsu hbu hT
  go_enter Tryz.func5, Tryz.ntmps5
  go_wp2_with fail
  refine hnw.mono ?_
  rintro e w1 ⟨A, v, rfl, HR, k1⟩
  have st0 : Ap w w1 A [] (fun _ => 0) [] v [] (.slice none 0 0) (.slice none 0 0) [] [] := ⟨HR.out.1, Mm.nil _ _ _ _ _, Vs.nil _ _, hz0.out⟩
  have AE : Aside (A.m = m ∧ A.z = 4294967295) := ⟨HR.out.2.2.1, HR.out.2.2.2.1⟩
  clear hnw HR q0 q1 m0 m1
  go_wp2
  go_loopg [9, 10, 11] len (fun gh t9 t10 t11 wx => ∃ (i n : Nat) (a1 a2 : Option Addr) (c1 c2 : Nat) (pg : List (Int × Nat)) (W : Int → Int) (L : List Pg) (v : Value) (T : List Hd.Sl) (hs : List Int) (cs : List Cw), i + gh = len ∧ t11 = .int .i64 i ∧ t9 = .slice a1 n c1 ∧ t10 = .slice a2 n c2 ∧ n ≤ i ∧ Aside (hs.length = n) ∧ Aside (cs.length = n) ∧ Ap w wx A pg W L v T t9 t10 hs cs)
  case atStart => exact ⟨0, 0, none, none, 0, 0, _, _, _, _, _, [], [], by omega, rfl, rfl, rfl, Nat.le_refl _, rfl, rfl, st0⟩
  case round =>
    obtain ⟨i, n, a1, a2, c1, c2, pg, W, L, v, T, hs, cs, hig, rfl, rfl, rfl, hni, HN, HC, hst⟩ := hrel
    have HST : Aside _ := hst
    clear st0
    by_cases hlt : i < len
    · have hix := HS.out.ix i hlt
      have hop := (HS.out.cell i hlt).keep hst.rn.k
      have hok := HS.out.ok i
      generalize zz i = o at hop hok
      obtain ⟨d, x, a, hh⟩ := o
      obtain ⟨e0, e1, e2, e3⟩ := hop
      have a64 : -9223372036854775808 ≤ a := hok.a.1
      have a63 : a ≤ 9223372036854775807 := hok.a.2
      have x64 : -9223372036854775808 ≤ x := hok.n.1
      have x63 : x ≤ 9223372036854775807 := hok.n.2
      have h64 : Aside (Sl.WordOk hh) := by
        have h0 : 0 ≤ hh := hok.h.1
        have h1 : hh ≤ 18446744073709551615 := hok.h.2
        show Sl.WordOk hh
        unfold Sl.WordOk
        have e1 : IntKind.u64.min = 0 := rfl
        have e2 : IntKind.u64.max = 18446744073709551615 := rfl
        simp only [Lit.wf, Bool.and_eq_true, decide_eq_true_eq]
        omega
      clear hst hok
      go_upto_if 67 with fail
      go_cut [13] (fun s13 wx => ∃ kk : Int, s13 = .int .i64 kk ∧ ((n = 0 ∧ kk = -1) ∨ ∃ k : Nat, k < n ∧ kk = k) ∧ wx = wr.alloc (.cells (opB d x a hh) 46))
      case first =>
        by_cases hn0 : n = 0
        · subst hn0
          go_wp2
          go_meet
          case rel => exact ⟨-1, rfl, .inl ⟨by first | rfl | trivial, rfl⟩, rfl⟩
        · have hnp : 0 < n := by omega
          obtain ⟨r, k, hr, hr0, hr1, hk, hkn⟩ := rem_round x hnp
          clear hn0
          go_wp2
          go_meet
          case rel => exact ⟨k, rfl, .inr ⟨k, hkn, rfl⟩, rfl⟩
      case rest =>
        as_aux_lemma =>
          obtain ⟨kk, rfl, hkk, rfl⟩ := hcut
          have hnb : (wr.alloc (.cells (opB d x a hh) 46)).heap[wr.heap.size]? = some (.cells (opB d x a hh) 46) := World.alloc_heap_new _ _
          have hst := HST.out.keep ((K.refl wr).alloc (.cells (opB d x a hh) 46))
          have nbf : ¬ foot A pg v wr.heap.size := (HST.out.rn.nf _ (Nat.le_refl _)).1
          have nbo : ¬ own (.slice a1 n c1) (.slice a2 n c2) cs wr.heap.size := fun ho => by have := (HST.out.mm.lt ho).2; omega
          clear e0 e1 e2 e3 HST hix x64 x63
          generalize wr.alloc (.cells (opB d x a hh) 46) = W1 at *
          generalize wr.heap.size = nb at *
          have b0 : W1.cell? ⟨nb, 0, none⟩ = some (.int .i64 d) := by simp [World.cell?, hnb]
          have b2 : W1.cell? ⟨nb, 2, none⟩ = some (.int .i64 a) := by simp [World.cell?, hnb]
          have b3 : W1.cell? ⟨nb, 3, none⟩ = some (.int .u64 hh) := by simp [World.cell?, hnb]
          go_upto_block 2 with fail
          go_cut [9, 10] (fun s9 s10 wx => ∃ (n : Nat) (a1 a2 : Option Addr) (c1 c2 : Nat) (pg : List (Int × Nat)) (W : Int → Int) (L : List Pg) (v : Value) (T : List Hd.Sl) (hs : List Int) (cs : List Cw), s9 = .slice a1 n c1 ∧ s10 = .slice a2 n c2 ∧ n ≤ i + 1 ∧ Aside (hs.length = n) ∧ Aside (cs.length = n) ∧ Ap w wx A pg W L v T s9 s10 hs cs)
          case rest =>
            clear hst HN HC hnb b0 b2 b3 hkk hni nbf nbo h64
            as_aux_lemma =>
              obtain ⟨n, a1, a2, c1, c2, pg, W, L, v, T, hs, cs, rfl, rfl, hni, HN, HC, hst⟩ := hcut
              go_wp2
              go_loopg [17] n (fun gh t17 wx => ∃ j : Nat, j + gh = n ∧ t17 = .int .i64 j ∧ Ap w wx A pg W L v T (.slice a1 n c1) (.slice a2 n c2) hs cs)
              case atStart => exact ⟨0, by omega, rfl, hst⟩
              case round =>
                obtain ⟨j, hjg, rfl, hst⟩ := hrel
                by_cases hjn : j < n
                · obtain ⟨y, hy⟩ : ∃ y, hs[j]? = some y := ⟨_, List.getElem?_eq_getElem (by rw [HN.out]; exact hjn)⟩
                  obtain ⟨c, hc⟩ : ∃ c, cs[j]? = some c := ⟨_, List.getElem?_eq_getElem (by rw [HC.out]; exact hjn)⟩
                  obtain ⟨g1, cp1, e1, o1, d1⟩ := hst.mm.hget hy
                  obtain ⟨g2, cp2, e2, o2, d2, _⟩ := hst.mm.cget hc
                  rw [HN.out] at e1
                  rw [HC.out] at e2
                  cases e1
                  cases e2
                  have ix1 := run_ixH g1 n c1 j hjn
                  have ix2 := run_ixR g2 n c2 j hjn
                  have hu := hst.vs.u64 hst.rn.s.b.tb.wf hst.rn.s.b.tl (List.mem_of_getElem? hy)
                  have cl := len_any hst.rn.s y hu
                  cases c with
                  | none =>
                    have hfn := hst.vs.dead j y hy hc
                    rw [show lN T W y = 0 by simp [lN, hfn], show lE T y = 7 by simp [lE, hfn]] at cl
                    have d2' : wr.cell? ⟨g2, j, none⟩ = some (.slice none 0 0) := d2
                    have HX : Aside _ := hst
                    clear hfn hy hc hu d2 hst o1 o2
                    go_wp2_with fail
                    refine cl.mono ?_
                    rintro e w3 ⟨rfl, k3⟩
                    have d3 := k3.cell d2'
                    have h3 := HX.out.keep k3
                    clear cl d1 d2' k3 HX
                    go_wp2
                    go_loopg [20] 0 (fun _ t wx => t = .int .i64 0 ∧ w3 = wx)
                    case atStart => exact ⟨rfl, rfl⟩
                    case round =>
                      obtain ⟨rfl, rfl⟩ := hrel
                      go_wp2
                      go_roundg (n - (j + 1))
                      case measure => omega
                      case rel => exact ⟨j + 1, by omega, by go_num, h3⟩
                  | some gw =>
                    obtain ⟨g3, ws⟩ := gw
                    obtain ⟨i', s, hf, hsl, hwl, hws⟩ := hst.vs.live j y g3 ws hy hc
                    have ea : Hd.addrAt T i' = s.a := by unfold Hd.addrAt; rw [Hd.getD_of hsl]
                    rw [show lN T W y = ws.length by simp [lN, hf, ea, hwl], show lE T y = 0 by simp [lE, hf]] at cl
                    have d2' : wr.cell? ⟨g2, j, none⟩ = some (.slice (some ⟨g3, 0, none⟩) ws.length ws.length) := d2
                    have HX : Aside _ := hst
                    have hbk := hst.mm.bk j g3 ws hc
                    have cg : Aside (∀ wx, Ap w wx A pg W L v T (.slice (some ⟨g1, 0, none⟩) n c1) (.slice (some ⟨g2, 0, none⟩) n c2) hs cs → ∀ (mm : Nat) yy, ws[mm]? = some yy → wx.cell? ⟨g1, j, none⟩ = some (.int .u64 y) ∧ wx.cell? ⟨g2, j, none⟩ = some (.slice (some ⟨g3, 0, none⟩) ws.length ws.length) ∧ wx.cell? ⟨g3, mm, none⟩ = some (.int .u64 yy) ∧ Calls Tryz.prog 15 #[sp A.st, .int .u64 y, .int .i64 mm] wx fun e w' => e = .returned (.tuple #[.int .u64 yy, .int .i64 0]) ∧ K wx w') := fun wx hx mm yy hyy => by
                      obtain ⟨g1', cp1', e1', _, d1'⟩ := hx.mm.hget hy
                      obtain ⟨g2', cp2', e2', _, d2'', _⟩ := hx.mm.cget hc
                      rw [HN.out] at e1'
                      rw [HC.out] at e2'
                      cases e1'
                      cases e2'
                      have hml := (List.getElem?_eq_some_iff.1 hyy).1
                      have hE : wE T W y mm = 0 := by
                        unfold wE
                        rw [hf]
                        simp only [ea, hwl]
                        rw [if_pos (by omega)]
                      have hV : gV T W y mm = yy := by
                        unfold gV wA
                        rw [if_pos hE, hf]
                        simp only [ea]
                        exact hws mm yy hyy
                      have := get_any hx.rn.s y mm hu
                      rw [hE, hV] at this
                      exact ⟨d1', d2'', (hx.mm.wget hc hyy).1, this⟩
                    have LW : Aside (∀ mm : Nat, mm < ws.length → ∃ yy, ws[mm]? = some yy) := fun mm hm => ⟨_, List.getElem?_eq_getElem hm⟩
                    have hw3998 : ws.length ≤ 3998 := by
                      obtain ⟨s', hs', _, _, n0, n1, _⟩ := hst.rn.s.live hf
                      obtain rfl := Option.some.inj (hsl.symm.trans hs')
                      omega
                    clear hf hsl hwl hws ea d2 hbk hst o1 o2
                    generalize ws.length = nw at *
                    go_wp2_with fail
                    refine cl.mono ?_
                    rintro e w3 ⟨rfl, k3⟩
                    have d3 := k3.cell d2'
                    have h3 := HX.out.keep k3
                    clear cl d1 d2' k3 HX
                    go_wp2
                    go_loopg [20] nw (fun gh t20 wx => ∃ mm : Nat, mm + gh = nw ∧ t20 = .int .i64 mm ∧ wx.cell? ⟨g2, j, none⟩ = some (.slice (some ⟨g3, 0, none⟩) nw nw) ∧ Ap w wx A pg W L v T (.slice (some ⟨g1, 0, none⟩) n c1) (.slice (some ⟨g2, 0, none⟩) n c2) hs cs)
                    case atStart => exact ⟨0, by omega, rfl, d3, h3⟩
                    case round =>
                      obtain ⟨mm, hmg, rfl, d3, h3⟩ := hrel
                      by_cases hmn : mm < nw
                      · obtain ⟨yy, hyy⟩ := LW.out mm hmn
                        obtain ⟨f1, _, f3, fg⟩ := cg.out _ h3 mm yy hyy
                        have ix3 := run_ixI g3 nw nw mm hmn
                        have H3 : Aside _ := h3
                        clear h3
                        go_wp2_with fail
                        refine fg.mono ?_
                        rintro e w4 ⟨rfl, k4⟩
                        have d4 := k4.cell d3
                        have f4 := k4.cell f3
                        have h4 := H3.out.keep k4
                        clear fg f1 f3 d3 H3 k4
                        go_wp2
                        go_roundg (nw - (mm + 1))
                        case measure => omega
                        case rel => exact ⟨mm + 1, by omega, by go_num, d4, h4⟩
                      · go_wp2
                        go_roundg (n - (j + 1))
                        case measure => omega
                        case rel => exact ⟨j + 1, by omega, by go_num, h3⟩
                · go_wp2
                  go_roundg (len - (i + 1))
                  case measure => omega
                  case rel => exact ⟨i + 1, n, a1, a2, c1, c2, pg, W, L, v, T, hs, cs, by omega, by go_num, rfl, rfl, hni, HN, HC, hst⟩
          case first =>
            have HST : Aside _ := hst
            have z0 := hst.z0
            have hBn := hst.rn.k.size
            by_cases hd1 : d = 1
            · subst hd1
              clear hkk b3
              have co := make_any hst.rn.s hBn a
              clear hst
              go_wp2_with fail
              refine co.mono ?_
              rintro e w3 (⟨n0, n1, ad, L1, y, T1, ea, eo, rfl, pg3, W3, v3, sw3, sm3, _, hw3, hz3, t3⟩ | ⟨er, hne, _, rfl, pg3, W3, v3, sw3, sm3, t3⟩)
              · have rn3 : Rn w w3 A pg3 W3 L1 v3 T1 := ⟨sw3, HST.out.rn.kst t3⟩
                have mm3 := HST.out.mm.step t3
                have nb3 := t3.block hnb nbf
                have a0' : 0 ≤ ad := by
                  have := sw3.b.at ((allocRm HST.out.rn.s.b.wl (x := 2 + a) ⟨by omega, by omega⟩ ea).2 ad _ |>.2 (.inl ⟨rfl, rfl⟩))
                  omega
                have VS : Aside (∀ g : Nat, Vs T1 W3 (hs ++ [y]) (cs ++ [some (g, List.replicate a.toNat 0)])) := fun g => HST.out.vs.make HST.out.rn.s.r n0 n1 HST.out.rn.s.b.tl HST.out.rn.s.b.tb.wf a0' eo sm3 hw3 hz3 (HN.out.trans HC.out.symm) g
                have RN3 : Aside _ := rn3
                have MM3 : Aside _ := mm3
                have hsz := rn3.k.size
                have hrow := mm3.rl
                rw [HN.out] at hrow
                have b23 : w3.cell? ⟨nb, 2, none⟩ = some (.int .i64 a) := by simp [World.cell?, nb3]
                have hno : ∀ g, own (.slice a1 n c1) (.slice a2 n c2) cs g → g ≠ nb := fun g hg e => nbo (e ▸ hg)
                have hnbl : nb < w3.heap.size := (Array.getElem?_eq_some_iff.1 nb3).1
                have HNO : Aside _ := hno
                have NB3 : Aside _ := nb3
                obtain ⟨na, hna⟩ : ∃ na : Nat, a = na := ⟨a.toNat, by omega⟩
                have HNA : Aside _ := hna
                have hna2 : na ≤ 3998 := by omega
                clear co sw3 sm3 hw3 hz3 t3 hnb nbf nbo b0 b2 ea eo rn3 mm3 nb3 hno hna a0' HST
                have hn60 : n ≤ 60 := by omega
                as_aux_lemma =>
                  go_wp2_with (first
                    | (have _t := MM3
                       at_builtin
                       refine wpList_append_own_at _ rfl _ _ 40 rfl w.heap.size 48 ih zh 1 8 Tryz.underlying40 HH.out.1 HH.out.2.2.2.1 HH.out.2.1 HH.out.2.2.1 HH.out.2.2.2.2 (by decide) _ n _ rfl (hrow.alloc _) ⟨w3.heap.size, 0, none⟩ 1 1 [Hd.encU y] rfl rfl (Hd.src_one w3 #[.int .u64 y] 48) (Hd.one_u _) (by unfold maxLen; omega) (by omega) (by simp; omega) ?_
                       intro v4 w4 hown hgrow _ hat
                       have mm4 := MM3.out.appL RN3.out.nf (x := y) (by rw [HN.out]; exact hown) hgrow hat
                       have rn4 := RN3.out.ownK MM3.out z0 (grown_kept hgrow) (fun _ hj => .inl hj)
                       have nb4 := (grown_kept hgrow).block NB3.out (fun e => HNO.out nb (.inl e) rfl)
                       have b24 : w4.cell? ⟨nb, 2, none⟩ = some (.int .i64 a) := by simp [World.cell?, nb4]
                       obtain ⟨a4, c4, hv4⟩ := Hd.own_form hown
                       subst hv4
                       have RN4 : Aside _ := rn4
                       have MM4 : Aside _ := mm4
                       have hsz4 := rn4.k.size
                       clear hown hgrow hat MM3 RN3 hrow hsz b23 NB3 nb4 rn4 mm4 hnbl HNO)
                    | (have _t := MM4
                       at_make
                       refine wpList_make_full _ rfl _ _ 50 rfl w.heap.size 44 iu (.int .u64 0) 1 Tryz.underlying50 HU.out.1 HU.out.2.1 HU.out.2.2.1 .i64 .i64 a a na rfl rfl HNA.out HNA.out (by rw [HU.out.2.2.2]; omega) (by unfold maxLen; omega) hsz4 ?_
                       intro w5 hown5 hgrow5
                       have k5 := grown_none hgrow5
                       rw [made_zero_row] at hown5
                       have MM5 : Aside _ := MM4.out.keep k5
                       have RN5 : Aside _ := RN4.out.keep k5
                       have HG5 : Aside (¬ own _ _ cs w4.heap.size ∧ ¬ foot A pg3 v3 w4.heap.size ∧ w4.heap.size ≠ A.bh ∧ w4.heap.size ≠ A.st) := ⟨fun ho => Nat.lt_irrefl _ (MM4.out.lt ho).2, RN4.out.nf _ (Nat.le_refl _)⟩
                       have HIN5 : Aside _ := hown5
                       have hsz5 := (RN4.out.keep k5).k.size
                       have hrow5 := (MM4.out.keep k5).rw
                       rw [HC.out] at hrow5
                       generalize w4.heap.size = g5 at *
                       clear hown5 hgrow5 k5 MM4 RN4 b24 hsz4)
                    | (have _t := MM5
                       at_builtin
                       refine wpList_append_own_at _ rfl _ _ 79 rfl w.heap.size 50 ii zi 1 24 Tryz.underlying79 HI.out.1 HI.out.2.2.2.1 HI.out.2.1 HI.out.2.2.1 HI.out.2.2.2.2 (by decide) _ n _ rfl (hrow5.alloc _) ⟨w5.heap.size, 0, none⟩ 1 1 [.slice (some ⟨g5, 0, none⟩) na na] rfl rfl (Hd.src_one w5 #[.slice (some ⟨g5, 0, none⟩) na na] 50) (one_s _ _ _) (by unfold maxLen; omega) (by omega) (by simp; omega) ?_
                       intro v6 w6 hown6 hgrow6 _ hat6
                       have mm6 := MM5.out.appW RN5.out.nf (g := g5) (ws := List.replicate na 0) (by rw [List.length_replicate]; exact HIN5.out) HG5.out.1 HG5.out.2 (by rw [HC.out, cval_rep]; exact hown6) hgrow6 hat6
                       have rn6 := RN5.out.ownK MM5.out z0 (grown_kept hgrow6) (fun _ hj => .inr (.inl hj))
                       have vs6 := VS.out g5
                       rw [HNA.out, Int.toNat_natCast] at vs6
                       obtain ⟨a6, c6, hv6⟩ := Hd.own_form hown6
                       subst hv6
                       have h6 : Ap w w6 A pg3 W3 L1 v3 T1 _ _ (hs ++ [y]) (cs ++ [some (g5, List.replicate na 0)]) := ⟨rn6, mm6, vs6, z0⟩
                       clear hown6 hgrow6 hat6 MM5 RN5 HG5 HIN5 hrow5 hsz5 mm6 rn6 vs6 VS))
                  go_meet
                  case rel => exact ⟨n + 1, _, _, _, _, pg3, W3, L1, v3, T1, _, _, rfl, rfl, by omega, (by show (hs ++ [y]).length = n + 1; rw [List.length_append, HN.out]; rfl), (by show (cs ++ [_]).length = n + 1; rw [List.length_append, HC.out]; rfl), h6⟩
              · have hd : (er == 0) = false := by simpa using hne
                have h3 := HST.out.call sw3 t3 (HST.out.vs.same HST.out.rn.s.r sm3)
                clear co sw3 sm3 t3 hnb nbf nbo b0 b2 HST hne
                go_wp2
                go_meet
                case rel => exact ⟨n, a1, a2, c1, c2, pg3, W3, L, v3, T, hs, cs, rfl, rfl, by omega, HN, HC, h3⟩
            · have hd1 : (d == 1) = false := by simpa using hd1
              have hmeet : Aside (n ≤ i + 1) := by show n ≤ i + 1; omega
              rcases hkk with ⟨rfl, rfl⟩ | ⟨k, hkn, rfl⟩
              · clear hst
                go_wp2
                all_goals
                  go_meet
                  case rel => exact ⟨0, a1, a2, c1, c2, pg, W, L, v, T, hs, cs, rfl, rfl, hmeet.out, HN, HC, HST.out⟩
              · obtain ⟨y, hy⟩ : ∃ y, hs[k]? = some y := ⟨_, List.getElem?_eq_getElem (by rw [HN.out]; exact hkn)⟩
                obtain ⟨c, hc⟩ : ∃ c, cs[k]? = some c := ⟨_, List.getElem?_eq_getElem (by rw [HC.out]; exact hkn)⟩
                obtain ⟨g1, cp1, e1, o1, d1⟩ := hst.mm.hget hy
                obtain ⟨g2, cp2, e2, o2, d2, f2⟩ := hst.mm.cget hc
                rw [HN.out] at e1
                rw [HC.out] at e2
                cases e1
                cases e2
                have ix1 := run_ixH g1 n c1 k hkn
                have ix2 := run_ixR g2 n c2 k hkn
                have hu := hst.vs.u64 hst.rn.s.b.tb.wf hst.rn.s.b.tl (List.mem_of_getElem? hy)
                have stay : Aside (∀ wx pg' v', Mm w wx A pg' v' (.slice (some ⟨g1, 0, none⟩) n c1) (.slice (some ⟨g2, 0, none⟩) n c2) hs cs → wx.cell? ⟨g1, k, none⟩ = some (.int .u64 y) ∧ wx.cell? ⟨g2, k, none⟩ = some (cval c) ∧ wx.frozen? ⟨g2, k, none⟩ = false) := fun wx pg' v' hx => by
                  obtain ⟨g1', cp1', e1', _, d1'⟩ := hx.hget hy
                  obtain ⟨g2', cp2', e2', _, d2', f2'⟩ := hx.cget hc
                  rw [HN.out] at e1'
                  rw [HC.out] at e2'
                  cases e1'
                  cases e2'
                  exact ⟨d1', d2', f2' k⟩
                have hkc : k < cs.length := by rw [HC.out]; exact hkn
                have HKC : Aside _ := hkc
                have kd := (K.refl W1).drew
                have hstd := hst.keep kd
                have nbd := kd.block hnb
                clear hkc
                by_cases hd2 : d = 2
                · subst hd2
                  clear b2 b3
                  as_aux_lemma =>
                    obtain ⟨er, tv, dr, htv⟩ : ∃ (er : Int) (tv : Option Addr × Nat), (Calls Tryz.prog 20 #[sp A.st, .int .u64 y] W1.drew fun e w' => e = .returned (.int .i64 er) ∧ Aside (∃ pg' W' L' T', Rn w w' A pg' W' L' v T' ∧ Mm w w' A pg' v (.slice (some ⟨g1, 0, none⟩) n c1) (.slice (some ⟨g2, 0, none⟩) n c2) hs cs ∧ Vs T' W' hs (cs.set k none)) ∧ w'.cell? ⟨g1, k, none⟩ = some (.int .u64 y) ∧ w'.cell? ⟨g2, k, none⟩ = some (.slice tv.1 tv.2 tv.2)) ∧ cval c = .slice tv.1 tv.2 tv.2 ∧ (er == 0) = !tv.1.isNone := by
                      cases c with
                      | none =>
                        refine ⟨7, (none, 0), ?_, rfl, rfl⟩
                        refine (drop_none hstd.rn.s y hu (hst.vs.dead k y hy hc)).mono ?_
                        rintro e w3 ⟨rfl, k3⟩
                        have h3 := hstd.keep k3
                        obtain ⟨s1, s2, _⟩ := stay.out _ _ _ h3.mm
                        exact ⟨rfl, ⟨pg, W, L, T, h3.rn, h3.mm, by rw [Hd.set_self hc]; exact h3.vs⟩, s1, s2⟩
                      | some gw =>
                        obtain ⟨g3, ws⟩ := gw
                        obtain ⟨i', s, hf, hsl, _, _⟩ := hst.vs.live k y g3 ws hy hc
                        refine ⟨0, (some ⟨g3, 0, none⟩, ws.length), ?_, rfl, rfl⟩
                        refine (drop_some hstd.rn.s hstd.rn.k.size y hu hf hsl).mono ?_
                        rintro e w3 ⟨rfl, pg3, W3, p, kk, hfb, sb, sw3, t3⟩
                        have mm3 := hstd.mm.step t3
                        obtain ⟨s1, s2, _⟩ := stay.out _ _ _ mm3
                        exact ⟨rfl, ⟨pg3, W3, _, _, ⟨sw3, hstd.rn.kst t3⟩, mm3, hst.vs.drop hst.rn.s.r hst.rn.s.b.tl hy hf hsl hfb sb⟩, s1, s2⟩
                    obtain ⟨ta, tn⟩ := tv
                    dsimp only at dr htv
                    rw [htv.1] at d2
                    have hbe : (er == 0) = !ta.isNone := htv.2
                    have HSTAY : Aside _ := stay
                    clear hst HST hstd htv stay hnb nbf nbo hu
                    go_wp2
                    go_region_held3 (fun w' => w'.cell? ⟨g1, k, none⟩ = some (.int .u64 y) ∧ w'.cell? ⟨g2, k, none⟩ = some (.slice ta tn tn))
                      (first | exact ⟨d1, d2⟩ | exact ⟨y1, y2⟩)
                      (first | (go_at_call 20; refine dr.mono ?_; rintro e w3 ⟨rfl, HP, y1, y2⟩))
                    all_goals
                      obtain ⟨pg3, W3, L3, T3, rn3, mm3, vs3⟩ := HP.out
                      obtain ⟨_, _, f3⟩ := HSTAY.out _ _ _ mm3
                      have mm4 := mm3.setNil HKC.out
                      have rn4 := rn3.ownK mm3 z0 (w' := w3.setCell ⟨g2, k, none⟩ (.slice none 0 0)) ((Kept.refl (fun j => j = g2) w3).setCell (p := ⟨g2, k, none⟩) _ (.inl rfl)) (fun j hj => .inr (.inl (by rw [hj]; rfl)))
                      have H4 : Aside (Ap w (w3.setCell ⟨g2, k, none⟩ (.slice none 0 0)) A pg3 W3 L3 v T3 (.slice (some ⟨g1, 0, none⟩) n c1) (.slice (some ⟨g2, 0, none⟩) n c2) hs (cs.set k none)) := ⟨rn4, mm4, vs3, z0⟩
                      clear HP rn3 mm3 vs3 mm4 rn4 dr
                      go_wp2
                      go_meet
                      case rel => exact ⟨n, _, _, _, _, pg3, W3, L3, v, T3, hs, cs.set k none, rfl, rfl, hmeet.out, HN, (by show (cs.set k none).length = n; rw [List.length_set]; exact HC.out), H4.out⟩
                · by_cases hd3 : d = 3
                  · subst hd3
                    clear hd2
                    as_aux_lemma =>
                      have pu := put_any hstd.rn.s hstd.rn.k.size y a hh hu h64.out
                      rcases wE_cases T W y a with he0 | ⟨hne, _⟩
                      · obtain ⟨i', s, hf, hsl, so, k0, k1, ewa, _, _⟩ := hst.rn.s.word he0
                        cases c with
                        | none =>
                          exfalso
                          have := hst.vs.dead k y hy hc
                          rw [hf] at this
                          cases this
                        | some gw =>
                          obtain ⟨g3, ws⟩ := gw
                          obtain ⟨na, rfl⟩ : ∃ na : Nat, a = na := ⟨a.toNat, by omega⟩
                          obtain ⟨i2, s2, hf2, hsl2, hwl, _⟩ := hst.vs.live k y g3 ws hy hc
                          obtain rfl : i' = i2 := Option.some.inj (hf.symm.trans hf2)
                          obtain rfl := Option.some.inj (hsl.symm.trans hsl2)
                          have hna : na < ws.length := by omega
                          have VSP : Aside (Vs T (Sl.upd W (s.a + 2 + na) hh) hs (cs.set k (some (g3, ws.set na hh)))) := hst.vs.put hst.rn.s.r hst.rn.s.b.wl hst.rn.s.b.tl hy hc hf hsl hna
                          have epW : pW T W y na hh = Sl.upd W (s.a + 2 + na) hh := by unfold pW; rw [if_pos he0, ewa]
                          rw [he0, epW] at pu
                          have pu2 : Calls Tryz.prog 21 #[sp A.st, .int .u64 y, .int .i64 na, .int .u64 hh] W1.drew fun e w' => e = .returned (.int .i64 0) ∧ Aside (Rn w w' A pg (Sl.upd W (s.a + 2 + na) hh) L v T ∧ Mm w w' A pg v (.slice (some ⟨g1, 0, none⟩) n c1) (.slice (some ⟨g2, 0, none⟩) n c2) hs cs) ∧ w'.cell? ⟨g1, k, none⟩ = some (.int .u64 y) ∧ w'.cell? ⟨nb, 2, none⟩ = some (.int .i64 na) ∧ w'.cell? ⟨nb, 3, none⟩ = some (.int .u64 hh) := by
                            refine pu.mono ?_
                            rintro e w3 ⟨rfl, sw3, t3⟩
                            have mm3 := hstd.mm.step t3
                            have nb3 := t3.block nbd nbf
                            exact ⟨rfl, ⟨⟨sw3, hstd.rn.kst t3⟩, mm3⟩, (stay.out _ _ _ mm3).1, by simp [World.cell?, nb3], by simp [World.cell?, nb3]⟩
                          have HSTAY : Aside _ := stay
                          have HCC : Aside _ := hc
                          obtain ⟨yy, hyy⟩ : ∃ yy, ws[na]? = some yy := ⟨_, List.getElem?_eq_getElem hna⟩
                          have HYY : Aside _ := hyy
                          have ix3 := run_ixI g3 ws.length ws.length na hna
                          have POST : Aside (∀ w3, Rn w w3 A pg (Sl.upd W (s.a + 2 + na) hh) L v T → Mm w w3 A pg v (.slice (some ⟨g1, 0, none⟩) n c1) (.slice (some ⟨g2, 0, none⟩) n c2) hs cs → w3.cell? ⟨g2, k, none⟩ = some (.slice (some ⟨g3, 0, none⟩) ws.length ws.length) ∧ w3.cell? ⟨g3, na, none⟩ = some (.int .u64 yy) ∧ w3.frozen? ⟨g3, na, none⟩ = false ∧ Ap w (w3.setCell ⟨g3, na, none⟩ (.int .u64 hh)) A pg (Sl.upd W (s.a + 2 + na) hh) L v T (.slice (some ⟨g1, 0, none⟩) n c1) (.slice (some ⟨g2, 0, none⟩) n c2) hs (cs.set k (some (g3, ws.set na hh)))) := fun w3 rn3 mm3 => by
                            have q2 := (HSTAY.out _ _ _ mm3).2.1
                            obtain ⟨q3, qf⟩ := mm3.wget HCC.out HYY.out
                            exact ⟨q2, q3, qf na, rn3.ownK mm3 z0 ((Kept.refl (fun j => j = g3) w3).setCell (p := ⟨g3, na, none⟩) _ (.inl rfl)) (fun j hj => .inr (.inr ⟨k, ws, by rw [hj]; exact HCC.out⟩)), mm3.setWord HCC.out, VSP.out, z0⟩
                          have hlen2 : Aside ((cs.set k (some (g3, ws.set na hh))).length = n) := by show _ = _; rw [List.length_set]; exact HC.out
                          have hw3998 : ws.length ≤ 3998 := by
                            obtain ⟨s', hs', _, _, n0, n1, _⟩ := hst.rn.s.live hf
                            obtain rfl := Option.some.inj (hsl.symm.trans hs')
                            omega
                          clear hst HST hstd pu hf hsl so k0 k1 ewa hf2 hsl2 hwl VSP epW he0 hnb nbd nbf nbo stay hy hc hyy d2 f2 hu hna
                          generalize ws.length = nw at *
                          go_wp2
                          go_region_held3 (fun w' => w'.cell? ⟨g1, k, none⟩ = some (.int .u64 y) ∧ w'.cell? ⟨nb, 2, none⟩ = some (.int .i64 na) ∧ w'.cell? ⟨nb, 3, none⟩ = some (.int .u64 hh))
                            (first | exact ⟨d1, b2, b3⟩ | exact ⟨y1, y2, y3⟩)
                            (first | (go_at_call 21; refine pu2.mono ?_; rintro e w3 ⟨rfl, HP, y1, y2, y3⟩))
                          all_goals
                            obtain ⟨q2, q3, q4, q5⟩ := POST.out _ HP.out.1 HP.out.2
                            have H4 : Aside _ := q5
                            clear HP q5 pu2 d1 b2 b3 b0
                            go_wp2
                            go_region
                            go_wp2
                            go_meet
                            case rel => exact ⟨n, _, _, _, _, pg, _, L, v, T, hs, _, rfl, rfl, hmeet.out, HN, hlen2, H4.out.keep ((K.refl _).drew)⟩
                      · have hE : ¬ wE T W y a = 0 := by simpa using hne
                        rw [show pW T W y a hh = W by unfold pW; rw [if_neg hE]] at pu
                        have hd : (wE T W y a == 0) = false := by simpa using hne
                        generalize wE T W y a = er at *
                        have pu2 : Calls Tryz.prog 21 #[sp A.st, .int .u64 y, .int .i64 a, .int .u64 hh] W1.drew fun e w' => e = .returned (.int .i64 er) ∧ Aside (Ap w w' A pg W L v T (.slice (some ⟨g1, 0, none⟩) n c1) (.slice (some ⟨g2, 0, none⟩) n c2) hs cs) ∧ w'.cell? ⟨g1, k, none⟩ = some (.int .u64 y) ∧ w'.cell? ⟨nb, 2, none⟩ = some (.int .i64 a) ∧ w'.cell? ⟨nb, 3, none⟩ = some (.int .u64 hh) := by
                          refine pu.mono ?_
                          rintro e w3 ⟨rfl, sw3, t3⟩
                          have h3 := hstd.call sw3 t3 hst.vs
                          have nb3 := t3.block nbd nbf
                          exact ⟨rfl, h3, (stay.out _ _ _ h3.mm).1, by simp [World.cell?, nb3], by simp [World.cell?, nb3]⟩
                        clear hst HST hstd pu hnb nbd nbf nbo stay hy hc d2 f2 hu hE hne
                        go_wp2
                        go_region_held3 (fun w' => w'.cell? ⟨g1, k, none⟩ = some (.int .u64 y) ∧ w'.cell? ⟨nb, 2, none⟩ = some (.int .i64 a) ∧ w'.cell? ⟨nb, 3, none⟩ = some (.int .u64 hh))
                          (first | exact ⟨d1, b2, b3⟩ | exact ⟨y1, y2, y3⟩)
                          (first | (go_at_call 21; refine pu2.mono ?_; rintro e w3 ⟨rfl, HP, y1, y2, y3⟩))
                        all_goals
                          clear pu2 d1 b2 b3 b0
                          go_wp2
                          go_meet
                          case rel => exact ⟨n, _, _, _, _, pg, W, L, v, T, hs, cs, rfl, rfl, hmeet.out, HN, HC, HP.out⟩
                  · by_cases hd5 : d = 5
                    · subst hd5
                      clear hd2 hd3 b2 b3
                      as_aux_lemma =>
                        have sl : Calls Tryz.prog 18 #[sp A.st, .int .u64 y] W1 fun e w' => (∃ bb er, e = .returned (.tuple #[.bool bb, .int .i64 er])) ∧ Aside (∃ pg' W' L' T', Ap w w' A pg' W' L' v T' (.slice (some ⟨g1, 0, none⟩) n c1) (.slice (some ⟨g2, 0, none⟩) n c2) hs cs) := by
                          cases hf : findL T y with
                          | none =>
                            refine (slide_none hst.rn.s y hu hf).mono ?_
                            rintro e w3 ⟨rfl, k3⟩
                            exact ⟨⟨_, _, rfl⟩, ⟨pg, W, L, T, hst.keep k3⟩⟩
                          | some i' =>
                            obtain ⟨s, hsl, so, _⟩ := Hd.findL_some hf
                            obtain ⟨bb, er, L', esl⟩ : ∃ bb er L', Hp.slideL L s.a = (bb, er, L') := ⟨_, _, _, rfl⟩
                            refine (slide_some hst.rn.s hBn y hu hf hsl esl).mono ?_
                            rintro e w3 ⟨rfl, pg3, W3, p, kk, hfb, sb, mv, sw3, t3⟩
                            exact ⟨⟨_, _, rfl⟩, ⟨pg3, W3, L', _, hst.call sw3 t3 (hst.vs.slide hst.rn.s.r hst.rn.s.b.wl hst.rn.s.b.tl hf hsl hfb sb mv)⟩⟩
                        clear hst HST hstd hnb nbd nbf nbo stay hy hc d2 f2 hu
                        go_wp2_with fail
                        refine sl.mono ?_
                        rintro e w3 ⟨⟨bb, er, rfl⟩, HP⟩
                        obtain ⟨pg3, W3, L3, T3, h3⟩ := HP.out
                        clear sl d1 b0 HP
                        go_wp2
                        go_meet
                        case rel => exact ⟨n, _, _, _, _, pg3, W3, L3, v, T3, hs, cs, rfl, rfl, hmeet.out, HN, HC, h3⟩
                    · have hd2 : (d == 2) = false := by simpa using hd2
                      have hd3 : (d == 3) = false := by simpa using hd3
                      have hd5 : (d == 5) = false := by simpa using hd5
                      clear hst hstd hnb nbd nbf nbo stay hy hc d1 d2 f2 hu b2 b3
                      go_wp2
                      all_goals
                        go_meet
                        case rel => exact ⟨n, _, _, _, _, pg, W, L, v, T, hs, cs, rfl, rfl, hmeet.out, HN, HC, HST.out⟩
    · have au := audit_ok hst.rn.s
      have k3 := hst.rn.k
      clear HST hst
      go_wp2_with fail
      refine au.mono ?_
      rintro e w3 ⟨rfl, k4⟩
      go_wp2_with (go_at_call 9; refine (aw.out _ (k3.trans k4)).mono ?_; rintro e w5 ⟨rfl, k5⟩)
      go_ret
      exact ⟨rfl, (k3.trans k4).trans k5⟩

end So
end Go.Proofs.YtckofhbfdfmnoaaGreatDoor
