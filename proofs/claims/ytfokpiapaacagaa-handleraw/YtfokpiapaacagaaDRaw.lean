/-
  HandleRaw: the walk.
-/
import Derived.Test.YtfokpiapaacagaaDTw
import Derived.Test.YtfokpiapaacagaaDEndsF
import Derived.Test.YtfokpiapaacagaaDDoorS
import Derived.Deep.DeepCutAuto
import Derived.Deep.CutBlock
import Derived.Deep.RegionHeld3
namespace Go.Proofs.Ytfokpiapaacagaa
open Go.RowKit Go.Maps
namespace Hd
open Hp (Kept K No)

set_option maxRecDepth 100000 in
theorem raw_long (q z : Int) (a1 a2 a3 : Option Addr) (n1 n2 n3 c1 c2 c3 : Nat) (w : World) (h1 : (n1 : Int) ≤ 9223372036854775807) (h2 : (n2 : Int) ≤ 9223372036854775807) (h3 : (n3 : Int) ≤ 9223372036854775807) (h : 100 < n1 ∨ 100 < n2 ∨ 100 < n3) :
    Calls Try.prog 7 #[.int .i64 q, .int .u32 z, .slice a1 n1 c1, .slice a2 n2 c2, .slice a3 n3 c3] w fun e w' => e = .returned (.bool true) ∧ K w w' := by
  have ha := awake_any w
  by_cases k1 : (100 : Int) < n1
  · clear h
    go_enter Try.func7, Try.ntmps7
    go_wp2_with (go_at_call 9; refine ha.mono ?_; rintro e w2 ⟨rfl, hk2⟩)
    go_ret
    exact ⟨rfl, by assumption⟩
  by_cases k2 : (100 : Int) < n2
  · clear h
    go_enter Try.func7, Try.ntmps7
    go_wp2_with (go_at_call 9; refine ha.mono ?_; rintro e w2 ⟨rfl, hk2⟩)
    go_ret
    exact ⟨rfl, by assumption⟩
  have k3 : (100 : Int) < n3 := by omega
  clear h
  go_enter Try.func7, Try.ntmps7
  go_wp2_with (go_at_call 9; refine ha.mono ?_; rintro e w2 ⟨rfl, hk2⟩)
  go_ret
  exact ⟨rfl, by assumption⟩

set_option maxRecDepth 100000 in
theorem raw_bad (q z : Int) (a1 a2 a3 : Option Addr) (n1 n2 n3 c1 c2 c3 : Nat) (w : World) (h1 : n1 ≤ 100) (h2 : n2 ≤ 100) (h3 : n3 ≤ 100) (h : badNew q z) :
    Calls Try.prog 7 #[.int .i64 q, .int .u32 z, .slice a1 n1 c1, .slice a2 n2 c2, .slice a3 n3 c3] w fun e w' => e = .returned (.bool true) ∧ K w w' := by
  have ha := awake_any w
  have ho : Calls Try.prog 21 #[.int .i64 q, .int .u32 z, .slice a3 n3 c3] w _ := of_bad q z w h
  have hr := raw_nil w
  have hn := new_no q z w h
  clear h
  go_enter Try.func7, Try.ntmps7
  go_wp2_with (first
    | (go_at_call 21; refine ho.mono ?_; rintro e w2 ⟨rfl, rfl⟩)
    | (go_at_call 22; refine hr.mono ?_; rintro e w2 ⟨rfl, rfl⟩)
    | (go_at_call 10; refine hn.mono ?_; rintro e w2 ⟨rfl, rfl⟩)
    | (go_at_call 9; refine ha.mono ?_; rintro e w2 ⟨rfl, hk2⟩))
  go_ret
  exact ⟨rfl, by assumption⟩

set_option maxRecDepth 100000 in
set_option maxHeartbeats 4000000 in
theorem raw_main (q z : Int) (a1 a2 a3 : Option Addr) (b1 off1 n1 c1 b2 off2 n2 c2 b3 off3 n3 c3 : Nat) (z1 z2 : Nat → Opv) (z3 : List Sl) (w : World) (hS1 : Script w a1 b1 off1 n1 c1 z1) (hS2 : Script w a2 b2 off2 n2 c2 z2) (hS3 : Slots w a3 b3 off3 n3 c3 z3) (h1 : n1 ≤ 100) (h2 : n2 ≤ 100) (h3 : n3 ≤ 100) (q0 : 1 ≤ q) (q1 : q ≤ 65536) (zz0 : 1 ≤ z) (zz1 : z ≤ 4294967295) :
    Calls Try.prog 7 #[.int .i64 q, .int .u32 z, .slice a1 n1 c1, .slice a2 n2 c2, .slice a3 n3 c3] w fun e w' => e = .returned (.bool true) ∧ K w w' := by
  have ho := of_all q z hS3.src q0 q1 zz0 zz1 h3 hS3.ok
  obtain ⟨ih, hih, hsh, hbh, zh, hzh, hzsh⟩ := info_handle
  have HH : Aside (Try.prog.info? 39 = some ih ∧ ih.size = 1 ∧ ih.bytes = 8 ∧ ih.zero = some zh ∧ zh.cells.size = 1) := ⟨hih, hsh, hbh, hzh, hzsh⟩
  have HS1 : Aside _ := hS1
  have HS2 : Aside _ := hS2
  have HS3 : Aside _ := hS3
  clear hS1 hS2 hS3 hih hsh hbh hzh hzsh
  go_enter Try.func7, Try.ntmps7
  go_wp2_with fail
  refine ho.mono ?_
  rintro e wa ⟨sv, f, rfl, ka, hcase⟩
  have hr := raw_all hcase
  clear ho hcase
  go_wp2_with fail
  refine hr.mono ?_
  rintro e wb ⟨rv, rfl, kb, hcase⟩
  have kab := ka.trans kb
  have HC : Aside _ := hcase
  clear hr hcase ka kb
  go_upto_if 57 with fail
  go_cut [14] (fun _ wx => K w wx)
  case first =>
    rcases HC.out with ⟨hf, hown⟩ | hf
    · subst hf
      have hlen3 := HS3.out.src.len
      obtain ⟨ra, g, cp, hv, hsrc⟩ := src_own hown
      rw [hlen3] at hv hsrc
      subst hv
      have HSRC : Aside _ := hsrc
      clear hown hsrc hlen3 HC
      go_wp2
      go_loopg [14] n3 (fun gh t14 wx => ∃ i : Nat, i + gh = n3 ∧ t14 = .int .i64 i ∧ K wb wx)
      case atStart => exact ⟨0, by omega, rfl, K.refl _⟩
      case round =>
        obtain ⟨i, hig, rfl, kk⟩ := hrel
        by_cases hlt : i < n3
        · obtain ⟨s, hs⟩ : ∃ s, z3[i]? = some s := ⟨_, List.getElem?_eq_getElem (by rw [HS3.out.src.len]; exact hlt)⟩
          obtain ⟨p0, p1, p2⟩ := (HS3.out.src.keep (kab.trans kk)).at hs
          obtain ⟨p3, p4, p5⟩ := (HSRC.out.keep kk).at hs
          have ix1 := HS3.out.src.ix i hlt
          have ix2 := HSRC.out.ix i hlt
          simp only [Nat.zero_add] at p3 p4 p5 ix2
          have hne := fun w => neq_slot w s
          clear hs
          go_wp2
          go_quiet (fail)
          go_wp2
          go_roundg (n3 - (i + 1))
          case measure => omega
          case rel => exact ⟨i + 1, by omega, by go_num, kk.drewN _⟩
        · have kx := kab.trans kk
          go_wp2
          go_meet
          case rel => exact kx
    · clear HC
      go_wp2
      go_meet
      case rel => exact kab
  case rest =>
    have kc := hcut
    clear kab HC hcut HS3
    generalize wc = wd at *
    as_aux_lemma =>
      have hn := new_rn q z wd q0 q1 zz0 zz1
      go_wp2_with fail
      refine hn.mono ?_
      rintro e w1 ⟨rfl, h1'⟩
      have hst : St w w1 wd.heap.size q z (.slice none 0 0) [] (.slice none 0 0) [] (.slice none 0 0) [] := St.first ⟨⟨h1'.tb.hd, World.ownsRow_nil _ _ _ _, (fun h => nomatch h), h1'.tb.wf, Nat.le_trans (Kept.size kc) h1'.tb.lo⟩, kc.trans h1'.k⟩
      generalize wd.heap.size = bt at *
      clear hn h1' kc
      go_wp2
      go_loopg [17, 18] n1 (fun gh t17 t18 wx => ∃ (i n : Nat) (aa : Option Addr) (cc : Nat) (v : Value) (L : List Sl) (Hs : List Int), i + gh = n1 ∧ t18 = .int .i64 i ∧ t17 = .slice aa n cc ∧ n ≤ i ∧ Aside (Hs.length = n) ∧ Aside (∀ y ∈ Hs, U64 y) ∧ St w wx bt q z v L t17 Hs (.slice none 0 0) [])
      case atStart => exact ⟨0, 0, none, 0, _, [], [], by omega, rfl, rfl, Nat.le_refl _, rfl, (fun y hy => by cases hy), hst⟩
      case round =>
        obtain ⟨i, n, aa, cc, v, L, Hs, hig, rfl, rfl, hni, HN, HU, hst0⟩ := hrel
        clear hst
        by_cases hlt : i < n1
        · have hix := HS1.out.ix i hlt
          have CELL : Aside (∀ wx, K w wx → OpAt wx b1 (off1 + i * 4) (z1 i)) := fun wx k => (HS1.out.cell i hlt).keep k
          have hok := HS1.out.ok i
          generalize z1 i = o at *
          obtain ⟨d, x, a, hh⟩ := o
          have CELLS : Aside (∀ wx, K w wx → wx.cell? ⟨b1, off1 + i * 4, none⟩ = some (.int .i64 d) ∧ wx.cell? ⟨b1, off1 + i * 4 + 1, none⟩ = some (.int .i64 x) ∧ wx.cell? ⟨b1, off1 + i * 4 + 2, none⟩ = some (.int .i64 a)) := fun wx k => ⟨(CELL.out wx k).c0, (CELL.out wx k).c1, (CELL.out wx k).c2⟩
          have a63 : a ≤ 9223372036854775807 := hok.a.2
          have x64 : -9223372036854775808 ≤ x := hok.n.1
          have x63 : x ≤ 9223372036854775807 := hok.n.2
          obtain ⟨e0, e1, e2⟩ := CELLS.out _ hst0.rn.k
          clear CELL hok
          by_cases hd1 : d = 1
          · subst hd1
            obtain ⟨y, er, L1, hop⟩ : ∃ y er L1, openL q z L a = (y, er, L1) := ⟨_, _, _, rfl⟩
            have hy := openL_u64 hst0.rn.tb.wf a
            rw [hop] at hy
            have HY : Aside (U64 y) := hy
            have co := hst0.open a y er L1 a63 hop
            clear hop hy hst0
            go_wp2_with fail
            refine co.mono ?_
            rintro e w3 ⟨rfl, v3, h3, -⟩
            clear co e0 e1 e2
            by_cases her : er = 0
            · subst her
              have hrow := h3.rh
              have hsz := h3.rn.k.size
              have hnn := HN.out
              rw [hnn] at hrow
              go_wp2_with (at_builtin
                           refine wpList_append_own_at _ rfl _ _ 34 rfl w.heap.size 39 ih zh 1 8 Try.underlying34 HH.out.1 HH.out.2.2.2.1 HH.out.2.1 HH.out.2.2.1 HH.out.2.2.2.2 (by decide) _ n _ rfl (hrow.alloc _) ⟨w3.heap.size, 0, none⟩ 1 1 [encU y] rfl rfl (src_one w3 #[.int .u64 y] 39) (one_u _) (by unfold maxLen; omega) (by omega) (by simp; omega) ?_
                           intro v4 w4 hown hgrow _ hat
                           have h4 := h3.app1 (x := y) (by rw [hnn]; exact hown) hgrow hat
                           obtain ⟨a4, c4, hv4⟩ := own_form hown
                           subst hv4
                           clear hown hgrow hat h3 hrow hsz)
              have HU4 : Aside (∀ u ∈ Hs ++ [y], U64 u) := fun u hu => by
                rcases List.mem_append.1 hu with h | h
                · exact HU.out u h
                · obtain rfl : u = y := by simpa using h
                  exact HY.out
              go_roundg (n1 - (i + 1))
              case measure => omega
              case rel => exact ⟨i + 1, n + 1, _, _, v3, L1, Hs ++ [y], by omega, by go_num, rfl, by omega, (by show (Hs ++ [y]).length = n + 1; rw [List.length_append, HN.out]; rfl), HU4, h4⟩
            · have her : (er == 0) = false := by simpa using her
              go_wp2
              go_roundg (n1 - (i + 1))
              case measure => omega
              case rel => exact ⟨i + 1, n, aa, cc, v3, L1, Hs, by omega, by go_num, rfl, by omega, HN, HU, h3⟩
          · have hd1 : (d == 1) = false := by simpa using hd1
            by_cases hd4 : d = 4
            · subst hd4
              clear hd1
              have hrow := hst0.rh
              rw [HN.out] at hrow
              have cn := nth_any hrow HN.out (by omega) x x64 x63
              have hu := nthH_u64 HU.out x
              obtain ⟨er, L1, hcl⟩ : ∃ er L1, closeL L (nthH Hs x) = (er, L1) := ⟨_, _, rfl⟩
              have cc' := hst0.close _ er L1 hu hcl
              clear hrow hu hcl hst0
              go_wp2_with fail
              refine cn.mono ?_
              rintro e w3 ⟨rfl, rfl⟩
              clear cn
              go_wp2_with fail
              refine cc'.mono ?_
              rintro e w4 ⟨rfl, h4, -⟩
              clear cc' e0 e1 e2
              go_wp2
              go_roundg (n1 - (i + 1))
              case measure => omega
              case rel => exact ⟨i + 1, n, aa, cc, v, L1, Hs, by omega, by go_num, rfl, by omega, HN, HU, h4⟩
            · have hd4 : (d == 4) = false := by simpa using hd4
              have HST : Aside _ := hst0
              clear hst0
              go_wp2
              go_roundg (n1 - (i + 1))
              case measure => omega
              case rel => exact ⟨i + 1, n, aa, cc, v, L, Hs, by omega, by go_num, rfl, by omega, HN, HU, HST.out⟩
        · clear HS1
          have hn100 : n ≤ 100 := by omega
          have hr := raw_any hst0.rn.tb
          have HST : Aside _ := hst0
          clear hst0
          go_wp2_with fail
          refine hr.mono ?_
          rintro e w3 ⟨v3, rfl, hown, k3⟩
          obtain ⟨ra, g, cp, rfl, hsrc⟩ := src_own hown
          have hwf := HST.out.rn.tb.wf
          have hof := of_in q z hsrc q0 q1 zz0 zz1 hwf.len (fun s hs => ⟨by have := (hwf.ok s hs).lo; omega, (hwf.ok s hs).a1⟩)
          have hok := wf_okL hwf
          have HK : Aside _ := hok
          have K3 : Aside _ := k3
          clear hr hown hsrc hwf hok k3
          go_wp2_with fail
          refine hof.mono ?_
          rintro e w4 (⟨hno, _⟩ | ⟨_, vu, rfl, hu, k4⟩)
          · rw [HK.out] at hno
            cases hno
          have htw : Tw w w4 bt v w3.heap.size vu q z L L (.slice aa n cc) Hs := Tw.make (HST.out.keep K3.out) k4 hu
          generalize w3.heap.size = bu at *
          clear hof hu k4 K3 HST HK
          go_wp2
          go_loopg [17, 23] n2 (fun gh t17 t23 wx => ∃ (i n : Nat) (aa : Option Addr) (cc : Nat) (vt vu : Value) (L : List Sl) (Hs : List Int), i + gh = n2 ∧ t23 = .int .i64 i ∧ t17 = .slice aa n cc ∧ n ≤ 100 + i ∧ Aside (Hs.length = n) ∧ Aside (∀ y ∈ Hs, U64 y) ∧ Tw w wx bt vt bu vu q z L L t17 Hs)
          case atStart => exact ⟨0, n, aa, cc, v, vu, L, Hs, by omega, rfl, rfl, by omega, HN, HU, htw⟩
          case round =>
            clear htw HN HU hni hig hlt hn100
            obtain ⟨i, n, aa, cc, vt, vu, L, Hs, hig, rfl, rfl, hni, HN, HU, htw⟩ := hrel
            by_cases hlt : i < n2
            · have hix := HS2.out.ix i hlt
              have CELL : Aside (∀ wx, K w wx → OpAt wx b2 (off2 + i * 4) (z2 i)) := fun wx k => (HS2.out.cell i hlt).keep k
              have hok := HS2.out.ok i
              generalize z2 i = o at *
              obtain ⟨d, x, a, hh⟩ := o
              have CELLS : Aside (∀ wx, K w wx → wx.cell? ⟨b2, off2 + i * 4, none⟩ = some (.int .i64 d) ∧ wx.cell? ⟨b2, off2 + i * 4 + 1, none⟩ = some (.int .i64 x) ∧ wx.cell? ⟨b2, off2 + i * 4 + 2, none⟩ = some (.int .i64 a)) := fun wx k => ⟨(CELL.out wx k).c0, (CELL.out wx k).c1, (CELL.out wx k).c2⟩
              have a63 : a ≤ 9223372036854775807 := hok.a.2
              have x64 : -9223372036854775808 ≤ x := hok.n.1
              have x63 : x ≤ 9223372036854775807 := hok.n.2
              obtain ⟨e0, e1, e2⟩ := CELLS.out _ htw.k
              have hrow := htw.rh
              rw [HN.out] at hrow
              have cn := nth_any hrow HN.out (by omega) x x64 x63
              have hu := nthH_u64 HU.out x
              generalize nthH Hs x = h at cn hu
              have HUH : Aside (U64 h) := hu
              clear CELL hok hrow hu
              go_wp2_with fail
              refine cn.mono ?_
              rintro e w5 ⟨rfl, rfl⟩
              clear cn
              have HTW : Aside _ := htw
              clear htw
              go_upto_block 7 with fail
              go_cut [17] (fun s17 wx => ∃ (n : Nat) (aa : Option Addr) (cc : Nat) (vt vu : Value) (L : List Sl) (Hs : List Int), s17 = .slice aa n cc ∧ n ≤ 100 + (i + 1) ∧ Aside (Hs.length = n) ∧ Aside (∀ y ∈ Hs, U64 y) ∧ Tw w wx bt vt bu vu q z L L s17 Hs)
              case rest =>
                clear HTW HN HU e0 e1 e2 hni hix CELLS
                as_aux_lemma =>
                  obtain ⟨n, aa, cc, vt, vu, L, Hs, rfl, hni, HN, HU, htw⟩ := hcut
                  obtain ⟨p, er, hat⟩ : ∃ p er, atL L h = (p, er) := ⟨_, _, rfl⟩
                  have ca := htw.atT h p er HUH.out hat
                  have HAT : Aside _ := hat
                  clear htw hat
                  go_wp2_with fail
                  refine ca.mono ?_
                  rintro e w6 ⟨rfl, h6⟩
                  have cb := h6.atU h p er HUH.out HAT.out
                  clear ca h6
                  go_wp2_with fail
                  refine cb.mono ?_
                  rintro e w7 ⟨rfl, h7⟩
                  have cu := used_any h7.t
                  have cv := used_any h7.u
                  have hpp : (p != p) = false := by simp
                  have hee : (er != er) = false := by simp
                  have hll : ((L.length : Int) != (L.length : Int)) = false := by simp
                  clear cb HAT
                  go_wp2_with (first
                    | (go_at_call 16; have _t := hu1; refine cv.mono ?_; rintro e w8 ⟨rfl, rfl⟩)
                    | (go_at_call 16; refine cu.mono ?_; rintro e w8 ⟨rfl, rfl⟩; have hu1 : True := trivial))
                  go_roundg (n2 - (i + 1))
                  case measure => omega
                  case rel => exact ⟨i + 1, n, aa, cc, vt, vu, L, Hs, by omega, by go_num, rfl, by omega, HN, HU, h7⟩
              case first =>
                by_cases hd1 : d = 1
                · subst hd1
                  as_aux_lemma =>
                    obtain ⟨y, er, L1, hop⟩ : ∃ y er L1, openL q z L a = (y, er, L1) := ⟨_, _, _, rfl⟩
                    have hy := openL_u64 HTW.out.t.wf a
                    rw [hop] at hy
                    have HY : Aside (U64 y) := hy
                    have HOP : Aside _ := hop
                    have co := HTW.out.openT a y er L1 a63 hop
                    clear hop hy
                    go_wp2_with fail
                    refine co.mono ?_
                    rintro e w6 ⟨rfl, vt6, h6⟩
                    have cp := h6.openU a y er L1 a63 HOP.out
                    obtain ⟨f0, f1, f2⟩ := CELLS.out _ h6.k
                    clear co h6 e0 e1 e2 HTW
                    go_wp2_with fail
                    refine cp.mono ?_
                    rintro e w7 ⟨rfl, vu7, h7⟩
                    have hrow := h7.rh
                    have hsz := h7.k.size
                    have hnn := HN.out
                    rw [hnn] at hrow
                    clear cp f0 f1 f2 HOP
                    go_wp2_with (at_builtin
                                 refine wpList_append_own_at _ rfl _ _ 34 rfl w.heap.size 39 ih zh 1 8 Try.underlying34 HH.out.1 HH.out.2.2.2.1 HH.out.2.1 HH.out.2.2.1 HH.out.2.2.2.2 (by decide) _ n _ rfl (hrow.alloc _) ⟨w7.heap.size, 0, none⟩ 1 1 [encU y] rfl rfl (src_one w7 #[.int .u64 y] 39) (one_u _) (by unfold maxLen; omega) (by omega) (by simp; omega) ?_
                                 intro v8 w8 hown hgrow _ hat
                                 have h8 := h7.app (x := y) (by rw [hnn]; exact hown) hgrow hat
                                 obtain ⟨a8, c8, hv8⟩ := own_form hown
                                 subst hv8
                                 clear hown hgrow hat h7 hrow hsz)
                    have HU4 : Aside (∀ u ∈ Hs ++ [y], U64 u) := fun u hu => by
                      rcases List.mem_append.1 hu with h | h
                      · exact HU.out u h
                      · obtain rfl : u = y := by simpa using h
                        exact HY.out
                    go_meet
                    case rel => exact ⟨n + 1, _, _, vt6, vu7, L1, Hs ++ [y], rfl, by omega, (by show (Hs ++ [y]).length = n + 1; rw [List.length_append, HN.out]; rfl), HU4, h8⟩
                · have hd1 : (d == 1) = false := by simpa using hd1
                  by_cases hd3 : d = 3
                  · subst hd3
                    clear hd1
                    as_aux_lemma =>
                      obtain ⟨er, L1, hmv⟩ : ∃ er L1, moveL L h a = (er, L1) := ⟨_, _, rfl⟩
                      have T1 : ∀ w', Tw w w' bt vt bu vu q z L L (.slice aa n cc) Hs → Calls Try.prog 19 #[tp bt, .int .u64 h, .int .i64 a] w' fun e w3 => e = .returned (.int .i64 er) ∧ Tw w w3 bt vt bu vu q z L1 L (.slice aa n cc) Hs ∧ w3.cell? ⟨b2, off2 + i * 4 + 2, none⟩ = some (.int .i64 a) := fun w' hs => by
                        refine (hs.moveT h a er L1 HUH.out a63 hmv).mono ?_
                        rintro e w3 ⟨rfl, h3⟩
                        exact ⟨rfl, h3, (CELLS.out _ h3.k).2.2⟩
                      have T2 : ∀ w', Tw w w' bt vt bu vu q z L L1 (.slice aa n cc) Hs → Calls Try.prog 19 #[tp bt, .int .u64 h, .int .i64 a] w' fun e w3 => e = .returned (.int .i64 er) ∧ Tw w w3 bt vt bu vu q z L1 L1 (.slice aa n cc) Hs ∧ w3.cell? ⟨b2, off2 + i * 4 + 2, none⟩ = some (.int .i64 a) := fun w' hs => by
                        refine (hs.moveT h a er L1 HUH.out a63 hmv).mono ?_
                        rintro e w3 ⟨rfl, h3⟩
                        exact ⟨rfl, h3, (CELLS.out _ h3.k).2.2⟩
                      have U1 : ∀ w', Tw w w' bt vt bu vu q z L L (.slice aa n cc) Hs → Calls Try.prog 19 #[tp bu, .int .u64 h, .int .i64 a] w' fun e w3 => e = .returned (.int .i64 er) ∧ Tw w w3 bt vt bu vu q z L L1 (.slice aa n cc) Hs ∧ w3.cell? ⟨b2, off2 + i * 4 + 2, none⟩ = some (.int .i64 a) := fun w' hs => by
                        refine (hs.moveU h a er L1 HUH.out a63 hmv).mono ?_
                        rintro e w3 ⟨rfl, h3⟩
                        exact ⟨rfl, h3, (CELLS.out _ h3.k).2.2⟩
                      have U2 : ∀ w', Tw w w' bt vt bu vu q z L1 L (.slice aa n cc) Hs → Calls Try.prog 19 #[tp bu, .int .u64 h, .int .i64 a] w' fun e w3 => e = .returned (.int .i64 er) ∧ Tw w w3 bt vt bu vu q z L1 L1 (.slice aa n cc) Hs ∧ w3.cell? ⟨b2, off2 + i * 4 + 2, none⟩ = some (.int .i64 a) := fun w' hs => by
                        refine (hs.moveU h a er L1 HUH.out a63 hmv).mono ?_
                        rintro e w3 ⟨rfl, h3⟩
                        exact ⟨rfl, h3, (CELLS.out _ h3.k).2.2⟩
                      have HD : Aside _ := HTW.out.keep (K.refl _).drew
                      have hee : (er != er) = false := by simp
                      clear hmv HTW
                      go_wp2
                      go_region_held3 (fun w' => w'.cell? ⟨b2, off2 + i * 4 + 2, none⟩ = some (.int .i64 a)) (first | exact HC | go_keep) (first
                        | (go_at_call 19; have _t := HU1; (with_reducible refine (T2 _ ?_).mono ?_); exact HU1; rintro e w6 ⟨rfl, HF, HC⟩)
                        | (go_at_call 19; have _t := HT1; (with_reducible refine (U2 _ ?_).mono ?_); exact HT1; rintro e w6 ⟨rfl, HF, HC⟩)
                        | (go_at_call 19; (with_reducible refine (T1 _ ?_).mono ?_); exact HD.out; rintro e w7 ⟨rfl, HT1, HC⟩)
                        | (go_at_call 19; (with_reducible refine (U1 _ ?_).mono ?_); exact HD.out; rintro e w7 ⟨rfl, HU1, HC⟩))
                      all_goals
                        go_wp2
                        go_meet
                        case rel => exact ⟨n, aa, cc, vt, vu, L1, Hs, rfl, by omega, HN, HU, HF⟩
                  · have hd3 : (d == 3) = false := by simpa using hd3
                    by_cases hd4 : d = 4
                    · subst hd4
                      clear hd1 hd3
                      as_aux_lemma =>
                        obtain ⟨er, L1, hcl⟩ : ∃ er L1, closeL L h = (er, L1) := ⟨_, _, rfl⟩
                        have co := HTW.out.closeT h er L1 HUH.out hcl
                        have HCL : Aside _ := hcl
                        have hee : (er != er) = false := by simp
                        clear hcl HTW e1 e2
                        go_wp2_with fail
                        refine co.mono ?_
                        rintro e w6 ⟨rfl, h6⟩
                        have cp := h6.closeU h er L1 HUH.out HCL.out
                        clear co h6 e0 HCL
                        go_wp2_with fail
                        refine cp.mono ?_
                        rintro e w7 ⟨rfl, h7⟩
                        clear cp
                        go_wp2
                        go_meet
                        case rel => exact ⟨n, aa, cc, vt, vu, L1, Hs, rfl, by omega, HN, HU, h7⟩
                    · have hd4 : (d == 4) = false := by simpa using hd4
                      clear e1 e2
                      go_wp2
                      go_meet
                      case rel => exact ⟨n, aa, cc, vt, vu, L, Hs, rfl, by omega, HN, HU, HTW.out⟩
            · have aw := awake_any wr
              have kk := htw.k
              clear htw
              go_wp2_with (go_at_call 9; refine aw.mono ?_; rintro e w8 ⟨rfl, k8⟩)
              go_ret
              exact ⟨rfl, kk.trans (by assumption)⟩

end Hd
end Go.Proofs.Ytfokpiapaacagaa
