/-
  HandleOnce: the walk.
-/
import Derived.Test.YtfokpiapaacagaaDRw
import Derived.Test.YtfokpiapaacagaaDOnceF
import Derived.Test.YtfokpiapaacagaaDDoor
import Derived.Deep.DeepCutAuto
import Derived.Deep.RegionHeld3
import Derived.Deep.CutBlock
namespace Go.Proofs.Ytfokpiapaacagaa
open Go.RowKit Go.Maps
namespace Hd
open Hp (Kept K No)

/-- (x % N + N) % N -/
theorem rem_round (x : Int) {N : Nat} (h : 0 < N) : ∃ (r : Int) (k : Nat), x.tmod N = r ∧ -(N : Int) < r ∧ r < N ∧ (r + N).tmod N = k ∧ k < N := by
  have h1 : x.tmod N < N := Int.tmod_lt_of_pos x (by omega)
  have h2 : -(N : Int) < x.tmod N := Int.lt_tmod_of_pos x (b := (N : Int)) (by omega)
  have h3 : (x.tmod N + N).tmod N < N := Int.tmod_lt_of_pos _ (by omega)
  have h4 : 0 ≤ (x.tmod N + N).tmod N := Int.tmod_nonneg _ (by omega)
  exact ⟨x.tmod N, ((x.tmod N + N).tmod N).toNat, rfl, h2, h1, by omega, by omega⟩

set_option maxRecDepth 100000 in
set_option maxHeartbeats 2000000 in
theorem once_main (q z : Int) (a0 : Option Addr) (b off len cap : Nat) (zz : Nat → Opv) (w : World) (hS : Script w a0 b off len cap zz) (hlen : len ≤ 200) (q0 : 1 ≤ q) (q1 : q ≤ 65536) (z0 : 1 ≤ z) (z1 : z ≤ 4294967295) :
    Calls Try.prog 5 #[.int .i64 q, .int .u32 z, .slice a0 len cap] w fun e w' => e = .returned (.bool true) ∧ K w w' := by
  have hn := new_rn q z w q0 q1 z0 z1
  obtain ⟨ih, hih, hsh, hbh, zh, hzh, hzsh⟩ := info_handle
  have HH : Aside (Try.prog.info? 39 = some ih ∧ ih.size = 1 ∧ ih.bytes = 8 ∧ ih.zero = some zh ∧ zh.cells.size = 1) := ⟨hih, hsh, hbh, hzh, hzsh⟩
  obtain ⟨ii, hii, hsi, hbi, zi, hzi, hzsi⟩ := info_int
  have HI : Aside (Try.prog.info? 3 = some ii ∧ ii.size = 1 ∧ ii.bytes = 8 ∧ ii.zero = some zi ∧ zi.cells.size = 1) := ⟨hii, hsi, hbi, hzi, hzsi⟩
  have HS : Aside _ := hS
  clear hS hih hsh hbh hzh hzsh hii hsi hbi hzi hzsi
  go_enter Try.func5, Try.ntmps5
  go_wp2_with fail
  refine hn.mono ?_
  rintro e w1 ⟨rfl, h1⟩
  generalize w.heap.size = bt at h1 ⊢
  clear hn
  go_wp2
  go_loopg [9, 10, 11] len (fun gh t9 t10 t11 wx => ∃ (i n : Nat) (a1 a2 : Option Addr) (c1 c2 : Nat) (v : Value) (L : List Sl) (Hs As : List Int), i + gh = len ∧ t11 = .int .i64 i ∧ t9 = .slice a1 n c1 ∧ t10 = .slice a2 n c2 ∧ n ≤ i ∧ Aside (Hs.length = n) ∧ St w wx bt q z v L t9 Hs t10 As ∧ Inv L Hs As)
  case atStart => exact ⟨0, 0, none, none, 0, 0, _, [], [], [], by omega, rfl, rfl, rfl, Nat.le_refl _, rfl, St.first h1, Inv.nil _⟩
  case round =>
    obtain ⟨i, n, a1, a2, c1, c2, v, L, Hs, As, hig, rfl, rfl, rfl, hni, HN, hst, hinv⟩ := hrel
    have HST : Aside _ := hst
    have HIN : Aside _ := hinv
    clear h1
    by_cases hlt : i < len
    · have hix := HS.out.ix i hlt
      have hop := (HS.out.cell i hlt).keep hst.rn.k
      have hok := HS.out.ok i
      generalize zz i = o at hop hok
      obtain ⟨d, x, a, hh⟩ := o
      obtain ⟨e0, e1, e2, e3⟩ := hop
      have a64 : -9223372036854775808 ≤ a := hok.a.1
      have a63 : a ≤ 9223372036854775807 := hok.a.2
      have x64 : -9223372036854775808 ≤ x := hok.n.1
      have x63 : x ≤ 9223372036854775807 := hok.n.2
      clear hst hinv hok
      go_upto_if 48 with fail
      go_cut [13] (fun s13 wx => ∃ kk : Int, s13 = .int .i64 kk ∧ ((n = 0 ∧ kk = -1) ∨ ∃ k : Nat, k < n ∧ kk = k) ∧ wx = wr.alloc (.cells #[.int .i64 d, .int .i64 x, .int .i64 a, .int .u64 hh] 41))
      case first =>
        by_cases hn0 : n = 0
        · subst hn0
          go_wp2
          go_meet
          case rel => exact ⟨-1, rfl, .inl ⟨by first | rfl | trivial, rfl⟩, rfl⟩
        · have hnp : 0 < n := by omega
          obtain ⟨r, k, hr, hr0, hr1, hk, hkn⟩ := rem_round x hnp
          clear hn0
          go_wp2
          go_meet
          case rel => exact ⟨k, rfl, .inr ⟨k, hkn, rfl⟩, rfl⟩
      case rest =>
        obtain ⟨kk, rfl, hkk, rfl⟩ := hcut
        have bx := Bx.new HST.out (.cells #[.int .i64 d, .int .i64 x, .int .i64 a, .int .u64 hh] 41)
        have hst := HST.out.keep ((K.refl wr).alloc (.cells #[.int .i64 d, .int .i64 x, .int .i64 a, .int .u64 hh] 41))
        clear e0 e1 e2 e3 HST hix x64 x63
        generalize wr.alloc (.cells #[.int .i64 d, .int .i64 x, .int .i64 a, .int .u64 hh] 41) = W at *
        generalize wr.heap.size = nb at *
        have b0 : W.cell? ⟨nb, 0, none⟩ = some (.int .i64 d) := bx.cell 0
        have b2 : W.cell? ⟨nb, 2, none⟩ = some (.int .i64 a) := bx.cell 2
        go_upto_block 2 with fail
        go_cut [9, 10] (fun s9 s10 wx => ∃ (n : Nat) (a1 a2 : Option Addr) (c1 c2 : Nat) (v : Value) (L : List Sl) (Hs As : List Int), s9 = .slice a1 n c1 ∧ s10 = .slice a2 n c2 ∧ n ≤ i + 1 ∧ Aside (Hs.length = n) ∧ St w wx bt q z v L s9 Hs s10 As ∧ Inv L Hs As)
        case rest =>
          clear hst HIN HN bx b0 b2 hkk hni
          as_aux_lemma =>
            obtain ⟨n, a1, a2, c1, c2, v, L, Hs, As, rfl, rfl, hni, HN, hst, hinv⟩ := hcut
            have HIN : Aside _ := hinv
            clear hinv
            go_wp2
            go_loopg [19] n (fun gh t19 wx => ∃ j : Nat, j + gh = n ∧ t19 = .int .i64 j ∧ St w wx bt q z v L (.slice a1 n c1) Hs (.slice a2 n c2) As)
            case atStart => exact ⟨0, by omega, rfl, hst⟩
            case round =>
              obtain ⟨j, hjg, rfl, hst⟩ := hrel
              by_cases hjn : j < n
              · obtain ⟨h, hh⟩ : ∃ h, Hs[j]? = some h := ⟨_, List.getElem?_eq_getElem (by rw [HN.out]; exact hjn)⟩
                obtain ⟨b, hb⟩ : ∃ b, As[j]? = some b := ⟨_, List.getElem?_eq_getElem (by rw [HIN.out.len, HN.out]; exact hjn)⟩
                obtain ⟨g, cp, e1, _, d1, _⟩ := hst.hget hh
                obtain ⟨g2, cp2, e2, _, d2, _⟩ := hst.iget hb
                rw [HN.out] at e1
                rw [HIN.out.len, HN.out] at e2
                cases e1
                cases e2
                have ix1 := run_ixh g n c1 j hjn
                have ix2 := run_ixi g2 n c2 j hjn
                have hu := told_u64 hst.rn.tb.wf (HIN.out.told j h hh)
                rcases HIN.out.at hh hb with ⟨b0, hat⟩ | ⟨b0, hat⟩
                · have ca := hst.at h 0 7 hu hat
                  clear hst hat hh hb hu
                  go_wp2_with fail
                  refine ca.mono ?_
                  rintro e w3 ⟨rfl, h3, k3⟩
                  have d3 := k3.cell d2
                  clear ca d1 d2 k3
                  go_wp2
                  go_roundg (n - (j + 1))
                  case measure => omega
                  case rel => exact ⟨j + 1, by omega, by go_num, h3⟩
                · have ca := hst.at h b 0 hu hat
                  clear hst hat hh hb hu
                  go_wp2_with fail
                  refine ca.mono ?_
                  rintro e w3 ⟨rfl, h3, k3⟩
                  have d3 := k3.cell d2
                  clear ca d1 d2 k3
                  go_wp2
                  go_roundg (n - (j + 1))
                  case measure => omega
                  case rel => exact ⟨j + 1, by omega, by go_num, h3⟩
              · go_wp2
                go_roundg (len - (i + 1))
                case measure => omega
                case rel => exact ⟨i + 1, n, a1, a2, c1, c2, v, L, Hs, As, by omega, by go_num, rfl, rfl, hni, HN, hst, HIN.out⟩
        case first =>
          by_cases hd1 : d = 1
          · subst hd1
            clear hkk
            obtain ⟨y, er, L1, hop⟩ : ∃ y er L1, openL q z L a = (y, er, L1) := ⟨_, _, _, rfl⟩
            have co := hst.open a y er L1 a63 hop
            by_cases her : er = 0
            · subst her
              obtain ⟨a0', hnew, hinv⟩ := HIN.out.open hst.rn.tb.wf hop
              have HNEW : Aside _ := hnew
              have HINV : Aside _ := hinv
              clear hop hinv hnew
              go_wp2_with fail
              refine co.mono ?_
              rintro e w3 ⟨rfl, v3, h3, hbx⟩
              have bx3 := hbx _ _ bx
              clear co hst bx b0 b2 hbx
              go_wp2
              go_loopg [16] n (fun gh t16 wx => ∃ j : Nat, j + gh = n ∧ t16 = .int .i64 j ∧ w3 = wx)
              case atStart => exact ⟨0, by omega, rfl, rfl⟩
              case round =>
                obtain ⟨j, hjg, rfl, rfl⟩ := hrel
                by_cases hjn : j < n
                · obtain ⟨h, hh⟩ : ∃ h, Hs[j]? = some h := ⟨_, List.getElem?_eq_getElem (by rw [HN.out]; exact hjn)⟩
                  obtain ⟨g, cp, e1, _, d1, _⟩ := h3.hget hh
                  rw [HN.out] at e1
                  cases e1
                  have ix1 := run_ixh g n c1 j hjn
                  have hne : (h == y) = false := by
                    have := HNEW.out j
                    rw [hh] at this
                    simpa using this
                  have H3 : Aside _ := h3
                  have BX3 : Aside _ := bx3
                  clear hh h3 bx3
                  go_wp2
                  go_roundg (n - (j + 1))
                  case measure => omega
                  case rel => exact ⟨j + 1, by omega, by go_num, rfl⟩
                · have hsz := h3.rn.k.size
                  have hrow := h3.rh
                  rw [HN.out] at hrow
                  have hnn := HN.out
                  have hAs : As.length = n := HIN.out.len.trans HN.out
                  have hAs2 : Aside (As.length = n) := hAs
                  clear hAs
                  go_wp2_with (first
                    | (have _t := h3
                       at_builtin
                       refine wpList_append_own_at _ rfl _ _ 34 rfl w.heap.size 39 ih zh 1 8 Try.underlying34 HH.out.1 HH.out.2.2.2.1 HH.out.2.1 HH.out.2.2.1 HH.out.2.2.2.2 (by decide) _ n _ rfl (hrow.alloc _) ⟨w3.heap.size, 0, none⟩ 1 1 [encU y] rfl rfl (src_one w3 #[.int .u64 y] 39) (one_u _) (by unfold maxLen; omega) (by omega) (by simp; omega) ?_
                       intro v4 w4 hown hgrow _ hat
                       have h4 := h3.app1 (x := y) (by rw [hnn]; exact hown) hgrow hat
                       have bx4 := bx3.app1 hgrow hat
                       have b2 : w4.cell? ⟨nb, 2, none⟩ = some (.int .i64 a) := bx4.cell 2
                       obtain ⟨a4, c4, hv4⟩ := own_form hown
                       subst hv4
                       have hsz4 := h4.rn.k.size
                       have hrow4 := h4.ri
                       rw [hAs2.out] at hrow4
                       clear hown hgrow hat h3 bx3 hrow hsz)
                    | (have _t := h4
                       at_builtin
                       refine wpList_append_own_at _ rfl _ _ 57 rfl w.heap.size 3 ii zi 1 8 Try.underlying57 HI.out.1 HI.out.2.2.2.1 HI.out.2.1 HI.out.2.2.1 HI.out.2.2.2.2 (by decide) _ n _ rfl (hrow4.alloc _) ⟨w4.heap.size, 0, none⟩ 1 1 [encZ a] rfl rfl (src_one w4 #[.int .i64 a] 3) (one_z _) (by unfold maxLen; omega) (by omega) (by simp; omega) ?_
                       intro v5 w5 hown hgrow _ hat
                       have h5 := h4.app2 (x := a) (by rw [hAs2.out]; exact hown) hgrow hat
                       obtain ⟨a5, c5, hv5⟩ := own_form hown
                       subst hv5
                       clear hown hgrow hat h4 bx4 hrow4 hsz4 b2))
                  go_meet
                  case rel => exact ⟨n + 1, _, _, _, _, v3, L1, Hs ++ [y], As ++ [a], rfl, rfl, by omega, (by show (Hs ++ [y]).length = n + 1; rw [List.length_append, HN.out]; rfl), h5, HINV.out⟩
            · have HER : Aside (L1 = L) := openL_err hop her
              have her : (er != 0) = true := by simpa using her
              clear hop
              go_wp2_with fail
              refine co.mono ?_
              rintro e w3 ⟨rfl, v3, h3, hbx⟩
              clear co hst bx b0 b2 hbx
              go_wp2
              go_roundg (len - (i + 1))
              case measure => omega
              case rel => exact ⟨i + 1, n, a1, a2, c1, c2, v3, L1, Hs, As, by omega, by go_num, rfl, rfl, by omega, HN, h3, by rw [HER.out]; exact HIN.out⟩
          · have hd1 : (d == 1) = false := by simpa using hd1
            have HST : Aside _ := hst
            have BX : Aside _ := bx
            have hmeet : Aside (n ≤ i + 1) := by show n ≤ i + 1; omega
            rcases hkk with ⟨rfl, rfl⟩ | ⟨k, hkn, rfl⟩
            · clear hst bx
              go_wp2
              all_goals
                go_meet
                case rel => exact ⟨0, a1, a2, c1, c2, v, L, Hs, As, rfl, rfl, hmeet.out, HN, HST.out, HIN.out⟩
            · obtain ⟨h, hh0⟩ : ∃ h, Hs[k]? = some h := ⟨_, List.getElem?_eq_getElem (by rw [HN.out]; exact hkn)⟩
              obtain ⟨b, hb0⟩ : ∃ b, As[k]? = some b := ⟨_, List.getElem?_eq_getElem (by rw [HIN.out.len, HN.out]; exact hkn)⟩
              obtain ⟨g, cp, e1, _, d1, _⟩ := hst.hget hh0
              rw [HN.out] at e1
              cases e1
              have hu := told_u64 hst.rn.tb.wf (HIN.out.told k h hh0)
              have ix1 := run_ixh g n c1 k hkn
              obtain ⟨g2, cp2, e2, _, d2, _⟩ := hst.iget hb0
              rw [HIN.out.len, HN.out] at e2
              cases e2
              have ix2 := run_ixi g2 n c2 k hkn
              have CELL : Aside (∀ (wx : World) (v : Value) (L : List Sl), St w wx bt q z v L (.slice (some ⟨g, 0, none⟩) n c1) Hs (.slice (some ⟨g2, 0, none⟩) n c2) As → wx.cell? ⟨g, k, none⟩ = some (.int .u64 h) ∧ wx.cell? ⟨g2, k, none⟩ = some (.int .i64 b) ∧ wx.frozen? ⟨g2, k, none⟩ = false) := fun wx v L hs => by
                obtain ⟨_, _, e1, _, d1, _⟩ := hs.hget hh0
                obtain ⟨_, _, e2, _, d2, f2, _⟩ := hs.iget hb0
                rw [HN.out] at e1
                rw [HIN.out.len, HN.out] at e2
                cases e1
                cases e2
                exact ⟨d1, d2, f2⟩
              have HH0 : Aside _ := hh0
              have HB0 : Aside _ := hb0
              have HU : Aside (U64 h) := hu
              have hAs : Aside (As.length = n) := HIN.out.len.trans HN.out
              clear hh0 hb0 hu d2
              by_cases hd3 : d = 3
              · subst hd3
                clear hd1
                as_aux_lemma =>
                  obtain ⟨er, L1, hmv⟩ : ∃ er L1, moveL L h a = (er, L1) := ⟨_, _, rfl⟩
                  have hcase := HIN.out.move hst.rn.tb.wf (a := a) HH0.out HB0.out
                  rw [hmv] at hcase
                  have hm : ∀ w', (St w w' bt q z v L (.slice (some ⟨g, 0, none⟩) n c1) Hs (.slice (some ⟨g2, 0, none⟩) n c2) As ∧ Bx w' nb (.cells #[.int .i64 3, .int .i64 x, .int .i64 a, .int .u64 hh] 41) bt v (.slice (some ⟨g, 0, none⟩) n c1) (.slice (some ⟨g2, 0, none⟩) n c2)) → Calls Try.prog 19 #[tp bt, .int .u64 h, .int .i64 a] w' fun e w3 => e = .returned (.int .i64 er) ∧ (St w w3 bt q z v L1 (.slice (some ⟨g, 0, none⟩) n c1) Hs (.slice (some ⟨g2, 0, none⟩) n c2) As) ∧ (w3.cell? ⟨nb, 2, none⟩ = some (.int .i64 a) ∧ w3.cell? ⟨g, k, none⟩ = some (.int .u64 h)) := fun w' hs => by
                    refine (hs.1.move h a er L1 HU.out a63 hmv).mono ?_
                    rintro e w3 ⟨rfl, h3, hbx⟩
                    exact ⟨rfl, h3, (hbx _ _ hs.2).cell 2, (CELL.out w3 v L1 h3).1⟩
                  have HD : Aside (St w W.drew bt q z v L (.slice (some ⟨g, 0, none⟩) n c1) Hs (.slice (some ⟨g2, 0, none⟩) n c2) As ∧ Bx W.drew nb (.cells #[.int .i64 3, .int .i64 x, .int .i64 a, .int .u64 hh] 41) bt v (.slice (some ⟨g, 0, none⟩) n c1) (.slice (some ⟨g2, 0, none⟩) n c2)) := ⟨HST.out.keep (K.refl W).drew, BX.out.keep (K.refl W).drew⟩
                  have HCASE : Aside _ := hcase
                  clear hst bx hmv hcase
                  go_wp2
                  go_region_held3 (fun w' => w'.cell? ⟨nb, 2, none⟩ = some (.int .i64 a) ∧ w'.cell? ⟨g, k, none⟩ = some (.int .u64 h)) (first | exact HC | go_keep) (first
                    | (go_at_call 19; refine (hm _ ?_).mono ?_; exact HD.out; rintro e w3 ⟨rfl, h3, HC⟩))
                  all_goals
                    obtain ⟨_, d2, f2⟩ := CELL.out w3 v L1 h3
                    obtain ⟨b2, _⟩ := HC
                    have H4 : Aside _ := h3.set2 (k := k) a hAs.out.symm
                    have H3 : Aside _ := h3
                    clear hm h3 b0 d1
                    rcases HCASE.out with ⟨hb1, ha1, hb2, hinv⟩ | ⟨hba, hb2, hL⟩
                    · have HINV : Aside _ := hinv
                      have hb2 : er = 0 := hb2
                      clear hinv
                      subst hb2
                      go_wp2
                      go_meet
                      case rel => exact ⟨n, _, _, _, _, v, L1, Hs, As.set k a, rfl, rfl, hmeet.out, HN, H4.out, HINV.out⟩
                    · have HL : Aside (L1 = L) := hL
                      have hb3 : (er == 0) = false := by simpa using hb2
                      clear hb2 hL
                      rcases hba with hb1 | ha1
                      all_goals
                        go_wp2
                        all_goals
                          go_meet
                          case rel => exact ⟨n, _, _, _, _, v, L1, Hs, As, rfl, rfl, hmeet.out, HN, H3.out, by rw [HL.out]; exact HIN.out⟩
              · have hd3 : (d == 3) = false := by simpa using hd3
                by_cases hd4 : d = 4
                · subst hd4
                  clear hd1 hd3
                  as_aux_lemma =>
                    obtain ⟨er, L1, hcl⟩ : ∃ er L1, closeL L h = (er, L1) := ⟨_, _, rfl⟩
                    have cc := hst.close h er L1 HU.out hcl
                    obtain ⟨hcase, hinv⟩ := HIN.out.close hst.rn.tb.wf HH0.out HB0.out
                    rw [hcl] at hcase hinv
                    have HINV : Aside _ := hinv
                    clear hst bx hcl hinv
                    go_wp2_with fail
                    refine cc.mono ?_
                    rintro e w3 ⟨rfl, h3, -⟩
                    obtain ⟨_, d2, f2⟩ := CELL.out w3 v L1 h3
                    have h4 := h3.set2 (k := k) (-1) hAs.out.symm
                    have H4 : Aside _ := h4
                    clear cc h3 b0 b2 d1 h4
                    rcases hcase with ⟨hb1, hb2⟩ | ⟨hb1, hb2⟩
                    all_goals
                      subst hb2
                      go_wp2
                      go_meet
                      case rel => exact ⟨n, _, _, _, _, v, L1, Hs, As.set k (-1), rfl, rfl, hmeet.out, HN, H4.out, HINV.out⟩
                · have hd4 : (d == 4) = false := by simpa using hd4
                  clear hst bx
                  go_wp2
                  go_meet
                  case rel => exact ⟨n, _, _, c1, c2, v, L, Hs, As, rfl, rfl, hmeet.out, HN, HST.out, HIN.out⟩
    · obtain rfl : i = len := by omega
      have aw := awake_any wr
      have kk := hst.rn.k
      clear hst hinv hlt hig
      go_wp2_with (go_at_call 9; refine aw.mono ?_; rintro e w8 ⟨rfl, k8⟩)
      go_ret
      exact ⟨rfl, kk.trans (by assumption)⟩

end Hd
end Go.Proofs.Ytfokpiapaacagaa
