/-
  HandleMoves: all slots open in generation 1, at addresses that turn; the walk.
-/
import Derived.Test.YtfokpiapaacagabDNth
import Derived.Test.YtfokpiapaacagabDLeastF
import Derived.Test.YtfokpiapaacagabDDoorP
import Derived.Deep.DeepCutAuto
import Derived.Deep.RegionHeld3
import Derived.Deep.CutBlock
namespace Go.Proofs.Ytfokpiapaacagab
open Go.RowKit Go.Maps
namespace Hd
open Hp (Kept K No)

def opens (As : List Int) : List Sl := As.map fun a : Int => (⟨true, 1, a⟩ : Sl)
theorem opens_len (As : List Int) : (opens As).length = As.length := by simp [opens]
theorem opens_get {As : List Int} {k : Nat} {a : Int} (h : As[k]? = some a) : (opens As)[k]? = some ⟨true, 1, a⟩ := by simp [opens, h]
theorem opens_app (As : List Int) (a : Int) : opens (As ++ [a]) = opens As ++ [⟨true, 1, a⟩] := by simp [opens]
theorem opens_set (As : List Int) (k : Nat) (a : Int) : opens (As.set k a) = (opens As).set k ⟨true, 1, a⟩ := by simp [opens]
theorem opens_find {As : List Int} {k : Nat} {a : Int} (h : As[k]? = some a) (hk : k < 100) : findL (opens As) (4294967296 + ((k : Int) + 1)) = some k := by
  have := findL_of (opens_get h) rfl (show k < 4294967295 by omega)
  rw [nm_one] at this
  exact this
theorem opens_open {q z a : Int} {As : List Int} (a0 : 0 ≤ a) (h : (As.length : Int) < q) : openL q z (opens As) a = (4294967296 + ((As.length : Int) + 1), 0, opens (As ++ [a])) := by
  have hf : freeAt z (opens As) = none := freeAt_none.2 fun s hs => by
    simp only [opens, List.mem_map] at hs
    obtain ⟨i, _, rfl⟩ := hs
    rfl
  rw [openL_new a0 hf (by rw [opens_len]; exact h), opens_len, opens_app, nm_one]
theorem opens_at {As : List Int} {k : Nat} {a : Int} (h : As[k]? = some a) (hk : k < 100) : atL (opens As) (4294967296 + ((k : Int) + 1)) = (a, 0) := atL_some (opens_find h hk) (opens_get h)
theorem opens_move {As : List Int} {k : Nat} {a b : Int} (h : As[k]? = some a) (hk : k < 100) (b0 : 0 ≤ b) : moveL (opens As) (4294967296 + ((k : Int) + 1)) b = (0, opens (As.set k b)) := by
  rw [moveL_some b0 (opens_find h hk) (opens_get h), opens_set]
theorem opens_live : ∀ (As : List Int) (n : Int), (liveFrom n (opens As)).length = As.length
  | [], _ => rfl
  | a :: As, n => by
    have := opens_live As (n + 1)
    show (nm n 1 :: liveFrom (n + 1) (opens As)).length = _
    simp [this]

theorem rem_round (x : Int) {N : Nat} (h : 0 < N) : ∃ (r : Int) (k : Nat), x.tmod N = r ∧ -(N : Int) < r ∧ r < N ∧ (r + N).tmod N = k ∧ k < N := by
  have h1 : x.tmod N < N := Int.tmod_lt_of_pos x (by omega)
  have h2 : -(N : Int) < x.tmod N := Int.lt_tmod_of_pos x (b := (N : Int)) (by omega)
  have h3 : (x.tmod N + N).tmod N < N := Int.tmod_lt_of_pos _ (by omega)
  have h4 : 0 ≤ (x.tmod N + N).tmod N := Int.tmod_nonneg _ (by omega)
  exact ⟨x.tmod N, ((x.tmod N + N).tmod N).toNat, rfl, h2, h1, by omega, by omega⟩

theorem moves_out (n : Int) (a0 : Option Addr) (len cap : Nat) (w : World) (hmax : len ≤ maxLen) (h : n < 1 ∨ 30 < n ∨ 60 < len) : Calls Try.prog 4 #[.int .i64 n, .slice a0 len cap] w fun e w' => e = .returned (.bool true) ∧ K w w' := by
  have ha := awake_any w
  have hm : (len : Int) ≤ 9223372036854775807 := by unfold maxLen at hmax; omega
  clear hmax
  by_cases h1 : n < 1
  · clear h
    go_enter Try.func4, Try.ntmps4
    go_wp2_with (go_at_call 5; refine ha.mono ?_; rintro e w1 ⟨rfl, hk⟩)
    go_ret
    exact ⟨rfl, by assumption⟩
  by_cases h2 : 30 < n
  · clear h
    go_enter Try.func4, Try.ntmps4
    go_wp2_with (go_at_call 5; refine ha.mono ?_; rintro e w1 ⟨rfl, hk⟩)
    go_ret
    exact ⟨rfl, by assumption⟩
  have h3 : (60 : Int) < len := by omega
  clear h
  go_enter Try.func4, Try.ntmps4
  go_wp2_with (go_at_call 5; refine ha.mono ?_; rintro e w1 ⟨rfl, hk⟩)
  go_ret
  exact ⟨rfl, by assumption⟩

set_option maxRecDepth 100000 in
set_option maxHeartbeats 2000000 in
theorem moves_main (n : Nat) (a0 : Option Addr) (b off len cap : Nat) (zz : Nat → Int × Int) (w : World) (hS : Pairs w a0 b off len cap zz) (hlen : len ≤ 60) (n0 : 1 ≤ n) (n1 : n ≤ 30) :
    Calls Try.prog 4 #[.int .i64 n, .slice a0 len cap] w fun e w' => e = .returned (.bool true) ∧ K w w' := by
  have hn := new_rn n 4294967295 w (by omega) (by omega) (by omega) (by omega)
  obtain ⟨ih, hih, hsh, hbh, zh, hzh, hzsh⟩ := info_handle
  have HH : Aside (Try.prog.info? 31 = some ih ∧ ih.size = 1 ∧ ih.bytes = 8 ∧ ih.zero = some zh ∧ zh.cells.size = 1) := ⟨hih, hsh, hbh, hzh, hzsh⟩
  obtain ⟨ii, hii, hsi, hbi, zi, hzi, hzsi⟩ := info_int
  have HI : Aside (Try.prog.info? 3 = some ii ∧ ii.size = 1 ∧ ii.bytes = 8 ∧ ii.zero = some zi ∧ zi.cells.size = 1) := ⟨hii, hsi, hbi, hzi, hzsi⟩
  have HS : Aside _ := hS
  clear hS hih hsh hbh hzh hzsh hii hsi hbi hzi hzsi
  go_enter Try.func4, Try.ntmps4
  go_wp2_with fail
  refine hn.mono ?_
  rintro e w1 ⟨rfl, h1⟩
  generalize w.heap.size = bt at h1 ⊢
  clear hn
  go_wp2
  go_loopg [7, 8, 9] n (fun gh t7 t8 t9 wx => ∃ (i : Nat) (v : Value) (As : List Int), i + gh = n ∧ t9 = .int .i64 i ∧ Aside (As.length = i) ∧ St w wx bt n 4294967295 v (opens As) t7 (hs1 i) t8 As)
  case atStart => exact ⟨0, _, [], by omega, rfl, rfl, St.first h1⟩
  case round =>
    obtain ⟨i, v, As, hig, rfl, HA, hst⟩ := hrel
    clear h1
    by_cases hlt : i < n
    · have he : openL n 4294967295 (opens As) i = (4294967296 + ((i : Int) + 1), 0, opens (As ++ [(i : Int)])) := by rw [opens_open (by omega) (by rw [HA.out]; omega), HA.out]
      have co := hst.open i _ 0 _ (by omega) he
      clear hst he
      go_wp2_with fail
      refine co.mono ?_
      rintro e w2 ⟨rfl, v2, h2, -⟩
      have hrow := h2.rh
      have hsz := h2.rn.k.size
      have HL : Aside ((hs1 i).length = i) := hs1_len i
      rw [HL.out] at hrow
      clear co
      go_wp2_with (first
        | (have _t := h2
           at_builtin
           refine wpList_append_own_at _ rfl _ _ 29 rfl w.heap.size 31 ih zh 1 8 Try.underlying29 HH.out.1 HH.out.2.2.2.1 HH.out.2.1 HH.out.2.2.1 HH.out.2.2.2.2 (by decide) _ i _ rfl (hrow.alloc _) ⟨w2.heap.size, 0, none⟩ 1 1 [encU (4294967296 + ((i : Int) + 1))] rfl rfl (src_one w2 #[.int .u64 (4294967296 + ((i : Int) + 1))] 31) (one_u _) (by unfold maxLen; omega) (by omega) (by simp; omega) ?_
           intro v3 w3 hown hgrow _ hat
           have h3 := h2.app1 (x := 4294967296 + ((i : Int) + 1)) (by rw [HL.out]; exact hown) hgrow hat
           rw [← hs1_succ] at h3
           have hsz3 := h3.rn.k.size
           have hrow3 := h3.ri
           rw [HA.out] at hrow3
           clear hown hgrow hat h2 hrow hsz)
        | (have _t := h3
           at_builtin
           refine wpList_append_own_at _ rfl _ _ 44 rfl w.heap.size 3 ii zi 1 8 Try.underlying44 HI.out.1 HI.out.2.2.2.1 HI.out.2.1 HI.out.2.2.1 HI.out.2.2.2.2 (by decide) _ i _ rfl (hrow3.alloc _) ⟨w3.heap.size, 0, none⟩ 1 1 [encZ i] rfl rfl (src_one w3 #[.int .i64 i] 3) (one_z _) (by unfold maxLen; omega) (by omega) (by simp; omega) ?_
           intro v5 w5 hown hgrow _ hat
           have h5 := h3.app2 (x := i) (by rw [HA.out]; exact hown) hgrow hat
           clear hown hgrow hat h3 hrow3 hsz3))
      go_roundg (n - (i + 1))
      case measure => omega
      case rel => exact ⟨i + 1, v2, As ++ [(i : Int)], by omega, by go_num, (by show (As ++ [(i : Int)]).length = i + 1; rw [List.length_append, HA.out]; rfl), h5⟩
    · obtain rfl : i = n := by omega
      obtain ⟨ad1, cp1, hv1⟩ : ∃ a cap, u7 = .slice a i cap := by
        have := hst.rh
        rw [hs1_len] at this
        rcases this.2 with ⟨hv, h0⟩ | ⟨g, c, cur, hv, _⟩
        · exact ⟨none, 0, by rw [hv, h0]⟩
        · exact ⟨_, _, hv⟩
      obtain ⟨ad2, cp2, hv2⟩ : ∃ a cap, u8 = .slice a i cap := by
        have := hst.ri
        rw [HA.out] at this
        rcases this.2 with ⟨hv, h0⟩ | ⟨g, c, cur, hv, _⟩
        · exact ⟨none, 0, by rw [hv, h0]⟩
        · exact ⟨_, _, hv⟩
      subst hv1 hv2
      clear hlt hig
      go_wp2
      go_loopg [12] len (fun gh t12 wx => ∃ (j : Nat) (v : Value) (As : List Int), j + gh = len ∧ t12 = .int .i64 j ∧ Aside (As.length = i) ∧ St w wx bt i 4294967295 v (opens As) (.slice ad1 i cp1) (hs1 i) (.slice ad2 i cp2) As)
      case atStart => exact ⟨0, v, As, by omega, rfl, HA, hst⟩
      case round =>
        obtain ⟨j, v, As, hjg, rfl, HA, hst⟩ := hrel
        by_cases hjl : j < len
        · have hix := HS.out.ix j hjl
          have CELL : Aside (∀ wx, K w wx → PairAt wx b (off + j * 2) (zz j)) := fun wx k => (HS.out.cell j hjl).keep k
          have hok := HS.out.ok j
          generalize zz j = o at *
          obtain ⟨x, a⟩ := o
          have CELLS : Aside (∀ wx, K w wx → wx.cell? ⟨b, off + j * 2, none⟩ = some (.int .i64 x) ∧ wx.cell? ⟨b, off + j * 2 + 1, none⟩ = some (.int .i64 a)) := fun wx k => ⟨(CELL.out wx k).c0, (CELL.out wx k).c1⟩
          have a63 : a ≤ 9223372036854775807 := hok.2.2
          have a64 : -9223372036854775808 ≤ a := hok.2.1
          have x64 : -9223372036854775808 ≤ x := hok.1.1
          have x63 : x ≤ 9223372036854775807 := hok.1.2
          obtain ⟨e0, e1⟩ := CELLS.out _ hst.rn.k
          obtain ⟨r, k, hr, hr0, hr1, hk, hkn⟩ := rem_round x (show 0 < i by omega)
          obtain ⟨c, hc⟩ : ∃ c, As[k]? = some c := ⟨_, List.getElem?_eq_getElem (by rw [HA.out]; exact hkn)⟩
          obtain ⟨g, cp, q1, _, d1, _⟩ := hst.hget (hs1_get hkn)
          rw [hs1_len] at q1
          cases q1
          have ix1 := run_ixh g i cp1 k hkn
          obtain ⟨g2, cq, q2, _, d2, f2, _⟩ := hst.iget hc
          rw [HA.out] at q2
          cases q2
          have ix2 := run_ixi g2 i cp2 k hkn
          have HC : Aside _ := hc
          have HST : Aside _ := hst
          clear CELL hok hc
          obtain ⟨er, L1, hmv⟩ : ∃ er L1, moveL (opens As) (4294967296 + ((k : Int) + 1)) a = (er, L1) := ⟨_, _, rfl⟩
          have hm : ∀ w', St w w' bt i 4294967295 v (opens As) (.slice (some ⟨g, 0, none⟩) i cp1) (hs1 i) (.slice (some ⟨g2, 0, none⟩) i cp2) As → Calls Try.prog 13 #[tp bt, .int .u64 (4294967296 + ((k : Int) + 1)), .int .i64 a] w' fun e w3 => e = .returned (.int .i64 er) ∧ St w w3 bt i 4294967295 v L1 (.slice (some ⟨g, 0, none⟩) i cp1) (hs1 i) (.slice (some ⟨g2, 0, none⟩) i cp2) As ∧ (w3.cell? ⟨b, off + j * 2 + 1, none⟩ = some (.int .i64 a) ∧ w3.cell? ⟨g, k, none⟩ = some (.int .u64 (4294967296 + ((k : Int) + 1)))) := fun w' hs => by
            refine (hs.move _ a er L1 ⟨by omega, by omega⟩ a63 hmv).mono ?_
            rintro e w3 ⟨rfl, h3, -⟩
            obtain ⟨g9, cp9, q9, _, d9, _⟩ := h3.hget (hs1_get hkn)
            rw [hs1_len] at q9
            cases q9
            exact ⟨rfl, h3, (CELLS.out _ h3.rn.k).2, d9⟩
          have HD : Aside (St w wr.drew bt i 4294967295 v (opens As) (.slice (some ⟨g, 0, none⟩) i cp1) (hs1 i) (.slice (some ⟨g2, 0, none⟩) i cp2) As) := HST.out.keep (K.refl wr).drew
          have HM : Aside _ := hmv
          clear hst hmv
          go_wp2
          go_region_held3 (fun w' => w'.cell? ⟨b, off + j * 2 + 1, none⟩ = some (.int .i64 a) ∧ w'.cell? ⟨g, k, none⟩ = some (.int .u64 (4294967296 + ((k : Int) + 1)))) (first | exact HCC | go_keep) (first
            | (go_at_call 13; refine (hm _ ?_).mono ?_; exact HD.out; rintro e w3 ⟨rfl, h3, HCC⟩))
          all_goals
            obtain ⟨b2, _⟩ := HCC
            obtain ⟨g9, cp9, q9, _, d9, f9, _⟩ := h3.iget HC.out
            rw [HA.out] at q9
            cases q9
            have H4 : Aside _ := h3.set2 (k := k) a HA.out.symm
            have H3 : Aside _ := h3
            clear hm h3 e0 e1 d1 d2 f2
            by_cases ha0 : a < 0
            · have hm2 := moveL_neg (L := opens As) (x := 4294967296 + ((k : Int) + 1)) ha0
              rw [HM.out] at hm2
              have he : er = 2 := congrArg Prod.fst hm2
              have HL : Aside (L1 = opens As) := congrArg Prod.snd hm2
              clear hm2
              subst he
              have HF : Aside (∃ As2 : List Int, As2.length = i ∧ St w w3 bt i 4294967295 v (opens As2) (.slice (some ⟨g, 0, none⟩) i cp1) (hs1 i) (.slice (some ⟨g2, 0, none⟩) i cp2) As2) := ⟨As, HA.out, by
                have := H3.out
                rw [HL.out] at this
                exact this⟩
              clear H3 H4 HL
              go_wp2
              obtain ⟨As2, hA2, hF⟩ := HF.out
              have HA2 : Aside _ := hA2
              clear hA2 HF b2 d9 f9
              go_loopg [15] i (fun gh t15 wx => ∃ m : Nat, m + gh = i ∧ t15 = .int .i64 m ∧ St w wx bt i 4294967295 v (opens As2) (.slice (some ⟨g, 0, none⟩) i cp1) (hs1 i) (.slice (some ⟨g2, 0, none⟩) i cp2) As2)
              case atStart => exact ⟨0, by omega, rfl, hF⟩
              case round =>
                obtain ⟨m, hmg, rfl, hs⟩ := hrel
                clear hF
                by_cases hmi : m < i
                · obtain ⟨c2, hc2⟩ : ∃ c, As2[m]? = some c := ⟨_, List.getElem?_eq_getElem (by rw [HA2.out]; exact hmi)⟩
                  obtain ⟨g5, cp5, q5, _, d5, _⟩ := hs.hget (hs1_get hmi)
                  rw [hs1_len] at q5
                  cases q5
                  obtain ⟨g6, cp6, q6, _, d6, _⟩ := hs.iget hc2
                  rw [HA2.out] at q6
                  cases q6
                  have ix5 := run_ixh g i cp1 m hmi
                  have ix6 := run_ixi g2 i cp2 m hmi
                  have ca := hs.at _ c2 0 ⟨by omega, by omega⟩ (opens_at hc2 (by omega))
                  clear hs hc2
                  go_wp2_with fail
                  refine ca.mono ?_
                  rintro e w5 ⟨rfl, h5, k5⟩
                  have d7 := k5.cell d6
                  clear ca d5 d6 k5
                  go_wp2
                  go_roundg (i - (m + 1))
                  case measure => omega
                  case rel => exact ⟨m + 1, by omega, by go_num, h5⟩
                · go_wp2
                  go_roundg (len - (j + 1))
                  case measure => omega
                  case rel => exact ⟨j + 1, v, As2, by omega, by go_num, HA2, hs⟩
            · have ha1 : 0 ≤ a := by omega
              have hm2 := opens_move HC.out (by omega) ha1
              rw [HM.out] at hm2
              have he : er = 0 := congrArg Prod.fst hm2
              have HL : Aside (L1 = opens (As.set k a)) := congrArg Prod.snd hm2
              clear hm2 ha0
              subst he
              have HF : Aside (∃ As2 : List Int, As2.length = i ∧ St w (w3.setCell ⟨g2, k, none⟩ (.int .i64 a)) bt i 4294967295 v (opens As2) (.slice (some ⟨g, 0, none⟩) i cp1) (hs1 i) (.slice (some ⟨g2, 0, none⟩) i cp2) As2) := ⟨As.set k a, by rw [List.length_set]; exact HA.out, by
                have := H4.out
                rw [HL.out] at this
                exact this⟩
              clear H3 H4 HL
              go_wp2
              obtain ⟨As2, hA2, hF⟩ := HF.out
              have HA2 : Aside _ := hA2
              clear hA2 HF b2 d9 f9
              go_loopg [15] i (fun gh t15 wx => ∃ m : Nat, m + gh = i ∧ t15 = .int .i64 m ∧ St w wx bt i 4294967295 v (opens As2) (.slice (some ⟨g, 0, none⟩) i cp1) (hs1 i) (.slice (some ⟨g2, 0, none⟩) i cp2) As2)
              case atStart => exact ⟨0, by omega, rfl, hF⟩
              case round =>
                obtain ⟨m, hmg, rfl, hs⟩ := hrel
                clear hF
                by_cases hmi : m < i
                · obtain ⟨c2, hc2⟩ : ∃ c, As2[m]? = some c := ⟨_, List.getElem?_eq_getElem (by rw [HA2.out]; exact hmi)⟩
                  obtain ⟨g5, cp5, q5, _, d5, _⟩ := hs.hget (hs1_get hmi)
                  rw [hs1_len] at q5
                  cases q5
                  obtain ⟨g6, cp6, q6, _, d6, _⟩ := hs.iget hc2
                  rw [HA2.out] at q6
                  cases q6
                  have ix5 := run_ixh g i cp1 m hmi
                  have ix6 := run_ixi g2 i cp2 m hmi
                  have ca := hs.at _ c2 0 ⟨by omega, by omega⟩ (opens_at hc2 (by omega))
                  clear hs hc2
                  go_wp2_with fail
                  refine ca.mono ?_
                  rintro e w5 ⟨rfl, h5, k5⟩
                  have d7 := k5.cell d6
                  clear ca d5 d6 k5
                  go_wp2
                  go_roundg (i - (m + 1))
                  case measure => omega
                  case rel => exact ⟨m + 1, by omega, by go_num, h5⟩
                · go_wp2
                  go_roundg (len - (j + 1))
                  case measure => omega
                  case rel => exact ⟨j + 1, v, As2, by omega, by go_num, HA2, hs⟩
        · have cl := live_any hst.rn.tb
          have cu : ∀ wx, K wr wx → _ := fun wx k => used_any (hst.keep k).rn.tb
          rw [show (liveL (opens As)).length = i from (opens_live As 1).trans HA.out] at cl
          rw [show (opens As).length = i from (opens_len As).trans HA.out] at cu
          have kk := hst.rn.k
          clear hst
          go_wp2_with fail
          refine cl.mono ?_
          rintro e w3 ⟨v3, rfl, hown, k3⟩
          obtain ⟨a3, c3, rfl⟩ : ∃ a cap, v3 = .slice a i cap := by
            rcases hown.2 with ⟨hv, h0⟩ | ⟨g, c, cur, hv, _⟩
            · exact ⟨none, 0, by rw [hv, h0]⟩
            · exact ⟨_, _, hv⟩
          have cu3 := cu w3 k3
          have H4 := awake_any w3
          have kk3 := kk.trans k3
          clear cl hown cu kk k3
          go_wp2_with (first
            | (go_at_call 12; refine cu3.mono ?_; rintro e w4 ⟨rfl, rfl⟩)
            | (go_at_call 5; refine H4.mono ?_; rintro e w4 ⟨rfl, hk4⟩))
          go_ret
          exact ⟨rfl, kk3.trans (by assumption)⟩

theorem moves_any (w : World) (n : Int) (_ : In64 n) (a0 : Option Addr) (b off len cap : Nat) (zz : Nat → Int × Int) (hS : Pairs w a0 b off len cap zz) (hmax : len ≤ maxLen) : Calls Try.prog 4 #[.int .i64 n, .slice a0 len cap] w fun e w' => e = .returned (.bool true) ∧ K w w' := by
  by_cases h : n < 1 ∨ 30 < n ∨ 60 < len
  · exact moves_out n a0 len cap w hmax h
  · obtain ⟨m, rfl⟩ : ∃ m : Nat, n = m := ⟨n.toNat, by omega⟩
    exact moves_main m a0 b off len cap zz w hS (by omega) (by omega) (by omega)

end Hd
end Go.Proofs.Ytfokpiapaacagab
