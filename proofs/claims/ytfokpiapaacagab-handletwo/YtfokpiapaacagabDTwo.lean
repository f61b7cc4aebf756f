/-
  HandleTwo: the walk.
-/
import Derived.Test.YtfokpiapaacagabDNth
import Derived.Test.YtfokpiapaacagabDEndsF
import Derived.Test.YtfokpiapaacagabDDoor
import Derived.Deep.DeepCutAuto
import Derived.Deep.CutBlock
namespace Go.Proofs.Ytfokpiapaacagab
open Go.RowKit Go.Maps
namespace Hd
open Hp (Kept K No)

abbrev empty9 (q : Int) : Obj := .cells #[.int .i64 q, .int .u32 9, .slice none 0 0] 50

/-- The other table, a box beside the first one. -/
theorem Bx.tab {w : World} {nb bt : Nat} {q : Int} {v v1 v2 : Value} (h : Bx w nb (empty9 q) bt v v1 v2) (q0 : 1 ≤ q) (q1 : q ≤ 65536) : Tab w 0 nb q 9 (.slice none 0 0) [] :=
  ⟨h.hd, World.ownsRow_nil _ _ _ _, (fun h => nomatch h), Wf.nil q0 q1 (by decide) (by decide), Nat.zero_le _⟩

theorem atL_nil (x : Int) : atL [] x = (0, 7) := atL_none (by
  unfold findL
  split
  · rfl
  · rw [List.getElem?_nil])

theorem two_long (q : Int) (a0 : Option Addr) (len cap : Nat) (w : World) (hl : (100 : Int) < len) (_ : (len : Int) ≤ 9223372036854775807) : Calls Try.prog 3 #[.int .i64 q, .slice a0 len cap] w fun e w' => e = .returned (.bool true) ∧ K w w' := by
  have ha := awake_any w
  go_enter Try.func3, Try.ntmps3
  go_wp2_with (go_at_call 5; refine ha.mono ?_; rintro e w2 ⟨rfl, hk2⟩)
  go_ret
  exact ⟨rfl, by assumption⟩

theorem two_bad (q : Int) (a0 : Option Addr) (len cap : Nat) (w : World) (hl : (len : Int) ≤ 100) (h : badNew q 9) : Calls Try.prog 3 #[.int .i64 q, .slice a0 len cap] w fun e w' => e = .returned (.bool true) ∧ K w w' := by
  have hn := new_no q 9 w h
  have ha := awake_any w
  clear h
  go_enter Try.func3, Try.ntmps3
  go_wp2_with (first
    | (go_at_call 6; refine hn.mono ?_; rintro e w1 ⟨rfl, rfl⟩)
    | (go_at_call 5; refine ha.mono ?_; rintro e w1 ⟨rfl, hk⟩))
  go_ret
  exact ⟨rfl, by assumption⟩

set_option maxRecDepth 100000 in
set_option maxHeartbeats 2000000 in
theorem two_main (q : Int) (a0 : Option Addr) (b off len cap : Nat) (zz : Nat → Opv) (w : World) (hS : Script w a0 b off len cap zz) (hlen : len ≤ 100) (q0 : 1 ≤ q) (q1 : q ≤ 65536) :
    Calls Try.prog 3 #[.int .i64 q, .slice a0 len cap] w fun e w' => e = .returned (.bool true) ∧ K w w' := by
  have hn := new_rn q 9 w q0 q1 (by decide) (by decide)
  obtain ⟨ih, hih, hsh, hbh, zh, hzh, hzsh⟩ := info_handle
  have HH : Aside (Try.prog.info? 31 = some ih ∧ ih.size = 1 ∧ ih.bytes = 8 ∧ ih.zero = some zh ∧ zh.cells.size = 1) := ⟨hih, hsh, hbh, hzh, hzsh⟩
  have HS : Aside _ := hS
  clear hS hih hsh hbh hzh hzsh
  go_enter Try.func3, Try.ntmps3
  go_wp2_with fail
  refine hn.mono ?_
  rintro e w1 ⟨rfl, h1⟩
  generalize w.heap.size = bt at h1 ⊢
  have hn2 := new_rn q 9 w1 q0 q1 (by decide) (by decide)
  clear hn
  go_wp2_with fail
  refine hn2.mono ?_
  rintro e w2 ⟨rfl, h2⟩
  have hst := St.first (h1.keep h2.k)
  have hbx : Bx w2 w1.heap.size (empty9 q) bt (.slice none 0 0) (.slice none 0 0) (.slice none 0 0) := ⟨h2.tb.hd, fun hf => by have := (h1.tb.foot_lt hf).2; omega, (fun h => nomatch h), (fun h => nomatch h)⟩
  generalize w1.heap.size = bu at *
  clear hn2 h1 h2
  go_wp2
  go_loopg [9, 10] len (fun gh t9 t10 wx => ∃ (i n : Nat) (a1 : Option Addr) (c1 : Nat) (v : Value) (L : List Sl) (Hs : List Int), i + gh = len ∧ t10 = .int .i64 i ∧ t9 = .slice a1 n c1 ∧ n ≤ i ∧ Aside (Hs.length = n) ∧ Aside (∀ y ∈ Hs, U64 y) ∧ St w wx bt q 9 v L t9 Hs (.slice none 0 0) [] ∧ Bx wx bu (empty9 q) bt v t9 (.slice none 0 0))
  case atStart => exact ⟨0, 0, none, 0, _, [], [], by omega, rfl, rfl, Nat.le_refl _, rfl, (fun y hy => by cases hy), hst, hbx⟩
  case round =>
    obtain ⟨i, n, a1, c1, v, L, Hs, hig, rfl, rfl, hni, HN, HU, hst0, hbx0⟩ := hrel
    clear hst hbx
    by_cases hlt : i < len
    · have hix := HS.out.ix i hlt
      have CELL : Aside (∀ wx, K w wx → OpAt wx b (off + i * 4) (zz i)) := fun wx k => (HS.out.cell i hlt).keep k
      have hok := HS.out.ok i
      generalize zz i = o at *
      obtain ⟨d, x, a, hh⟩ := o
      have CELLS : Aside (∀ wx, K w wx → wx.cell? ⟨b, off + i * 4, none⟩ = some (.int .i64 d) ∧ wx.cell? ⟨b, off + i * 4 + 1, none⟩ = some (.int .i64 x) ∧ wx.cell? ⟨b, off + i * 4 + 2, none⟩ = some (.int .i64 a)) := fun wx k => ⟨(CELL.out wx k).c0, (CELL.out wx k).c1, (CELL.out wx k).c2⟩
      have a63 : a ≤ 9223372036854775807 := hok.a.2
      have x64 : -9223372036854775808 ≤ x := hok.n.1
      have x63 : x ≤ 9223372036854775807 := hok.n.2
      obtain ⟨e0, e1, e2⟩ := CELLS.out _ hst0.rn.k
      clear CELL hok
      go_upto_block 2 with fail
      go_cut [9] (fun s9 wx => ∃ (n : Nat) (a1 : Option Addr) (c1 : Nat) (v : Value) (L : List Sl) (Hs : List Int), s9 = .slice a1 n c1 ∧ n ≤ i + 1 ∧ Aside (Hs.length = n) ∧ Aside (∀ y ∈ Hs, U64 y) ∧ St w wx bt q 9 v L s9 Hs (.slice none 0 0) [] ∧ Bx wx bu (empty9 q) bt v s9 (.slice none 0 0))
      case rest =>
        clear hst0 hbx0 HN HU e0 e1 e2 hni
        obtain ⟨n, a1, c1, v, L, Hs, rfl, hni, HN, HU, hst, hbx⟩ := hcut
        obtain ⟨e0, e1, e2⟩ := CELLS.out _ hst.rn.k
        have hrow := hst.rh
        rw [HN.out] at hrow
        have cn := nth_any hrow HN.out (by omega) x x64 x63
        have hu := nthH_u64 HU.out x
        have ca := at_any (hbx.tab q0 q1) _ hu
        rw [atL_nil] at ca
        clear hrow hu
        go_wp2_with fail
        refine cn.mono ?_
        rintro e w3 ⟨rfl, rfl⟩
        clear cn
        go_wp2_with fail
        refine ca.mono ?_
        rintro e w4 ⟨rfl, k4⟩
        have hst4 := hst.keep k4
        have hbx4 := hbx.keep k4
        have cl := live_any (hbx4.tab q0 q1)
        rw [show (liveL []).length = 0 from rfl] at cl
        clear ca hst hbx k4 e0 e1 e2
        go_wp2_with fail
        refine cl.mono ?_
        rintro e w5 ⟨v5, rfl, hown, k5⟩
        obtain ⟨a5, c5, rfl⟩ : ∃ a cap, v5 = .slice a 0 cap := by
          rcases hown.2 with ⟨hv, _⟩ | ⟨g, c, cur, hv, _⟩
          · exact ⟨none, 0, hv⟩
          · exact ⟨_, _, hv⟩
        have hst5 := hst4.keep k5
        have hbx5 := hbx4.keep k5
        have cu := used_any (hbx5.tab q0 q1)
        rw [show (([] : List Sl).length : Int) = 0 from rfl] at cu
        clear cl hst4 hbx4 k5 hown
        go_wp2_with fail
        refine cu.mono ?_
        rintro e w6 ⟨rfl, rfl⟩
        clear cu
        go_wp2
        go_roundg (len - (i + 1))
        case measure => omega
        case rel => exact ⟨i + 1, n, a1, c1, v, L, Hs, by omega, by go_num, rfl, hni, HN, HU, hst5, hbx5⟩
      case first =>
        by_cases hd1 : d = 1
        · subst hd1
          obtain ⟨y, er, L1, hop⟩ : ∃ y er L1, openL q 9 L a = (y, er, L1) := ⟨_, _, _, rfl⟩
          have hy := openL_u64 hst0.rn.tb.wf a
          rw [hop] at hy
          have HY : Aside (U64 y) := hy
          have co := hst0.open a y er L1 a63 hop
          clear hop hy hst0
          go_wp2_with fail
          refine co.mono ?_
          rintro e w3 ⟨rfl, v3, h3, hb3⟩
          have bx3 := hb3 _ _ hbx0
          clear co hb3 hbx0 e0 e1 e2
          by_cases her : er = 0
          · subst her
            have hrow := h3.rh
            have hsz := h3.rn.k.size
            have hnn := HN.out
            rw [hnn] at hrow
            go_wp2_with (at_builtin
                         refine wpList_append_own_at _ rfl _ _ 29 rfl w.heap.size 31 ih zh 1 8 Try.underlying29 HH.out.1 HH.out.2.2.2.1 HH.out.2.1 HH.out.2.2.1 HH.out.2.2.2.2 (by decide) _ n _ rfl (hrow.alloc _) ⟨w3.heap.size, 0, none⟩ 1 1 [encU y] rfl rfl (src_one w3 #[.int .u64 y] 31) (one_u _) (by unfold maxLen; omega) (by omega) (by simp; omega) ?_
                         intro v4 w4 hown hgrow _ hat
                         have h4 := h3.app1 (x := y) (by rw [hnn]; exact hown) hgrow hat
                         have bx4 := bx3.app1 hgrow hat
                         obtain ⟨a4, c4, hv4⟩ := own_form hown
                         subst hv4
                         clear hown hgrow hat h3 bx3 hrow hsz)
            have HU4 : Aside (∀ u ∈ Hs ++ [y], U64 u) := fun u hu => by
              rcases List.mem_append.1 hu with h | h
              · exact HU.out u h
              · obtain rfl : u = y := by simpa using h
                exact HY.out
            go_meet
            case rel => exact ⟨n + 1, _, _, v3, L1, Hs ++ [y], rfl, by omega, (by show (Hs ++ [y]).length = n + 1; rw [List.length_append, HN.out]; rfl), HU4, h4, bx4⟩
          · have her : (er == 0) = false := by simpa using her
            go_wp2
            go_meet
            case rel => exact ⟨n, a1, c1, v3, L1, Hs, rfl, by omega, HN, HU, h3, bx3⟩
        · have hd1 : (d == 1) = false := by simpa using hd1
          by_cases hd4 : d = 4
          · subst hd4
            clear hd1
            have hrow := hst0.rh
            rw [HN.out] at hrow
            have cn := nth_any hrow HN.out (by omega) x x64 x63
            have hu := nthH_u64 HU.out x
            obtain ⟨er, L1, hcl⟩ : ∃ er L1, closeL L (nthH Hs x) = (er, L1) := ⟨_, _, rfl⟩
            have cc := hst0.close _ er L1 hu hcl
            clear hrow hu hcl hst0
            go_wp2_with fail
            refine cn.mono ?_
            rintro e w3 ⟨rfl, rfl⟩
            clear cn
            go_wp2_with fail
            refine cc.mono ?_
            rintro e w4 ⟨rfl, h4, hb4⟩
            have bx4 := hb4 _ _ hbx0
            clear cc hb4 hbx0 e0 e1 e2
            go_wp2
            go_meet
            case rel => exact ⟨n, a1, c1, v, L1, Hs, rfl, by omega, HN, HU, h4, bx4⟩
          · have hd4 : (d == 4) = false := by simpa using hd4
            have HST : Aside _ := hst0
            have HBX : Aside _ := hbx0
            clear hst0 hbx0
            go_wp2
            go_meet
            case rel => exact ⟨n, a1, c1, v, L, Hs, rfl, by omega, HN, HU, HST.out, HBX.out⟩
    · obtain rfl : i = len := by omega
      have aw := awake_any wr
      have kk := hst0.rn.k
      clear hst0 hbx0 hlt hig
      go_wp2_with (go_at_call 5; refine aw.mono ?_; rintro e w8 ⟨rfl, k8⟩)
      go_ret
      exact ⟨rfl, kk.trans (by assumption)⟩

theorem two_any (w : World) (q : Int) (_ : In64 q) (a0 : Option Addr) (b off len cap : Nat) (zz : Nat → Opv) (hS : Script w a0 b off len cap zz) (hmax : len ≤ maxLen) : Calls Try.prog 3 #[.int .i64 q, .slice a0 len cap] w fun e w' => e = .returned (.bool true) ∧ K w w' := by
  by_cases hl : len ≤ 100
  · by_cases h : badNew q 9
    · exact two_bad q a0 len cap w (by omega) h
    · unfold badNew at h
      exact two_main q a0 b off len cap zz w hS hl (by omega) (by omega)
  · exact two_long q a0 len cap w (by omega) (by unfold maxLen at hmax; omega)

end Hd
end Go.Proofs.Ytfokpiapaacagab
