/-
  HandleLeast: the walk.
-/
import Derived.Test.YtfokpiapaacagaaDRw
import Derived.Test.YtfokpiapaacagaaDLeastF
import Derived.Test.YtfokpiapaacagaaDDoor
namespace Go.Proofs.Ytfokpiapaacagaa
open Go.RowKit Go.Maps
namespace Hd
open Hp (Kept K No)

theorem own_len3 {w : World} {B m n : Nat} {ty : TypeId} {v : Value} {xs : List Value} (h : w.ownsRow B ty m v n xs) : ∃ a cap, v = .slice a n cap := by
  rcases h.2 with ⟨hv, h0⟩ | ⟨g, c, cur, hv, _⟩
  · exact ⟨none, 0, by rw [hv, h0]⟩
  · exact ⟨_, _, hv⟩

theorem least_out (n : Int) (a0 : Option Addr) (len cap : Nat) (w : World) (hmax : len ≤ maxLen) (h : n < 1 ∨ 30 < n ∨ 60 < len) : Calls Try.prog 8 #[.int .i64 n, .slice a0 len cap] w fun e w' => e = .returned (.bool true) ∧ K w w' := by
  have ha := awake_any w
  have hm : (len : Int) ≤ 9223372036854775807 := by unfold maxLen at hmax; omega
  clear hmax
  by_cases h1 : n < 1
  · clear h
    go_enter Try.func8, Try.ntmps8
    go_wp2_with (go_at_call 9; refine ha.mono ?_; rintro e w1 ⟨rfl, hk⟩)
    go_ret
    exact ⟨rfl, by assumption⟩
  by_cases h2 : 30 < n
  · clear h
    go_enter Try.func8, Try.ntmps8
    go_wp2_with (go_at_call 9; refine ha.mono ?_; rintro e w1 ⟨rfl, hk⟩)
    go_ret
    exact ⟨rfl, by assumption⟩
  have h3 : (60 : Int) < len := by omega
  clear h
  go_enter Try.func8, Try.ntmps8
  go_wp2_with (go_at_call 9; refine ha.mono ?_; rintro e w1 ⟨rfl, hk⟩)
  go_ret
  exact ⟨rfl, by assumption⟩

set_option maxRecDepth 100000 in
set_option maxHeartbeats 2000000 in
theorem least_main (n : Nat) (a0 : Option Addr) (b off len cap : Nat) (zz : Nat → Int) (w : World) (hS : Nums w a0 b off len cap zz) (hlen : len ≤ 60) (n0 : 1 ≤ n) (n1 : n ≤ 30) :
    Calls Try.prog 8 #[.int .i64 n, .slice a0 len cap] w fun e w' => e = .returned (.bool true) ∧ K w w' := by
  have hn := new_rn n 4294967295 w (by omega) (by omega) (by omega) (by omega)
  obtain ⟨ih, hih, hsh, hbh, zh, hzh, hzsh⟩ := info_handle
  have HH : Aside (Try.prog.info? 39 = some ih ∧ ih.size = 1 ∧ ih.bytes = 8 ∧ ih.zero = some zh ∧ zh.cells.size = 1) := ⟨hih, hsh, hbh, hzh, hzsh⟩
  have HS : Aside _ := hS
  clear hS hih hsh hbh hzh hzsh
  go_enter Try.func8, Try.ntmps8
  go_wp2_with fail
  refine hn.mono ?_
  rintro e w1 ⟨rfl, h1⟩
  generalize w.heap.size = bt at h1 ⊢
  clear hn
  go_wp2
  go_loopg [7, 8] n (fun gh t7 t8 wx => ∃ (i : Nat) (v : Value), i + gh = n ∧ t8 = .int .i64 i ∧ St w wx bt n 4294967295 v (firsts i) t7 (hs1 i) (.slice none 0 0) [])
  case atStart => exact ⟨0, _, by omega, rfl, St.first h1⟩
  case round =>
    obtain ⟨i, v, hig, rfl, hst⟩ := hrel
    clear h1
    by_cases hlt : i < n
    · have he : openL n 4294967295 (firsts i) i = (4294967296 + ((i : Int) + 1), 0, firsts (i + 1)) := by rw [firsts_open (by omega), nm_one]
      have co := hst.open i _ 0 _ (by omega) he
      clear hst he
      go_wp2_with fail
      refine co.mono ?_
      rintro e w2 ⟨rfl, v2, h2, -⟩
      have hrow := h2.rh
      have hsz := h2.rn.k.size
      have hl := hs1_len i
      have HL : Aside _ := hl
      rw [hl] at hrow
      clear co hl
      go_wp2_with (at_builtin
                   refine wpList_append_own_at _ rfl _ _ 34 rfl w.heap.size 39 ih zh 1 8 Try.underlying34 HH.out.1 HH.out.2.2.2.1 HH.out.2.1 HH.out.2.2.1 HH.out.2.2.2.2 (by decide) _ i _ rfl (hrow.alloc _) ⟨w2.heap.size, 0, none⟩ 1 1 [encU (4294967296 + ((i : Int) + 1))] rfl rfl (src_one w2 #[.int .u64 (4294967296 + ((i : Int) + 1))] 39) (one_u _) (by unfold maxLen; omega) (by omega) (by simp; omega) ?_
                   intro v3 w3 hown hgrow _ hat)
      have h3 := h2.app1 (x := 4294967296 + ((i : Int) + 1)) (by rw [HL.out]; exact hown) hgrow hat
      rw [← hs1_succ] at h3
      go_roundg (n - (i + 1))
      case measure => omega
      case rel => exact ⟨i + 1, v2, by omega, by go_num, h3⟩
    · obtain rfl : i = n := by omega
      obtain ⟨ad, cp, hv⟩ := own_len3 hst.rh
      rw [hs1_len] at hv
      subst hv
      clear hlt hig
      go_wp2
      go_loopg [11, 12] len (fun gh t11 t12 wx => ∃ (j m : Nat) (v : Value) (L : List Sl), j + gh = len ∧ t12 = .int .i64 j ∧ t11 = .int .i64 m ∧ m ≤ i ∧ Aside (Once1 L i m) ∧ St w wx bt i 4294967295 v L (.slice ad i cp) (hs1 i) (.slice none 0 0) [])
      case atStart => exact ⟨0, i, v, _, by omega, rfl, rfl, Nat.le_refl _, Once1.first i, hst⟩
      case round =>
        obtain ⟨j, m, v, L, hjg, rfl, rfl, hmi, HO, hst⟩ := hrel
        by_cases hjl : j < len
        · have hix := HS.out.ix j hjl
          have CELL : Aside (∀ wx, K w wx → wx.cell? ⟨b, off + j, none⟩ = some (.int .i64 (zz j))) := fun wx k => k.cell (HS.out.cell j hjl)
          have hy := HS.out.ok j
          generalize zz j = y at *
          have y0 : -9223372036854775808 ≤ y := hy.1
          have y1 : y ≤ 9223372036854775807 := hy.2
          have c0 := CELL.out _ hst.rn.k
          clear hy
          by_cases hyneg : y < 0
          · have HST : Aside _ := hst
            clear hst
            go_wp2
            go_roundg (len - (j + 1))
            case measure => omega
            case rel => exact ⟨j + 1, m, v, L, by omega, by go_num, rfl, hmi, HO, HST.out⟩
          by_cases hybig : (i : Int) ≤ y
          · have HST : Aside _ := hst
            clear hst
            go_wp2
            go_roundg (len - (j + 1))
            case measure => omega
            case rel => exact ⟨j + 1, m, v, L, by omega, by go_num, rfl, hmi, HO, HST.out⟩
          obtain ⟨c, rfl⟩ : ∃ c : Nat, y = c := ⟨y.toNat, by omega⟩
          have hci : c < i := by omega
          obtain ⟨g, cp2, e1, _, d1, _⟩ := hst.hget (hs1_get hci)
          rw [hs1_len] at e1
          cases e1
          have ix1 := run_ixh g i cp c hci
          have hcl := HO.out.close (by omega) hci
          rw [nm_one] at hcl
          obtain ⟨er, L1, hc⟩ : ∃ er L1, closeL L (4294967296 + ((c : Int) + 1)) = (er, L1) := ⟨_, _, rfl⟩
          have cc := hst.close _ er L1 ⟨by omega, by omega⟩ hc
          rw [hc] at hcl
          have HCL : Aside _ := hcl
          clear hst hcl hc hyneg hybig y0 y1
          go_wp2_with fail
          refine cc.mono ?_
          rintro e w3 ⟨rfl, h3, -⟩
          have c1 := CELL.out _ h3.rn.k
          have H3 : Aside _ := h3
          clear cc h3 c0 d1
          rcases HCL.out with ⟨he, ho⟩ | ⟨he, hL⟩
          · have he : er = 0 := he
            have HO1 : Aside _ := ho
            subst he
            clear ho HCL
            by_cases hcm : c < m
            · have HO2 : Aside (Once1 L1 i c) := by
                have := HO1.out
                rw [if_pos hcm] at this
                exact this
              go_wp2
              go_roundg (len - (j + 1))
              case measure => omega
              case rel => exact ⟨j + 1, c, v, L1, by omega, by go_num, rfl, by omega, HO2, H3.out⟩
            · have HO2 : Aside (Once1 L1 i m) := by
                have := HO1.out
                rw [if_neg hcm] at this
                exact this
              go_wp2
              go_roundg (len - (j + 1))
              case measure => omega
              case rel => exact ⟨j + 1, m, v, L1, by omega, by go_num, rfl, hmi, HO2, H3.out⟩
          · have he : er = 7 := he
            have HL : Aside (L1 = L) := hL
            subst he
            clear hL HCL
            go_wp2
            go_roundg (len - (j + 1))
            case measure => omega
            case rel => exact ⟨j + 1, m, v, L1, by omega, by go_num, rfl, hmi, by rw [HL.out]; exact HO, H3.out⟩
        · by_cases hmn : m = i
          · subst hmn
            have co := hst.open 7 0 10 L (by decide) (HO.out.full 7 (by decide))
            clear hst
            go_wp2_with fail
            refine co.mono ?_
            rintro e w3 ⟨rfl, v3, h3, -⟩
            have hk := h3.rn.k
            have H4 := awake_any w3
            clear co h3
            go_wp2_with (go_at_call 9; refine H4.mono ?_; rintro e w4 ⟨rfl, hk4⟩)
            go_ret
            exact ⟨rfl, hk.trans (by assumption)⟩
          · have hmn2 : m < i := by omega
            obtain ⟨L1, hop, hl1⟩ := HO.out.least hmn2 7 (by decide)
            rw [nm_two] at hop
            have co := hst.open 7 _ 0 L1 (by decide) hop
            have HL1 : Aside _ := hl1
            clear hst hop hl1
            go_wp2_with fail
            refine co.mono ?_
            rintro e w3 ⟨rfl, v3, h3, -⟩
            have hk := h3.rn.k
            have hus := used_any h3.rn.tb
            rw [HL1.out] at hus
            have H4 := awake_any w3
            clear co h3
            go_wp2_with (first
              | (go_at_call 16; refine hus.mono ?_; rintro e w4 ⟨rfl, rfl⟩)
              | (go_at_call 9; refine H4.mono ?_; rintro e w4 ⟨rfl, hk4⟩))
            go_ret
            exact ⟨rfl, hk.trans (by assumption)⟩

theorem least_any (w : World) (n : Int) (_ : In64 n) (a0 : Option Addr) (b off len cap : Nat) (zz : Nat → Int) (hS : Nums w a0 b off len cap zz) (hmax : len ≤ maxLen) : Calls Try.prog 8 #[.int .i64 n, .slice a0 len cap] w fun e w' => e = .returned (.bool true) ∧ K w w' := by
  by_cases h : n < 1 ∨ 30 < n ∨ 60 < len
  · exact least_out n a0 len cap w hmax h
  · obtain ⟨m, rfl⟩ : ∃ m : Nat, n = m := ⟨n.toNat, by omega⟩
    exact least_main m a0 b off len cap zz w hS (by omega) (by omega) (by omega)

end Hd
end Go.Proofs.Ytfokpiapaacagaa
