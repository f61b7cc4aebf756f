/-
  HandlePlays: the walk.
-/
import Derived.Test.YtfokpiapaacagaaDPlay
namespace Go.Proofs.Ytfokpiapaacagaa
open Go.RowKit Go.Maps
namespace Hd
open Hp (Kept K No)

theorem plays_long (q z : Int) (a0 : Option Addr) (len cap : Nat) (w : World) (hl : (200 : Int) < len) (_ : (len : Int) ≤ 9223372036854775807) : Calls Try.prog 3 #[.int .i64 q, .int .u32 z, .slice a0 len cap] w fun e w' => e = .returned (.bool true) ∧ K w w' := by
  have ha := awake_any w
  go_enter Try.func3, Try.ntmps3
  go_wp2_with (go_at_call 9; refine ha.mono ?_; rintro e w2 ⟨rfl, hk2⟩)
  go_ret
  exact ⟨rfl, by assumption⟩

set_option maxRecDepth 100000 in
theorem plays_bad (q z : Int) (a0 : Option Addr) (len cap : Nat) (w : World) (hl : (len : Int) ≤ 200) (h : badNew q z) (z0 : 0 ≤ z) : Calls Try.prog 3 #[.int .i64 q, .int .u32 z, .slice a0 len cap] w fun e w' => e = .returned (.bool true) ∧ K w w' := by
  have hn := new_no q z w h
  have hr := rNew_no q z w h z0
  clear h
  go_enter Try.func3, Try.ntmps3
  go_wp2_with fail
  refine hn.mono ?_
  rintro e w1 ⟨rfl, rfl⟩
  clear hn
  go_wp2_with fail
  refine hr.mono ?_
  rintro e w1 ⟨rfl, hk1⟩
  clear hr
  have hk2 := hk1.alloc (.cells #[.int .i64 0, .int .u32 0, .slice none 0 0] 31)
  have ha := awake_any (w1.alloc (.cells #[.int .i64 0, .int .u32 0, .slice none 0 0] 31))
  go_wp2
  generalize w1.alloc (.cells #[.int .i64 0, .int .u32 0, .slice none 0 0] 31) = W at *
  go_loopg [12] 0 (fun gh t12 wx => t12 = .int .i64 0 ∧ W = wx)
  case atStart => exact ⟨rfl, rfl⟩
  case round =>
    obtain ⟨rfl, rfl⟩ := hrel
    by_cases h0 : 0 < len
    · go_wp2_with (go_at_call 9; refine ha.mono ?_; rintro e w2 ⟨rfl, hk3⟩)
      go_ret
      exact ⟨rfl, hk2.trans (by assumption)⟩
    · obtain rfl : len = 0 := by omega
      go_wp2_with (go_at_call 9; refine ha.mono ?_; rintro e w2 ⟨rfl, hk3⟩)
      go_ret
      exact ⟨rfl, hk2.trans (by assumption)⟩

set_option maxRecDepth 100000 in
set_option maxHeartbeats 2000000 in
theorem plays_main (q z : Int) (a0 : Option Addr) (b off len cap : Nat) (zz : Nat → Opv) (w : World) (hS : Script w a0 b off len cap zz) (hlen : len ≤ 200) (q0 : 1 ≤ q) (q1 : q ≤ 65536) (z0 : 1 ≤ z) (z1 : z ≤ 4294967295) :
    Calls Try.prog 3 #[.int .i64 q, .int .u32 z, .slice a0 len cap] w fun e w' => e = .returned (.bool true) ∧ K w w' := by
  have hn := new_rn q z w q0 q1 z0 z1
  have HS : Aside _ := hS
  clear hS
  go_enter Try.func3, Try.ntmps3
  go_wp2_with fail
  refine hn.mono ?_
  rintro e w1 ⟨rfl, h1⟩
  have hr := rNew_ok q z w1 q0 q1 z0 z1
  generalize w.heap.size = bt at h1 ⊢
  clear hn
  go_wp2_with fail
  refine hr.mono ?_
  rintro e w2 ⟨rfl, hk2⟩
  have h2 := h1.keep hk2
  have hk3 : K w2 (w2.alloc (.cells #[.int .i64 q, .int .u32 z, .slice none 0 0] 31)) := (K.refl _).alloc _
  have h3 := h2.keep hk3
  have hmx : Mx w (w2.alloc (.cells #[.int .i64 q, .int .u32 z, .slice none 0 0] 31)) bt (.slice none 0 0) w2.heap.size (.slice none 0 0) q z (cls []) [] (.slice none 0 0) [] := by
    refine ⟨h3.tb, ⟨(MapKept.heap_alloc w2 _).1, World.ownsRow_nil _ _ _ _, (fun h => nomatch h), Wf.nil q0 q1 z0 z1, Kept.size h2.k⟩, World.ownsRow_nil _ _ _ _, h3.k, fun g hg hu => ?_, (fun _ hg => nomatch hg), (fun _ hg => nomatch hg)⟩
    have h4 := (h2.tb.foot_lt hg).2
    rcases hu with rfl | hu
    · omega
    · cases hu
  clear hr h1 h2 hk2 hk3 h3
  go_wp2
  generalize w2.alloc (.cells #[.int .i64 q, .int .u32 z, .slice none 0 0] 31) = W at *
  generalize w2.heap.size = br at *
  go_loopg [11, 12] len (fun gh t11 t12 wx => ∃ (i n : Nat) (aa : Option Addr) (cc : Nat) (vt vr : Value) (R : List Sl) (Hs : List Int), i + gh = len ∧ t12 = .int .i64 i ∧ t11 = .slice aa n cc ∧ n ≤ i ∧ Aside (Hs.length = n) ∧ Aside (∀ y ∈ Hs, U64 y) ∧ Mx w wx bt vt br vr q z (cls R) R t11 Hs)
  case atStart => exact ⟨0, 0, none, 0, _, _, [], [], by omega, rfl, rfl, Nat.le_refl _, rfl, (fun y hy => by cases hy), hmx⟩
  case round =>
    clear hmx
    obtain ⟨i, n, aa, cc, vt, vr, R, Hs, hig, rfl, rfl, hni, HN, HU, hmx⟩ := hrel
    by_cases hlt : i < len
    · have hix := HS.out.ix i hlt
      have hop := (HS.out.cell i hlt).keep hmx.k
      have hok := HS.out.ok i
      generalize zz i = o at hop hok
      obtain ⟨d, x, a, hh⟩ := o
      obtain ⟨e0, e1, e2, e3⟩ := hop
      have cp := play_any hmx HN.out HU.out (by omega) d x a hh hok
      clear hmx hok HN HU
      go_wp2_with fail
      refine cp.mono ?_
      rintro e w4 ⟨aa4, n4, cc4, vt4, vr4, R4, Hs4, rfl, hm4, hn4, hn5, hu4⟩
      have HN : Aside _ := hn4
      have HU : Aside _ := hu4
      have HM : Aside _ := hm4
      obtain ⟨g, ra, rc, hv, hr, _⟩ := rowR_form hm4.r.row
      have c0 := hm4.r.c0
      have c1 := hm4.r.c1
      have c2 := hm4.r.c2
      rw [hv] at c2
      obtain ⟨l1, l2⟩ := hm4.r.len
      have hllen := live_len R4 1
      have CL : ∀ wx, K w4 wx → Calls Try.prog 14 #[tp bt] wx fun e w' => ∃ v', e = .returned v' ∧ w'.ownsRow wx.heap.size 39 1 v' (liveL R4).length ((liveL R4).map encU) ∧ K wx w' := fun wx k => by
        have := live_any (HM.out.keep k).t
        rw [liveL_cls] at this
        exact this
      have CR : ∀ wx, K w4 wx → Calls Try.prog 15 #[.agg #[.int .i64 q, .int .u32 z, .slice ra R4.length rc]] wx fun e w' => ∃ v', e = .returned v' ∧ w'.ownsRow wx.heap.size 39 1 v' (liveL R4).length ((liveL R4).map encU) ∧ K wx w' := fun wx k => rLive_any (hr.keep k) HM.out.r.wf
      have CU : ∀ wx, K w4 wx → Calls Try.prog 16 #[tp bt] wx fun e w' => e = .returned (.int .i64 R4.length) ∧ wx = w' := fun wx k => by
        have := used_any (HM.out.keep k).t
        rw [cls_len] at this
        exact this
      have CS : ∀ (wx : World) (B1 B2 : Nat) (v1 v2 : Value), wx.ownsRow B1 39 1 v1 (liveL R4).length ((liveL R4).map encU) → wx.ownsRow B2 39 1 v2 (liveL R4).length ((liveL R4).map encU) → Calls Try.prog 13 #[v1, v2] wx fun e w' => e = .returned (.bool true) ∧ K wx w' := fun wx B1 B2 v1 v2 o1 o2 => rSame_any o1 o2 rfl (by unfold liveL; omega)
      have CC : Aside (∀ wx, K w4 wx → wx.cell? ⟨br, 0, none⟩ = some (.int .i64 q) ∧ wx.cell? ⟨br, 1, none⟩ = some (.int .u32 z) ∧ wx.cell? ⟨br, 2, none⟩ = some (.slice ra R4.length rc)) := fun wx k => ⟨k.cell c0, k.cell c1, k.cell c2⟩
      have kd : K w4 w4.drew := (K.refl w4).drew
      have hll : ((R4.length : Int) != (R4.length : Int)) = false := by simp
      clear cp e0 e1 e2 e3 hm4 hn4 hu4 hv hr hllen hix
      go_wp2
      go_region_held3 (fun w' => w'.cell? ⟨br, 0, none⟩ = some (.int .i64 q) ∧ w'.cell? ⟨br, 1, none⟩ = some (.int .u32 z) ∧ w'.cell? ⟨br, 2, none⟩ = some (.slice ra R4.length rc)) (first | exact HC | go_keep) (first
        | (go_at_call 14; have _t := hoR; refine (CL _ kR).mono ?_; rintro e w6 ⟨vL, rfl, hoL, kL0⟩; have hoR2 := ownsRow_kept (O := No) hoR kL0 (fun _ _ x => x); have k6 := kR.trans kL0; have HC := CC.out _ k6)
        | (go_at_call 15; have _t := hoL; refine (CR _ kL).mono ?_; rintro e w6 ⟨vR, rfl, hoR, kR0⟩; have hoL2 := ownsRow_kept (O := No) hoL kR0 (fun _ _ x => x); have k6 := kL.trans kR0; have HC := CC.out _ k6)
        | (go_at_call 14; refine (CL _ kd).mono ?_; rintro e w5 ⟨vL, rfl, hoL, kL0⟩; have kL := kd.trans kL0; have HC := CC.out _ kL)
        | (go_at_call 15; refine (CR _ kd).mono ?_; rintro e w5 ⟨vR, rfl, hoR, kR0⟩; have kR := kd.trans kR0; have HC := CC.out _ kR)
        | (go_at_call 13; have _t := hoR2; refine (CS _ _ _ _ _ hoL hoR2).mono ?_; rintro e w7 ⟨rfl, k7⟩; have k8 := k6.trans k7; have HC := CC.out _ k8)
        | (go_at_call 13; have _t := hoL2; refine (CS _ _ _ _ _ hoL2 hoR).mono ?_; rintro e w7 ⟨rfl, k7⟩; have k8 := k6.trans k7; have HC := CC.out _ k8)
        | (go_at_call 16; refine (CU _ k8).mono ?_; rintro e w9 ⟨rfl, rfl⟩))
      all_goals
        have H8 : Aside _ := HM.out.keep k8
        clear CL CR CU CS
        go_wp2
        go_roundg (len - (i + 1))
        case measure => omega
        case rel => exact ⟨i + 1, n4, aa4, cc4, vt4, vr4, R4, Hs4, by omega, by go_num, rfl, by omega, HN, HU, H8.out⟩
    · have aw := awake_any wr
      have kk := hmx.k
      clear hmx
      go_wp2_with (go_at_call 9; refine aw.mono ?_; rintro e w8 ⟨rfl, k8⟩)
      go_ret
      exact ⟨rfl, kk.trans (by assumption)⟩

theorem plays_any (w : World) (q : Int) (_ : In64 q) (z : Int) (hz : 0 ≤ z ∧ z ≤ 4294967295) (a0 : Option Addr) (b off len cap : Nat) (zz : Nat → Opv) (hS : Script w a0 b off len cap zz) (hmax : len ≤ maxLen) : Calls Try.prog 3 #[.int .i64 q, .int .u32 z, .slice a0 len cap] w fun e w' => e = .returned (.bool true) ∧ K w w' := by
  by_cases hl : len ≤ 200
  · by_cases h : badNew q z
    · exact plays_bad q z a0 len cap w (by omega) h hz.1
    · unfold badNew at h
      exact plays_main q z a0 b off len cap zz w hS hl (by omega) (by omega) (by omega) hz.2
  · exact plays_long q z a0 len cap w (by omega) (by unfold maxLen at hmax; omega)

end Hd
end Go.Proofs.Ytfokpiapaacagaa
