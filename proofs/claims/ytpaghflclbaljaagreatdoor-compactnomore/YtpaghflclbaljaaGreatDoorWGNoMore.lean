/-
  The walk of CompactNoMore.
-/
import Derived.Test.YtpaghflclbaljaaGreatDoorWGFillW
import Derived.Test.YtpaghflclbaljaaGreatDoorWGAlike
namespace Go.Proofs.YtpaghflclbaljaaGreatDoor
open Go.RowKit Go.Maps
attribute [local go_sem ↓] Go.wp_at_zero Go.wp_at_succ
namespace Co
open Hp (Kept K No Pg Wl lt_of_cell granted)
open Hd (U64 findL encU)
open Go.Proofs.YtpaghflclbaljaaGreatDoor.So (Ad sp Script Opv)
variable {w0 w w' : World} {c : Nat} {A : Ad} {pg : List (Int × Nat)} {W : Int → Int} {L : List Pg} {v : Value} {T : List Hd.Sl}

theorem Cn.mkN (h : Cn w0 w A c pg W L v T) {n : Int} (n0 : 0 ≤ n) (n1 : n ≤ 3998) (hN : Nm (2 + n) L) : Calls Tryz.prog 27 #[sp A.st, .int .i64 n] w fun e w' =>
    ∃ x er pg' W' L' v' T', e = .returned (.tuple #[.int .u64 x, .int .i64 er]) ∧ Aside (Cn w0 w' A c pg' W' L' v' T' ∧ Nm (2 + n) L') := by
  refine (So.make_any h.rn.s h.rn.k.size n).mono ?_
  rintro e w1 (⟨_, _, a, L1, x, T1, ea, eo, rfl, pg1, W1, v1, sw1, _, _, _, _, st1⟩ | ⟨er, her, hor, rfl, pg1, W1, v1, sw1, _, st1⟩)
  · exact ⟨x, 0, pg1, W1, L1, v1, T1, rfl, h.call sw1 st1, hN.alloc h.rn.s.b.wl ⟨by omega, by omega⟩ ea⟩
  · exact ⟨0, er, pg1, W1, L, v1, T, rfl, h.call sw1 st1, hN⟩

theorem Cn.stepN (h : Cn w0 w A c pg W L v T) {n : Int} (hN : Nm n L) : Calls Tryz.prog 19 #[cp c] w fun e w' => e = .returned (.tuple #[.bool false, .int .i64 0]) ∧ ∃ pg' W' L' v' T', Cn w0 w' A c pg' W' L' v' T' := by
  have hp := (hN.pass h.rn.s.b.wl h.rn.s.r 1).2.2
  have := h.step
  rw [hp] at this
  refine this.mono ?_
  rintro e w1 ⟨rfl, pg1, W1, v1, h1, _⟩
  exact ⟨rfl, pg1, W1, _, v1, _, h1⟩

theorem Cn.stepG (h : Cn w0 w A c pg W L v T) : Calls Tryz.prog 19 #[cp c] w fun e w' => ∃ b, e = .returned (.tuple #[.bool b, .int .i64 0]) ∧ ∃ pg' W' L' v' T', Aside (Cn w0 w' A c pg' W' L' v' T' ∧ granted L' ≤ granted L) := by
  refine h.step.mono ?_
  rintro e w1 ⟨rfl, pg1, W1, v1, h1, _⟩
  exact ⟨_, rfl, pg1, W1, _, v1, _, h1, fold_granted (pass_start h.rn.s.b.wl h.rn.s.r)⟩

theorem Cn.gr (h : Cn w0 w A c pg W L v T) : 0 ≤ granted L ∧ granted L ≤ 4096 := by
  have h1 := h.rn.s.b.hp.hw.ar.len
  have h2 := h.rn.s.b.hp.ly.len h.rn.s.b.hp.hw.ar.rise
  omega

set_option maxRecDepth 100000 in
set_option maxHeartbeats 4000000 in
theorem nomore_main (n : Int) (n0 : 0 ≤ n) (n1 : n ≤ 3998) (many : Int) (m0 : 0 ≤ many) (m1 : many ≤ 60) (a0 : Option Addr) (b off len cap : Nat) (z : Nat → Opv) (w : World) (hT : Bt.Tab w) (hS : Script w a0 b off len cap z) (hlen : len ≤ 60) :
    Calls Tryz.prog 7 #[.int .i64 n, .int .i64 many, .slice a0 len cap] w fun e w' => e = .returned (.bool true) ∧ K w w' := by
  have nw := lmade_ok 262144 1000 (by omega) (by omega) (by omega) (by omega) w hT
  have aw : Aside (∀ w1, K w w1 → Calls Tryz.prog 9 #[] w1 fun e w' => e = .returned (.bool true) ∧ K w1 w') := fun w1 k1 => awake_any w1 (hT.keep k1.toBt)
  have HS : Aside _ := hS
  have hz0 : 0 < w.heap.size := Hp.lt0 hT
  clear hS hT
  go_enter Tryz.func7, Tryz.ntmps7
  go_wp2_with fail
  refine nw.mono ?_
  rintro e w1 ⟨A, v, c, rfl, HR, _⟩
  have hn := HR.out.1.keep ((K.refl w1).alloc (.cells (refV 262144 1000) 35))
  clear nw HR
  go_wp2
  go_loopw [11] (fun i wr => ∃ (k : Nat) (pg : List (Int × Nat)) (W : Int → Int) (L : List Pg) (v : Value) (T : List Hd.Sl), i = .int .i64 k ∧ (k : Int) ≤ many ∧ Aside (Cn w wr A c pg W L v T ∧ Nm (2 + n) L)) (fun i _ => many.toNat - (intOf i).toNat)
  case atStart => exact ⟨0, [], _, [], v, [], rfl, by omega, hn, Nm.nil _⟩
  case round =>
    obtain ⟨k, pg, W, L, v, T, rfl, hk, H⟩ := hrel
    have wd := So.words_any H.out.1.rn.s.b
    have hg := H.out.1.gr
    clear hn
    by_cases hlt : (k : Int) < many
    · go_wp2_with fail
      refine wd.mono ?_
      rintro e w2 ⟨rfl, k2⟩
      have h2 := H.out.1.keep k2
      have hN2 := H.out.2
      by_cases hg2 : 64 * granted L < 100000
      · have mk := h2.mkN n0 n1 hN2
        clear h2 hN2 H wd
        go_wp2_with fail
        refine mk.mono ?_
        rintro e w3 ⟨x, er, pg3, W3, L3, v3, T3, rfl, H3⟩
        clear mk
        go_wp2
        go_roundw
        case rel => exact ⟨k + 1, pg3, W3, L3, v3, T3, by go_num, by omega, H3⟩
        case measure => simp [intOf]; omega
      · have HX : Aside (∃ pg W L v T, Cn w w2 A c pg W L v T ∧ Nm (2 + n) L) := ⟨_, _, _, _, _, h2, hN2⟩
        clear h2 hN2 H wd
        generalize 64 * granted L = g2 at *
        clear hg hlt
        obtain ⟨pg, W, L, v, T, hn, hN⟩ := HX.out
        have st := hn.stepN hN
        clear hn hN HX
        go_wp2_with fail
        refine st.mono ?_
        rintro e w3 ⟨rfl, pg3, W3, L3, v3, T3, h3⟩
        have fl := fill_any h3 hz0 HS.out hlen
        clear st h3
        go_wp2_with fail
        refine fl.mono ?_
        rintro e w4 ⟨pg4, W4, v4, u4, rfl, H4⟩
        have h4 := H4.out.cn
        clear fl
        generalize fillP A z L3 T3 len = q at *
        go_wp2
        go_loopw [14] (fun i wx => ∃ (k : Nat) (pg : List (Int × Nat)) (W : Int → Int) (L : List Pg) (v : Value) (T : List Hd.Sl), i = .int .i64 k ∧ k ≤ 200 ∧ Aside (Cn w wx A c pg W L v T)) (fun i _ => 200 - (intOf i).toNat)
        case atStart => exact ⟨0, _, _, _, _, _, rfl, by omega, h4⟩
        case round =>
          obtain ⟨k, pg, W, L, v, T, rfl, hk, H⟩ := hrel
          clear h4 H4
          by_cases hk2 : k < 200
          · have wd := So.words_any H.out.rn.s.b
            go_wp2_with fail
            refine wd.mono ?_
            rintro e w5 ⟨rfl, k5⟩
            have h5 := H.out.keep k5
            have sg := h5.stepG
            clear wd h5
            go_wp2_with fail
            refine sg.mono ?_
            rintro e w6 ⟨bo, rfl, pg6, W6, L6, v6, T6, H6⟩
            have wd6 := So.words_any H6.out.1.rn.s.b
            have hle : ¬ 64 * granted L < 64 * granted L6 := by have := H6.out.2; omega
            clear sg H
            generalize 64 * granted L = g5 at *
            generalize 64 * granted L6 = g6 at *
            go_wp2_with fail
            refine wd6.mono ?_
            rintro e w7 ⟨rfl, k7⟩
            have H7 : Aside _ := H6.out.1.keep k7
            clear wd6 H6
            cases bo with
            | true =>
              go_wp2
              go_roundw
              case rel => exact ⟨k + 1, pg6, W6, L6, v6, T6, by go_num, by omega, H7⟩
              case measure => simp [intOf]; omega
            | false =>
              have au := So.audit_ok H7.out.rn.s
              go_wp2_with fail
              refine au.mono ?_
              rintro e w8 ⟨rfl, k8⟩
              have k9 := H7.out.rn.k.trans k8
              have aw9 := aw.out _ k9
              clear au
              go_wp2_with fail
              refine aw9.mono ?_
              rintro e w9 ⟨rfl, k10⟩
              go_wp2
              go_ret
              exact ⟨rfl, k9.trans k10⟩
          · have au := So.audit_ok H.out.rn.s
            go_wp2_with fail
            refine au.mono ?_
            rintro e w8 ⟨rfl, k8⟩
            have k9 := H.out.rn.k.trans k8
            have aw9 := aw.out _ k9
            clear au
            go_wp2_with fail
            refine aw9.mono ?_
            rintro e w9 ⟨rfl, k10⟩
            go_wp2
            go_ret
            exact ⟨rfl, k9.trans k10⟩
    · have HX : Aside (∃ pg W L v T, Cn w wr A c pg W L v T ∧ Nm (2 + n) L) := ⟨_, _, _, _, _, H.out.1, H.out.2⟩
      clear H wd hg
      obtain ⟨pg, W, L, v, T, hn, hN⟩ := HX.out
      have st := hn.stepN hN
      clear hn hN HX
      go_wp2_with fail
      refine st.mono ?_
      rintro e w3 ⟨rfl, pg3, W3, L3, v3, T3, h3⟩
      have fl := fill_any h3 hz0 HS.out hlen
      clear st h3
      go_wp2_with fail
      refine fl.mono ?_
      rintro e w4 ⟨pg4, W4, v4, u4, rfl, H4⟩
      have h4 := H4.out.cn
      clear fl
      generalize fillP A z L3 T3 len = q at *
      go_wp2
      go_loopw [14] (fun i wx => ∃ (k : Nat) (pg : List (Int × Nat)) (W : Int → Int) (L : List Pg) (v : Value) (T : List Hd.Sl), i = .int .i64 k ∧ k ≤ 200 ∧ Aside (Cn w wx A c pg W L v T)) (fun i _ => 200 - (intOf i).toNat)
      case atStart => exact ⟨0, _, _, _, _, _, rfl, by omega, h4⟩
      case round =>
        obtain ⟨k, pg, W, L, v, T, rfl, hk, H⟩ := hrel
        clear h4 H4
        by_cases hk2 : k < 200
        · have wd := So.words_any H.out.rn.s.b
          go_wp2_with fail
          refine wd.mono ?_
          rintro e w5 ⟨rfl, k5⟩
          have h5 := H.out.keep k5
          have sg := h5.stepG
          clear wd h5
          go_wp2_with fail
          refine sg.mono ?_
          rintro e w6 ⟨bo, rfl, pg6, W6, L6, v6, T6, H6⟩
          have wd6 := So.words_any H6.out.1.rn.s.b
          have hle : ¬ 64 * granted L < 64 * granted L6 := by have := H6.out.2; omega
          clear sg H
          generalize 64 * granted L = g5 at *
          generalize 64 * granted L6 = g6 at *
          go_wp2_with fail
          refine wd6.mono ?_
          rintro e w7 ⟨rfl, k7⟩
          have H7 : Aside _ := H6.out.1.keep k7
          clear wd6 H6
          cases bo with
          | true =>
            go_wp2
            go_roundw
            case rel => exact ⟨k + 1, pg6, W6, L6, v6, T6, by go_num, by omega, H7⟩
            case measure => simp [intOf]; omega
          | false =>
            have au := So.audit_ok H7.out.rn.s
            go_wp2_with fail
            refine au.mono ?_
            rintro e w8 ⟨rfl, k8⟩
            have k9 := H7.out.rn.k.trans k8
            have aw9 := aw.out _ k9
            clear au
            go_wp2_with fail
            refine aw9.mono ?_
            rintro e w9 ⟨rfl, k10⟩
            go_wp2
            go_ret
            exact ⟨rfl, k9.trans k10⟩
        · have au := So.audit_ok H.out.rn.s
          go_wp2_with fail
          refine au.mono ?_
          rintro e w8 ⟨rfl, k8⟩
          have k9 := H.out.rn.k.trans k8
          have aw9 := aw.out _ k9
          clear au
          go_wp2_with fail
          refine aw9.mono ?_
          rintro e w9 ⟨rfl, k10⟩
          go_wp2
          go_ret
          exact ⟨rfl, k9.trans k10⟩

end Co
end Go.Proofs.YtpaghflclbaljaaGreatDoor
