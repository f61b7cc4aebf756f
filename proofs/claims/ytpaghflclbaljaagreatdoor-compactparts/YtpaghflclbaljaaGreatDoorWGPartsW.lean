/-
  The walk of CompactParts.
-/
import Derived.Test.YtpaghflclbaljaaGreatDoorWGTwo
namespace Go.Proofs.YtpaghflclbaljaaGreatDoor
open Go.RowKit Go.Maps
attribute [local go_sem ↓] Go.wp_at_zero Go.wp_at_succ
namespace Co
open Hp (Kept K No Pg Wl lt_of_cell granted liveL)
open Hd (U64 findL encU)
open Go.Proofs.YtpaghflclbaljaaGreatDoor.So (Ad sp Script Opv)
variable {w0 w w' : World}

set_option maxRecDepth 100000 in
set_option maxHeartbeats 4000000 in
theorem parts_main (q : Int) (q0 : 0 ≤ q) (q1 : q ≤ 4000) (m : Int) (m0 : 1 ≤ m) (m1 : m ≤ 1000) (a0 : Option Addr) (b off len cap : Nat) (z : Nat → Opv) (one : Int) (o0 : 0 ≤ one) (o1 : one ≤ 100) (two : Int) (t0 : 0 ≤ two) (t1 : two ≤ 100) (w : World) (hT : Bt.Tab w) (hS : Script w a0 b off len cap z) (hlen : len ≤ 40) :
    Calls Tryz.prog 6 #[.int .i64 q, .int .i64 m, .slice a0 len cap, .int .i64 one, .int .i64 two] w fun e w' => e = .returned (.bool true) ∧ K w w' := by
  have nw := lmade_lo q m q0 (by omega) m0 (by omega) w hT
  have nw2 : Aside (∀ w1, K w w1 → Calls Tryz.prog 10 #[.int .i64 q, .int .i64 m] w1 fun e w' => ∃ A v c, e = .returned (.tuple #[sp A.st, cp c, .agg (refV q m), .bool true]) ∧ Aside (Cn w1 w' A c [] (fun _ => 0) [] v [] ∧ A.q = q ∧ A.m = m ∧ A.z = 4294967295 ∧ w1.heap.size ≤ A.bh ∧ w1.heap.size ≤ A.st) ∧ K w1 w') := fun w1 k => lmade_lo q m q0 (by omega) m0 (by omega) w1 (hT.keep k.toBt)
  have aw : Aside (∀ w1, K w w1 → Calls Tryz.prog 9 #[] w1 fun e w' => e = .returned (.bool true) ∧ K w1 w') := fun w1 k1 => awake_any w1 (hT.keep k1.toBt)
  have HS : Aside _ := hS
  have hz0 : 0 < w.heap.size := Hp.lt0 hT
  clear hS hT
  go_enter Tryz.func6, Tryz.ntmps6
  go_wp2_with fail
  refine nw.mono ?_
  rintro e w1 ⟨A, v, c, rfl, HR, _⟩
  have h1 := HR.out.1.keep ((K.refl w1).alloc (.cells (refV q m) 35))
  have EE : Aside _ := HR.out.2
  have mk2 := nw2.out _ h1.rn.k
  clear nw HR nw2
  go_wp2_with fail
  refine mk2.mono ?_
  rintro e w2 ⟨A2, v2, c2, rfl, HR2, _⟩
  have tw0 := Tw.made h1 (HR2.out.1.keep ((K.refl w2).alloc (.cells (refV q m) 35))) HR2.out.2.2.2.2.1 HR2.out.2.2.2.2.2 hz0
  have E2 : Aside (A2.q = A.q ∧ A2.m = A.m ∧ A2.z = A.z) := ⟨HR2.out.2.1.trans EE.out.1.symm, HR2.out.2.2.1.trans EE.out.2.1.symm, HR2.out.2.2.2.1.trans EE.out.2.2.1.symm⟩
  clear mk2 HR2 EE h1
  have f1 := fill_any tw0.n1 hz0 HS.out (by omega)
  have TW0 : Aside _ := tw0
  clear tw0
  go_wp2_with fail
  refine f1.mono ?_
  rintro e w3 ⟨pg3, W3, v3, u3, rfl, H3⟩
  have tw3 := TW0.out.call H3.out.cn H3.out.st
  clear f1 H3 TW0
  have f2 := fill_any tw3.n2 hz0 HS.out (by omega)
  rw [fillP_eq z [] [] E2.out.1 E2.out.2.1 E2.out.2.2 len] at f2
  generalize fillP A z [] [] len = s at *
  have TW3 : Aside _ := tw3
  clear tw3
  go_wp2_with fail
  refine f2.mono ?_
  rintro e w4 ⟨pg4, W4, v4, u4, rfl, H4⟩
  have tw4 := (TW3.out.swap.call H4.out.cn H4.out.st).swap
  clear f2 H4 TW3 E2
  have r1 := tw4.n1.run (bu := one) o0 (by omega)
  have PN1 : Aside _ := pass_n (L := s.L) (T := s.T) o0
  have TW4 : Aside _ := tw4
  clear tw4
  go_wp2_with fail
  refine r1.mono ?_
  rintro e w5 ⟨rfl, pg5, W5, v5, n5, _, st5⟩
  have tw5 := TW4.out.call n5 st5
  have R5 : Aside _ := And.intro TW4.out.n1.rn.s.r (And.intro n5.rn.s.r n5.rn.s.b.tl)
  have L5 : Aside _ := And.intro TW4.out.n1.rn.s.b.wl n5.rn.s.b.wl
  clear r1 TW4 n5 st5
  have r2 := tw5.n1.run (bu := two) t0 (by omega)
  have TW5 : Aside _ := tw5
  clear tw5
  go_wp2_with fail
  refine r2.mono ?_
  rintro e w6 ⟨rfl, pg6, W6, v6, n6, _, st6⟩
  have tw6 := TW5.out.call n6 st6
  clear r2 TW5 n6 st6
  have r3 := tw6.n2.run (bu := one + two) (by omega) (by omega)
  have PP := pass_parts o0 t0 L5.out.1 R5.out.1 L5.out.2 R5.out.2.1 R5.out.2.2
  have PN2 := pass_n (L := (pass one s.L s.T).L) (T := (pass one s.L s.T).T) t0
  have PI2 : (pass one s.L s.T).n ≠ one → (pass two (pass one s.L s.T).L (pass one s.L s.T).T).n = 0 := fun h => pass_idle L5.out.1 R5.out.1 h L5.out.2 R5.out.2.1
  have eL : (pass (one + two) s.L s.T).L = _ := congrArg (fun t => t.1) PP
  have eT : (pass (one + two) s.L s.T).T = _ := congrArg (fun t => t.2.1) PP
  have en : (pass (one + two) s.L s.T).n = _ := congrArg (fun t => t.2.2) PP
  have PN1' := PN1.out
  rw [eL, eT, en] at r3
  have TW6 : Aside _ := tw6
  have hw12 : wrap64 (one + two) = one + two := by unfold wrap64; omega
  simp only [] at r3
  clear tw6 PP eL eT en R5 L5 PN1
  generalize pass two (pass one s.L s.T).L (pass one s.L s.T).T = z2 at *
  generalize pass one s.L s.T = z1 at *
  obtain ⟨p1, p2, _⟩ := PN1'
  obtain ⟨p3, p4, _⟩ := PN2
  have hwn : wrap64 (z1.n + z2.n) = z1.n + z2.n := by unfold wrap64; omega
  have hne : (z1.n + z2.n != z2.n + z1.n) = false := by
    rw [Int.add_comm]
    simp
  go_wp2_with fail
  refine r3.mono ?_
  rintro e w7 ⟨rfl, pg7, W7, v7, n7, _, st7⟩
  have tw7 := (TW6.out.swap.call n7 st7).swap
  clear r3 TW6 n7 st7
  have wd1 := So.words_any tw7.n1.rn.s.b
  have TW7 : Aside _ := tw7
  clear tw7
  have hc1 : z2.n + z1.n < one + two → 0 < two → z2.n < two := fun h1 h2 => by
    by_cases h : z1.n = one
    · omega
    · have := PI2 h
      omega
  clear PI2
  by_cases hlt : z2.n + z1.n < one + two
  · by_cases hd : z2.n < two
    · clear hc1
      go_wp2_with fail
      refine wd1.mono ?_
      rintro e w8 ⟨rfl, k8⟩
      have tw8 := TW7.out.keep k8
      have wd2 := So.words_any tw8.n2.rn.s.b
      have TW8 : Aside _ := tw8
      clear wd1 TW7 tw8 k8
      go_wp2_with fail
      refine wd2.mono ?_
      rintro e w9 ⟨rfl, k9⟩
      have tw9 := TW8.out.keep k9
      have al1 := So.all_any tw9.n1.rn.s.b
      have TW9 : Aside _ := tw9
      clear wd2 TW8 tw9 k9
      go_wp2_with fail
      refine al1.mono ?_
      rintro e wa ⟨ux, rfl, hox, ka⟩
      have twa := TW9.out.keep ka
      have al2 := So.all_any twa.n2.rn.s.b
      have TWA : Aside _ := twa
      have HOX : Aside _ := hox
      clear al1 TW9 twa hox ka
      go_wp2_with fail
      refine al2.mono ?_
      rintro e wb ⟨uy, rfl, hoy, kb⟩
      obtain ⟨gx, ax, cx, rfl, hax, hcx⟩ := So.row1 HOX.out
      obtain ⟨gy, ay, cy, rfl, hay, hcy⟩ := So.row1 hoy
      have kfin := TWA.out.n1.rn.k.trans kb
      have CELL : Aside (∀ i, i < (liveL z2.L).length → ∃ y, wb.cell? ⟨gx, i, none⟩ = some (.int .u64 y) ∧ wb.cell? ⟨gy, i, none⟩ = some (.int .u64 y)) := fun i hi => by
        obtain ⟨a, ha⟩ : ∃ a, (liveL z2.L)[i]? = some a := ⟨_, List.getElem?_eq_getElem hi⟩
        have e := rec_same TWA.out.n1.rn.s.r TWA.out.n2.rn.s.r (List.mem_of_getElem? ha)
        refine ⟨_, kb.cell (hcx i _ (by rw [List.getElem?_map, ha]; rfl)), ?_⟩
        rw [e]
        exact hcy i _ (by rw [List.getElem?_map, ha]; rfl)
      have hll := TWA.out.n1.rn.s.b.live_le
      have IX : Aside (∀ i, i < (liveL z2.L).length → ∀ w', (Instr.indexAt 38 (.slice ax (liveL z2.L).length cx) (.int .i64 (i : Int))).run Tryz.prog w' = .ok (.pointer (some ⟨gx, i, none⟩)) w' ∧ (Instr.indexAt 38 (.slice ay (liveL z2.L).length cy) (.int .i64 (i : Int))).run Tryz.prog w' = .ok (.pointer (some ⟨gy, i, none⟩)) w') := fun i hi w' => by
        rw [hax (by omega), hay (by omega)]
        exact ⟨Hd.run_ixh gx _ cx i hi w', Hd.run_ixh gy _ cy i hi w'⟩
      clear al2 TWA HOX hoy kb hcx hcy hax hay
      generalize (liveL z2.L).length = nl at *
      go_wp2
      go_loopw [30] (fun i wx => ∃ k : Nat, i = .int .i64 k ∧ k ≤ nl ∧ K wb wx) (fun i _ => nl - (intOf i).toNat)
      case atStart => exact ⟨0, rfl, by omega, K.refl _⟩
      case round =>
        obtain ⟨k, rfl, hk, kx⟩ := hrel
        by_cases hkl : k < nl
        · obtain ⟨y, cy1', cy2'⟩ := CELL.out k hkl
          have cy1 := kx.cell cy1'
          have cy2 := kx.cell cy2'
          have KX : Aside _ := kx
          clear kx cy1' cy2'
          have ix1 := fun w' => (IX.out k hkl w').1
          have ix2 := fun w' => (IX.out k hkl w').2
          go_wp2
          go_region
          all_goals go_wp2
          go_roundw
          case rel => exact ⟨k + 1, by go_num, by omega, KX.out.drew⟩
          case measure => simp [intOf]; omega
        · have kw := kfin.trans kx
          have aw9 := aw.out _ kw
          clear kx
          go_wp2_with fail
          refine aw9.mono ?_
          rintro e wc ⟨rfl, kc⟩
          go_wp2
          go_ret
          exact ⟨rfl, kw.trans kc⟩
    · have h2 : ¬ 0 < two := fun h => hd (hc1 hlt h)
      clear hc1
      go_wp2_with fail
      refine wd1.mono ?_
      rintro e w8 ⟨rfl, k8⟩
      have tw8 := TW7.out.keep k8
      have wd2 := So.words_any tw8.n2.rn.s.b
      have TW8 : Aside _ := tw8
      clear wd1 TW7 tw8 k8
      go_wp2_with fail
      refine wd2.mono ?_
      rintro e w9 ⟨rfl, k9⟩
      have tw9 := TW8.out.keep k9
      have al1 := So.all_any tw9.n1.rn.s.b
      have TW9 : Aside _ := tw9
      clear wd2 TW8 tw9 k9
      go_wp2_with fail
      refine al1.mono ?_
      rintro e wa ⟨ux, rfl, hox, ka⟩
      have twa := TW9.out.keep ka
      have al2 := So.all_any twa.n2.rn.s.b
      have TWA : Aside _ := twa
      have HOX : Aside _ := hox
      clear al1 TW9 twa hox ka
      go_wp2_with fail
      refine al2.mono ?_
      rintro e wb ⟨uy, rfl, hoy, kb⟩
      obtain ⟨gx, ax, cx, rfl, hax, hcx⟩ := So.row1 HOX.out
      obtain ⟨gy, ay, cy, rfl, hay, hcy⟩ := So.row1 hoy
      have kfin := TWA.out.n1.rn.k.trans kb
      have CELL : Aside (∀ i, i < (liveL z2.L).length → ∃ y, wb.cell? ⟨gx, i, none⟩ = some (.int .u64 y) ∧ wb.cell? ⟨gy, i, none⟩ = some (.int .u64 y)) := fun i hi => by
        obtain ⟨a, ha⟩ : ∃ a, (liveL z2.L)[i]? = some a := ⟨_, List.getElem?_eq_getElem hi⟩
        have e := rec_same TWA.out.n1.rn.s.r TWA.out.n2.rn.s.r (List.mem_of_getElem? ha)
        refine ⟨_, kb.cell (hcx i _ (by rw [List.getElem?_map, ha]; rfl)), ?_⟩
        rw [e]
        exact hcy i _ (by rw [List.getElem?_map, ha]; rfl)
      have hll := TWA.out.n1.rn.s.b.live_le
      have IX : Aside (∀ i, i < (liveL z2.L).length → ∀ w', (Instr.indexAt 38 (.slice ax (liveL z2.L).length cx) (.int .i64 (i : Int))).run Tryz.prog w' = .ok (.pointer (some ⟨gx, i, none⟩)) w' ∧ (Instr.indexAt 38 (.slice ay (liveL z2.L).length cy) (.int .i64 (i : Int))).run Tryz.prog w' = .ok (.pointer (some ⟨gy, i, none⟩)) w') := fun i hi w' => by
        rw [hax (by omega), hay (by omega)]
        exact ⟨Hd.run_ixh gx _ cx i hi w', Hd.run_ixh gy _ cy i hi w'⟩
      clear al2 TWA HOX hoy kb hcx hcy hax hay
      generalize (liveL z2.L).length = nl at *
      go_wp2
      go_loopw [30] (fun i wx => ∃ k : Nat, i = .int .i64 k ∧ k ≤ nl ∧ K wb wx) (fun i _ => nl - (intOf i).toNat)
      case atStart => exact ⟨0, rfl, by omega, K.refl _⟩
      case round =>
        obtain ⟨k, rfl, hk, kx⟩ := hrel
        by_cases hkl : k < nl
        · obtain ⟨y, cy1', cy2'⟩ := CELL.out k hkl
          have cy1 := kx.cell cy1'
          have cy2 := kx.cell cy2'
          have KX : Aside _ := kx
          clear kx cy1' cy2'
          have ix1 := fun w' => (IX.out k hkl w').1
          have ix2 := fun w' => (IX.out k hkl w').2
          go_wp2
          go_region
          all_goals go_wp2
          go_roundw
          case rel => exact ⟨k + 1, by go_num, by omega, KX.out.drew⟩
          case measure => simp [intOf]; omega
        · have kw := kfin.trans kx
          have aw9 := aw.out _ kw
          clear kx
          go_wp2_with fail
          refine aw9.mono ?_
          rintro e wc ⟨rfl, kc⟩
          go_wp2
          go_ret
          exact ⟨rfl, kw.trans kc⟩
  · clear hc1
    go_wp2_with fail
    refine wd1.mono ?_
    rintro e w8 ⟨rfl, k8⟩
    have tw8 := TW7.out.keep k8
    have wd2 := So.words_any tw8.n2.rn.s.b
    have TW8 : Aside _ := tw8
    clear wd1 TW7 tw8 k8
    go_wp2_with fail
    refine wd2.mono ?_
    rintro e w9 ⟨rfl, k9⟩
    have tw9 := TW8.out.keep k9
    have al1 := So.all_any tw9.n1.rn.s.b
    have TW9 : Aside _ := tw9
    clear wd2 TW8 tw9 k9
    go_wp2_with fail
    refine al1.mono ?_
    rintro e wa ⟨ux, rfl, hox, ka⟩
    have twa := TW9.out.keep ka
    have al2 := So.all_any twa.n2.rn.s.b
    have TWA : Aside _ := twa
    have HOX : Aside _ := hox
    clear al1 TW9 twa hox ka
    go_wp2_with fail
    refine al2.mono ?_
    rintro e wb ⟨uy, rfl, hoy, kb⟩
    obtain ⟨gx, ax, cx, rfl, hax, hcx⟩ := So.row1 HOX.out
    obtain ⟨gy, ay, cy, rfl, hay, hcy⟩ := So.row1 hoy
    have kfin := TWA.out.n1.rn.k.trans kb
    have CELL : Aside (∀ i, i < (liveL z2.L).length → ∃ y, wb.cell? ⟨gx, i, none⟩ = some (.int .u64 y) ∧ wb.cell? ⟨gy, i, none⟩ = some (.int .u64 y)) := fun i hi => by
      obtain ⟨a, ha⟩ : ∃ a, (liveL z2.L)[i]? = some a := ⟨_, List.getElem?_eq_getElem hi⟩
      have e := rec_same TWA.out.n1.rn.s.r TWA.out.n2.rn.s.r (List.mem_of_getElem? ha)
      refine ⟨_, kb.cell (hcx i _ (by rw [List.getElem?_map, ha]; rfl)), ?_⟩
      rw [e]
      exact hcy i _ (by rw [List.getElem?_map, ha]; rfl)
    have hll := TWA.out.n1.rn.s.b.live_le
    have IX : Aside (∀ i, i < (liveL z2.L).length → ∀ w', (Instr.indexAt 38 (.slice ax (liveL z2.L).length cx) (.int .i64 (i : Int))).run Tryz.prog w' = .ok (.pointer (some ⟨gx, i, none⟩)) w' ∧ (Instr.indexAt 38 (.slice ay (liveL z2.L).length cy) (.int .i64 (i : Int))).run Tryz.prog w' = .ok (.pointer (some ⟨gy, i, none⟩)) w') := fun i hi w' => by
      rw [hax (by omega), hay (by omega)]
      exact ⟨Hd.run_ixh gx _ cx i hi w', Hd.run_ixh gy _ cy i hi w'⟩
    clear al2 TWA HOX hoy kb hcx hcy hax hay
    generalize (liveL z2.L).length = nl at *
    go_wp2
    go_loopw [30] (fun i wx => ∃ k : Nat, i = .int .i64 k ∧ k ≤ nl ∧ K wb wx) (fun i _ => nl - (intOf i).toNat)
    case atStart => exact ⟨0, rfl, by omega, K.refl _⟩
    case round =>
      obtain ⟨k, rfl, hk, kx⟩ := hrel
      by_cases hkl : k < nl
      · obtain ⟨y, cy1', cy2'⟩ := CELL.out k hkl
        have cy1 := kx.cell cy1'
        have cy2 := kx.cell cy2'
        have KX : Aside _ := kx
        clear kx cy1' cy2'
        have ix1 := fun w' => (IX.out k hkl w').1
        have ix2 := fun w' => (IX.out k hkl w').2
        go_wp2
        go_region
        all_goals go_wp2
        go_roundw
        case rel => exact ⟨k + 1, by go_num, by omega, KX.out.drew⟩
        case measure => simp [intOf]; omega
      · have kw := kfin.trans kx
        have aw9 := aw.out _ kw
        clear kx
        go_wp2_with fail
        refine aw9.mono ?_
        rintro e wc ⟨rfl, kc⟩
        go_wp2
        go_ret
        exact ⟨rfl, kw.trans kc⟩

end Co
end Go.Proofs.YtpaghflclbaljaaGreatDoor
