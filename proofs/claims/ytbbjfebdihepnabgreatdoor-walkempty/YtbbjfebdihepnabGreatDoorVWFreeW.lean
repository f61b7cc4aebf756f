/-
  The walk of Free.
-/
import Derived.Test.YtbbjfebdihepnabGreatDoorVWFreeG
import Derived.OrdersIn
namespace Go.Proofs.YtbbjfebdihepnabGreatDoor
open Go.RowKit Go.Maps
attribute [local go_sem] Oper.semAt_some
namespace Wa
open Hp (Kept K No Pg Grows wide outer)
open Hd (U64)
open Nd (Nv nv0 encU six)
open Co (Off)
open Go.Proofs.YtbbjfebdihepnabGreatDoor.So (Ad Sw sp foot)
variable {w0 w w' : World} {A : Ad} {W : Int → Int} {T : List Hd.Sl} {c : Nat} {t : Tr}

theorem run_ix3a (a b c : Int) (w' : World) : (Instr.index 69 (.agg #[encU a, encU b, encU c]) (.int .i64 0)).run Tryz.prog w' = .ok (.int .u64 a) w' := by kernel_rfl
theorem run_ix3b (a b c : Int) (w' : World) : (Instr.index 69 (.agg #[encU a, encU b, encU c]) (.int .i64 1)).run Tryz.prog w' = .ok (.int .u64 b) w' := by kernel_rfl
theorem run_ix3c (a b c : Int) (w' : World) : (Instr.index 69 (.agg #[encU a, encU b, encU c]) (.int .i64 2)).run Tryz.prog w' = .ok (.int .u64 c) w' := by kernel_rfl
theorem run_ix3 (i : It) {k : Nat} (hlt : k < 3) (w' : World) : (Instr.index 69 (.agg #[encU i.n.a, encU i.n.b, encU i.h]) (.int .i64 (k : Int))).run Tryz.prog w' = .ok (.int .u64 (hk i k)) w' := by
  rcases (show k = 0 ∨ k = 1 ∨ k = 2 by omega) with rfl | rfl | rfl
  · exact run_ix3a _ _ _ w'
  · exact run_ix3b _ _ _ w'
  · exact run_ix3c _ _ _ w'

set_option maxRecDepth 100000 in
set_option maxHeartbeats 4000000 in
theorem free_in (h : Gs w0 w A c T W) (hu : U64 t.root) (rt : Right (vw T W) t) : CallsIn Fence.wide 0 Tryz.prog 11 #[sp A.st, .int .u64 t.root] w fun e w' => e = .returned (.int .i64 0) ∧ Aside (FreeT w0 w A c T W t w') := by
  have CK : Aside (∀ V, K w V → Calls Tryz.prog 15 #[sp A.st, .int .u64 t.root] V fun e w' => e = .returned (.int .i64 0) ∧ K V w') := fun V k => by
    obtain ⟨pg, L, v, rn, r⟩ := h.keep k
    exact check_right rn.s hu rt
  have HH : Aside (Gs w0 w A c T W) := h
  have LO : Aside (Lo w0 w A) := h.lo
  have FT : Aside (vw T W).Fit := h.fit
  have RT : Aside (Right (vw T W) t) := rt
  have HU : Aside (U64 t.root) := hu
  have FEW : Aside ((lvH T).length ≤ 65536) := by
    obtain ⟨pg, L, v, rn, r⟩ := h
    show (lvH T).length ≤ 65536
    rw [lvH_len]
    exact rn.s.b.tl
  clear h hu rt
  refine callsIn_of_wp_marks Tryz.func11 rfl trivial ?_ rfl
  simp only [Tryz.ntmps11, List.size_toArray, List.length_cons, List.length_nil, Nat.reduceAdd, Nat.reduceSub, Array.replicate_succ, Array.replicate_zero, List.push_toArray, List.append_toArray, List.nil_append, List.cons_append]
  gi_wp2
  refine ⟨trivial, rfl, (callsIn_wide.2 (CK.out _ ((K.refl w).alloc _))).mono ?_⟩
  rintro e w1 ⟨rfl, k1⟩
  have b0 : w1.heap[w.heap.size]? = some (.cells #[sp A.st] 25) := k1.block (World.alloc_heap_new w _)
  have c0 : w1.cell? ⟨w.heap.size, 0, none⟩ = some (sp A.st) := by simp [World.cell?, b0]
  have K1 : Aside (K w w1) := ((K.refl w).alloc _).trans k1
  have B0 : Aside (w1.heap[w.heap.size]? = some (.cells #[sp A.st] 25)) := b0
  have l0 : w.heap.size < w1.heap.size := (Array.getElem?_eq_some_iff.1 b0).1
  have c01 : (w1.alloc (.map #[] 0)).cell? ⟨w.heap.size, 0, none⟩ = some (sp A.st) := ((K.refl w1).alloc _).cell c0
  have hmm := @run_makeMap Tryz.prog
  clear CK k1 b0
  gi_wp2
  refine ⟨trivial, rfl, (callsIn_wide.2 (inOrder_any (some ⟨A.st, 0, none⟩) t.root w1.heap.size _)).mono ?_⟩
  rintro e W7 ⟨rfl, hw7⟩
  simp only [World.size_alloc] at hw7 ⊢
  have s7 : W7.heap.size = w1.heap.size + 4 := by rw [hw7]; simp
  have c0x : ∃ pg v, Fi w0 w A c T W t w.heap.size w1.heap.size ⟨t.root, [], [], vw T W⟩ [] pg v T W (W7.alloc (.deferred (some []))) := by
    rw [hw7]
    exact Fi.start HH.out K1.out B0.out rfl rfl HU.out RT.out
  obtain ⟨pg0, v0, c0y⟩ := c0x
  have C0 : Aside _ := c0y
  clear hw7 hmm c0 c01 B0 c0y
  gi_wp2
  refine range_G (r := none) (w' := W7.alloc (.deferred (some []))) (mark := [{ target := .collected W7.heap.size, args := #[] }]) (gf := 41) (ba := #[]) (cp := #[.pointer (some ⟨w1.heap.size + 1 + 1, 0, none⟩), .pointer (some ⟨w1.heap.size + 1, 0, none⟩), .pointer (some ⟨w1.heap.size + 1 + 2, 0, none⟩)]) rfl (enters_of Tryz.func41 (by kernel_rfl) rfl) (fun fn => outer W7)
    (inOrder_seq (pp := some ⟨A.st, 0, none⟩) (lvH T) t.root (w1.heap.size + 1 + 1) (w1.heap.size + 1) (w1.heap.size + 1 + 2) w1.heap.size [] (vw T W) (foot A pg0 v0) W7) ((K.refl W7).alloc _) ?hO ?hps ?hmk
    (fun s M V => ∃ D pg v T2 W2, M = foot A pg v ∧ Fi w0 w A c T W t w.heap.size w1.heap.size s D pg v T2 W2 V)
    (fun c M V => False)
    (fun s enc M a' V => (∃ D pg v T2 W2, M = foot A pg v ∧ Fi w0 w A c T W t w.heap.size w1.heap.size s D pg v T2 W2 V) ∧ ∃ hh n er pb, enc = #[pv hh n, .int .i64 er] ∧ V.heap[pb]? = some (pbx hh n) ∧ w1.heap.size + 5 < pb ∧ a' = { tmps := #[sp A.st, .int .u64 t.root, .pointer (some ⟨w.heap.size, 0, none⟩), undef, .int .i64 0, .int .i64 0, .pointer (some ⟨pb, 0, none⟩), undef, undef, sp A.st, .int .u64 t.root, .int .i64 0, .int .i64 0, .bool false, undef, sp A.st, .int .u64 t.root, .map (some w1.heap.size), .func (.func 41) #[] #[.pointer (some ⟨w1.heap.size + 1 + 1, 0, none⟩), .pointer (some ⟨w1.heap.size + 1, 0, none⟩), .pointer (some ⟨w1.heap.size + 1 + 2, 0, none⟩)], pv hh n, .int .i64 er, undef, undef, undef, undef, undef, undef, undef, undef, undef, undef, undef, undef, undef, undef, undef, undef], defers := [] })
    ?hI ?hIm ?hIx ?hAx ?hS ?h0 ?hassign ?hbody ?hdone ?hstop
  case hO =>
    intro k hk
    exact C0.out.lt hk
  case hps => rintro s enc (⟨_, p, st, _, rfl⟩ | ⟨_, _, rfl⟩) <;> rfl
  case hmk =>
    rintro s V s' V' ⟨_, n, _, _, _, k, _⟩
    exact k.mono (fun j _ hj => by have : j = w1.heap.size := hj; rw [World.size_alloc, s7]; omega)
  case hI =>
    rintro s M V V' ⟨D, pg, v, T2, W2, rfl, hc⟩ k
    exact ⟨D, pg, v, T2, W2, rfl, hc.turn LO.out rfl l0 k (fun j hj => ⟨by have := hj.1; rw [World.size_alloc, s7] at this; omega, hj.2⟩)⟩
  case hIm =>
    rintro s M V s' V' ⟨D, pg, v, T2, W2, rfl, hc⟩ hm
    exact ⟨D, pg, v, T2, W2, rfl, hc.mark LO.out rfl l0 RT.out FT.out hm⟩
  case hIx =>
    rintro c M V V' h _
    exact h
  case hAx =>
    rintro s enc M a' V V' ⟨⟨D, pg, v, T2, W2, rfl, hc⟩, hh, n, er, pb, he, hb, hp, ha⟩ hM k
    have e8 : (W7.alloc (.deferred (some []))).heap.size = w1.heap.size + 5 := by rw [World.size_alloc, s7]
    refine ⟨⟨D, pg, v, T2, W2, rfl, hc.turn LO.out rfl l0 k (fun j hj => ?_)⟩, hh, n, er, pb, he, k.block hb (by rw [e8]; omega), hp, ha⟩
    have hj : j = _ := hj
    subst hj
    exact ⟨by rw [e8]; omega, hM⟩
  case hS =>
    rintro s M V ⟨D, pg, v, T2, W2, rfl, hc⟩
    exact hc.read FEW.out
  case h0 => exact ⟨_, _, _, _, _, rfl, C0.out⟩
  case hassign =>
    rintro s enc M V hdue ⟨D, pg, v, T2, W2, rfl, hc⟩ _ hlt
    obtain ⟨hh, n, er, rfl⟩ : ∃ hh n er, enc = #[pv hh n, .int .i64 er] := by
      rcases hdue with ⟨_, p, st, _, e⟩ | ⟨_, _, e⟩
      · exact ⟨_, _, _, e⟩
      · exact ⟨_, _, _, e⟩
    have HC : Aside _ := hc
    have LT : Aside (w1.heap.size + 5 < V.heap.size) := by rw [World.size_alloc, s7] at hlt; exact hlt
    clear hdue hc hlt C0
    gi_wp2
    exact ⟨((K.refl V).alloc _).kept _, ⟨D, pg, v, T2, W2, rfl, HC.out.kk LO.out rfl l0 ((K.refl V).alloc _)⟩, hh, n, er, _, rfl, World.alloc_heap_new V (pbx hh n), LT.out, rfl⟩
  case hbody =>
    rintro s enc M a' V hdue _ _ ⟨⟨D, pg, v, T2, W2, rfl, hc⟩, hh, n, er, pb, henc, hb, hp, rfl⟩
    clear C0
    rcases hdue with ⟨e0, p1, st, e1, rfl⟩ | ⟨e0, e1, rfl⟩
    · obtain ⟨h1, st1, m, g1⟩ := s
      simp only at e0 e1
      subst e0 e1
      have he : pv p1.1 p1.2 = pv hh n ∧ er = 0 := by
        have h0 := congrArg (fun a : Array Value => a[0]?) henc
        have h1 := congrArg (fun a : Array Value => a[1]?) henc
        simp at h0 h1
        exact ⟨by simpa using h0, h1.symm⟩
      obtain ⟨hpv, rfl⟩ := he
      obtain ⟨ph, pn⟩ := p1
      obtain ⟨i, tr, ps, rfl, rfl, z, pm, ok⟩ := hc.due RT.out FT.out
      obtain ⟨ih, ⟨pa, pb1, pc, pd, pe, pf⟩, ik, ix⟩ := i
      obtain ⟨na, nb, nc, nd, ne, nf⟩ := n
      have hpv2 : ih = hh ∧ pa = na ∧ pb1 = nb ∧ pc = nc ∧ pd = nd ∧ pe = ne ∧ pf = nf := by simpa using hpv
      obtain ⟨rfl, rfl, rfl, rfl, rfl, rfl, rfl⟩ := hpv2
      have HC : Aside _ := hc
      have OK : Aside _ := ok
      have Z : Aside _ := z
      have PM : Aside _ := pm
      obtain ⟨d0, d1, d2, d3, d4, d5, d6⟩ := seven hb
      have FM : Aside (Fm w0 A c T W ⟨ih, ⟨pa, pb1, pc, pd, pe, pf⟩, ik, ix⟩ D pg v V 0 V) := Fm.start hc.fs
      clear hc henc hpv hp ok z pm
      gi_wp2
      gi_loopg [30] 3 (fun gh kv wr => ∃ k : Nat, gh = 3 - k ∧ kv = .int .i64 k ∧ k ≤ 3 ∧ Aside (Fm w0 A c T W ⟨ih, ⟨pa, pb1, pc, pd, pe, pf⟩, ik, ix⟩ D pg v V k wr))
      case atStart => exact ⟨0, rfl, rfl, by omega, FM.out⟩
      case round =>
        obtain ⟨k, rfl, rfl, hk, HF⟩ := hrel
        clear d0 d1 d2 d3 d4 d5 d6 FM hb
        have BS : Aside (∀ {V2 : World} {k : Nat}, Fm w0 A c T W ⟨ih, ⟨pa, pb1, pc, pd, pe, pf⟩, ik, ix⟩ D pg v V k V2 → V2.cell? ⟨w.heap.size, 0, none⟩ = some (sp A.st)) := fun f => (f.kp.boxed HC.out.bs (fun hf => by have := HC.out.out _ hf; omega)).cell
        by_cases hlt : k < 3
        · have cs := BS.out HF.out
          have cd := HF.out.drop (OK.out k hlt)
          have hix := fun w' => run_ix3 ⟨ih, ⟨pa, pb1, pc, pd, pe, pf⟩, ik, ix⟩ hlt w'
          simp only at hix
          obtain ⟨y, ey⟩ : ∃ y, Wa.hk ⟨ih, ⟨pa, pb1, pc, pd, pe, pf⟩, ik, ix⟩ k = y := ⟨_, rfl⟩
          rw [ey] at cd hix
          clear HF BS ey
          gi_wp2
          refine ⟨trivial, rfl, (callsIn_wide.2 cd).mono ?_⟩
          rintro e w3 ⟨rfl, h3⟩
          clear cd cs
          gi_wp2
          gi_roundg (3 - (k + 1))
          case measure => omega
          case rel => exact ⟨k + 1, rfl, by go_num, by omega, h3.out⟩
        · obtain rfl : k = 3 := by omega
          have NX : Aside _ := HC.out.next l0 Z.out PM.out HF.out
          have KP : Aside _ := HF.out.kp
          clear HF BS
          gi_wp2
          obtain ⟨pg2, T3, W3, f3, gr⟩ := NX.out
          exact ⟨KP.out, ⟨pd, st, m, vw T3 W3⟩, _, ⟨rfl, _, _, rfl, rfl, rfl, Nat.le_refl _⟩, ⟨_, _, _, rfl, _, _, f3⟩, gr⟩
    · obtain ⟨n0, g1, g2⟩ := hc.good RT.out e0
      rcases e1 with e1 | e1
      · rw [e1] at g1
        cases g1
      · exact absurd e1 g2
  case hdone =>
    rintro s M V hend ⟨D, pg, v, T2, W2, rfl, hc⟩
    obtain ⟨e1, e2⟩ := hend
    have HC : Aside _ := hc
    have HL : Aside (W7.heap.size = w1.heap.size + 4) := s7
    have HD : Aside (V.heap[w1.heap.size + 4]? = some (.deferred (some []))) := hc.d
    have k6 : Kept (fun j => j = w1.heap.size + 4) V (V.putObj (w1.heap.size + 4) (.deferred none)) := (Kept.refl _ V).putObj _ (.inl rfl)
    have FIN : Aside _ := hc.fin LO.out rfl l0 FT.out e1 e2 k6
    clear hc C0 e1 e2 k6
    gi_wp2
    rw [HL.out]
    refine ⟨by simp, .inl ⟨_, _, rfl, run_takeDeferred HD.out, .int .i64 0, ?_, rfl, FIN.out⟩⟩
    simp [results, Tryz.f11, go_sem]
  case hstop =>
    rintro c M V h
    exact h.elim
theorem free_any (h : Gs w0 w A c T W) (hu : U64 t.root) (rt : Right (vw T W) t) : Calls Tryz.prog 11 #[sp A.st, .int .u64 t.root] w fun e w' => e = .returned (.int .i64 0) ∧ Aside (FreeT w0 w A c T W t w') := callsIn_wide.1 (free_in h hu rt)

end Wa
end Go.Proofs.YtbbjfebdihepnabGreatDoor
