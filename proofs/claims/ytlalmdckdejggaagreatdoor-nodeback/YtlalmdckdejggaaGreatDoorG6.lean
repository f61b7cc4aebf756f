/-
  The walk of package compact's Run.
-/
import Derived.Test.YtlalmdckdejggaaGreatDoorG5
namespace Go.Proofs.YtlalmdckdejggaaGreatDoor
open Go.RowKit Go.Maps
attribute [local go_sem] Oper.semAt_some
namespace Co
open Hp (Kept K No Pg BlR Bl Wl Grows wide liveL outer lt_of_cell slideL Kept.grow)
open Go.Proofs.YtlalmdckdejggaaGreatDoor.So (Ad Sb Sw Rec sp rmI Stp Bx foot)
variable {w w' : World} {B c : Nat} {A : Ad} {pg : List (Int × Nat)} {W : Int → Int} {L : List Pg} {v : Value} {T : List Hd.Sl} {bu : Int}

theorem run_mkb (w : World) : (Instr.makeSlice 109 (.int .i64 8) (.int .i64 8)).run Tryz.prog w = .ok (.slice (some ⟨w.heap.size, 0, none⟩) 8 8) (w.alloc (.cells (kRow fun _ => false) 4)) := by
  kernel_rfl

set_option maxRecDepth 100000 in
set_option maxHeartbeats 2000000 in
theorem run_in (h : Sw w B A pg W L v T) (hB : B ≤ w.heap.size) (hc : Bx A pg v w c 108 (sp A.st)) (b0 : 0 ≤ bu) (b1 : bu ≤ 9223372036854775807) : CallsIn Fence.wide 0 Tryz.prog 18 #[cp c, .int .i64 bu] w fun e w' => e = .returned (.tuple #[.int .i64 (pass bu L T).n, .bool (decide ((pass bu L T).n < bu)), .int .i64 0]) ∧ ∃ pg' W' v', Sw w' B A pg' W' (pass bu L T).L v' (pass bu L T).T ∧ Wk T W (pass bu L T).T W' ∧ Stp A pg pg' v v' w w' := by
  obtain ⟨w1, hw1⟩ : ∃ w1, w1 = (w.alloc (.cells #[cp c] 60)).alloc (.cells #[.int .i64 bu] 3) := ⟨_, rfl⟩
  have k1 : K w w1 := by rw [hw1]; exact ((K.refl w).alloc _).alloc _
  have hs1 : w1.heap.size = w.heap.size + 2 := by rw [hw1]; simp
  have q0 : Boxed w1 w.heap.size 60 (cp c) := by rw [hw1]; exact (Boxed.new _ _ _).alloc _
  have q1 : Boxed w1 (w.heap.size + 1) 3 (.int .i64 bu) := by
    rw [hw1]
    have := Boxed.new (w.alloc (.cells #[cp c] 60)) 3 (.int .i64 bu)
    simpa using this
  have hm := made_ok (hc.keep k1).cell
  have d1 := q1.cell
  have hlt1 : w.heap.size + 1 < w1.heap.size := by omega
  have cl := fun w1 => Cl.classes_any w1
  have Q : Aside _ := And.intro q0 q1
  refine callsIn_of_wp_marks Tryz.func18 rfl trivial ?_ rfl
  simp only [Tryz.ntmps18, List.size_toArray, List.length_cons, List.length_nil, Nat.reduceAdd, Nat.reduceSub, Array.replicate_succ, Array.replicate_zero, List.push_toArray, List.append_toArray, List.nil_append, List.cons_append]
  gi_wp2
  rw [← hw1]
  clear hw1
  refine ⟨trivial, rfl, (callsIn_wide.2 hm).mono ?_⟩
  rintro e w' ⟨rfl, rfl⟩
  gi_wp2
  obtain ⟨wn, hwn⟩ : ∃ wn, wn = w1.alloc (.cells #[.int .i64 0] 3) := ⟨_, rfl⟩
  have kn : K w1 wn := by rw [hwn]; exact (K.refl w1).alloc _
  have qn : Boxed wn (w.heap.size + 2) 3 (.int .i64 0) := by
    rw [hwn, ← hs1]
    exact Boxed.new _ _ _
  rw [← hwn]
  clear hwn
  refine ⟨trivial, rfl, (callsIn_wide.2 (cl _)).mono ?_⟩
  rintro e w2 ⟨rfl, ⟨k2⟩⟩
  have k2 := K.of_below k2
  have k12 := kn.trans k2
  have qn2 := k2.boxed qn
  have q02 := k12.boxed q0
  have q12 := k12.boxed q1
  have d0 := q02.cell
  have hlt2 : w.heap.size + 2 < w2.heap.size := lt_of_cell qn2.cell
  obtain ⟨w3, hw3⟩ : ∃ w3, w3 = (w2.alloc (.cells (kRow fun _ => false) 4)).alloc (.cells #[.slice (some ⟨w2.heap.size, 0, none⟩) 8 8] 109) := ⟨_, rfl⟩
  have k3 : K w2 w3 := by rw [hw3]; exact ((K.refl w2).alloc _).alloc _
  have hs3 : w3.heap.size = w2.heap.size + 2 := by rw [hw3]; simp
  have qr : w3.heap[w2.heap.size]? = some (.cells (kRow fun _ => false) 4) := by rw [hw3]; exact ((K.refl _).alloc _).block (World.alloc_heap_new _ _)
  have qs : Boxed w3 (w2.heap.size + 1) 109 (.slice (some ⟨w2.heap.size, 0, none⟩) 8 8) := by
    rw [hw3]
    have := Boxed.new (w2.alloc (.cells (kRow fun _ => false) 4)) 109 (.slice (some ⟨w2.heap.size, 0, none⟩) 8 8)
    simpa using this
  have mk := run_mkb w2
  have hlt20 : w.heap.size < w2.heap.size := by omega
  have HS : Aside _ := hlt2
  clear hlt2
  gi_wp2
  rw [← hw3]
  have hlt2 := HS.out
  clear hw3 mk cl hm hlt20
  obtain ⟨w4, hw4⟩ : ∃ w4, w4 = w3.alloc (.deferred (some [])) := ⟨_, rfl⟩
  have k4 : K w3 w4 := by rw [hw4]; exact (K.refl w3).alloc _
  have hs4 : w4.heap.size = w3.heap.size + 1 := by rw [hw4]; simp
  have hd4 : w4.heap[w3.heap.size]? = some (.deferred (some [])) := by rw [hw4]; exact World.alloc_heap_new _ _
  have f : Fx w w4 A c w2.heap.size := ⟨lt_of_cell h.b.hp.hw.c0, h.b.lt, Hp.lt0 h.b.hp.hw.tab, hc.lt, hlt2, by omega⟩
  have kw3 : K w w3 := (k1.trans k12).trans k3
  have kw4 : K w w4 := kw3.trans k4
  have q04 := (k3.trans k4).boxed q02
  have q14 := (k3.trans k4).boxed q12
  have qn4 := (k3.trans k4).boxed qn2
  have qs4 := k4.boxed qs
  have qr4 := k4.block qr
  have r0 : Rz w w4 B A c pg v W T w2.heap.size pg W v ⟨L, T, 0, fun _ => false⟩ w4 := ⟨h.keep kw4, Wk.refl T W, Stp.ofK kw4, fun k h1 h2 => ⟨fun hf => (by have := h.b.flt hf; omega), fun _ _ => rfl⟩, qn4, qr4, Nat.le_refl _, hc.keep kw4⟩
  have ts := tried_seq (h.keep kw3) (hc.keep kw3).cell (Mz w A w2.heap.size pg v)
  have hwl := h.b.wl
  have hrc := h.r
  have hfl := fun k (hf : foot A pg v k) => h.b.flt hf
  have HH : Aside _ := h
  clear d0 d1 Q hlt1 h
  refine range_S (r := none) (w' := w3.alloc (.deferred (some []))) (mark := [{ target := .collected w3.heap.size, args := #[] }]) (gf := 47) (ba := #[cp c]) (cp := #[]) rfl (enters_of Tryz.func47 (by kernel_rfl) rfl) (fun fn => outer w3)
    ts ((K.refl w3).alloc _) (fun k hk => by
      rw [← hw4]
      rcases hk with hk | hk | hk
      · have := hfl k hk; have := kw4.size; omega
      · omega
      · omega) (fun _ => rfl)
    (fun pre M V => ∃ pg' W' v', M = Mz w A w2.heap.size pg' v' ∧ Rz w w4 B A c pg v W T w2.heap.size pg' W' v' (zAt bu L T pre) V)
    (fun cd pre M V => cd = .exit 0 ∧ (zAt bu L T pre).n = bu ∧ ∃ pg' W' v', M = Mz w A w2.heap.size pg' v' ∧ Rz w w4 B A c pg v W T w2.heap.size pg' W' v' (zAt bu L T pre) V)
    (fun pre x M a' V => ∃ pg' W' v', M = Mz w A w2.heap.size pg' v' ∧ Rz w w4 B A c pg v W T w2.heap.size pg' W' v' (zAt bu L T pre) V ∧ ∃ D, w4.heap.size < D ∧ ¬ foot A pg' v' D ∧ V.heap[D]? = some (.cells #[.int .u64 x.h, .int .i64 x.c, .bool x.s] 112) ∧ a' = ruAct c w2.heap.size w.heap.size (w2.heap.size + 1) D bu (xV x) (.bool (decide (bu < 0))) undef undef undef undef undef undef undef undef undef undef undef undef undef undef undef undef undef undef undef undef undef undef undef undef)
    ?hI ?hIx ?hAx ?hS ?h0 ?hassign ?hbody ?hdone ?hstop
  case hI =>
    rintro s M A' B' ⟨pg', W', v', rfl, hr⟩ k
    rw [← hw4] at k
    exact ⟨pg', W', v', rfl, hr.off f k⟩
  case hIx =>
    rintro cd s M A' B' ⟨hcd, hn, pg', W', v', rfl, hr⟩ k
    rw [← hw4] at k
    exact ⟨hcd, hn, pg', W', v', rfl, hr.off f k⟩
  case hAx =>
    rintro s x M a' A' B' ⟨pg', W', v', rfl, hr, D, hD, hDf, hx, ha⟩ hM k
    rw [← hw4] at k hM
    have k' := k.mono (O' := Off w4.heap.size (Mz w A w2.heap.size pg' v')) (fun j _ hj => by subst hj; exact ⟨Nat.le_refl _, hM⟩)
    exact ⟨pg', W', v', rfl, hr.off f k', D, hD, hDf, k.block hx (by omega), ha⟩
  case hS =>
    rintro s M A' ⟨pg', W', v', rfl, hr⟩
    exact hr.rd
  case h0 =>
    rw [← hw4]
    exact ⟨pg, W, v, rfl, r0⟩
  case hassign =>
    rintro pre x M V _ ⟨pg', W', v', rfl, hr⟩ _ hl
    rw [← hw4] at hl
    gi_wp2
    exact ⟨(Kept.refl _ _).alloc _, pg', W', v', rfl, hr.keep f ((K.refl V).alloc _), _, hl, fun hf => (by have := hr.sw.b.flt hf; omega), World.alloc_heap_new _ _, rfl⟩
  case hbody =>
    rintro pre x M a' V hpre hrec hMl ⟨pg', W', v', rfl, hr, D, hD, hDf, hx, rfl⟩
    have hz := zAt_n (bu := bu) (L := L) (T := T) pre
    have hzi := zAt_inv (bu := bu) hwl hrc hpre
    have hzl : (zAt bu L T pre).n ≤ bu := fold_le pre (z := ⟨L, T, 0, fun _ => false⟩) b0
    have hzs := zAt_snoc (bu := bu) (L := L) (T := T) pre x
    have HZ : Aside _ := And.intro hz (And.intro hzi hzs)
    have HL : Aside _ := hzl
    have HR : Aside _ := hr
    have HX : Aside _ := hx
    have c7 : V.cell? ⟨w.heap.size + 2, 0, none⟩ = some (.int .i64 (zAt bu L T pre).n) := by simp [World.cell?, hr.n]
    have c3 := Boxed.cell (hr.box q14 (by omega) (by omega) (by omega))
    have c2 := Boxed.cell (hr.box q04 (by omega) (by omega) (by omega))
    have c8 := Boxed.cell (hr.box qs4 (by omega) (by omega) (by omega))
    have x0 : V.cell? ⟨D, 0, none⟩ = some (.int .u64 x.h) := by simp [World.cell?, hx]
    have x1 : V.cell? ⟨D, 1, none⟩ = some (.int .i64 x.c) := by simp [World.cell?, hx]
    have x2 : V.cell? ⟨D, 2, none⟩ = some (.bool x.s) := by simp [World.cell?, hx]
    have hmix : Tryz.prog.follows .mixedOrders = true := by kernel_rfl
    clear hr hx hz hzi hzs hzl
    generalize hzz : zAt bu L T pre = z at *
    cases hne : (z.n == bu) with
    | true =>
      have en : z.n = bu := by simpa using hne
      have EN : Aside _ := en
      clear en
      gi_wp2
      have e1 : zAt bu L T (pre ++ [x]) = z := by rw [HZ.out.2.2]; unfold proc; rw [if_pos EN.out]
      refine ⟨Kept.refl _ _, _, ⟨rfl, by rw [e1]; exact EN.out, pg', W', v', rfl, by rw [e1]; exact HR.out⟩, fun k hk => .inl hk⟩
    | false =>
      have en : z.n ≠ bu := by simpa using hne
      have EN : Aside _ := en
      have hat := HZ.out.2.1 en
      have hll := HL.out
      have hlt : z.n < bu := by omega
      have LT : Aside _ := hlt
      clear en hll hlt
      have sl : ∀ V1, K V V1 → Calls Tryz.prog 33 #[sp A.st, .int .u64 x.h] V1 fun e w' => e = .returned (.tuple #[.bool ((slideL z.L x.a).1 != x.a), .int .i64 0]) ∧ (∃ pg2 W2, Rz w w4 B A c pg v W T w2.heap.size pg2 W2 v' ⟨(tryX z x).L, (tryX z x).T, z.n, z.k⟩ w' ∧ Kept (Mz w A w2.heap.size pg' v') V w' ∧ Grows (Mz w A w2.heap.size pg' v') (Mz w A w2.heap.size pg2 v') V ∧ w'.heap[D]? = some (.cells #[.int .u64 x.h, .int .i64 x.c, .bool x.s] 112)) := fun V1 kv => by
        have sw1 := HR.out.sw.keep kv
        refine (slide_x sw1 (Nat.le_trans hB (Nat.le_trans kw4.size (Nat.le_trans HR.out.sz kv.size))) hat hrc HR.out.wk).mono ?_
        rintro e V2 ⟨rfl, pg2, W2, sw2, wk2, st2⟩
        obtain ⟨r1, r2, r3⟩ := HR.out.slide f kv sw2 wk2 st2
        exact ⟨rfl, pg2, W2, r1, r2, r3, st2.block (kv.block HX.out) hDf⟩
      have hb3 : ∀ V1, K V V1 → V1.cell? ⟨w.heap.size, 0, none⟩ = some (cp c) ∧ V1.cell? ⟨c, 0, none⟩ = some (sp A.st) ∧ V1.cell? ⟨D, 0, none⟩ = some (.int .u64 x.h) := fun V1 kv => ⟨kv.cell c2, kv.cell HR.out.cb.cell, kv.cell x0⟩
      have SL : Aside _ := And.intro sl hb3
      clear sl hb3
      cases hs : x.s with
      | true =>
        obtain ⟨d0, d1⟩ := cls_x HR.out.sw.b.wl hat.2 hs
        obtain ⟨jc, hjc, hj8, hjk⟩ := kRow_get (k := z.k) d0 d1
        have ck : V.cell? ⟨w2.heap.size, x.c.toNat, none⟩ = some (.bool (z.k x.c)) := by
          have : x.c.toNat = jc := by omega
          simp [World.cell?, HR.out.k, this, hjk]
        have d8 : x.c < 8 := by omega
        clear hjc hj8 hjk d1
        cases hk : z.k x.c with
        | true =>
          rw [hk] at ck
          have P : Aside _ := proc_skip (bu := bu) EN.out hs hk
          gi_wp2
          refine ⟨Kept.refl _ _, _, ⟨pg', W', v', rfl, by rw [HZ.out.2.2, P.out]; exact HR.out⟩, fun k hk => .inl hk⟩
        | false =>
          rw [hk] at ck
          gi_wp2
          refine wpIn_region_any hmix ?_
          change wpAnyIn _ _ _ _ _ _ _ _ _ (World.drew _)
          refine run_region SL.out.2 SL.out.1 ?_ (K.drew (K.refl V))
          rintro V2 ⟨pg2, W2, r2, kp2, g2, hx2⟩
          have y7 : V2.cell? ⟨w.heap.size + 2, 0, none⟩ = some (.int .i64 z.n) := by simp [World.cell?, r2.n]
          have y7f : V2.frozen? ⟨w.heap.size + 2, 0, none⟩ = false := by simp [World.frozen?, r2.n]
          have y8 := Boxed.cell (r2.box qs4 (by omega) (by omega) (by omega))
          have y1 : V2.cell? ⟨D, 1, none⟩ = some (.int .i64 x.c) := by simp [World.cell?, hx2]
          have y2 : V2.cell? ⟨D, 2, none⟩ = some (.bool x.s) := by simp [World.cell?, hx2]
          have R2 : Aside _ := And.intro r2 (And.intro kp2 (And.intro g2 hx2))
          clear r2 kp2 g2 hx2 c2 c3 c7 c8 x0 x1 x2
          have yk : V2.cell? ⟨w2.heap.size, x.c.toNat, none⟩ = some (.bool (z.k x.c)) := by
            obtain ⟨jc, hjc, hj8, hjk⟩ := kRow_get (k := z.k) d0 (show x.c ≤ 7 by omega)
            have : x.c.toNat = jc := by omega
            simp [World.cell?, R2.out.1.k, this, hjk]
          have ykf : V2.frozen? ⟨w2.heap.size, x.c.toNat, none⟩ = false := by simp [World.frozen?, R2.out.1.k]
          clear ck
          cases hmv : ((slideL z.L x.a).1 != x.a) with
          | true =>
            obtain ⟨n1, n2⟩ := R2.out.1.setN f (z.n + 1)
            have hwr : wrap64 (z.n + 1) = z.n + 1 := by have := HZ.out.1; have := LT.out; unfold wrap64; omega
            have N : Aside _ := And.intro n1 n2
            have P : Aside _ := proc_moved EN.out (by rw [hk]; rintro ⟨_, h⟩; cases h) (show (slideL z.L x.a).1 ≠ x.a by simpa using hmv)
            clear n1 n2
            gi_wp2
            rw [← hw4]
            refine ⟨Kept.grow R2.out.2.1 R2.out.2.2.1 N.out.2, _, ⟨pg2, W2, v', rfl, by rw [HZ.out.2.2, P.out]; exact N.out.1⟩, R2.out.2.2.1⟩
          | false =>
            obtain ⟨n1, n2⟩ := R2.out.1.setK f d0 (show x.c ≤ 7 by omega)
            have N : Aside _ := And.intro n1 n2
            have P : Aside _ := proc_stuck EN.out (by rw [hk]; rintro ⟨_, h⟩; cases h) hs (show (slideL z.L x.a).1 = x.a by simpa using hmv)
            clear n1 n2
            gi_wp2
            rw [← hw4]
            refine ⟨Kept.grow R2.out.2.1 R2.out.2.2.1 N.out.2, _, ⟨pg2, W2, v', rfl, by rw [HZ.out.2.2, P.out]; exact N.out.1⟩, R2.out.2.2.1⟩
      | false =>
        gi_wp2
        refine wpIn_region_any hmix ?_
        change wpAnyIn _ _ _ _ _ _ _ _ _ (World.drew _)
        refine run_region SL.out.2 SL.out.1 ?_ (K.drew (K.refl V))
        rintro V2 ⟨pg2, W2, r2, kp2, g2, hx2⟩
        have y7 : V2.cell? ⟨w.heap.size + 2, 0, none⟩ = some (.int .i64 z.n) := by simp [World.cell?, r2.n]
        have y7f : V2.frozen? ⟨w.heap.size + 2, 0, none⟩ = false := by simp [World.frozen?, r2.n]
        have y8 := Boxed.cell (r2.box qs4 (by omega) (by omega) (by omega))
        have y1 : V2.cell? ⟨D, 1, none⟩ = some (.int .i64 x.c) := by simp [World.cell?, hx2]
        have y2 : V2.cell? ⟨D, 2, none⟩ = some (.bool x.s) := by simp [World.cell?, hx2]
        have R2 : Aside _ := And.intro r2 (And.intro kp2 (And.intro g2 hx2))
        clear r2 kp2 g2 hx2 c2 c3 c7 c8 x0 x1 x2
        cases hmv : ((slideL z.L x.a).1 != x.a) with
        | true =>
          obtain ⟨n1, n2⟩ := R2.out.1.setN f (z.n + 1)
          have hwr : wrap64 (z.n + 1) = z.n + 1 := by have := HZ.out.1; have := LT.out; unfold wrap64; omega
          have N : Aside _ := And.intro n1 n2
          have P : Aside _ := proc_moved EN.out (by rw [hs]; rintro ⟨h, _⟩; cases h) (show (slideL z.L x.a).1 ≠ x.a by simpa using hmv)
          clear n1 n2
          gi_wp2
          rw [← hw4]
          refine ⟨Kept.grow R2.out.2.1 R2.out.2.2.1 N.out.2, _, ⟨pg2, W2, v', rfl, by rw [HZ.out.2.2, P.out]; exact N.out.1⟩, R2.out.2.2.1⟩
        | false =>
          have P : Aside _ := proc_large EN.out hs (show (slideL z.L x.a).1 = x.a by simpa using hmv)
          gi_wp2
          refine ⟨R2.out.2.1, _, ⟨pg2, W2, v', rfl, by rw [HZ.out.2.2, P.out]; exact R2.out.1⟩, R2.out.2.2.1⟩
  case hdone =>
    rintro M V ⟨pg', W', v', rfl, hr⟩
    have hf := hr.box hd4 (by omega) (by omega) (by omega)
    have c7 : V.cell? ⟨w.heap.size + 2, 0, none⟩ = some (.int .i64 (zAt bu L T (order L T)).n) := by simp [World.cell?, hr.n]
    have c3 := Boxed.cell (hr.box q14 (by omega) (by omega) (by omega))
    gi_wp2
    gi_region
    gi_wp2
    obtain ⟨f1, f2, f3⟩ := hr.fin f (((Kept.refl (fun j => j = w3.heap.size) V).drew).putObj (l := w3.heap.size) (.deferred none) (.inl rfl)) (by omega) (by omega)
    rw [show pass bu L T = zAt bu L T (order L T) from rfl]
    refine ⟨by simp, .inl ⟨_, _, rfl, run_takeDeferred hf, .tuple #[.int .i64 (zAt bu L T (order L T)).n, .bool (decide ((zAt bu L T (order L T)).n < bu)), .int .i64 0], ?_, rfl, pg', W', v', f1, f2, f3⟩⟩
    simp [results, Tryz.f18, go_sem]
  case hstop =>
    rintro cd pre M V hpre ⟨rfl, hn, pg', W', v', rfl, hr⟩
    have e : pass bu L T = zAt bu L T pre := by
      obtain ⟨t, ht⟩ := hpre
      show zAt bu L T (order L T) = _
      rw [← ht]
      exact zAt_used hn
    have hf := hr.box hd4 (by omega) (by omega) (by omega)
    have c7 : V.cell? ⟨w.heap.size + 2, 0, none⟩ = some (.int .i64 (zAt bu L T pre).n) := by simp [World.cell?, hr.n]
    have c3 := Boxed.cell (hr.box q14 (by omega) (by omega) (by omega))
    have E : Aside _ := e
    clear e hn
    gi_wp2
    gi_region
    gi_wp2
    obtain ⟨f1, f2, f3⟩ := hr.fin f (((Kept.refl (fun j => j = w3.heap.size) V).drew).putObj (l := w3.heap.size) (.deferred none) (.inl rfl)) (by omega) (by omega)
    rw [E.out]
    refine ⟨by simp, .inl ⟨_, _, rfl, run_takeDeferred hf, .tuple #[.int .i64 (zAt bu L T pre).n, .bool (decide ((zAt bu L T pre).n < bu)), .int .i64 0], ?_, rfl, pg', W', v', f1, f2, f3⟩⟩
    simp [results, Tryz.f18, go_sem]

theorem run_any (h : Sw w B A pg W L v T) (hB : B ≤ w.heap.size) (hc : Bx A pg v w c 108 (sp A.st)) (b0 : 0 ≤ bu) (b1 : bu ≤ 9223372036854775807) : Calls Tryz.prog 18 #[cp c, .int .i64 bu] w fun e w' => e = .returned (.tuple #[.int .i64 (pass bu L T).n, .bool (decide ((pass bu L T).n < bu)), .int .i64 0]) ∧ ∃ pg' W' v', Sw w' B A pg' W' (pass bu L T).L v' (pass bu L T).T ∧ Wk T W (pass bu L T).T W' ∧ Stp A pg pg' v v' w w' :=
  callsIn_wide.1 (run_in h hB hc b0 b1)

end Co
end Go.Proofs.YtlalmdckdejggaaGreatDoor
