/-
  The walk of package compact's tried: the iterator's contract.
-/
import Derived.Test.YtlalmdckdejggaaGreatDoorG3
import Derived.LoopIn
import Derived.LoopNIn
import Derived.TacticsInMore
import Derived.OwnWalkIn
namespace Go.Proofs.YtlalmdckdejggaaGreatDoor
open Go.RowKit Go.Maps
attribute [local go_sem] Oper.semAt_some
namespace Co
open Hp (Kept K No Pg BlR Bl Wl Grows wide liveL outer lt_of_cell)
open Go.Proofs.YtlalmdckdejggaaGreatDoor.So (Ad Sb Sw Rec sp rmI)
variable {w w' : World} {B c : Nat} {A : Ad} {pg : List (Int × Nat)} {W : Int → Int} {L : List Pg} {v : Value} {T : List Hd.Sl}

/-- A round of an outer loop, called in an inner one. -/
theorem round_any {m m' l l' : Nat} {P : Program} {f : FuncId} {tmps : Array Value} {assign body : Code} {w : World} {R : Ending → World → Prop} (h : RoundIn Fence.wide m P l f tmps assign body w R) : RoundIn (wide (some l')) m' P l f tmps assign body w R :=
  ⟨h.1, fun c cs _ => h.2 c cs (room_wide _)⟩

/-- The iterator's own blocks, in the world in which its first loop begins. -/
structure Ow (W0 w4 V : World) (M : Nat → Prop) : Prop where
  own : ∀ k, W0.heap.size ≤ k → k < w4.heap.size → ¬ M k ∧ V.heap[k]? = w4.heap[k]?
  size : w4.heap.size ≤ V.heap.size
theorem Ow.off {W0 w4 V V' : World} {M Mi : Nat → Prop} (h : Ow W0 w4 V M) (k : Kept (Off w4.heap.size Mi) V V') : Ow W0 w4 V' M :=
  ⟨fun j h1 h2 => ⟨(h.own j h1 h2).1, (k.same j (Nat.lt_of_lt_of_le h2 h.size) (fun h => by have := h.1; omega)).trans (h.own j h1 h2).2⟩, Nat.le_trans h.size k.size⟩
theorem Ow.round {W0 w4 V V' : World} {M M' : Nat → Prop} {l : Nat} (h : Ow W0 w4 V M) (k : Kept (fun k => M k ∨ k = l) V V') (g : Grows M M' V) (hl : l < W0.heap.size) : Ow W0 w4 V' M' :=
  ⟨fun j h1 h2 => ⟨fun hm => (by
    rcases g j hm with h3 | h3
    · exact (h.own j h1 h2).1 h3
    · have := h.size
      omega), (k.same j (Nat.lt_of_lt_of_le h2 h.size) (fun h3 => by
    rcases h3 with h3 | h3
    · exact (h.own j h1 h2).1 h3
    · omega)).trans (h.own j h1 h2).2⟩, Nat.le_trans h.size k.size⟩
theorem Ow.keep {W0 w4 V V' : World} {M : Nat → Prop} (h : Ow W0 w4 V M) (k : K V V') : Ow W0 w4 V' M :=
  ⟨fun j h1 h2 => ⟨(h.own j h1 h2).1, (k.same j (Nat.lt_of_lt_of_le h2 h.size) (fun x => x)).trans (h.own j h1 h2).2⟩, Nat.le_trans h.size k.size⟩
theorem Ow.block {W0 w4 V : World} {M : Nat → Prop} (h : Ow W0 w4 V M) {j : Nat} {o : Obj} (hb : w4.heap[j]? = some o) (h1 : W0.heap.size ≤ j) : V.heap[j]? = some o :=
  (h.own j h1 (Array.getElem?_eq_some_iff.1 hb).1).2.trans hb

set_option maxRecDepth 100000 in
set_option maxHeartbeats 2000000 in
theorem tried_seq (h : Sw w B A pg W L v T) (hc : w.cell? ⟨c, 0, none⟩ = some (sp A.st)) (O : Nat → Prop) : SeqS Tryz.prog 47 #[cp c] #[] (fun x => #[xV x]) (order L T) O (fun _ wx => Rd B A c T W wx) w := fun m r J Jx W0 k0 hr0 hOlt hJ hJx hJS hY h0 => by
  obtain ⟨w1, hw1⟩ : ∃ w1, w1 = (W0.alloc (.cells #[cp c] 60)).alloc (.cells #[.func (.yield r) #[] #[]] 163) := ⟨_, rfl⟩
  have kB : K W0 w1 := by rw [hw1]; exact ((K.refl W0).alloc _).alloc _
  have hS := h.keep (k0.trans kB)
  have hc1 := (k0.trans kB).cell hc
  have b0 : Boxed w1 W0.heap.size 60 (cp c) := by rw [hw1]; exact (Boxed.new _ _ _).alloc _
  have b1 : Boxed w1 (W0.heap.size + 1) 163 (.func (.yield r) #[] #[]) := by
    rw [hw1]
    have := Boxed.new (W0.alloc (.cells #[cp c] 60)) 163 (.func (.yield r) #[] #[])
    simpa using this
  have hsz : w1.heap.size = W0.heap.size + 2 := by rw [hw1]; simp
  have al := So.all_any hS.b
  have hcW := k0.cell hc
  have hclt : c < W0.heap.size := lt_of_cell hcW
  have d0 := b0.cell
  refine callsIn_of_wp_marks Tryz.func47 rfl trivial ?_ rfl
  simp only [Tryz.ntmps47, List.size_toArray, List.length_cons, List.length_nil, Nat.reduceAdd, Nat.reduceSub, Array.replicate_succ, Array.replicate_zero, List.push_toArray, List.append_toArray, List.nil_append, List.cons_append]
  gi_wp2
  rw [← hw1]
  clear hw1
  refine ⟨trivial, fun h => (by cases h), (callsIn_wide.2 al).mono ?_⟩
  rintro e w2 ⟨u, rfl, hown, k2⟩
  have hlt1 : ∀ b, some b = u.ownBlock → w1.heap.size ≤ b ∧ b < w2.heap.size := fun b hb => Hd.own_lt hown hb
  obtain ⟨g, ad, cap, rfl, hga, hcell⟩ := So.row1 hown
  have bw := backward_any (.slice ad (liveL L).length cap) rfl w2
  gi_wp2
  refine ⟨trivial, fun h => (by cases h), (callsIn_wide.2 bw).mono ?_⟩
  rintro e w3 ⟨bb, rfl, hbb, hbx, k3⟩
  have CL : ∀ (i : Nat) x, (hsOf W L)[i]? = some x → w3.cell? ⟨g, i, none⟩ = some (.int .u64 x) := fun i x hi => by
    refine k3.cell (hcell i _ ?_)
    unfold hsOf at hi
    rw [List.getElem?_map] at hi ⊢
    obtain ⟨a, ha, rfl⟩ := Option.map_eq_some_iff.1 hi
    rw [ha]
    rfl
  have hs2 := k2.size
  have hs3 := k3.size
  have hbb0 : W0.heap.size ≤ bb := by omega
  have hgg : 0 < (liveL L).length → W0.heap.size ≤ g ∧ g < w3.heap.size := fun hp => by
    have := hlt1 g (by rw [hga hp]; rfl)
    omega
  have hbs := backward_seq (O := fun k => O k ∨ k = r) hbx (show (liveL L).length = (hsOf W L).length by simp [hsOf]) hga CL (fun h => h.elim (fun h => by have := hOlt _ h; omega) (fun h => by omega)) (fun hp h => by have := hgg hp; exact h.elim (fun h => by have := hOlt _ h; omega) (fun h => by omega)) hS.b.live_le
  obtain ⟨w4, hw4⟩ : ∃ w4, w4 = w3.alloc (.deferred (some [])) := ⟨_, rfl⟩
  have k4 : K w3 w4 := by rw [hw4]; exact (K.refl w3).alloc _
  have hs4 : w4.heap.size = w3.heap.size + 1 := by rw [hw4]; simp
  have hd4 : w4.heap[w3.heap.size]? = some (.deferred (some [])) := by rw [hw4]; exact World.alloc_heap_new _ _
  have kk4 := (k2.trans k3).trans k4
  have q0 := kk4.boxed b0
  have q1 := kk4.boxed b1
  have CL4 : ∀ (i : Nat) x, (hsOf W L)[i]? = some x → w4.cell? ⟨g, i, none⟩ = some (.int .u64 x) := fun i x hi => k4.cell (CL i x hi)
  gi_wp2
  refine range_S (r := none) (w' := w3.alloc (.deferred (some []))) (mark := [{ target := .collected w3.heap.size, args := #[] }]) (gf := 132) (ba := #[]) (cp := #[.pointer (some ⟨bb, 0, none⟩)]) rfl (enters_of Tryz.func132 (by kernel_rfl) rfl) (fun fn => outer w3)
    hbs ((K.refl w3).alloc _) (fun k hk => by rw [← hw4]; exact hk.elim (fun hk => by have := hOlt _ hk; omega) (fun hk => by omega)) (fun _ => rfl)
    (fun pre Mi V => ∃ M : Nat → Prop, Mi = (fun k => M k ∨ k = r) ∧ J (sm L T pre) M V ∧ Ow W0 w4 V M)
    (fun cd pre Mi V => cd = .ret ∧ ∃ M : Nat → Prop, Mi = (fun k => M k ∨ k = r) ∧ (∃ p2, p2 <+: order L T ∧ Jx p2 M V) ∧ Ow W0 w4 V M)
    (fun pre x Mi a' V => (∃ M : Nat → Prop, Mi = (fun k => M k ∨ k = r) ∧ J (sm L T pre) M V ∧ Ow W0 w4 V M) ∧ a' = { tmps := #[cp c, .func (.yield r) #[] #[], .pointer (some ⟨W0.heap.size, 0, none⟩), .pointer (some ⟨W0.heap.size + 1, 0, none⟩), .slice ad (liveL L).length cap, undef, .int .u64 x.2, undef, undef, undef, undef, cp c, .pointer (some ⟨c, 0, none⟩), .pointer (some ⟨c, 0, none⟩), sp A.st, .slice ad (liveL L).length cap, .slice ad (liveL L).length cap, .func (.func 132) #[] #[.pointer (some ⟨bb, 0, none⟩)], .int .i64 (x.1 : Int), .int .u64 x.2, undef, undef, undef, undef, undef, undef, undef, undef, undef, undef, undef, undef, undef, undef, undef, undef, undef, undef, undef, undef, undef, undef, undef, undef, undef, undef, undef, undef, undef, undef], defers := [] })
    ?hI ?hIx ?hAx ?hS ?h0 ?hassign ?hbody ?hdone ?hstop
  case hI =>
    rintro s Mi A' B' ⟨M, rfl, hj, ho⟩ k
    rw [← hw4] at k
    exact ⟨M, rfl, hJ _ _ _ _ hj (k.mono fun j _ hj => ⟨by have := hj.1; omega, fun h => hj.2 (.inl h)⟩), ho.off k⟩
  case hIx =>
    rintro cd s Mi A' B' ⟨hcd, M, rfl, ⟨p2, h1, h2⟩, ho⟩ k
    rw [← hw4] at k
    exact ⟨hcd, M, rfl, ⟨p2, h1, hJx _ _ _ _ h2 (k.mono fun j _ hj => ⟨by have := hj.1; omega, fun h => hj.2 (.inl h)⟩)⟩, ho.off k⟩
  case hAx =>
    rintro s x Mi a' A' B' ⟨⟨M, rfl, hj, ho⟩, rfl⟩ hM k
    rw [← hw4] at k hM
    have k' := k.mono (O' := Off w4.heap.size (fun k => M k ∨ k = r)) (fun j _ hj => by subst hj; exact ⟨Nat.le_refl _, hM⟩)
    exact ⟨⟨M, rfl, hJ _ _ _ _ hj (k'.mono fun j _ hj => ⟨by have := hj.1; omega, fun h => hj.2 (.inl h)⟩), ho.off k'⟩, rfl⟩
  case hS => exact fun _ _ _ _ => trivial
  case h0 =>
    rw [← hw4]
    exact ⟨O, rfl, hJ _ _ _ _ h0 ((kB.trans kk4).kept _), fun k h1 h2 => ⟨fun h => (by have := hOlt _ h; omega), rfl⟩, Nat.le_refl _⟩
  case hassign =>
    rintro pre x Mi V _ hi _ hl
    gi_wp2
    exact ⟨Kept.refl _ _, hi, trivial⟩
  case hbody =>
    rintro pre x Mi a' V hpre hrec hMl ⟨⟨M, rfl, hj, ho⟩, rfl⟩
    have hx := toX_at hS.b.wl hS.r (show x ∈ bk (hsOf W L) from by obtain ⟨t, ht⟩ := hpre; rw [← ht]; simp)
    have hrd := hJS _ _ _ hj
    have lk := Rd.look hS.b.wl hS.r hrd hx.1
    rw [← hx.2] at lk
    have e0 := Boxed.cell (ho.block q0 (by omega))
    have e1 := Boxed.cell (ho.block q1 (by omega))
    have hY2 := fun (hs : (toX L T x).s = true) => hY (sm L T pre) (toX L T x) M
    have hYp := fun (hs : (toX L T x).s = true) => sm_pre hpre hs
    have hon := sm_on (L := L) (T := T) (pre := pre) (p := x)
    have hof := sm_off (L := L) (T := T) (pre := pre) (p := x)
    have HO : Aside _ := And.intro hon hof
    have HY : Aside _ := And.intro hY2 hYp
    have HJ : Aside _ := hj
    have HW : Aside _ := ho
    clear hon hof hY2 hYp hj hrd hx hY hJS
    generalize toX L T x = y at *
    gi_wp2
    refine ⟨trivial, fun h => (by cases h), (CallsIn.inRound _ (callsIn_wide.2 lk)).mono ?_⟩
    rintro e V2 ⟨rfl, kl⟩
    have e2 := kl.cell e1
    have hlt2 : W0.heap.size + 1 < V2.heap.size := lt_of_cell e2
    have kA : ∀ o, K V (V2.alloc o) := fun o => kl.alloc o
    cases hs : y.s with
    | false =>
      gi_wp2
      refine ⟨fun _ h => (by cases h), ?_⟩
      gi_wp2
      refine ⟨(kA _).kept _, _, ⟨M, rfl, ?_, HW.out.keep (kA _)⟩, fun k hk => .inl hk⟩
      rw [HO.out.2 hs]
      exact hJ _ _ _ _ HJ.out ((kA _).kept _)
    | true =>
      have kQ := kA (.cells #[.int .u64 y.h, .int .i64 y.c, .bool true] 112)
      obtain ⟨fn, tmps, assign, body, hy, hR⟩ := HY.out.1 hs _ (HY.out.2 hs) (hJ _ _ _ _ HJ.out (kQ.kept _))
      dsimp only [xV] at hy
      rw [hs] at hy
      gi_wp2
      refine ⟨fun h => (by cases h), RoundIn.mono (round_any hR) ?_⟩
      rintro e V3 (⟨rfl, M3, hJ3, k3', g3⟩ | ⟨rfl, M3, hJx3, k3', g3⟩)
      · have ho3 := (HW.out.keep kQ).round (k3'.mono (fun _ _ h => .inl h)) g3 hr0
        rw [← HO.out.1 hs] at hJ3
        gi_wp2
        exact ⟨(kQ.kept _).trans (k3'.mono (fun _ _ h => .inl h)), fun k => M3 k ∨ k = r, ⟨M3, rfl, hJ3, ho3⟩, fun k hk => hk.elim (fun hk => (g3 k hk).elim (fun h => .inl (.inl h)) (fun h => .inr (Nat.le_trans kQ.size h))) (fun h => .inl (.inr h))⟩
      · have ho3 := (HW.out.keep kQ).round k3' g3 hr0
        gi_wp2
        exact ⟨(kQ.kept _).trans k3', fun k => M3 k ∨ k = r, ⟨rfl, M3, rfl, ⟨_, HY.out.2 hs, hJx3⟩, ho3⟩, fun k hk => hk.elim (fun hk => (g3 k hk).elim (fun h => .inl (.inl h)) (fun h => .inr (Nat.le_trans kQ.size h))) (fun h => .inl (.inr h))⟩
  case hstop =>
    rintro cd pre Mi V hpre ⟨rfl, M, rfl, ⟨p2, hp2, hJ2⟩, ho⟩
    have hf := ho.block hd4 (by omega)
    gi_wp2
    refine ⟨by simp, .inl ⟨_, _, rfl, run_takeDeferred hf, .tuple #[], ?_, ⟨_, rfl⟩, .inr ⟨p2, M, hp2, hJx _ _ _ _ hJ2 ((Kept.refl _ V).putObj _ (.inl ⟨by omega, (ho.own _ (by omega) (by omega)).1⟩))⟩⟩⟩
    simp [results, Tryz.f47, go_sem]
  case hdone =>
    rintro Mi V ⟨M, rfl, hj, ho⟩
    have HM : Aside _ := hgg
    have ixn := fun (i : Nat) (hi : i < (liveL L).length) => run_ixB (l := hsOf W L) (g := g) (cap := cap) (show (liveL L).length = (hsOf W L).length by simp [hsOf]) hga i hi
    have hll := hS.b.live_le
    gi_wp2
    simp only [List.append_nil]
    gi_loopw [33] (fun i wr => ∃ (k : Nat) (M : Nat → Prop), k ≤ (liveL L).length ∧ i = .int .i64 (k : Int) ∧ J (sm L T (bk (hsOf W L)) ++ lg L T k) M wr ∧ Ow W0 w4 wr M) (fun i _ => (liveL L).length - (intOf i).toNat)
    case atStart => exact ⟨0, M, Nat.zero_le _, rfl, by rw [lg_zero, List.append_nil]; exact hj, ho⟩
    case round =>
      clear hj ho
      obtain ⟨k, M, hk, rfl, hj, ho⟩ := hrel
      by_cases hlt : k < (liveL L).length
      · obtain ⟨a, ha, hA, hWa, hh⟩ := at_live hS.b.wl hS.r hlt
        have lk := Rd.look hS.b.wl hS.r (hJS _ _ _ hj) hA
        have e0 := Boxed.cell (ho.block q0 (by omega))
        have e1 := Boxed.cell (ho.block q1 (by omega))
        have d4 := CL4 k _ hh
        have dk : wr.cell? ⟨g, k, none⟩ = some (.int .u64 (W a)) := (World.cell?_of_block (ho.own g (HM.out (by omega)).1 (by have := (HM.out (by omega)).2; omega)).2).trans d4
        rw [hWa] at dk
        have hY2 := fun (hs : (xOf L T a).s = false) => hY (sm L T (bk (hsOf W L)) ++ lg L T k) (xOf L T a) M
        have hYp := fun (hs : (xOf L T a).s = false) => (show (sm L T (bk (hsOf W L)) ++ lg L T k) ++ [xOf L T a] <+: order L T by rw [List.append_assoc, ← lg_on ha hs]; exact lg_pre W (k + 1))
        have HO : Aside _ := And.intro (lg_on (T := T) ha) (lg_off (T := T) ha)
        have HY : Aside _ := And.intro hY2 hYp
        have HJ : Aside _ := hj
        have HW : Aside _ := ho
        have ix := ixn k hlt
        clear hY2 hYp hj d4 ixn hh hWa
        generalize xOf L T a = y at *
        gi_wp2
        refine ⟨trivial, fun h => (by cases h), (callsIn_wide.2 lk).mono ?_⟩
        rintro e V2 ⟨rfl, kl⟩
        have e2 := kl.cell e1
        have hlt2 : W0.heap.size + 1 < V2.heap.size := lt_of_cell e2
        have kA : ∀ o, K wr (V2.alloc o) := fun o => kl.alloc o
        cases hs : y.s with
        | true =>
          gi_wp2
          refine ⟨fun _ h => (by cases h), ?_⟩
          gi_wp2
          go_roundw
          case rel => exact ⟨k + 1, M, by omega, by go_num, by rw [HO.out.2 hs]; exact hJ _ _ _ _ HJ.out ((kA _).kept _), HW.out.keep (kA _)⟩
          case measure => simp [intOf]; omega
        | false =>
          have kQ := kA (.cells #[.int .u64 y.h, .int .i64 y.c, .bool false] 112)
          obtain ⟨fn, tmps, assign, body, hy, hR⟩ := HY.out.1 hs _ (HY.out.2 hs) (hJ _ _ _ _ HJ.out (kQ.kept _))
          dsimp only [xV] at hy
          rw [hs] at hy
          gi_wp2
          refine ⟨fun h => (by cases h), hR.mono ?_⟩
          rintro e V3 (⟨rfl, M3, hJ3, k3', g3⟩ | ⟨rfl, M3, hJx3, k3', g3⟩)
          · have ho3 := (HW.out.keep kQ).round (k3'.mono (fun _ _ h => .inl h)) g3 hr0
            rw [List.append_assoc, ← HO.out.1 hs] at hJ3
            gi_wp2
            go_roundw
            case rel => exact ⟨k + 1, M3, by omega, by go_num, hJ3, ho3⟩
            case measure => simp [intOf]; omega
          · have ho3 := (HW.out.keep kQ).round k3' g3 hr0
            have hf := ho3.block hd4 (by omega)
            gi_wp2
            refine ⟨by simp, .inl ⟨_, _, rfl, run_takeDeferred hf, .tuple #[], ?_, ⟨_, rfl⟩, .inr ⟨_, M3, HY.out.2 hs, hJx _ _ _ _ hJx3 ((Kept.refl _ V3).putObj _ (.inl ⟨by omega, (ho3.own _ (by omega) (by omega)).1⟩))⟩⟩⟩
            simp [results, Tryz.f47, go_sem]
      · obtain rfl : k = (liveL L).length := by omega
        have hf := ho.block hd4 (by omega)
        gi_wp2
        refine ⟨by simp, .inl ⟨_, _, rfl, run_takeDeferred hf, .tuple #[], ?_, ⟨_, rfl⟩, .inl ⟨M, ?_⟩⟩⟩
        · simp [results, Tryz.f47, go_sem]
        · have e : order L T = sm L T (bk (hsOf W L)) ++ lg L T (liveL L).length := by rw [sm_all, lg_all]; rfl
          rw [e]
          exact hJ _ _ _ _ hj ((Kept.refl _ wr).putObj _ (.inl ⟨by omega, (ho.own _ (by omega) (by omega)).1⟩))

end Co
end Go.Proofs.YtlalmdckdejggaaGreatDoor
