/-
  slices.Backward over a row of handles: the function, and its iterator's contract.
-/
import Derived.Test.YtlalmdckdejggaaGreatDoorG2
import Derived.Test.YtlalmdckdejggaaGreatDoorD2
import Derived.LoopIn
import Derived.LoopNIn
import Derived.TacticsInMore
import Derived.OwnWalkIn
import Derived.Test.YtlalmdckdejggaaGreatDoorG1
import Derived.Test.YtlalmdckdejggaaGreatDoorE4
import Derived.Test.YtlalmdckdejggaaGreatDoorC1
import Derived.Test.YtlalmdckdejggaaGreatDoorE7
namespace Go.Proofs.YtlalmdckdejggaaGreatDoor
open Go.RowKit Go.Maps
attribute [local go_sem] Oper.semAt_some
namespace Co
open Hp (Kept K No Grows)
variable {w w' : World} {b g n cap : Nat} {ad : Option Addr} {l : List Int}

/-- What comes: places and handles, from the last one on. -/
def bk (l : List Int) : List (Nat × Int) := (List.range l.length).reverse.map fun i => (i, l.getD i 0)
abbrev encB (p : Nat × Int) : Array Value := #[.int .i64 (p.1 : Int), .int .u64 p.2]

theorem bk_len (l : List Int) : (bk l).length = l.length := by simp [bk]
theorem bk_get {k : Nat} (h : k < l.length) : (bk l)[k]? = some (l.length - 1 - k, l.getD (l.length - 1 - k) 0) := by
  unfold bk
  rw [List.getElem?_map, List.getElem?_reverse (by simpa using h)]
  simp only [List.length_range]
  rw [List.getElem?_range (by omega)]
  rfl
theorem bk_pre {k : Nat} {x : Nat × Int} (h : (bk l)[k]? = some x) : (bk l).take k ++ [x] = (bk l).take (k + 1) ∧ (bk l).take k ++ [x] <+: bk l := by
  have e : (bk l).take k ++ [x] = (bk l).take (k + 1) := by rw [List.take_add_one, h]; rfl
  exact ⟨e, by rw [e]; exact List.take_prefix _ _⟩

theorem backward_any (u : Value) (hu : u.oneCell' = true) (w : World) : Calls Tryz.prog 90 #[u] w fun e w' => ∃ b, e = .returned (.func (.func 132) #[] #[.pointer (some ⟨b, 0, none⟩)]) ∧ w.heap.size ≤ b ∧ Boxed w' b 40 u ∧ K w w' := by
  have hmf : ∀ (fn : Fn) (first cap : Array Value) (w : World), (Instr.makeFunc fn first cap).run Tryz.prog w = .ok (.func fn first cap) w := fun _ _ _ _ => rfl
  have hb : Boxed (w.alloc (.cells #[u] 40)) w.heap.size 40 u := Boxed.new w 40 u
  go_enter Tryz.func90, Tryz.ntmps90
  go_wp2
  go_ret
  exact ⟨_, rfl, Nat.le_refl _, hb, (K.refl w).alloc _⟩

theorem run_ixB (hn : n = l.length) (ha : 0 < n → ad = some ⟨g, 0, none⟩) (i : Nat) (hi : i < n) (w' : World) : (Instr.indexAt 40 (.slice ad n cap) (.int .i64 (i : Int))).run Tryz.prog w' = .ok (.pointer (some ⟨g, i, none⟩)) w' := by
  rw [ha (by omega)]
  rw [run_indexAt_slice w' 40 _ n cap .i64 i (by kernel_rfl), if_pos (by omega)]
  rw [show ∀ w, (sizeOf (Tryz.prog.elem 40)).run Tryz.prog w = .ok 1 w from fun w => by kernel_rfl]
  simp only [Result.andThen_ok, Int.toNat_natCast, Nat.mul_one]
  rw [Go.WideShapes.add_plain, Nat.zero_add]

set_option maxRecDepth 100000 in
set_option maxHeartbeats 1000000 in
theorem backward_seq (hb : Boxed w b 40 (.slice ad n cap)) (hn : n = l.length) (ha : 0 < n → ad = some ⟨g, 0, none⟩) (hcell : ∀ i x, l[i]? = some x → w.cell? ⟨g, i, none⟩ = some (.int .u64 x)) (O : Nat → Prop) (hOb : ¬ O b) (hOg : 0 < n → ¬ O g) (hbig : n ≤ 200000) :
    SeqS Tryz.prog 132 #[] #[.pointer (some ⟨b, 0, none⟩)] encB (bk l) O (fun _ _ => True) w := fun m r J Jx W0 k0 hr0 hOlt hJ hJx _ hY h0 => by
  have hb0 := k0.boxed hb
  have ix := fun (i : Nat) (hi : i < n) => run_ixB (cap := cap) hn ha i hi
  have hbW : b < W0.heap.size := (Array.getElem?_eq_some_iff.1 hb0).1
  have CL : Aside (∀ i, i < n → ∃ x, l[i]? = some x ∧ W0.cell? ⟨g, i, none⟩ = some (.int .u64 x) ∧ g < W0.heap.size) := fun i hi => by
    obtain ⟨x, hx⟩ : ∃ x, l[i]? = some x := ⟨_, List.getElem?_eq_getElem (by omega)⟩
    have := k0.cell (hcell i x hx)
    exact ⟨x, hx, this, Hp.lt_of_cell this⟩
  have HN : Aside (n = l.length) := hn
  have HG : Aside (0 < n → ¬ O g) := hOg
  clear hcell hn ha hOg
  refine callsIn_of_wp Tryz.func132 rfl trivial ?_ rfl
  simp only [Tryz.ntmps132, List.size_toArray, List.length_cons, List.length_nil, Nat.reduceAdd, Nat.reduceSub, Array.replicate_succ, Array.replicate_zero, List.push_toArray, List.append_toArray, List.nil_append, List.cons_append]
  have bc := hb0.cell
  gi_wp2
  gi_loopw [3] (fun i wr => ∃ (k : Nat) (M : Nat → Prop), k ≤ n ∧ i = .int .i64 ((n : Int) - 1 - k) ∧ J ((bk l).take k) M wr ∧ ¬ M b ∧ (0 < n → ¬ M g) ∧ W0.heap.size ≤ wr.heap.size ∧ wr.heap[b]? = W0.heap[b]? ∧ (0 < n → wr.heap[g]? = W0.heap[g]?)) (fun i _ => ((intOf i) + 1).toNat)
  case atStart => exact ⟨0, O, Nat.zero_le _, by go_num, by simpa using h0, hOb, HG.out, Nat.le_refl _, rfl, fun _ => rfl⟩
  case round =>
    obtain ⟨k, M, hk, rfl, hJr, hMb, hMg, hsz, hkb, hkr⟩ := hrel
    by_cases hlt : k < n
    · obtain ⟨j, hj⟩ : ∃ j : Nat, (n : Int) - 1 - k = j := ⟨n - 1 - k, by omega⟩
      obtain ⟨x, hx, hc0, hg0⟩ := CL.out j (by omega)
      have hg := hMg (by omega)
      have hrl : r < W0.heap.size := hr0
      have PR : Aside ((bk l)[k]? = some (j, x)) := by
        show _ = _
        rw [bk_get (by rw [← HN.out]; exact hlt), ← HN.out, show n - 1 - k = j by omega]
        simp [List.getD, hx]
      have PP : Aside _ := bk_pre PR.out
      have JR : Aside _ := hJr
      have HK : Aside _ := hkr
      have HB : Aside _ := hkb
      have HM : Aside _ := hMg
      have ixj := ix j (by omega)
      have d1 : wr.cell? ⟨b, 0, none⟩ = some (.slice ad n cap) := (World.cell?_of_block hkb).trans bc
      have d2 : wr.cell? ⟨g, j, none⟩ = some (.int .u64 x) := (World.cell?_of_block (hkr (by omega))).trans hc0
      obtain ⟨fn, tmps, assign, body, hy, hR⟩ := hY _ (j, x) M wr PP.out.2 hJr
      dsimp only [encB] at hy
      rw [hj]
      clear hJr hkr hkb hMg hx hc0 hb0 bc ix hb
      gi_wp2
      refine ⟨fun h => (by cases h), hR.mono ?_⟩
      rintro e w3 (⟨rfl, M3, hJ3, k3, g3⟩ | ⟨rfl, M3, hJx3, k3, g3⟩)
      · rw [PP.out.1] at hJ3
        gi_wp2
        go_roundw
        case rel =>
          have hb3 : ¬ M3 b := fun h => by
            rcases g3 b h with h | h
            · exact hMb h
            · omega
          have hg3 : 0 < n → ¬ M3 g := fun _ h => by
            rcases g3 g h with h | h
            · exact hg h
            · omega
          exact ⟨k + 1, M3, by omega, by congr 1; omega, hJ3, hb3, hg3, Nat.le_trans hsz k3.size, (k3.same b (by omega) hMb).trans HB.out, fun h => (k3.same g (by omega) hg).trans (HK.out h)⟩
        case measure => simp [intOf]
      · gi_wp2
        refine bodyPost_ret (results_none rfl _ _ _) rfl ?_
        exact ⟨⟨_, rfl⟩, .inr ⟨_, M3, PP.out.2, hJx3⟩⟩
    · obtain rfl : k = n := by omega
      have e : (bk l).take k = bk l := List.take_of_length_le (by rw [bk_len, HN.out]; exact Nat.le_refl _)
      rw [e] at hJr
      clear hkr hkb hMg
      gi_wp2
      go_end0
      exact ⟨⟨_, rfl⟩, .inl ⟨M, hJr⟩⟩

end Co
end Go.Proofs.YtlalmdckdejggaaGreatDoor

/-
  A record that is tried: the store's Slide told of what is tried.
-/
namespace Go.Proofs.YtlalmdckdejggaaGreatDoor
open Go.RowKit Go.Maps
namespace Co
open Hp (Kept K No Pg BlR Bl Wl slideL findB)
open Hd (U64 findL)
open Go.Proofs.YtlalmdckdejggaaGreatDoor.So (Ad Sb Sw Rec sp Stp)
variable {w w' : World} {B : Nat} {A : Ad} {pg : List (Int × Nat)} {W W0 : Int → Int} {L L0 : List Pg} {v : Value} {T T0 : List Hd.Sl} {bu : Int}

theorem Inv.folds : ∀ (pre : List X) {post : List X} {z : S}, Inv z (pre ++ post) → (pre.foldl (Co.proc bu) z).n ≠ bu → Inv (pre.foldl (Co.proc bu) z) post
  | [], _, _, h, _ => h
  | x :: pre, post, z, h, hn => by
    by_cases e : z.n = bu
    · rw [proc_used e] at hn
      exact absurd e hn
    · rw [List.foldl_cons] at hn ⊢
      exact Inv.folds pre (h.proc e) hn

/-- Where it stands behind those that came. -/
def zAt (bu : Int) (L : List Pg) (T : List Hd.Sl) (pre : List X) : S := pre.foldl (proc bu) ⟨L, T, 0, fun _ => false⟩
theorem zAt_snoc (pre : List X) (x : X) : zAt bu L T (pre ++ [x]) = proc bu (zAt bu L T pre) x := by simp [zAt]
theorem zAt_used {pre post : List X} (h : (zAt bu L T pre).n = bu) : zAt bu L T (pre ++ post) = zAt bu L T pre := by
  unfold zAt at *
  rw [List.foldl_append, proc_used h]
theorem zAt_inv (l : Wl L) (r : Rec L W T) {pre : List X} {x : X} (hp : pre ++ [x] <+: order L T) (hn : (zAt bu L T pre).n ≠ bu) : At (zAt bu L T pre).L (zAt bu L T pre).T x := by
  obtain ⟨t, ht⟩ := hp
  have h := Inv.start l r.bl
  rw [← ht, List.append_assoc] at h
  exact (h.folds pre hn).at' x (by simp)
theorem zAt_n (pre : List X) : 0 ≤ (zAt bu L T pre).n ∧ (zAt bu L T pre).n ≤ pre.length := by
  have := fold_n bu pre ⟨L, T, 0, fun _ => false⟩
  have e : (⟨L, T, 0, fun _ => false⟩ : S).n = 0 := rfl
  unfold zAt
  omega

theorem x_u64 {m z : Int} (wf : Hd.Wf m z T) (hl : T.length ≤ 65536) {x : X} (hx : At L T x) : U64 x.h ∧ findL T x.h = some x.i := by
  have hlt := (List.getElem?_eq_some_iff.1 hx.1).1
  have hk := wf.get hx.1
  have h1 := hk.hi
  have h2 := wf.z1
  have h3 := hk.lo
  refine ⟨?_, ?_⟩
  · show U64 (Hd.nm (x.i + 1) x.g)
    unfold U64 Hd.nm
    have h1 : x.g ≤ z := h1
    have h3 : 1 ≤ x.g := h3
    omega
  · show findL T (Hd.nm (x.i + 1) x.g) = _
    rw [Hd.findL_nm hx.1 (by omega), if_pos ⟨rfl, rfl⟩]

theorem slide_x {z : S} (sw : Sw w B A pg W z.L v z.T) (hB : B ≤ w.heap.size) {x : X} (hx : At z.L z.T x) (r0 : Rec L0 W0 T0) (wk : Wk T0 W0 z.T W) :
    Calls Tryz.prog 33 #[sp A.st, .int .u64 x.h] w fun e w' => e = .returned (.tuple #[.bool ((slideL z.L x.a).1 != x.a), .int .i64 0]) ∧ ∃ pg' W', Sw w' B A pg' W' (tryX z x).L v (tryX z x).T ∧ Wk T0 W0 (tryX z x).T W' ∧ Stp A pg pg' v v w w' := by
  obtain ⟨hu, hf⟩ := x_u64 sw.b.tb.wf sw.b.tl hx
  obtain ⟨b, er, L', hsl⟩ : ∃ b er L', slideL z.L x.a = (b, er, L') := ⟨_, _, _, rfl⟩
  refine (So.slide_some sw hB x.h hu hf hx.1 hsl).mono ?_
  rintro e w1 ⟨rfl, pg1, W1, p, k, hfb, sb, hw, sw1, st⟩
  have hwk := Wk.slide sw.r sw.b.wl sw.b.tl hx.1 rfl hfb sb hw
  have hwk := wk.trans r0 hwk
  refine ⟨by rw [hsl], pg1, W1, ?_⟩
  unfold tryX
  rw [hsl]
  by_cases e : b = x.a
  · subst e
    rw [if_pos rfl]
    have eL : L' = z.L := stay sw.b.wl hfb hsl
    have eT : z.T.set x.i ⟨true, x.g, x.a⟩ = z.T := Hd.set_self hx.1
    have hwk : Wk T0 W0 (z.T.set x.i ⟨true, x.g, x.a⟩) W1 := hwk
    have sw1 : Sw w1 B A pg1 W1 L' v (z.T.set x.i ⟨true, x.g, x.a⟩) := sw1
    rw [eT] at hwk sw1
    rw [eL] at sw1
    exact ⟨sw1, hwk, st⟩
  · rw [if_neg e]
    exact ⟨sw1, hwk, st⟩

/-- Which classes are stuck, as a row of the eight. -/
def kRow (k : Int → Bool) : Array Value := #[.bool (k 0), .bool (k 1), .bool (k 2), .bool (k 3), .bool (k 4), .bool (k 5), .bool (k 6), .bool (k 7)]
theorem kRow_get {k : Int → Bool} {c : Int} (h0 : 0 ≤ c) (h1 : c ≤ 7) : ∃ j : Nat, c = j ∧ j < 8 ∧ (kRow k)[j]? = some (.bool (k c)) := by
  have : c = 0 ∨ c = 1 ∨ c = 2 ∨ c = 3 ∨ c = 4 ∨ c = 5 ∨ c = 6 ∨ c = 7 := by omega
  rcases this with rfl | rfl | rfl | rfl | rfl | rfl | rfl | rfl
  · exact ⟨0, rfl, by omega, rfl⟩
  · exact ⟨1, rfl, by omega, rfl⟩
  · exact ⟨2, rfl, by omega, rfl⟩
  · exact ⟨3, rfl, by omega, rfl⟩
  · exact ⟨4, rfl, by omega, rfl⟩
  · exact ⟨5, rfl, by omega, rfl⟩
  · exact ⟨6, rfl, by omega, rfl⟩
  · exact ⟨7, rfl, by omega, rfl⟩
theorem kRow_set (k : Int → Bool) {c : Int} (h0 : 0 ≤ c) (h1 : c ≤ 7) : (kRow k).setIfInBounds c.toNat (.bool true) = kRow (fun d => if d = c then true else k d) := by
  have : c = 0 ∨ c = 1 ∨ c = 2 ∨ c = 3 ∨ c = 4 ∨ c = 5 ∨ c = 6 ∨ c = 7 := by omega
  rcases this with rfl | rfl | rfl | rfl | rfl | rfl | rfl | rfl <;> rfl

theorem cls_x (l : Wl L) {x : X} (hx : BlR L x.a x.r) (hs : x.s = true) : 0 ≤ x.c ∧ x.c ≤ 7 := by
  obtain ⟨p, s, _, hp, hr, hk⟩ := blk l hx
  have he := l.ent p hp
  rcases hk with ⟨h1, _, h3⟩ | ⟨_, h2⟩
  · show 0 ≤ Cl.clsI x.r ∧ Cl.clsI x.r ≤ 7
    rw [h3]
    rcases he with ⟨_, h4, h5, _⟩ | ⟨h, _⟩
    · exact ⟨h4, h5⟩
    · omega
  · have : Cl.smaI x.r = true := hs
    rw [h2] at this
    cases this

end Co
end Go.Proofs.YtlalmdckdejggaaGreatDoor

/-
  Package compact's New, made and look.
-/
namespace Go.Proofs.YtlalmdckdejggaaGreatDoor
open Go.RowKit Go.Maps
attribute [local go_sem ↓] Go.wp_at_zero Go.wp_at_succ
namespace Co
open Hp (Kept K No Pg BlR Bl Wl)
open Hd (U64 findL)
open Go.Proofs.YtlalmdckdejggaaGreatDoor.So (Ad Sb Sw Rec sp rmI)
variable {w w' : World} {B : Nat} {A : Ad} {pg : List (Int × Nat)} {W : Int → Int} {L : List Pg} {v : Value} {T : List Hd.Sl}

abbrev cp (c : Nat) : Value := .pointer (some ⟨c, 0, none⟩)

theorem new_ok (h : Sw w B A pg W L v T) : Calls Tryz.prog 17 #[sp A.st] w fun e w' => ∃ c, e = .returned (.tuple #[cp c, .int .i64 0]) ∧ w.heap.size ≤ c ∧ w'.heap[c]? = some (.cells #[sp A.st] 108) ∧ K w w' := by
  have cl := So.len_any h 0 ⟨by decide, by decide⟩
  have e0 : findL T 0 = none := by
    cases hf : findL T 0 with
    | none => rfl
    | some i =>
      exfalso
      obtain ⟨s, hs, so, hg, hx⟩ := Hd.findL_some hf
      omega
  rw [show So.lE T 0 = 7 by simp [So.lE, e0]] at cl
  clear e0
  generalize So.lN T W 0 = n at *
  go_enter Tryz.func17, Tryz.ntmps17
  go_wp2_with (go_at_call 23; refine cl.mono ?_; rintro e w1 ⟨rfl, k1⟩)
  go_ret2
  exact ⟨_, rfl, k1.size, World.alloc_heap_new _ _, k1.alloc _⟩

theorem made_ok {c : Nat} {st : Nat} (hc : w.cell? ⟨c, 0, none⟩ = some (sp st)) : Calls Tryz.prog 45 #[cp c] w fun e w' => e = .returned (.bool true) ∧ w = w' := by
  go_enter Tryz.func45, Tryz.ntmps45
  go_wp2
  go_ret
  exact ⟨rfl, rfl⟩

theorem made_nil (w : World) : Calls Tryz.prog 45 #[.pointer none] w fun e w' => e = .returned (.bool false) ∧ w = w' := by
  go_enter Tryz.func45, Tryz.ntmps45
  go_wp2
  go_ret
  exact ⟨rfl, rfl⟩

theorem made_zero {c : Nat} (hc : w.cell? ⟨c, 0, none⟩ = some (.pointer none)) : Calls Tryz.prog 45 #[cp c] w fun e w' => e = .returned (.bool false) ∧ w = w' := by
  go_enter Tryz.func45, Tryz.ntmps45
  go_wp2
  go_ret
  exact ⟨rfl, rfl⟩

/-- A record, as the compactor sees it. -/
abbrev xV (x : X) : Value := .agg #[.int .u64 x.h, .int .i64 x.c, .bool x.s]

theorem sma_rm {n : Int} (hn : 1 ≤ n ∧ n ≤ 4000) : Cl.smaI (rmI n) = Cl.smaI n ∧ Cl.clsI (rmI n) = Cl.clsI n := by
  unfold rmI
  split
  · next hs =>
    rw [hs]
    obtain ⟨h0, h1, _⟩ := Hp.cls_in hn hs
    have : Cl.clsI n = 0 ∨ Cl.clsI n = 1 ∨ Cl.clsI n = 2 ∨ Cl.clsI n = 3 ∨ Cl.clsI n = 4 ∨ Cl.clsI n = 5 ∨ Cl.clsI n = 6 ∨ Cl.clsI n = 7 := by omega
    rcases this with h | h | h | h | h | h | h | h <;> rw [h] <;> decide
  · exact ⟨rfl, rfl⟩

theorem look_any {c : Nat} (h : Sw w B A pg W L v T) (hc : w.cell? ⟨c, 0, none⟩ = some (sp A.st)) {x : X} (hx : At L T x) : Calls Tryz.prog 91 #[cp c, .int .u64 x.h] w fun e w' => e = .returned (xV x) ∧ K w w' := by
  obtain ⟨hu, hf⟩ := x_u64 h.b.tb.wf h.b.tl hx
  obtain ⟨_, n0, n1, hb⟩ := h.r.nm x.i _ hx.1 rfl
  have hr := h.b.wl.roomOne hb hx.2
  have n0 : 0 ≤ W (x.a + 1) := n0
  have n1 : W (x.a + 1) ≤ 3998 := n1
  have k0 : K w (w.alloc (.cells #[.int .u64 0, .int .i64 0, .bool false] 112)) := (K.refl w).alloc _
  have cl := So.len_any (h.keep k0) x.h hu
  have ea : Hd.addrAt T x.i = x.a := by unfold Hd.addrAt; rw [Hd.getD_of hx.1]
  rw [show So.lN T W x.h = W (x.a + 1) by simp [So.lN, hf, ea], show So.lE T x.h = 0 by simp [So.lE, hf]] at cl
  obtain ⟨e1, e2⟩ := sma_rm (n := 2 + W (x.a + 1)) ⟨by omega, by omega⟩
  have e1 : Cl.smaI (2 + W (x.a + 1)) = x.s := by rw [← e1]; unfold X.s; rw [← hr]
  have e2 : Cl.clsI (2 + W (x.a + 1)) = x.c := by rw [← e2]; unfold X.c; rw [← hr]
  have co := fun w1 => Cl.of_any (2 + W (x.a + 1)) w1
  rw [e1, e2] at co
  have hlt : c < w.heap.size := Hp.lt_of_cell hc
  have hc0 := k0.cell hc
  have hnb := World.alloc_heap_new w (.cells #[.int .u64 0, .int .i64 0, .bool false] 112)
  clear e1 e2 hf hx hb hr ea hu h
  show Calls Tryz.prog 91 #[cp c, .int .u64 x.h] w fun e w' => e = .returned (.agg #[.int .u64 x.h, .int .i64 x.c, .bool x.s]) ∧ K w w'
  generalize W (x.a + 1) = n at *
  generalize Cl.errW (2 + n) = er at *
  generalize x.h = xh at *
  generalize x.c = xc at *
  generalize x.s = xs at *
  go_enter Tryz.func91, Tryz.ntmps91
  go_wp2_with fail
  refine cl.mono ?_
  rintro e w1 ⟨rfl, k1⟩
  go_wp2_with fail
  refine (co _).mono ?_
  rintro e w2 ⟨rfl, ⟨k2⟩⟩
  have k3 := k1.trans (K.of_below k2)
  have q2 := k3.block hnb
  have s0 : w2.cell? ⟨w.heap.size, 0, none⟩ = some (.int .u64 0) := by simp [World.cell?, q2]
  have s1 : w2.cell? ⟨w.heap.size, 1, none⟩ = some (.int .i64 0) := by simp [World.cell?, q2]
  have s2 : w2.cell? ⟨w.heap.size, 2, none⟩ = some (.bool false) := by simp [World.cell?, q2]
  have sf : ∀ i, w2.frozen? ⟨w.heap.size, i, none⟩ = false := fun i => by simp [World.frozen?, q2]
  have h1 := Sl.heap_setCell_same (i := 0) q2 (.int .u64 xh)
  have h2 := Sl.heap_setCell_same (i := 1) h1 (.int .i64 xc)
  have h3 := Sl.heap_setCell_same (i := 2) h2 (.bool xs)
  have H3 : Aside _ := h3
  have k4 : K w (((w2.setCell ⟨w.heap.size, 0, none⟩ (.int .u64 xh)).setCell ⟨w.heap.size, 1, none⟩ (.int .i64 xc)).setCell ⟨w.heap.size, 2, none⟩ (.bool xs)) := ((((k0.trans k3).setCell _ (Nat.le_refl _)).setCell _ (Nat.le_refl _)).setCell _ (Nat.le_refl _))
  clear k3 q2 h1 h2 h3 hnb k1 k2 cl co
  go_wp2
  have H4 := H3.out
  exact bodyPost_ret (v := .agg #[.int .u64 xh, .int .i64 xc, .bool xs]) (by simp [results, Tryz.results91, go_sem, World.cell?, H4]) rfl ⟨rfl, k4⟩

end Co
end Go.Proofs.YtlalmdckdejggaaGreatDoor

/-
  Package compact's tried: the iterator's contract.
-/
namespace Go.Proofs.YtlalmdckdejggaaGreatDoor
open Go.RowKit Go.Maps
attribute [local go_sem] Oper.semAt_some
namespace Co
open Hp (Kept K No Pg BlR Bl Wl Grows wide liveL)
open Hd (U64 findL)
open Go.Proofs.YtlalmdckdejggaaGreatDoor.So (Ad Sb Sw Rec sp rmI)
variable {w w' : World} {B c : Nat} {A : Ad} {pg : List (Int × Nat)} {W : Int → Int} {L : List Pg} {v : Value} {T : List Hd.Sl}

/-- What a call of tried reads: the store, of which records alone went elsewhere. -/
def Rd (B : Nat) (A : Ad) (c : Nat) (T0 : List Hd.Sl) (W0 : Int → Int) (w : World) : Prop :=
  ∃ pg W L v T, Sw w B A pg W L v T ∧ Wk T0 W0 T W ∧ w.cell? ⟨c, 0, none⟩ = some (sp A.st)

theorem Rd.look (l : Wl L) (r : Rec L W T) (h : Rd B A c T W w) {x : X} (hx : At L T x) : Calls Tryz.prog 91 #[cp c, .int .u64 x.h] w fun e w' => e = .returned (xV x) ∧ K w w' := by
  obtain ⟨pg, W', L', v, T', sw, wk, hc⟩ := h
  obtain ⟨b, hb, hw⟩ := (wk.2 x.i _ hx.1).2 rfl
  obtain ⟨_, n0, n1, hbl⟩ := r.nm x.i _ hx.1 rfl
  have n0 : 0 ≤ W (x.a + 1) := n0
  have e1 : W' (b + 1) = W (x.a + 1) := hw 1 (by omega) (by show (1 : Int) < 2 + W (x.a + 1); omega)
  obtain ⟨_, _, _, hbl'⟩ := sw.r.nm x.i _ hb rfl
  have er := l.roomOne hbl hx.2
  have er : rmI (2 + W (x.a + 1)) = x.r := er
  have hbl' : BlR L' b (rmI (2 + W' (b + 1))) := hbl'
  rw [e1, er] at hbl'
  exact look_any sw hc (x := ⟨b, x.r, x.g, x.i⟩) ⟨hb, hbl'⟩

theorem Rd.made (h : Rd B A c T W w) : w.cell? ⟨c, 0, none⟩ = some (sp A.st) := by
  obtain ⟨pg, W', L', v, T', sw, wk, hc⟩ := h
  exact hc

/-- The handles of all records, and what is tried of them. -/
def hsOf (W : Int → Int) (L : List Pg) : List Int := (liveL L).map W
def toX (L : List Pg) (T : List Hd.Sl) (p : Nat × Int) : X := xOf L T ((liveL L).getD p.1 0)

theorem bk_mem {l : List Int} {p : Nat × Int} (h : p ∈ bk l) : p.1 < l.length ∧ p.2 = l.getD p.1 0 := by
  unfold bk at h
  obtain ⟨i, hi, rfl⟩ := List.mem_map.1 h
  rw [List.mem_reverse, List.mem_range] at hi
  exact ⟨hi, rfl⟩

theorem at_live (l : Wl L) (r : Rec L W T) {k : Nat} (hk : k < (liveL L).length) : ∃ a, (liveL L)[k]? = some a ∧ At L T (xOf L T a) ∧ W a = (xOf L T a).h ∧ (hsOf W L)[k]? = some (W a) := by
  obtain ⟨a, ha⟩ : ∃ a, (liveL L)[k]? = some a := ⟨_, List.getElem?_eq_getElem hk⟩
  obtain ⟨rr, hb⟩ := Hp.Bl.room (Hp.mem_liveL.1 (List.mem_of_getElem? ha))
  obtain ⟨hA, _⟩ := at_of l r.bl hb
  exact ⟨a, ha, hA, (r.nm _ _ hA.1 rfl).1, by unfold hsOf; rw [List.getElem?_map, ha]; rfl⟩

theorem toX_at (l : Wl L) (r : Rec L W T) {p : Nat × Int} (h : p ∈ bk (hsOf W L)) : At L T (toX L T p) ∧ p.2 = (toX L T p).h := by
  obtain ⟨h1, h2⟩ := bk_mem h
  have hk : p.1 < (liveL L).length := by simpa [hsOf] using h1
  obtain ⟨a, ha, hA, hW, hh⟩ := at_live l r hk
  have e : (liveL L).getD p.1 0 = a := by simp [List.getD, ha]
  have e2 : (hsOf W L).getD p.1 0 = W a := by simp [List.getD, hh]
  unfold toX
  rw [e, h2, e2]
  exact ⟨hA, hW⟩

theorem bk_map (W : Int → Int) : (bk (hsOf W L)).map (toX L T) = (liveL L).reverse.map (xOf L T) := by
  unfold bk toX
  rw [List.map_map, List.map_reverse, List.map_reverse]
  congr 1
  have hl : (hsOf W L).length = (liveL L).length := by simp [hsOf]
  rw [hl]
  apply List.ext_getElem?
  intro i
  simp only [List.getElem?_map]
  by_cases h : i < (liveL L).length
  · rw [List.getElem?_range h, List.getElem?_eq_getElem h]
    simp [List.getD, h]
  · rw [List.getElem?_eq_none (by simpa using h), List.getElem?_eq_none (by omega)]
    rfl

/-- What was tried, of those that came. -/
def sm (L : List Pg) (T : List Hd.Sl) (pre : List (Nat × Int)) : List X := (pre.map (toX L T)).filter (fun x => x.s)
theorem sm_all (W : Int → Int) : sm L T (bk (hsOf W L)) = ((liveL L).reverse.map (xOf L T)).filter (fun x => x.s) := by
  unfold sm
  rw [bk_map]
theorem sm_on {pre : List (Nat × Int)} {p : Nat × Int} (h : (toX L T p).s = true) : sm L T (pre ++ [p]) = sm L T pre ++ [toX L T p] := by
  unfold sm
  rw [List.map_append, List.filter_append]
  simp [h]
theorem sm_off {pre : List (Nat × Int)} {p : Nat × Int} (h : (toX L T p).s = false) : sm L T (pre ++ [p]) = sm L T pre := by
  unfold sm
  rw [List.map_append, List.filter_append]
  simp [h]
theorem sm_pre {pre : List (Nat × Int)} {p : Nat × Int} (hp : pre ++ [p] <+: bk (hsOf W L)) (h : (toX L T p).s = true) : sm L T pre ++ [toX L T p] <+: order L T := by
  rw [← sm_on h]
  unfold order
  rw [← sm_all W]
  obtain ⟨t, ht⟩ := hp
  refine List.IsPrefix.trans ⟨sm L T t, ?_⟩ (List.prefix_append _ _)
  rw [← ht]
  unfold sm
  rw [← List.filter_append, ← List.map_append]

def lg (L : List Pg) (T : List Hd.Sl) (k : Nat) : List X := (((liveL L).take k).map (xOf L T)).filter (fun x => !x.s)
theorem lg_zero : lg L T 0 = [] := by simp [lg]
theorem lg_all : lg L T (liveL L).length = ((liveL L).map (xOf L T)).filter (fun x => !x.s) := by simp [lg]
theorem lg_on {k : Nat} {a : Int} (ha : (liveL L)[k]? = some a) (h : (xOf L T a).s = false) : lg L T (k + 1) = lg L T k ++ [xOf L T a] := by
  unfold lg
  rw [List.take_add_one, ha, List.map_append, List.filter_append]
  simp [h]
theorem lg_off {k : Nat} {a : Int} (ha : (liveL L)[k]? = some a) (h : (xOf L T a).s = true) : lg L T (k + 1) = lg L T k := by
  unfold lg
  rw [List.take_add_one, ha, List.map_append, List.filter_append]
  simp [h]
theorem lg_pre (W : Int → Int) (k : Nat) : sm L T (bk (hsOf W L)) ++ lg L T k <+: order L T := by
  unfold order
  rw [sm_all, List.prefix_append_right_inj]
  unfold lg
  obtain ⟨t, ht⟩ := List.take_prefix k (liveL L)
  refine ⟨(t.map (xOf L T)).filter (fun x => !x.s), ?_⟩
  rw [← List.filter_append, ← List.map_append, ht]

end Co
end Go.Proofs.YtlalmdckdejggaaGreatDoor
