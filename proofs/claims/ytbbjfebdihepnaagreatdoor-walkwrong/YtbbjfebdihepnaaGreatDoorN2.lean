/-
  Walks of package node: lay, Make, Get, Put, Drop.
-/
import Derived.Test.YtbbjfebdihepnaaGreatDoorN1
import Derived.Test.YtbbjfebdihepnaaGreatDoorE7
import Derived.Test.YtbbjfebdihepnaaGreatDoorE4
namespace Go.Proofs.YtbbjfebdihepnaaGreatDoor
open Go.RowKit Go.Maps
attribute [local go_sem ↓] Go.wp_at_zero Go.wp_at_succ
namespace Nd
open Hp (Kept K No Pg BlR Bl Wl Same allocL)
open Hd (U64 findL openL)
open Go.Proofs.YtbbjfebdihepnaaGreatDoor.Bb (Ho find_make)
open Go.Proofs.YtbbjfebdihepnaaGreatDoor.So (Ad Sb Sw Rec Rn Stp sp lE lN wE pW MadeOk MadeNo)
variable {w w' : World} {B : Nat} {A : Ad} {pg pg' : List (Int × Nat)} {W W' : Int → Int} {L L' : List Pg} {v v' : Value} {T T' : List Hd.Sl} {x : Int}

theorem wordOk_of {y : Int} (h0 : 0 ≤ y) (h1 : y ≤ 18446744073709551615) : Sl.WordOk y := by
  unfold Sl.WordOk
  have e1 : IntKind.u64.min = 0 := rfl
  have e2 : IntKind.u64.max = 18446744073709551615 := rfl
  simp only [Lit.wf, Bool.and_eq_true, decide_eq_true_eq]
  omega

/-- The first k words are laid. -/
structure Ly (w1 w : World) (B : Nat) (A : Ad) (pg : List (Int × Nat)) (W0 : Int → Int) (L : List Pg) (v : Value) (T : List Hd.Sl) (x : Int) (new old : List Int) (k : Nat) : Prop where
  ex : ∃ W, Sw w B A pg W L v T ∧ Ho T W x (mix new old k) ∧ (∀ z zs, z ≠ x → Ho T W0 z zs → Ho T W z zs) ∧ Stp A pg pg v v w1 w

theorem Ly.put {w1 : World} {W0 : Int → Int} {new old : List Int} {k : Nat} (h : Ly w1 w B A pg W0 L v T x new old k) (hB : B ≤ w1.heap.size) (hx : U64 x) (h1 : new.length = 6) (h2 : old.length = 6) {y : Int} (hy : new[k]? = some y) (yr : 0 ≤ y ∧ y ≤ 18446744073709551615) :
    Calls Tryz.prog 59 #[sp A.st, .int .u64 x, .int .i64 (k : Int), .int .u64 y] w fun e w' => e = .returned (.int .i64 0) ∧ Aside (Ly w1 w' B A pg W0 L v T x new old (k + 1)) := by
  obtain ⟨W, sw, ho, hoth, st⟩ := h.ex
  have hk : k < 6 := by have := (List.getElem?_eq_some_iff.1 hy).1; omega
  obtain ⟨e0, hp, hq⟩ := Ho.put sw.r sw.b.wl sw.b.tl ho (k := k) (by rw [mix_len h1 h2 (by omega)]; exact hk) y
  have cp := So.put_any sw (Nat.le_trans hB st.k.size) x (k : Int) y hx (wordOk_of yr.1 yr.2)
  rw [e0] at cp
  refine cp.mono ?_
  rintro e w2 ⟨rfl, sw2, st2⟩
  rw [mix_set h1 h2 hk hy] at hp
  exact ⟨rfl, ⟨_, sw2, hp, fun z zs hz hoz => hq z zs hz (hoth z zs hz hoz), st.trans st2⟩⟩

theorem run_ix6a (n : Nv) (w' : World) : (Instr.index 94 n.v (.int .i64 0)).run Tryz.prog w' = .ok (.int .u64 n.a) w' := by kernel_rfl
theorem run_ix6b (n : Nv) (w' : World) : (Instr.index 94 n.v (.int .i64 1)).run Tryz.prog w' = .ok (.int .u64 n.b) w' := by kernel_rfl
theorem run_ix6c (n : Nv) (w' : World) : (Instr.index 94 n.v (.int .i64 2)).run Tryz.prog w' = .ok (.int .u64 n.c) w' := by kernel_rfl
theorem run_ix6d (n : Nv) (w' : World) : (Instr.index 94 n.v (.int .i64 3)).run Tryz.prog w' = .ok (.int .u64 n.d) w' := by kernel_rfl
theorem run_ix6e (n : Nv) (w' : World) : (Instr.index 94 n.v (.int .i64 4)).run Tryz.prog w' = .ok (.int .u64 n.e) w' := by kernel_rfl
theorem run_ix6f (n : Nv) (w' : World) : (Instr.index 94 n.v (.int .i64 5)).run Tryz.prog w' = .ok (.int .u64 n.f) w' := by kernel_rfl
theorem run_ix6 (n : Nv) {k : Nat} {y : Int} (hy : n.ws[k]? = some y) (w' : World) : (Instr.index 94 n.v (.int .i64 (k : Int))).run Tryz.prog w' = .ok (.int .u64 y) w' := by
  have hk := (List.getElem?_eq_some_iff.1 hy).1
  have hk6 : k < 6 := by simpa [Nv.ws] using hk
  rcases (by omega : k = 0 ∨ k = 1 ∨ k = 2 ∨ k = 3 ∨ k = 4 ∨ k = 5) with rfl | rfl | rfl | rfl | rfl | rfl
  · rw [← (Option.some.inj hy : n.a = y)]; exact run_ix6a n w'
  · rw [← (Option.some.inj hy : n.b = y)]; exact run_ix6b n w'
  · rw [← (Option.some.inj hy : n.c = y)]; exact run_ix6c n w'
  · rw [← (Option.some.inj hy : n.d = y)]; exact run_ix6d n w'
  · rw [← (Option.some.inj hy : n.e = y)]; exact run_ix6e n w'
  · rw [← (Option.some.inj hy : n.f = y)]; exact run_ix6f n w'

set_option maxRecDepth 100000 in
set_option maxHeartbeats 2000000 in
theorem lay_any (h : Sw w B A pg W L v T) (hB : B ≤ w.heap.size) (hx : U64 x) {old : List Int} (ho : Ho T W x old) (hl : old.length = 6) (n : Nv) (hn : n.Ok) :
    Calls Tryz.prog 50 #[sp A.st, .int .u64 x, n.v] w fun e w' => (∃ u, e = .returned u) ∧ Aside (∃ W', Sw w' B A pg W' L v T ∧ Ho T W' x n.ws ∧ (∀ z zs, z ≠ x → Ho T W z zs → Ho T W' z zs) ∧ Stp A pg pg v v w w') := by
  have ST : Aside (∀ V, K w V → Ly w V B A pg W L v T x n.ws old 0) := fun V k => ⟨W, h.keep k, by rw [mix_zero]; exact ho, fun z zs _ hz => hz, Stp.ofK k⟩
  have PT : Aside (∀ V k y, Ly w V B A pg W L v T x n.ws old k → n.ws[k]? = some y → Calls Tryz.prog 59 #[sp A.st, .int .u64 x, .int .i64 (k : Int), .int .u64 y] V fun e w' => e = .returned (.int .i64 0) ∧ Aside (Ly w w' B A pg W L v T x n.ws old (k + 1))) := fun V k y l hy => l.put hB hx rfl hl hy (hn.word hy)
  have FIN : Aside (∀ V, Ly w V B A pg W L v T x n.ws old 6 → ∃ W', Sw V B A pg W' L v T ∧ Ho T W' x n.ws ∧ (∀ z zs, z ≠ x → Ho T W z zs → Ho T W' z zs) ∧ Stp A pg pg v v w V) := fun V l => by
    obtain ⟨W', h1, h2, h3, h4⟩ := l.ex
    rw [mix_full (n := 6) rfl hl] at h2
    exact ⟨W', h1, h2, h3, h4⟩
  have cf : Aside (∀ V, Calls Tryz.prog 72 #[n.v] V fun e w' => e = .returned n.v ∧ K V w') := fun V => fieldsOf_any n V
  have AT : Aside (∀ k, k < 6 → ∃ y, n.ws[k]? = some y) := fun k hk => ⟨_, List.getElem?_eq_getElem hk⟩
  have IX : Aside (∀ (k : Nat) (y : Int), n.ws[k]? = some y → ∀ w', (Instr.index 94 n.v (.int .i64 (k : Int))).run Tryz.prog w' = .ok (.int .u64 y) w') := fun k y hy w' => run_ix6 n hy w'
  generalize n.ws = ws at *
  clear h hB hx ho hl hn
  go_enter Tryz.func50, Tryz.ntmps50
  go_wp2_with fail
  refine (cf.out _).mono ?_
  rintro e w1 ⟨rfl, k1⟩
  have L0 : Aside _ := ST.out w1 (Hp.K.trans ((K.refl w).alloc _) k1)
  clear ST cf k1
  go_wp2_with fail
  go_loopw [10] (fun t wr => ∃ k : Nat, t = .int .i64 k ∧ k ≤ 6 ∧ Aside (Ly w wr B A pg W L v T x ws old k)) (fun t _ => 6 - (intOf t).toNat)
  case atStart => exact ⟨0, rfl, by omega, L0⟩
  case round =>
    obtain ⟨k, rfl, hk, LK⟩ := hrel
    clear L0
    by_cases hlt : k < 6
    · obtain ⟨y, hy⟩ := AT.out k hlt
      have hix := IX.out k y hy
      have cp := PT.out wr k y LK.out hy
      clear hy
      go_wp2_with (go_at_call 59; refine cp.mono ?_; rintro e w5 ⟨rfl, p5⟩)
      go_roundw
      case measure => simp [intOf]; omega
      case rel => exact ⟨k + 1, by go_num, by omega, p5⟩
    · obtain rfl : k = 6 := by omega
      have hfin : Aside _ := FIN.out wr LK.out
      go_wp2
      exact bodyPost_end (v := .tuple #[]) (by simp [results, Tryz.results50, go_sem]) rfl ⟨⟨_, rfl⟩, hfin⟩

/-- What Make of a node leaves. -/
def MkOk (w : World) (B : Nat) (A : Ad) (pg : List (Int × Nat)) (W : Int → Int) (L : List Pg) (v : Value) (T : List Hd.Sl) (ws : List Int) (e : Ending) (w' : World) : Prop :=
  ∃ a L' x T', allocL A.q L (2 + 6) = (a, 0, L') ∧ openL A.m A.z T a = (x, 0, T') ∧ 0 ≤ a ∧ U64 x ∧ x ≠ 0 ∧ e = .returned (.tuple #[.int .u64 x, .int .i64 0]) ∧ Aside (∃ pg' W' v', Sw w' B A pg' W' L' v' T' ∧ Ho T' W' x ws ∧ (∀ y ys, Ho T W y ys → y ≠ x ∧ Ho T' W' y ys) ∧ Stp A pg pg' v v' w w')
def MkNo (w : World) (B : Nat) (A : Ad) (pg : List (Int × Nat)) (W : Int → Int) (L : List Pg) (v : Value) (T : List Hd.Sl) (e : Ending) (w' : World) : Prop :=
  ∃ er, (er != 0) = true ∧ ((∃ a, allocL A.q L (2 + 6) = (a, er, L) ∧ er ≠ 0) ∨ (er = 10 ∧ So.fullB A.m A.z T = true ∧ ∃ a L', allocL A.q L (2 + 6) = (a, 0, L'))) ∧ e = .returned (.tuple #[.int .u64 0, .int .i64 er]) ∧ Aside (∃ pg' W' v', Sw w' B A pg' W' L v' T ∧ Same L W W' ∧ Stp A pg pg' v v' w w')

set_option maxRecDepth 100000 in
set_option maxHeartbeats 2000000 in
theorem make_any (h : Sw w B A pg W L v T) (hB : B ≤ w.heap.size) (n : Nv) (hn : n.Ok) : Calls Tryz.prog 41 #[sp A.st, n.v] w fun e w' => MkOk w B A pg W L v T n.ws e w' ∨ MkNo w B A pg W L v T e w' := by
  obtain ⟨w1, hw1⟩ : ∃ w1, w1 = w.alloc (.cells n.cs 54) := ⟨_, rfl⟩
  have k01 : K w w1 := by rw [hw1]; exact (K.refl w).alloc _
  have hb1 : w1.heap[w.heap.size]? = some (.cells n.cs 54) := by rw [hw1]; exact World.alloc_heap_new _ _
  have nf : ¬ So.foot A pg v w.heap.size := fun hf => by have := h.b.flt hf; omega
  have mk := So.make_any (h.keep k01) (Nat.le_trans hB k01.size) 6
  have BK : Aside (∀ V pg' v', Stp A pg pg' v v' w1 V → V.heap[w.heap.size]? = some (.cells n.cs 54)) := fun V pg' v' st => st.block hb1 nf
  have K01 : Aside _ := k01
  have FIN : Aside (∀ a L' x T', allocL A.q L (2 + 6) = (a, 0, L') → openL A.m A.z T a = (x, 0, T') → ∀ V pg' W' v', Sw V B A pg' W' L' v' T' → Same L W W' → W' a = x → W' (a + 1) = 6 → (∀ i, 0 ≤ i → i < 6 → W' (a + 2 + i) = 0) → Stp A pg pg' v v' w1 V → 0 ≤ a ∧ U64 x ∧ x ≠ 0 ∧ Calls Tryz.prog 50 #[sp A.st, .int .u64 x, n.v] V fun e w' => (∃ u, e = .returned u) ∧ Aside (∃ pg' W' v', Sw w' B A pg' W' L' v' T' ∧ Ho T' W' x n.ws ∧ (∀ y ys, Ho T W y ys → y ≠ x ∧ Ho T' W' y ys) ∧ Stp A pg pg' v v' w w')) := by
    intro a L' x T' ea eo V pg' W' v' sw sm hwa hwn hz st
    have a0 : 0 ≤ a := by
      obtain ⟨_, hR⟩ := So.allocRm h.b.wl (x := 2 + 6) ⟨by omega, by omega⟩ ea
      have := sw.b.at ((hR _ _).2 (.inl ⟨rfl, rfl⟩))
      omega
    obtain ⟨⟨i, g, hf, hi⟩, _, x0, _, _⟩ := find_make a0 h.b.tl eo
    have hx := (So.nm_word a0 h.b.tl sw.b.tb.wf eo).2
    have ho : Ho T' W' x [0, 0, 0, 0, 0, 0] := by
      refine ⟨by rw [hf]; rfl, ?_⟩
      rw [Bb.rwI_some hf hi]
      refine Bb.wdA_of (by rw [hwn]; rfl) fun k y hy => ?_
      have hk := (List.getElem?_eq_some_iff.1 hy).1
      have hk6 : k < 6 := hk
      have : y = 0 := List.eq_of_mem_replicate (n := 6) (List.mem_of_getElem? hy)
      rw [this]
      exact hz k (by omega) (by omega)
    refine ⟨a0, hx, x0, (lay_any sw (Nat.le_trans hB (Nat.le_trans k01.size st.k.size)) hx ho rfl n hn).mono ?_⟩
    rintro e w2 ⟨he, hl⟩
    obtain ⟨W2, sw2, ho2, hot, st2⟩ := hl.out
    refine ⟨he, pg', W2, v', sw2, ho2, fun y ys hy => ?_, ((Stp.ofK k01).trans st).trans st2⟩
    obtain ⟨h1, h2⟩ := Ho.make h.r sm a0 h.b.tl eo hy
    exact ⟨h1, hot y ys h1 h2⟩
  have K1A : Aside _ := k01
  clear h hB hb1 nf k01
  go_enter Tryz.func41, Tryz.ntmps41
  go_wp2_with fail
  rw [show (w.alloc (.cells #[encU n.a, encU n.b, encU n.c, encU n.d, encU n.e, encU n.f] 54)) = w1 from hw1.symm]
  clear hw1
  refine mk.mono ?_
  rintro e w2 (⟨_, _, a, L', x, T', ea, eo, rfl, pg', W', v', sw, sm, hwa, hwn, hz, st⟩ | ⟨er, her, hc, rfl, pg', W', v', sw, sm, st⟩)
  · obtain ⟨a0, hx, x0, cl⟩ := FIN.out a L' x T' ea eo w2 pg' W' v' sw sm hwa hwn hz st
    obtain ⟨d0, d1, d2, d3, d4, d5⟩ := six (BK.out _ _ _ st)
    have hlt : w.heap.size < w2.heap.size := (Array.getElem?_eq_some_iff.1 (BK.out _ _ _ st)).1
    have END : Aside (∀ V, (∃ pg' W' v', Sw V B A pg' W' L' v' T' ∧ Ho T' W' x n.ws ∧ (∀ y ys, Ho T W y ys → y ≠ x ∧ Ho T' W' y ys) ∧ Stp A pg pg' v v' w V) → MkOk w B A pg W L v T n.ws (.returned (.tuple #[.int .u64 x, .int .i64 0])) V) := fun V h => ⟨a, L', x, T', ea, eo, a0, hx, x0, rfl, h⟩
    clear mk FIN BK K1A K01 ea eo a0 hx x0 sw sm hwa hwn hz st
    go_wp2_with fail
    refine cl.mono ?_
    rintro e w3 ⟨⟨u, rfl⟩, hl⟩
    have hfin := END.out _ hl.out
    clear hl END cl
    go_wp2_with fail
    go_ret2
    exact .inl hfin
  · have hfin : Aside (MkNo w B A pg W L v T (.returned (.tuple #[.int .u64 0, .int .i64 er])) w2) := ⟨er, her, by
      rcases hc with ⟨_, h2⟩ | ⟨_, _, h3⟩
      · exact absurd ⟨by omega, by omega⟩ h2
      · exact h3, rfl, pg', W', v', sw, sm, (Stp.ofK K1A.out).trans st⟩
    clear mk FIN BK K1A K01 hc sw sm st
    go_wp2_with fail
    go_ret2
    exact .inr hfin.out

theorem put_ok (h : Sw w B A pg W L v T) (hB : B ≤ w.heap.size) (hx : U64 x) {old : List Int} (ho : Ho T W x old) (hl : old.length = 6) (n : Nv) (hn : n.Ok) :
    Calls Tryz.prog 27 #[sp A.st, .int .u64 x, n.v] w fun e w' => e = .returned (.int .i64 0) ∧ Aside (∃ W', Sw w' B A pg W' L v T ∧ Ho T W' x n.ws ∧ (∀ z zs, z ≠ x → Ho T W z zs → Ho T W' z zs) ∧ Stp A pg pg v v w w') := by
  have k01 : K w (w.alloc (.cells n.cs 54)) := (K.refl w).alloc _
  have hb1 : (w.alloc (.cells n.cs 54)).heap[w.heap.size]? = some (.cells n.cs 54) := World.alloc_heap_new _ _
  have ck := check_any (h.keep k01) x hx
  rw [(ck_ho ho hl).1] at ck
  have la : Aside (∀ w1, K w w1 → Calls Tryz.prog 50 #[sp A.st, .int .u64 x, n.v] w1 fun e w' => (∃ u, e = .returned u) ∧ Aside (∃ W', Sw w' B A pg W' L v T ∧ Ho T W' x n.ws ∧ (∀ z zs, z ≠ x → Ho T W z zs → Ho T W' z zs) ∧ Stp A pg pg v v w w')) := fun w1 k => by
    refine (lay_any (h.keep k) (Nat.le_trans hB k.size) hx ho hl n hn).mono ?_
    rintro e w2 ⟨he, hl⟩
    obtain ⟨W', h1, h2, h3, h4⟩ := hl.out
    exact ⟨he, W', h1, h2, h3, (Stp.ofK k).trans h4⟩
  clear h hB ho hl
  go_enter Tryz.func27, Tryz.ntmps27
  go_wp2_with fail
  refine ck.mono ?_
  rintro e w1 ⟨rfl, k1⟩
  have cl := la.out w1 (k01.trans k1)
  have hb2 : w1.heap[w.heap.size]? = some (.cells n.cs 54) := k1.block hb1
  obtain ⟨d0, d1, d2, d3, d4, d5⟩ := six hb2
  have hlt : w.heap.size < w1.heap.size := (Array.getElem?_eq_some_iff.1 hb2).1
  clear la k1 ck hb1 hb2 k01
  go_wp2_with fail
  refine cl.mono ?_
  rintro e w2 ⟨⟨u, rfl⟩, hf⟩
  clear cl
  go_wp2_with fail
  go_ret
  exact ⟨rfl, hf⟩

end Nd
end Go.Proofs.YtbbjfebdihepnaaGreatDoor

/-
  The walk of package node's Get.
-/
namespace Go.Proofs.YtbbjfebdihepnaaGreatDoor
open Go.RowKit Go.Maps
attribute [local go_sem ↓] Go.wp_at_zero Go.wp_at_succ
namespace Nd
open Hp (Kept K No)
open Hd (U64 findL)
open Go.Proofs.YtbbjfebdihepnaaGreatDoor.Bb (Ho)
open Go.Proofs.YtbbjfebdihepnaaGreatDoor.So (Ad Sb Sw Rec Rn Stp sp wE gV)
variable {w w' : World} {B : Nat} {A : Ad} {pg : List (Int × Nat)} {W : Int → Int} {L : List Hp.Pg} {v : Value} {T : List Hd.Sl} {x : Int}

/-- A word of a record. -/
theorem word_held (h : Sw w B A pg W L v T) (hx : U64 x) {ws : List Int} (ho : Ho T W x ws) {k : Nat} {y : Int} (hy : ws[k]? = some y) : Calls Tryz.prog 48 #[sp A.st, .int .u64 x, .int .i64 (k : Int)] w fun e w' => e = .returned (.tuple #[.int .u64 y, .int .i64 0]) ∧ K w w' := by
  have cg := So.get_any h x (k : Int) hx
  obtain ⟨i, s, hi, hs, so, hw⟩ := ho_slot ho
  obtain ⟨_, n0, n1, _⟩ := h.r.nm i s hs so
  have ea : Hd.addrAt T i = s.a := by simp [Hd.addrAt, hs]
  have hk := (List.getElem?_eq_some_iff.1 hy).1
  have hl : (ws.length : Int) = W (s.a + 1) := by rw [← hw, wdA_len]; omega
  have e0 : wE T W x (k : Int) = 0 := by simp only [wE, hi, ea]; rw [if_pos ⟨by omega, by omega⟩]
  have e1 : gV T W x (k : Int) = y := by
    unfold gV
    rw [if_pos e0]
    have : So.wA T x (k : Int) = s.a + 2 + k := by simp [So.wA, hi, ea]
    rw [this]
    rw [← hw] at hy
    rw [wdA_get (by rw [hw]; exact hk)] at hy
    exact Option.some.inj hy
  rw [e0, e1] at cg
  exact cg

/-- The array, its first k words got. -/
def fAr (n : Nv) : Nat → Array Value
  | 0 => #[encU 0, encU 0, encU 0, encU 0, encU 0, encU 0]
  | 1 => #[encU n.a, encU 0, encU 0, encU 0, encU 0, encU 0]
  | 2 => #[encU n.a, encU n.b, encU 0, encU 0, encU 0, encU 0]
  | 3 => #[encU n.a, encU n.b, encU n.c, encU 0, encU 0, encU 0]
  | 4 => #[encU n.a, encU n.b, encU n.c, encU n.d, encU 0, encU 0]
  | 5 => #[encU n.a, encU n.b, encU n.c, encU n.d, encU n.e, encU 0]
  | _ => #[encU n.a, encU n.b, encU n.c, encU n.d, encU n.e, encU n.f]
theorem fAr_set (n : Nv) {k : Nat} {y : Int} (hy : n.ws[k]? = some y) : (fAr n k).setIfInBounds k (encU y) = fAr n (k + 1) ∧ ∃ u, (fAr n k)[k]? = some u := by
  have hk := (List.getElem?_eq_some_iff.1 hy).1
  have hk6 : k < 6 := by simpa [Nv.ws] using hk
  rcases (by omega : k = 0 ∨ k = 1 ∨ k = 2 ∨ k = 3 ∨ k = 4 ∨ k = 5) with rfl | rfl | rfl | rfl | rfl | rfl
  · rw [← (Option.some.inj hy : n.a = y)]; exact ⟨rfl, _, rfl⟩
  · rw [← (Option.some.inj hy : n.b = y)]; exact ⟨rfl, _, rfl⟩
  · rw [← (Option.some.inj hy : n.c = y)]; exact ⟨rfl, _, rfl⟩
  · rw [← (Option.some.inj hy : n.d = y)]; exact ⟨rfl, _, rfl⟩
  · rw [← (Option.some.inj hy : n.e = y)]; exact ⟨rfl, _, rfl⟩
  · rw [← (Option.some.inj hy : n.f = y)]; exact ⟨rfl, _, rfl⟩

/-- In the loop: the result's variable, the array. -/
structure Gx (w V : World) (n : Nv) (b1 b2 : Nat) (k : Nat) : Prop where
  k0 : K w V
  h1 : V.heap[b1]? = some (.cells (fAr nv0 0) 54)
  h2 : V.heap[b2]? = some (.cells (fAr n k) 94)
  l1 : w.heap.size ≤ b1
  l2 : w.heap.size ≤ b2
  ne : b1 ≠ b2
theorem Gx.keep {n : Nv} {b1 b2 k : Nat} {V V' : World} (h : Gx w V n b1 b2 k) (q : K V V') : Gx w V' n b1 b2 k := ⟨h.k0.trans q, q.block h.h1, q.block h.h2, h.l1, h.l2, h.ne⟩
theorem Gx.set {n : Nv} {b1 b2 k : Nat} {V : World} (h : Gx w V n b1 b2 k) {y : Int} (hy : n.ws[k]? = some y) : Gx w (V.setCell ⟨b2, k, none⟩ (.int .u64 y)) n b1 b2 (k + 1) := by
  have hs := heap_setCell_same V b2 k _ _ (.int .u64 y) h.h2
  refine ⟨Hp.K.setCell h.k0 _ h.l2, (Below.heap_setCell V ⟨b2, k, none⟩ _ b1 h.ne).trans h.h1, ?_, h.l1, h.l2, h.ne⟩
  rw [← (fAr_set n hy).1]
  exact hs
theorem Gx.cell {n : Nv} {b1 b2 k : Nat} {V : World} (h : Gx w V n b1 b2 k) {y : Int} (hy : n.ws[k]? = some y) : (∃ u, V.cell? ⟨b2, k, none⟩ = some u) ∧ V.frozen? ⟨b2, k, none⟩ = false := by
  obtain ⟨u, hu⟩ := (fAr_set n hy).2
  exact ⟨⟨u, by simp [World.cell?, h.h2, hu]⟩, frz h.h2 k⟩

theorem run_ixA (b k : Nat) (hk : k < 6) (w' : World) : (Instr.indexAt 94 (.pointer (some ⟨b, 0, none⟩)) (.int .i64 (k : Int))).run Tryz.prog w' = .ok (.pointer (some ⟨b, k, none⟩)) w' := by
  have hel : Tryz.prog.elem 94 = 27 := by kernel_rfl
  have hsz : (sizeOf 27).run Tryz.prog w' = .ok 1 w' := by kernel_rfl
  have hal : Tryz.prog.arrayLen 94 = 6 := by kernel_rfl
  have hu : Tryz.prog.underlying 94 = some (.array (Tryz.prog.arrayLen 94) (Tryz.prog.elem 94)) := by kernel_rfl
  rw [run_indexAt_array w' 94 _ .i64 k hu, hal, if_pos (by omega), hel, hsz]
  simp only [Result.andThen_ok, Int.toNat_natCast, Nat.mul_one]
  rw [Go.WideShapes.add_plain, Nat.zero_add]

set_option maxRecDepth 100000 in
set_option maxHeartbeats 400000 in
theorem get_node (h : Sw w B A pg W L v T) (hx : U64 x) {n : Nv} (ho : Ho T W x n.ws) : Calls Tryz.prog 26 #[sp A.st, .int .u64 x] w fun e w' => e = .returned (.tuple #[n.v, .int .i64 0]) ∧ K w w' := by
  have ck : Aside (∀ V, K w V → Calls Tryz.prog 47 #[sp A.st, .int .u64 x] V fun e w' => e = .returned (.int .i64 0) ∧ K V w') := fun V k => by
    have := check_any (h.keep k) x hx
    rw [(ck_ho ho rfl).1] at this
    exact this
  have GT : Aside (∀ (V : World) (k : Nat) (y : Int), K w V → n.ws[k]? = some y → Calls Tryz.prog 48 #[sp A.st, .int .u64 x, .int .i64 (k : Int)] V fun e w' => e = .returned (.tuple #[.int .u64 y, .int .i64 0]) ∧ K V w') := fun V k y q hy => word_held (h.keep q) hx ho hy
  have AT : Aside (∀ k, k < 6 → ∃ y, n.ws[k]? = some y) := fun k hk => ⟨_, List.getElem?_eq_getElem hk⟩
  have ST : Aside (∀ V, K (w.alloc (.cells zero6 54)) V → Gx w (V.alloc (.cells zero6 94)) n w.heap.size V.heap.size 0) := fun V k => ⟨((((K.refl w).alloc _).trans k).alloc _), (Hp.K.alloc (K.refl V) _).block (k.block (World.alloc_heap_new _ _)), World.alloc_heap_new _ _, Nat.le_refl _, (((K.refl w).alloc _).trans k).size, fun e => by
    have := (Array.getElem?_eq_some_iff.1 (k.block (World.alloc_heap_new w (.cells zero6 54)))).1
    omega⟩
  clear h hx ho
  go_enter Tryz.func26, Tryz.ntmps26
  go_wp2_with fail
  refine (ck.out _ ((K.refl w).alloc _)).mono ?_
  rintro e w1 ⟨rfl, k1⟩
  have G0 : Aside _ := ST.out w1 k1
  clear ST ck k1
  go_wp2_with fail
  generalize w1.heap.size = b2 at *
  go_loopw [16] (fun t wr => ∃ k : Nat, t = .int .i64 k ∧ k ≤ 6 ∧ Aside (Gx w wr n w.heap.size b2 k)) (fun t _ => 6 - (intOf t).toNat)
  case atStart => exact ⟨0, rfl, by omega, G0⟩
  case round =>
    obtain ⟨k, rfl, hk, GK⟩ := hrel
    clear G0
    by_cases hlt : k < 6
    · obtain ⟨y, hy⟩ := AT.out k hlt
      have cg := GT.out wr k y GK.out.k0 hy
      have ixk := fun w' => run_ixA b2 k hlt w'
      have HY : Aside _ := hy
      clear hy
      go_wp2_with fail
      refine cg.mono ?_
      rintro e w5 ⟨rfl, k5⟩
      have G5 : Aside _ := GK.out.keep k5
      obtain ⟨⟨u, hu⟩, hz⟩ := G5.out.cell HY.out
      clear cg k5 GK
      go_wp2_with fail
      go_roundw
      case measure => simp [intOf]; omega
      case rel => exact ⟨k + 1, by go_num, by omega, G5.out.set HY.out⟩
    · obtain rfl : k = 6 := by omega
      obtain ⟨d0, d1, d2, d3, d4, d5⟩ := six (w := wr) (show wr.heap[b2]? = some (.cells #[encU n.a, encU n.b, encU n.c, encU n.d, encU n.e, encU n.f] 94) from GK.out.h2)
      have cn := node_any n wr
      have GB : Aside (∀ V, K wr V → K w V ∧ V.heap[w.heap.size]? = some (.cells zero6 54)) := fun V q => ⟨GK.out.k0.trans q, q.block GK.out.h1⟩
      clear GK AT GT
      go_wp2_with fail
      refine cn.mono ?_
      rintro e w6 ⟨rfl, k6⟩
      obtain ⟨q6, b6⟩ := GB.out w6 k6
      have Q6 : Aside _ := q6
      have B6 : Aside _ := b6
      clear cn GB d0 d1 d2 d3 d4 d5 k6 q6 b6
      go_wp2_with (with_reducible refine wrapN ?_)
      unfold Wrapd
      refine wpList_store_six (v0 := encU n.a) (v1 := encU n.b) (v2 := encU n.c) (v3 := encU n.d) (v4 := encU n.e) (v5 := encU n.f) rfl 54 (.tmp 4) (.tmp 30) rfl (by kernel_rfl) w.heap.size B6.out rfl rfl (by simp [Value.oneCell']) ?_
      intro w7 b7 st7
      obtain ⟨d0, d1, d2, d3, d4, d5⟩ := six b7
      have KF : Aside (K w w7) := Hp.K.thenKept Q6.out st7 (Nat.le_refl _)
      clear b7 st7 Q6 B6
      go_wp2
      refine bodyPost_ret (v := .tuple #[n.v, .int .i64 0]) (by simp [results, Tryz.results26, go_sem, d0, d1, d2, d3, d4, d5]; try rfl) rfl ?_
      exact ⟨rfl, KF.out⟩

set_option maxRecDepth 100000 in
theorem get_err (h : Sw w B A pg W L v T) (hx : U64 x) (he : (ckE T W x != 0) = true) : Calls Tryz.prog 26 #[sp A.st, .int .u64 x] w fun e w' => e = .returned (.tuple #[nv0.v, .int .i64 (ckE T W x)]) ∧ K w w' := by
  have ck : Aside (∀ V, K w V → Calls Tryz.prog 47 #[sp A.st, .int .u64 x] V fun e w' => e = .returned (.int .i64 (ckE T W x)) ∧ K V w') := fun V k => check_any (h.keep k) x hx
  have BX : Aside (∀ V, K (w.alloc (.cells zero6 54)) V → K w V ∧ V.heap[w.heap.size]? = some (.cells zero6 54)) := fun V k => ⟨((K.refl w).alloc _).trans k, k.block (World.alloc_heap_new _ _)⟩
  generalize ckE T W x = er at *
  clear h hx
  go_enter Tryz.func26, Tryz.ntmps26
  go_wp2_with fail
  refine (ck.out _ ((K.refl w).alloc _)).mono ?_
  rintro e w1 ⟨rfl, k1⟩
  obtain ⟨q6, b6⟩ := BX.out w1 k1
  have Q6 : Aside _ := q6
  have B6 : Aside _ := b6
  clear ck BX k1 q6 b6
  go_wp2_with (with_reducible refine wrapN ?_)
  unfold Wrapd
  refine wpList_store_six (v0 := encU 0) (v1 := encU 0) (v2 := encU 0) (v3 := encU 0) (v4 := encU 0) (v5 := encU 0) rfl 54 (.tmp 4) (.tmp 14) rfl (by kernel_rfl) w.heap.size B6.out rfl rfl (by simp [Value.oneCell']) ?_
  intro w7 b7 st7
  obtain ⟨d0, d1, d2, d3, d4, d5⟩ := six b7
  have KF : Aside (K w w7) := Hp.K.thenKept Q6.out st7 (Nat.le_refl _)
  clear b7 st7 Q6 B6
  go_wp2
  refine bodyPost_ret (v := .tuple #[nv0.v, .int .i64 er]) (by simp [results, Tryz.results26, go_sem, nv0, d0, d1, d2, d3, d4, d5]; try rfl) rfl ?_
  exact ⟨rfl, KF.out⟩

end Nd
end Go.Proofs.YtbbjfebdihepnaaGreatDoor
