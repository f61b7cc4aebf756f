/-
  A store's view: which nodes and texts it tells; and what node's and blob's Get answer by it.
-/
import Derived.Test.YtbbjfebdihepnaaGreatDoorWA
import Derived.Test.YtbbjfebdihepnaaGreatDoorN3
import Derived.Test.YtbbjfebdihepnaaGreatDoorLC
import Derived.Maps.OwnSet
import Derived.Maps.Views
import Derived.Deep.RegionHeld3
namespace Go.Proofs.YtbbjfebdihepnaaGreatDoor
open Go.RowKit Go.Maps
namespace Wa
open Hp (Kept K No Pg)
open Hd (U64 findL)
open Nd (Nv ckE)
open Go.Proofs.YtbbjfebdihepnaaGreatDoor.Bb (Ho rwI gtS gtE)
open Go.Proofs.YtbbjfebdihepnaaGreatDoor.So (Ad Sb Sw Rec Rn sp)
variable {w w' : World} {B : Nat} {A : Ad} {pg : List (Int × Nat)} {W W' : Int → Int} {L L' : List Pg} {v : Value} {T T' : List Hd.Sl} {x : Int}

def nvOf (l : List Int) : Nv := ⟨l.getD 0 0, l.getD 1 0, l.getD 2 0, l.getD 3 0, l.getD 4 0, l.getD 5 0⟩
theorem nvOf_ws (n : Nv) : nvOf n.ws = n := rfl
instance (x : Int) : Decidable (U64 x) := decidable_of_iff (0 ≤ x ∧ x ≤ 18446744073709551615) ⟨fun h => ⟨h.1, h.2⟩, fun h => ⟨h.1, h.2⟩⟩
/-- What a store tells. -/
def vw (T : List Hd.Sl) (W : Int → Int) : Vw where
  nd := fun h => if U64 h ∧ ckE T W h = 0 then some (nvOf (rwI T W h)) else none
  tx := fun h => if U64 h ∧ gtE T W h = 0 then some ⟨(gtS T W h).toArray⟩ else none

theorem nd_some {n : Nv} (h : (vw T W).nd x = some n) : U64 x ∧ Ho T W x n.ws := by
  simp only [vw] at h
  split at h
  · next h1 =>
    obtain ⟨n', hn'⟩ := Nd.ho_ck h1.2
    have e : nvOf (rwI T W x) = n := Option.some.inj h
    rw [hn'.2, nvOf_ws] at e
    subst e
    exact ⟨h1.1, hn'⟩
  · cases h
theorem nd_of {n : Nv} (hx : U64 x) (h : Ho T W x n.ws) : (vw T W).nd x = some n := by
  simp only [vw]
  rw [if_pos ⟨hx, (Nd.ck_ho h rfl).1⟩, h.2, nvOf_ws]
theorem nd_no (hx : U64 x) (h : (vw T W).nd x = none) : (ckE T W x != 0) = true := by
  simp only [vw] at h
  split at h
  · cases h
  · next h1 => simpa using fun e => h1 ⟨hx, e⟩
theorem tx_of {t : ByteArray} (hx : U64 x) (ht : t.size ≤ 1000) (h : Ho T W x (Tx.wds (Tx.bs t))) : (vw T W).tx x = some t := by
  obtain ⟨e1, e2⟩ := h.get (by rw [Tx.bs_len]; exact ht)
  simp only [vw]
  rw [if_pos ⟨hx, e2⟩, e1]
theorem nodup_len {a b : List Int} (h : a.Nodup) (hs : ∀ x ∈ a, x ∈ b) : a.length ≤ b.length := by
  induction a generalizing b with
  | nil => simp
  | cons x a ih =>
    obtain ⟨h1, h2⟩ := List.nodup_cons.1 h
    have hx := hs x (by simp)
    have := ih (b := b.erase x) h2 (fun y hy => (List.mem_erase_of_ne (fun e => h1 (by rw [← e]; exact hy))).2 (hs y (by simp [hy])))
    rw [List.length_erase_of_mem hx] at this
    have := List.length_pos_of_mem hx
    simp only [List.length_cons]
    omega
/-- The handles that there may be. -/
def lvH (T : List Hd.Sl) : List Int := (List.range T.length).map fun (i : Nat) => Hd.nm ((i : Int) + 1) ((T.getD i ⟨false, 0, 0⟩).g)
theorem lvH_len (T : List Hd.Sl) : (lvH T).length = T.length := by simp [lvH]
theorem find_mem {i : Nat} (hf : findL T x = some i) : x ∈ lvH T := by
  obtain ⟨s, hs, so, sg, e⟩ := Hd.findL_some hf
  have hl := (List.getElem?_eq_some_iff.1 hs).1
  refine List.mem_map.2 ⟨i, List.mem_range.2 hl, ?_⟩
  rw [List.getD_eq_getElem?_getD, hs]
  show Hd.nm _ s.g = x
  unfold Hd.nm
  omega
theorem nd_mem {n : Nv} (h : (vw T W).nd x = some n) : x ∈ lvH T := by
  obtain ⟨i, hi⟩ := Option.isSome_iff_exists.1 (nd_some h).2.1
  exact find_mem hi
theorem tx_find {t : ByteArray} (h : (vw T W).tx x = some t) : (findL T x).isSome = true := by
  simp only [vw] at h
  split at h
  · next h1 =>
    cases hf : findL T x with
    | none =>
      have := (Bb.get_none (W := W) hf).2
      omega
    | some i => rfl
  · cases h
theorem tx_mem {t : ByteArray} (h : (vw T W).tx x = some t) : x ∈ lvH T := by
  obtain ⟨i, hi⟩ := Option.isSome_iff_exists.1 (tx_find h)
  exact find_mem hi
theorem nd_ok (h : Sw w B A pg W L v T) {n : Nv} (hn : (vw T W).nd x = some n) : n.Ok := by
  have hw := (nd_some hn).2.2
  have g : ∀ (k : Nat) y, n.ws[k]? = some y → 0 ≤ y ∧ y ≤ 18446744073709551615 := fun k y hy => by
    rw [← hw] at hy
    have := Bb.rwI_us (x := x) h y (List.mem_of_getElem? hy)
    exact this
  exact ⟨g 0 _ rfl, g 1 _ rfl, g 2 _ rfl, g 3 _ rfl, g 4 _ rfl, g 5 _ rfl⟩
theorem vw_fit (h : Sw w B A pg W L v T) : (vw T W).Fit := by
  refine ⟨?_, fun l hl hn => ?_, fun x n hx => nd_ok h hx⟩
  · cases e : (vw T W).nd 0 with
    | none => rfl
    | some n =>
      have := (nd_some e).2.1
      rw [Bb.find_zero] at this
      cases this
  · have := nodup_len hl (b := lvH T) (fun x hx => by
      cases e : (vw T W).nd x with
      | none => exact absurd e (hn x hx)
      | some n => exact nd_mem e)
    rw [lvH_len] at this
    exact Nat.le_trans this h.b.tl

theorem get_some (h : Sw w B A pg W L v T) {n : Nv} (hn : (vw T W).nd x = some n) : Calls Tryz.prog 26 #[sp A.st, .int .u64 x] w fun e w' => e = .returned (.tuple #[n.v, .int .i64 0]) ∧ K w w' := by
  obtain ⟨hx, ho⟩ := nd_some hn
  exact Nd.get_node h hx ho
theorem get_none (h : Sw w B A pg W L v T) (hx : U64 x) (hn : (vw T W).nd x = none) : ∃ er, (er != 0) = true ∧ Calls Tryz.prog 26 #[sp A.st, .int .u64 x] w fun e w' => e = .returned (.tuple #[Nd.nv0.v, .int .i64 er]) ∧ K w w' :=
  ⟨_, nd_no hx hn, Nd.get_err h hx (nd_no hx hn)⟩
theorem text_some (h : Sw w B A pg W L v T) {t : ByteArray} (ht : (vw T W).tx x = some t) : Calls Tryz.prog 54 #[sp A.st, .int .u64 x] w fun e w' => e = .returned (.tuple #[.string t, .int .i64 0]) ∧ K w w' := by
  simp only [vw] at ht
  split at ht
  · next h1 =>
    have c := Bb.get_any h h1.1
    rw [h1.2, Option.some.inj ht] at c
    exact c
  · cases ht
theorem text_none (h : Sw w B A pg W L v T) (hx : U64 x) (ht : (vw T W).tx x = none) : ∃ er s, (er != 0) = true ∧ Calls Tryz.prog 54 #[sp A.st, .int .u64 x] w fun e w' => e = .returned (.tuple #[.string s, .int .i64 er]) ∧ K w w' := by
  simp only [vw] at ht
  split at ht
  · cases ht
  · next h1 => exact ⟨_, _, by simpa using fun e => h1 ⟨hx, e⟩, Bb.get_any h hx⟩

end Wa
end Go.Proofs.YtbbjfebdihepnaaGreatDoor

/-
  The set of names that were met: a map with values of no cell; add.
-/
namespace Go.Proofs.YtbbjfebdihepnaaGreatDoor
open Go.RowKit Go.Maps
attribute [local go_sem ↓] Go.wp_at_zero Go.wp_at_succ
namespace Wa
open Hp (Kept K No)
open Hd (U64)
variable {w w' : World}

theorem lawH : Keyed Tryz.prog 28 := int_keyed Tryz.underlying28
theorem zeroU (w : World) : (zeroValue 110).run Tryz.prog w = .ok (.agg #[]) w := by kernel_rfl
theorem wfU {x : Int} (h : U64 x) : (Lit.int .u64 x).wf = true := WalkArith.wf_u64 ⟨h.1, h.2⟩

/-- The map at b holds these names, each once. -/
structure Mp (w : World) (b : Nat) (m : List Int) : Prop where
  ex : ∃ D : DataW Nat, w.ownsMap Tryz.prog 28 unitElem b m.length D ∧ ∀ x, Maps.has D (.int .u64 x) = decide (x ∈ m)
  nd : m.Nodup
theorem Mp.kept {O : Nat → Prop} {b : Nat} {m : List Int} (h : Mp w b m) (k : Kept O w w') (hb : ¬ O b) : Mp w' b m := by
  obtain ⟨D, ⟨es, clock, h1, F, h2, h3⟩, h4⟩ := h.ex
  exact ⟨⟨D, ⟨es, clock, k.block h1 hb, F, h2, h3⟩, h4⟩, h.nd⟩
theorem Mp.lt {b : Nat} {m : List Int} (h : Mp w b m) : b < w.heap.size := by
  obtain ⟨D, h1, _⟩ := h.ex
  exact h1.lt
theorem Mp.new (w : World) : Mp (w.alloc (.map #[] 0)) w.heap.size [] := ⟨⟨_, World.ownsMap_made _ _ _ _, fun x => by simp [Maps.has_eq]⟩, .nil⟩

theorem turned_kept {b : Nat} (h : w.mapTurned w' b) : Kept (fun k => k = b) w w' := by
  have g := h.grown
  exact ⟨g.os, g.tape, g.output, g.size, fun j hj hn => g.block j hj (fun e => hn (Option.some.inj e))⟩

theorem add_old {b : Nat} {m : List Int} {x : Int} (h : Mp w b m) (hx : U64 x) (hm : x ∈ m) : Calls Tryz.prog 32 #[.map (some b), .int .u64 x] w fun e w' => e = .returned (.bool false) ∧ K w w' := by
  obtain ⟨D, h1, h2⟩ := h.ex
  have hh := h2 x
  rw [decide_eq_true hm] at hh
  have hw := wfU hx
  clear h h2
  go_enter Tryz.func32, Tryz.ntmps32
  go_wp2_with (at_lookup; refine wpList_lookup_own_unit _ rfl _ _ 66 rfl 28 110 lawH Tryz.underlying66 (zeroU _) b m.length D rfl h1 _ _ rfl (keyOf_int_mk Tryz.underlying28 hw) ?_; rw [hh])
  go_ret
  exact ⟨rfl, (K.refl w).alloc _⟩
set_option maxRecDepth 100000 in
theorem add_new {b : Nat} {m : List Int} {x : Int} (h : Mp w b m) (hx : U64 x) (hm : x ∉ m) (hl : m.length < 100000) : Calls Tryz.prog 32 #[.map (some b), .int .u64 x] w fun e w' => e = .returned (.bool true) ∧ Aside (Mp w' b (x :: m) ∧ Kept (fun k => k = b) w w') := by
  obtain ⟨D, h1, h2⟩ := h.ex
  have hh := h2 x
  rw [decide_eq_false hm] at hh
  have hw := wfU hx
  have fin : Aside (∀ w', w'.ownsMap Tryz.prog 28 unitElem b (m.length + 1) (D.put (.int .u64 x) (.agg [])) → (w.alloc (.cells #[] 110)).mapTurned w' b → Mp w' b (x :: m) ∧ Kept (fun k => k = b) w w') := fun w' o1 t1 => by
    refine ⟨⟨⟨_, o1, fun y => ?_⟩, List.nodup_cons.2 ⟨hm, h.nd⟩⟩, (((K.refl w).alloc _).kept _).trans (turned_kept t1)⟩
    by_cases e : y = x
    · subst e
      rw [Maps.has_put_same h1.isMap (show WideAt.IsKeyLit (Lit.int .u64 y) from trivial), decide_eq_true (by simp)]
    · rw [Maps.has_put_other (fun h => e (by cases h; rfl)), h2 y]
      simp [e]
  clear h h2
  go_enter Tryz.func32, Tryz.ntmps32
  go_wp2_with (first
    | (at_lookup; refine wpList_lookup_own_unit _ rfl _ _ 66 rfl 28 110 lawH Tryz.underlying66 (zeroU _) b m.length D rfl h1 _ _ rfl (keyOf_int_mk Tryz.underlying28 hw) ?_; rw [hh])
    | (at_mapUpdate; refine wpList_mapUpdate_in _ rfl _ _ _ 66 rfl 28 110 lawH Tryz.underlying66 unitElem b m.length D rfl (h1.alloc _) (by unfold maxLen; omega) _ _ _ rfl rfl (keyOf_int_mk Tryz.underlying28 hw) (.agg []) [] unitElem_mk ?_; intro w2 hown2 hturn2; have F2 : Aside _ := fin.out w2 hown2 hturn2; clear hown2 hturn2))
  go_ret
  exact ⟨rfl, F2⟩

end Wa
end Go.Proofs.YtbbjfebdihepnaaGreatDoor

/-
  Walks of the small functions: made, look, Size, down.
-/
namespace Go.Proofs.YtbbjfebdihepnaaGreatDoor
open Go.RowKit Go.Maps
attribute [local go_sem ↓] Go.wp_at_zero Go.wp_at_succ
namespace Wa
open Hp (Kept K No Pg)
open Hd (U64 findL)
open Nd (Nv nv0 encU six Wrapd wrapN wpList_store_six)
open Go.Proofs.YtbbjfebdihepnaaGreatDoor.So (Ad Sb Sw Rec Rn sp)
variable {w w' : World} {B : Nat} {A : Ad} {pg : List (Int × Nat)} {W : Int → Int} {L : List Pg} {v : Value} {T : List Hd.Sl} {x : Int}

theorem made_yes (h : Sw w B A pg W L v T) : Calls Tryz.prog 29 #[sp A.st] w fun e w' => e = .returned (.bool true) ∧ K w w' := by
  have ln := So.len_any h 0 ⟨by decide, by decide⟩
  rw [show So.lE T 0 = 7 by simp [So.lE, Bb.find_zero]] at ln
  generalize So.lN T W 0 = n at *
  clear h
  go_enter Tryz.func29, Tryz.ntmps29
  go_wp2_with fail
  refine ln.mono ?_
  rintro e w1 ⟨rfl, k1⟩
  go_wp2_with fail
  go_ret
  exact ⟨rfl, k1⟩

abbrev zero7 : Array Value := #[encU 0, encU 0, encU 0, encU 0, encU 0, encU 0, encU 0]
set_option maxRecDepth 100000 in
set_option maxHeartbeats 400000 in
theorem look_some (h : Sw w B A pg W L v T) {n : Nv} (hn : lk (vw T W) x = some n) : Calls Tryz.prog 35 #[sp A.st, .int .u64 x] w fun e w' => e = .returned (.tuple #[pv x n, .bool true]) ∧ K w w' := by
  obtain ⟨h1, h2⟩ := lk_nd hn
  have cg : Aside (∀ V, K w V → Calls Tryz.prog 26 #[sp A.st, .int .u64 x] V fun e w' => e = .returned (.tuple #[n.v, .int .i64 0]) ∧ K V w') := fun V k => get_some (h.keep k) h1
  have hd : decide ((65536 : Int) < n.f) = false := decide_eq_false (by omega)
  have BX : Aside (∀ V V', K (w.alloc (.cells zero7 71)) V → K V V' → K w V' ∧ V'.heap[w.heap.size]? = some (.cells zero7 71)) := fun V V' k k' => ⟨(((K.refl w).alloc _).trans k).trans k', (k.trans k').block (World.alloc_heap_new _ _)⟩
  clear h hn h1 h2
  obtain ⟨a, b, c, d, e, f⟩ := n
  go_enter Tryz.func35, Tryz.ntmps35
  go_wp2_with fail
  refine (cg.out _ ((K.refl w).alloc _)).mono ?_
  rintro e w1 ⟨rfl, k1⟩
  go_wp2_with (with_reducible refine wrapP ?_)
  unfold Wrapd
  obtain ⟨k2, b2⟩ := BX.out w1 _ k1 ((K.refl w1).alloc (.cells #[encU a, encU b, encU c, encU d, encU e, encU f] 54))
  refine wpList_store_seven (v0 := encU x) (v1 := encU a) (v2 := encU b) (v3 := encU c) (v4 := encU d) (v5 := encU e) (v6 := encU f) rfl 71 (.tmp 4) (.tmp 24) rfl (by kernel_rfl) w.heap.size b2 rfl rfl (by simp [Value.oneCell']) ?_
  intro w5 b5 st5
  have KF : Aside (K w w5) := Hp.K.thenKept k2 st5 (Nat.le_refl _)
  obtain ⟨d0, d1, d2, d3, d4, d5, d6⟩ := seven b5
  clear b5 st5 k2 b2 BX cg k1
  go_wp2
  refine bodyPost_ret (v := .tuple #[pv x ⟨a, b, c, d, e, f⟩, .bool true]) (by simp [results, Tryz.results35, go_sem, d0, d1, d2, d3, d4, d5, d6]; try rfl) rfl ?_
  exact ⟨rfl, KF.out⟩

set_option maxRecDepth 100000 in
set_option maxHeartbeats 400000 in
theorem look_bad (h : Sw w B A pg W L v T) (hx : U64 x) (hn : (vw T W).nd x = none) : Calls Tryz.prog 35 #[sp A.st, .int .u64 x] w fun e w' => e = .returned (.tuple #[pv 0 nv0, .bool false]) ∧ K w w' := by
  have cg : Aside (∀ V, K w V → ∃ er, (er != 0) = true ∧ Calls Tryz.prog 26 #[sp A.st, .int .u64 x] V fun e w' => e = .returned (.tuple #[nv0.v, .int .i64 er]) ∧ K V w') := fun V k => get_none (h.keep k) hx hn
  have BX : Aside (∀ V V', K (w.alloc (.cells zero7 71)) V → K V V' → K w V' ∧ V'.heap[w.heap.size]? = some (.cells zero7 71)) := fun V V' k k' => ⟨(((K.refl w).alloc _).trans k).trans k', (k.trans k').block (World.alloc_heap_new _ _)⟩
  clear h hn
  obtain ⟨er, he, c0⟩ := cg.out _ ((K.refl w).alloc (.cells zero7 71))
  clear cg
  go_enter Tryz.func35, Tryz.ntmps35
  go_wp2_with fail
  refine c0.mono ?_
  rintro e w1 ⟨rfl, k1⟩
  go_wp2_with (with_reducible refine wrapP ?_)
  unfold Wrapd
  obtain ⟨k2, b2⟩ := BX.out w1 _ k1 ((K.refl w1).alloc (.cells #[encU 0, encU 0, encU 0, encU 0, encU 0, encU 0] 54))
  refine wpList_store_seven (v0 := encU 0) (v1 := encU 0) (v2 := encU 0) (v3 := encU 0) (v4 := encU 0) (v5 := encU 0) (v6 := encU 0) rfl 71 (.tmp 4) (.tmp 21) rfl (by kernel_rfl) w.heap.size b2 rfl rfl (by simp [Value.oneCell']) ?_
  intro w5 b5 st5
  have KF : Aside (K w w5) := Hp.K.thenKept k2 st5 (Nat.le_refl _)
  obtain ⟨d0, d1, d2, d3, d4, d5, d6⟩ := seven b5
  clear b5 st5 k2 b2 BX k1
  go_wp2
  refine bodyPost_ret (v := .tuple #[pv 0 nv0, .bool false]) (by simp [results, Tryz.results35, go_sem, nv0, d0, d1, d2, d3, d4, d5, d6]; try rfl) rfl ?_
  exact ⟨rfl, KF.out⟩

set_option maxRecDepth 100000 in
set_option maxHeartbeats 400000 in
theorem look_big (h : Sw w B A pg W L v T) {n : Nv} (hn : (vw T W).nd x = some n) (hb : 65536 < n.f) : Calls Tryz.prog 35 #[sp A.st, .int .u64 x] w fun e w' => e = .returned (.tuple #[pv 0 nv0, .bool false]) ∧ K w w' := by
  have cg : Aside (∀ V, K w V → Calls Tryz.prog 26 #[sp A.st, .int .u64 x] V fun e w' => e = .returned (.tuple #[n.v, .int .i64 0]) ∧ K V w') := fun V k => get_some (h.keep k) hn
  have hd : decide ((65536 : Int) < n.f) = true := decide_eq_true hb
  have BX : Aside (∀ V V', K (w.alloc (.cells zero7 71)) V → K V V' → K w V' ∧ V'.heap[w.heap.size]? = some (.cells zero7 71)) := fun V V' k k' => ⟨(((K.refl w).alloc _).trans k).trans k', (k.trans k').block (World.alloc_heap_new _ _)⟩
  clear h hn hb
  obtain ⟨a, b, c, d, e, f⟩ := n
  go_enter Tryz.func35, Tryz.ntmps35
  go_wp2_with fail
  refine (cg.out _ ((K.refl w).alloc _)).mono ?_
  rintro e w1 ⟨rfl, k1⟩
  go_wp2_with (with_reducible refine wrapP ?_)
  unfold Wrapd
  obtain ⟨k2, b2⟩ := BX.out w1 _ k1 ((K.refl w1).alloc (.cells #[encU a, encU b, encU c, encU d, encU e, encU f] 54))
  refine wpList_store_seven (v0 := encU 0) (v1 := encU 0) (v2 := encU 0) (v3 := encU 0) (v4 := encU 0) (v5 := encU 0) (v6 := encU 0) rfl 71 (.tmp 4) (.tmp 21) rfl (by kernel_rfl) w.heap.size b2 rfl rfl (by simp [Value.oneCell']) ?_
  intro w5 b5 st5
  have KF : Aside (K w w5) := Hp.K.thenKept k2 st5 (Nat.le_refl _)
  obtain ⟨d0, d1, d2, d3, d4, d5, d6⟩ := seven b5
  clear b5 st5 k2 b2 BX k1 cg
  go_wp2
  refine bodyPost_ret (v := .tuple #[pv 0 nv0, .bool false]) (by simp [results, Tryz.results35, go_sem, nv0, d0, d1, d2, d3, d4, d5, d6]; try rfl) rfl ?_
  exact ⟨rfl, KF.out⟩

/-- What look answers. -/
def pkV (x : Int) (o : Option Nv) : Value := match o with
  | some n => .tuple #[pv x n, .bool true]
  | none => .tuple #[pv 0 nv0, .bool false]
theorem look_none (h : Sw w B A pg W L v T) (hx : U64 x) (hn : lk (vw T W) x = none) : Calls Tryz.prog 35 #[sp A.st, .int .u64 x] w fun e w' => e = .returned (.tuple #[pv 0 nv0, .bool false]) ∧ K w w' := by
  unfold lk at hn
  cases e : (vw T W).nd x with
  | none => exact look_bad h hx e
  | some n =>
    rw [e] at hn
    simp only at hn
    split at hn
    · cases hn
    · exact look_big h e (by omega)
theorem lk_ok (h : Sw w B A pg W L v T) {n : Nv} (hn : lk (vw T W) x = some n) : n.Ok ∧ n.f ≤ 65536 := ⟨nd_ok h (lk_nd hn).1, (lk_nd hn).2⟩
theorem sz_rng (h : Sw w B A pg W L v T) (x : Int) : 0 ≤ sz (vw T W) x ∧ sz (vw T W) x ≤ 65536 := by
  rw [sz_lk]
  cases e : lk (vw T W) x with
  | none => exact ⟨by decide, by decide⟩
  | some n =>
    obtain ⟨h1, h2⟩ := lk_ok h e
    exact ⟨h1.f.1, h2⟩

theorem size_any (h : Sw w B A pg W L v T) (hx : U64 x) : Calls Tryz.prog 13 #[sp A.st, .int .u64 x] w fun e w' => e = .returned (.int .i64 (sz (vw T W) x)) ∧ K w w' := by
  rw [sz_lk]
  cases e : lk (vw T W) x with
  | none =>
    have cl := look_none h hx e
    clear h
    show Calls _ _ _ _ fun e w' => e = .returned (.int .i64 0) ∧ _
    go_enter Tryz.func13, Tryz.ntmps13
    go_wp2_with fail
    refine cl.mono ?_
    rintro e w1 ⟨rfl, k1⟩
    have k2 := fun o => k1.alloc o
    clear cl
    go_wp2
    go_ret
    exact ⟨by simp [nv0, wrap64], k2 _⟩
  | some n =>
    obtain ⟨ok, h2⟩ := lk_ok h e
    have h1 := ok.f.1
    have cl := look_some h e
    clear h ok
    show Calls _ _ _ _ fun e w' => e = .returned (.int .i64 n.f) ∧ _
    obtain ⟨a, b, c, d, x1, f⟩ := n
    simp only at h1 h2
    go_enter Tryz.func13, Tryz.ntmps13
    go_wp2_with fail
    refine cl.mono ?_
    rintro e w1 ⟨rfl, k1⟩
    have k2 := fun o => k1.alloc o
    clear cl
    go_wp2
    go_ret
    exact ⟨by simp, k2 _⟩

set_option maxRecDepth 100000 in
set_option maxHeartbeats 400000 in
theorem down_some (h : Sw w B A pg W L v T) {p n : Nv} {y : Int} (hn : dn (vw T W) p x = some n) : Calls Tryz.prog 38 #[sp A.st, pv y p, .int .u64 x] w fun e w' => e = .returned (.tuple #[pv x n, .bool true]) ∧ K w w' := by
  obtain ⟨h1, h2⟩ := dn_lk hn
  have cg : Aside (∀ V, K w V → Calls Tryz.prog 35 #[sp A.st, .int .u64 x] V fun e w' => e = .returned (.tuple #[pv x n, .bool true]) ∧ K V w') := fun V k => look_some (h.keep k) h1
  have hd : decide (p.f ≤ n.f) = false := decide_eq_false (by omega)
  obtain ⟨a, b, c, d, e, f⟩ := n
  obtain ⟨pa, pb, pc, pd, pe, pf⟩ := p
  have hd : decide (pf ≤ f) = false := hd
  have BX : Aside (∀ V V', K ((w.alloc (.cells #[encU y, encU pa, encU pb, encU pc, encU pd, encU pe, encU pf] 71)).alloc (.cells zero7 71)) V → K V V' → K w V' ∧ V'.heap[w.heap.size + 1]? = some (.cells zero7 71) ∧ V'.heap[w.heap.size]? = some (.cells #[encU y, encU pa, encU pb, encU pc, encU pd, encU pe, encU pf] 71)) := fun V V' k k' => ⟨((((K.refl w).alloc _).alloc _).trans k).trans k', (k.trans k').block (by simpa using World.alloc_heap_new (w.alloc (.cells #[encU y, encU pa, encU pb, encU pc, encU pd, encU pe, encU pf] 71)) (.cells zero7 71)), (((K.refl _).alloc _).trans (k.trans k')).block (World.alloc_heap_new _ _)⟩
  clear h hn h1 h2
  go_enter Tryz.func38, Tryz.ntmps38
  go_wp2_with fail
  refine (cg.out _ (((K.refl w).alloc _).alloc _)).mono ?_
  rintro e w1 ⟨rfl, k1⟩
  go_wp2_with (with_reducible refine wrapP ?_)
  unfold Wrapd
  refine wpList_store_seven (v0 := encU x) (v1 := encU a) (v2 := encU b) (v3 := encU c) (v4 := encU d) (v5 := encU e) (v6 := encU f) rfl 71 (.tmp 8) (.tmp 14) rfl (by kernel_rfl) w1.heap.size (World.alloc_heap_new _ _) rfl rfl (by simp [Value.oneCell']) ?_
  intro w4 b4 st4
  have k4 : K w1 w4 := Hp.K.thenKept ((K.refl w1).alloc _) st4 (Nat.le_refl _)
  obtain ⟨k2, b2, q1⟩ := BX.out w1 _ k1 k4
  obtain ⟨_, _, _, _, _, _, q6⟩ := seven q1
  obtain ⟨p0, p1, p2, p3, p4, p5, p6⟩ := seven b4
  have B2 : Aside _ := b2
  have K2 : Aside _ := k2
  clear st4 k2 b2 BX cg k1 k4 q1 b4
  go_wp2_with (with_reducible refine wrapP ?_)
  unfold Wrapd
  refine wpList_store_seven (v0 := encU x) (v1 := encU a) (v2 := encU b) (v3 := encU c) (v4 := encU d) (v5 := encU e) (v6 := encU f) rfl 71 (.tmp 6) (.tmp 28) rfl (by kernel_rfl) (w.heap.size + 1) B2.out rfl rfl (by simp [Value.oneCell']) ?_
  intro w5 b5 st5
  have KF : Aside (K w w5) := Hp.K.thenKept K2.out st5 (Nat.le_succ _)
  obtain ⟨d0, d1, d2, d3, d4, d5, d6⟩ := seven b5
  clear b5 st5 p0 p1 p2 p3 p4 p5 p6 q6
  go_wp2
  refine bodyPost_ret (v := .tuple #[pv x ⟨a, b, c, d, e, f⟩, .bool true]) (by simp [results, Tryz.results38, go_sem, d0, d1, d2, d3, d4, d5, d6]; try rfl) rfl ?_
  exact ⟨rfl, KF.out⟩

end Wa
end Go.Proofs.YtbbjfebdihepnaaGreatDoor

/-
  Walks of the small functions: down where there is none, textsOf, isSized, Pair.
-/
namespace Go.Proofs.YtbbjfebdihepnaaGreatDoor
open Go.RowKit Go.Maps
attribute [local go_sem ↓] Go.wp_at_zero Go.wp_at_succ
namespace Wa
open Hp (Kept K No Pg)
open Hd (U64 findL)
open Nd (Nv nv0 encU six Wrapd wrapN wpList_store_six)
open Go.Proofs.YtbbjfebdihepnaaGreatDoor.So (Ad Sb Sw Rec Rn sp)
variable {w w' : World} {B : Nat} {A : Ad} {pg : List (Int × Nat)} {W : Int → Int} {L : List Pg} {v : Value} {T : List Hd.Sl} {x : Int}

set_option maxRecDepth 100000 in
set_option maxHeartbeats 400000 in
theorem down_no {p n : Nv} {y z : Int} {ok : Bool} (cg : ∀ V, K w V → Calls Tryz.prog 35 #[sp A.st, .int .u64 x] V fun e w' => e = .returned (.tuple #[pv z n, .bool ok]) ∧ K V w') (hd : ok = false ∨ (ok = true ∧ decide (p.f ≤ n.f) = true)) :
    Calls Tryz.prog 38 #[sp A.st, pv y p, .int .u64 x] w fun e w' => e = .returned (.tuple #[pv 0 nv0, .bool false]) ∧ K w w' := by
  obtain ⟨a, b, c, d, e, f⟩ := n
  obtain ⟨pa, pb, pc, pd, pe, pf⟩ := p
  have hd : ok = false ∨ (ok = true ∧ decide (pf ≤ f) = true) := hd
  have cg : Aside _ := cg
  have BX : Aside (∀ V V', K ((w.alloc (.cells #[encU y, encU pa, encU pb, encU pc, encU pd, encU pe, encU pf] 71)).alloc (.cells zero7 71)) V → K V V' → K w V' ∧ V'.heap[w.heap.size + 1]? = some (.cells zero7 71) ∧ V'.heap[w.heap.size]? = some (.cells #[encU y, encU pa, encU pb, encU pc, encU pd, encU pe, encU pf] 71)) := fun V V' k k' => ⟨((((K.refl w).alloc _).alloc _).trans k).trans k', (k.trans k').block (by simpa using World.alloc_heap_new (w.alloc (.cells #[encU y, encU pa, encU pb, encU pc, encU pd, encU pe, encU pf] 71)) (.cells zero7 71)), (((K.refl _).alloc _).trans (k.trans k')).block (World.alloc_heap_new _ _)⟩
  go_enter Tryz.func38, Tryz.ntmps38
  go_wp2_with fail
  refine (cg.out _ (((K.refl w).alloc _).alloc _)).mono ?_
  rintro e w1 ⟨rfl, k1⟩
  go_wp2_with (with_reducible refine wrapP ?_)
  unfold Wrapd
  refine wpList_store_seven (v0 := encU z) (v1 := encU a) (v2 := encU b) (v3 := encU c) (v4 := encU d) (v5 := encU e) (v6 := encU f) rfl 71 (.tmp 8) (.tmp 14) rfl (by kernel_rfl) w1.heap.size (World.alloc_heap_new _ _) rfl rfl (by simp [Value.oneCell']) ?_
  intro w4 b4 st4
  have k4 : K w1 w4 := Hp.K.thenKept ((K.refl w1).alloc _) st4 (Nat.le_refl _)
  obtain ⟨k2, b2, q1⟩ := BX.out w1 _ k1 k4
  obtain ⟨_, _, _, _, _, _, q6⟩ := seven q1
  obtain ⟨p0, p1, p2, p3, p4, p5, p6⟩ := seven b4
  have B2 : Aside _ := b2
  have K2 : Aside _ := k2
  clear st4 k2 b2 BX cg k1 k4 q1 b4
  rcases hd with rfl | ⟨rfl, hd⟩
  all_goals
    go_wp2_with (with_reducible refine wrapP ?_)
    unfold Wrapd
    refine wpList_store_seven (v0 := encU 0) (v1 := encU 0) (v2 := encU 0) (v3 := encU 0) (v4 := encU 0) (v5 := encU 0) (v6 := encU 0) rfl 71 (.tmp 6) (.tmp 27) rfl (by kernel_rfl) (w.heap.size + 1) B2.out rfl rfl (by simp [Value.oneCell']) ?_
    intro w5 b5 st5
    have KF : Aside (K w w5) := Hp.K.thenKept K2.out st5 (Nat.le_succ _)
    obtain ⟨d0, d1, d2, d3, d4, d5, d6⟩ := seven b5
    clear b5 st5 p0 p1 p2 p3 p4 p5 p6 q6
    go_wp2
    refine bodyPost_ret (v := .tuple #[pv 0 nv0, .bool false]) (by simp [results, Tryz.results38, go_sem, nv0, d0, d1, d2, d3, d4, d5, d6]; try rfl) rfl ?_
    exact ⟨rfl, KF.out⟩
theorem down_none (h : Sw w B A pg W L v T) (hx : U64 x) {p : Nv} {y : Int} (hn : dn (vw T W) p x = none) : Calls Tryz.prog 38 #[sp A.st, pv y p, .int .u64 x] w fun e w' => e = .returned (.tuple #[pv 0 nv0, .bool false]) ∧ K w w' := by
  unfold dn at hn
  cases e : lk (vw T W) x with
  | none => exact down_no (fun V k => look_none (h.keep k) hx e) (.inl rfl)
  | some n =>
    rw [e] at hn
    simp only at hn
    split at hn
    · cases hn
    · exact down_no (fun V k => look_some (h.keep k) e) (.inr ⟨rfl, decide_eq_true (by omega)⟩)

/-- A pair of texts. -/
abbrev prV (k x : ByteArray) : Value := .agg #[.string k, .string x]
abbrev zero2 : Array Value := #[.string ⟨#[]⟩, .string ⟨#[]⟩]

set_option maxRecDepth 100000 in
set_option maxHeartbeats 400000 in
theorem texts_yes (h : Sw w B A pg W L v T) {n : Nv} {kt xt : ByteArray} (h1 : (vw T W).tx n.a = some kt) (h2 : (vw T W).tx n.b = some xt) : Calls Tryz.prog 31 #[sp A.st, n.v] w fun e w' => e = .returned (.tuple #[prV kt xt, .int .i64 0]) ∧ K w w' := by
  obtain ⟨a, b, c, d, e, f⟩ := n
  simp only at h1 h2
  have C1 : Aside (∀ V, K w V → Calls Tryz.prog 54 #[sp A.st, .int .u64 a] V fun e w' => e = .returned (.tuple #[.string kt, .int .i64 0]) ∧ K V w') := fun V k => text_some (h.keep k) h1
  have C2 : Aside (∀ V, K w V → Calls Tryz.prog 54 #[sp A.st, .int .u64 b] V fun e w' => e = .returned (.tuple #[.string xt, .int .i64 0]) ∧ K V w') := fun V k => text_some (h.keep k) h2
  have BX : Aside (∀ V, K ((w.alloc (.cells #[encU a, encU b, encU c, encU d, encU e, encU f] 54)).alloc (.cells zero2 39)) V → K w V ∧ V.heap[w.heap.size + 1]? = some (.cells zero2 39) ∧ V.cell? ⟨w.heap.size, 1, none⟩ = some (encU b)) := fun V k => ⟨((((K.refl w).alloc _).alloc _).trans k), k.block (by simpa using World.alloc_heap_new (w.alloc (.cells #[encU a, encU b, encU c, encU d, encU e, encU f] 54)) (.cells zero2 39)), (six ((((K.refl _).alloc _).trans k).block (World.alloc_heap_new _ _))).2.1⟩
  clear h h1 h2
  go_enter Tryz.func31, Tryz.ntmps31
  go_wp2_with fail
  refine (C1.out _ (((K.refl w).alloc _).alloc _)).mono ?_
  rintro e w1 ⟨rfl, k1⟩
  obtain ⟨K1, _, q1⟩ := BX.out w1 k1
  have c2 := C2.out w1 K1
  have K1A : Aside _ := k1
  clear C1 C2 K1 k1
  go_wp2_with fail
  refine c2.mono ?_
  rintro e w2 ⟨rfl, k2⟩
  obtain ⟨K2, b2, _⟩ := BX.out w2 (K1A.out.trans k2)
  have K2A : Aside _ := K2
  have B2 : Aside _ := b2
  clear c2 q1 K2 b2 BX k2
  go_wp2_with (with_reducible refine wrap2 ?_)
  unfold Wrapd
  refine wpList_store_two (v0 := .string kt) (v1 := .string xt) rfl 39 (.tmp 4) (.tmp 33) rfl (by kernel_rfl) (w.heap.size + 1) B2.out rfl rfl (by simp [Value.oneCell']) ?_
  intro w5 b5 st5
  have KF : Aside (K w w5) := Hp.K.thenKept K2A.out st5 (Nat.le_succ _)
  obtain ⟨d0, d1⟩ := two b5
  clear b5 st5
  go_wp2
  refine bodyPost_ret (v := .tuple #[prV kt xt, .int .i64 0]) (by simp [results, Tryz.results31, go_sem, d0, d1]; try rfl) rfl ?_
  exact ⟨rfl, KF.out⟩

set_option maxRecDepth 100000 in
set_option maxHeartbeats 400000 in
theorem texts_k (h : Sw w B A pg W L v T) {n : Nv} (hx : U64 n.a) (h1 : (vw T W).tx n.a = none) : ∃ er, (er != 0) = true ∧ Calls Tryz.prog 31 #[sp A.st, n.v] w fun e w' => e = .returned (.tuple #[prV ⟨#[]⟩ ⟨#[]⟩, .int .i64 er]) ∧ K w w' := by
  obtain ⟨a, b, c, d, e, f⟩ := n
  simp only at h1
  have CC : ∀ V, K w V → ∃ er s, (er != 0) = true ∧ Calls Tryz.prog 54 #[sp A.st, .int .u64 a] V fun e w' => e = .returned (.tuple #[.string s, .int .i64 er]) ∧ K V w' := fun V k => text_none (h.keep k) hx h1
  obtain ⟨er, s, he, c1⟩ := CC ((w.alloc (.cells #[encU a, encU b, encU c, encU d, encU e, encU f] 54)).alloc (.cells zero2 39)) (((K.refl w).alloc _).alloc _)
  refine ⟨er, he, ?_⟩
  have BX : Aside (∀ V, K ((w.alloc (.cells #[encU a, encU b, encU c, encU d, encU e, encU f] 54)).alloc (.cells zero2 39)) V → K w V ∧ V.heap[w.heap.size + 1]? = some (.cells zero2 39) ∧ V.cell? ⟨w.heap.size, 1, none⟩ = some (encU b)) := fun V k => ⟨((((K.refl w).alloc _).alloc _).trans k), k.block (by simpa using World.alloc_heap_new (w.alloc (.cells #[encU a, encU b, encU c, encU d, encU e, encU f] 54)) (.cells zero2 39)), (six ((((K.refl _).alloc _).trans k).block (World.alloc_heap_new _ _))).2.1⟩
  clear h h1 CC hx
  go_enter Tryz.func31, Tryz.ntmps31
  go_wp2_with fail
  refine c1.mono ?_
  rintro e w1 ⟨rfl, k1⟩
  obtain ⟨K2, b2, _⟩ := BX.out w1 k1
  have K2A : Aside _ := K2
  have B2 : Aside _ := b2
  clear c1 K2 b2 BX k1
  go_wp2_with (with_reducible refine wrap2 ?_)
  unfold Wrapd
  refine wpList_store_two (v0 := .string ⟨#[]⟩) (v1 := .string ⟨#[]⟩) rfl 39 (.tmp 4) (.tmp 18) rfl (by kernel_rfl) (w.heap.size + 1) B2.out rfl rfl (by simp [Value.oneCell']) ?_
  intro w5 b5 st5
  have KF : Aside (K w w5) := Hp.K.thenKept K2A.out st5 (Nat.le_succ _)
  obtain ⟨d0, d1⟩ := two b5
  clear b5 st5
  go_wp2
  refine bodyPost_ret (v := .tuple #[prV ⟨#[]⟩ ⟨#[]⟩, .int .i64 er]) (by simp [results, Tryz.results31, go_sem, d0, d1]; try rfl) rfl ?_
  exact ⟨rfl, KF.out⟩

set_option maxRecDepth 100000 in
set_option maxHeartbeats 400000 in
theorem texts_x (h : Sw w B A pg W L v T) {n : Nv} (hx : U64 n.b) {kt : ByteArray} (h1 : (vw T W).tx n.a = some kt) (h2 : (vw T W).tx n.b = none) : ∃ er, (er != 0) = true ∧ Calls Tryz.prog 31 #[sp A.st, n.v] w fun e w' => e = .returned (.tuple #[prV ⟨#[]⟩ ⟨#[]⟩, .int .i64 er]) ∧ K w w' := by
  obtain ⟨a, b, c, d, e, f⟩ := n
  simp only at h1 h2
  have C1 : Aside (∀ V, K w V → Calls Tryz.prog 54 #[sp A.st, .int .u64 a] V fun e w' => e = .returned (.tuple #[.string kt, .int .i64 0]) ∧ K V w') := fun V k => text_some (h.keep k) h1
  have C2 : Aside (∀ V, K w V → Calls Tryz.prog 54 #[sp A.st, .int .u64 b] V fun e w' => e = .returned (.tuple #[.string ⟨(Bb.gtS T W b).toArray⟩, .int .i64 (Bb.gtE T W b)]) ∧ K V w') := fun V k => Bb.get_any (h.keep k) hx
  have he : (Bb.gtE T W b != 0) = true := by
    simp only [vw] at h2
    split at h2
    · cases h2
    · next h1 => simpa using fun e => h1 ⟨hx, e⟩
  generalize Bb.gtE T W b = er at *
  generalize (⟨(Bb.gtS T W b).toArray⟩ : ByteArray) = s at *
  refine ⟨er, he, ?_⟩
  have BX : Aside (∀ V, K ((w.alloc (.cells #[encU a, encU b, encU c, encU d, encU e, encU f] 54)).alloc (.cells zero2 39)) V → K w V ∧ V.heap[w.heap.size + 1]? = some (.cells zero2 39) ∧ V.cell? ⟨w.heap.size, 1, none⟩ = some (encU b)) := fun V k => ⟨((((K.refl w).alloc _).alloc _).trans k), k.block (by simpa using World.alloc_heap_new (w.alloc (.cells #[encU a, encU b, encU c, encU d, encU e, encU f] 54)) (.cells zero2 39)), (six ((((K.refl _).alloc _).trans k).block (World.alloc_heap_new _ _))).2.1⟩
  clear h h1 h2
  go_enter Tryz.func31, Tryz.ntmps31
  go_wp2_with fail
  refine (C1.out _ (((K.refl w).alloc _).alloc _)).mono ?_
  rintro e w1 ⟨rfl, k1⟩
  obtain ⟨K1, _, q1⟩ := BX.out w1 k1
  have c2 := C2.out w1 K1
  have K1A : Aside _ := k1
  clear C1 C2 K1 k1
  go_wp2_with fail
  refine c2.mono ?_
  rintro e w2 ⟨rfl, k2⟩
  obtain ⟨K2, b2, _⟩ := BX.out w2 (K1A.out.trans k2)
  have K2A : Aside _ := K2
  have B2 : Aside _ := b2
  clear c2 q1 K2 b2 BX k2
  go_wp2_with (with_reducible refine wrap2 ?_)
  unfold Wrapd
  refine wpList_store_two (v0 := .string ⟨#[]⟩) (v1 := .string ⟨#[]⟩) rfl 39 (.tmp 4) (.tmp 29) rfl (by kernel_rfl) (w.heap.size + 1) B2.out rfl rfl (by simp [Value.oneCell']) ?_
  intro w5 b5 st5
  have KF : Aside (K w w5) := Hp.K.thenKept K2A.out st5 (Nat.le_succ _)
  obtain ⟨d0, d1⟩ := two b5
  clear b5 st5
  go_wp2
  refine bodyPost_ret (v := .tuple #[prV ⟨#[]⟩ ⟨#[]⟩, .int .i64 er]) (by simp [results, Tryz.results31, go_sem, d0, d1]; try rfl) rfl ?_
  exact ⟨rfl, KF.out⟩

/-- What textsOf answers. -/
theorem texts_no (h : Sw w B A pg W L v T) {n : Nv} (ok : n.Ok) (hn : ∀ kt xt, ¬ ((vw T W).tx n.a = some kt ∧ (vw T W).tx n.b = some xt)) : ∃ er, (er != 0) = true ∧ Calls Tryz.prog 31 #[sp A.st, n.v] w fun e w' => e = .returned (.tuple #[prV ⟨#[]⟩ ⟨#[]⟩, .int .i64 er]) ∧ K w w' := by
  cases h1 : (vw T W).tx n.a with
  | none => exact texts_k h ok.a h1
  | some kt =>
    cases h2 : (vw T W).tx n.b with
    | none => exact texts_x h ok.b h1 h2
    | some xt => exact absurd ⟨h1, h2⟩ (hn kt xt)

set_option maxRecDepth 100000 in
set_option maxHeartbeats 400000 in
theorem sized_any (h : Sw w B A pg W L v T) {n : Nv} (ok : n.Ok) : Calls Tryz.prog 33 #[sp A.st, n.v] w fun e w' => e = .returned (.bool (decide (n.f = 1 + sz (vw T W) n.c + sz (vw T W) n.d))) ∧ K w w' := by
  have C1 : ∀ V, K w V → Calls Tryz.prog 13 #[sp A.st, .int .u64 n.c] V fun e w' => e = .returned (.int .i64 (sz (vw T W) n.c)) ∧ K V w' := fun V k => size_any (h.keep k) ok.c
  have C2 : ∀ V, K w V → Calls Tryz.prog 13 #[sp A.st, .int .u64 n.d] V fun e w' => e = .returned (.int .i64 (sz (vw T W) n.d)) ∧ K V w' := fun V k => size_any (h.keep k) ok.d
  obtain ⟨r1, r2⟩ := sz_rng h n.c
  obtain ⟨r3, r4⟩ := sz_rng h n.d
  generalize sz (vw T W) n.c = p at *
  generalize sz (vw T W) n.d = q at *
  obtain ⟨a, b, c, d, e, f⟩ := n
  simp only at C1 C2
  show Calls _ _ _ _ fun e w' => e = .returned (.bool (decide (f = 1 + p + q))) ∧ K w w'
  have CC : ∀ V, K w V → V.heap[w.heap.size]? = some (.cells #[encU a, encU b, encU c, encU d, encU e, encU f] 54) → V.cell? ⟨w.heap.size, 2, none⟩ = some (encU c) ∧ V.cell? ⟨w.heap.size, 3, none⟩ = some (encU d) ∧ V.cell? ⟨w.heap.size, 5, none⟩ = some (encU f) := fun V _ hb => ⟨(six hb).2.2.1, (six hb).2.2.2.1, (six hb).2.2.2.2.2⟩
  have P1 : Calls Tryz.prog 13 #[sp A.st, .int .u64 c] (w.alloc (.cells #[encU a, encU b, encU c, encU d, encU e, encU f] 54)).drew fun e1 w1 => e1 = .returned (.int .i64 p) ∧ (w1.cell? ⟨w.heap.size, 2, none⟩ = some (encU c) ∧ w1.cell? ⟨w.heap.size, 3, none⟩ = some (encU d) ∧ w1.cell? ⟨w.heap.size, 5, none⟩ = some (encU f)) ∧ Aside (Calls Tryz.prog 13 #[sp A.st, .int .u64 d] w1 fun e2 w2 => e2 = .returned (.int .i64 q) ∧ (w2.cell? ⟨w.heap.size, 2, none⟩ = some (encU c) ∧ w2.cell? ⟨w.heap.size, 3, none⟩ = some (encU d) ∧ w2.cell? ⟨w.heap.size, 5, none⟩ = some (encU f)) ∧ Aside (K w w2)) := by
    refine (C1 _ ((K.refl w).alloc _).drew).mono ?_
    rintro e1 w1 ⟨rfl, k1⟩
    have hb1 := k1.block (World.alloc_heap_new w (.cells #[encU a, encU b, encU c, encU d, encU e, encU f] 54))
    have K1 : K w w1 := ((K.refl w).alloc _).drew.trans k1
    refine ⟨rfl, CC w1 K1 hb1, ?_⟩
    refine (C2 w1 K1).mono ?_
    rintro e2 w2 ⟨rfl, k2⟩
    exact ⟨rfl, CC w2 (K1.trans k2) (k2.block hb1), K1.trans k2⟩
  have e1 : IntKind.i64.wrap (1 + p) = 1 + p := by simp [IntKind.wrap, IntKind.signed, IntKind.bits]; omega
  have e2 : IntKind.i64.wrap (1 + p + q) = 1 + p + q := by simp [IntKind.wrap, IntKind.signed, IntKind.bits]; omega
  have e3 : IntKind.u64.wrap (1 + p + q) = 1 + p + q := by simp [IntKind.wrap, IntKind.signed, IntKind.bits]; omega
  obtain ⟨b2, b3, b5⟩ := CC (w.alloc (.cells #[encU a, encU b, encU c, encU d, encU e, encU f] 54)) ((K.refl w).alloc _) (World.alloc_heap_new _ _)
  clear h ok C1 C2 CC
  go_enter Tryz.func33, Tryz.ntmps33
  go_wp2
  go_region_held3 (fun w' => w'.cell? ⟨w.heap.size, 2, none⟩ = some (encU c) ∧ w'.cell? ⟨w.heap.size, 3, none⟩ = some (encU d) ∧ w'.cell? ⟨w.heap.size, 5, none⟩ = some (encU f))
    (first | exact ⟨b2, b3, b5⟩ | exact y1 | exact y2)
    (first | (go_at_call 13; refine P2.mono ?_; rintro e w7 ⟨rfl, y2, G7⟩) | (go_at_call 13; refine P1.mono ?_; rintro e w6 ⟨rfl, y1, P2a⟩; have P2 := P2a.out))
  all_goals
    go_wp2
    go_ret
    exact ⟨by simp; rfl, G7.out⟩

set_option maxRecDepth 100000 in
set_option maxHeartbeats 400000 in
theorem pair_yes (h : Sw w B A pg W L v T) {n : Nv} {kt xt : ByteArray} (hn : (vw T W).nd x = some n) (h1 : (vw T W).tx n.a = some kt) (h2 : (vw T W).tx n.b = some xt) : Calls Tryz.prog 18 #[sp A.st, .int .u64 x] w fun e w' => e = .returned (.tuple #[prV kt xt, .int .i64 0]) ∧ K w w' := by
  have C1 : Aside (∀ V, K w V → Calls Tryz.prog 26 #[sp A.st, .int .u64 x] V fun e w' => e = .returned (.tuple #[n.v, .int .i64 0]) ∧ K V w') := fun V k => get_some (h.keep k) hn
  have C2 : Aside (∀ V, K w V → Calls Tryz.prog 31 #[sp A.st, n.v] V fun e w' => e = .returned (.tuple #[prV kt xt, .int .i64 0]) ∧ K V w') := fun V k => texts_yes (h.keep k) h1 h2
  have BX : Aside (∀ V, K (w.alloc (.cells zero2 39)) V → K w V ∧ V.heap[w.heap.size]? = some (.cells zero2 39)) := fun V k => ⟨((K.refl w).alloc _).trans k, k.block (World.alloc_heap_new _ _)⟩
  clear h h1 h2 hn
  obtain ⟨a, b, c, d, em, f⟩ := n
  go_enter Tryz.func18, Tryz.ntmps18
  go_wp2_with fail
  refine (C1.out _ ((K.refl w).alloc _)).mono ?_
  rintro e1 w1 ⟨rfl, k1⟩
  have K1 : Aside (K (w.alloc (.cells zero2 39)) (w1.alloc (.cells #[encU a, encU b, encU c, encU d, encU em, encU f] 54))) := k1.alloc _
  have c2 : Calls Tryz.prog 31 #[sp A.st, .agg #[encU a, encU b, encU c, encU d, encU em, encU f]] (w1.alloc (.cells #[encU a, encU b, encU c, encU d, encU em, encU f] 54)) fun e w' => e = .returned (.tuple #[prV kt xt, .int .i64 0]) ∧ K (w1.alloc (.cells #[encU a, encU b, encU c, encU d, encU em, encU f] 54)) w' := C2.out _ (BX.out _ K1.out).1
  clear C1 C2 k1
  go_wp2_with fail
  refine c2.mono ?_
  rintro e2 w2 ⟨rfl, k2⟩
  obtain ⟨K2, b2⟩ := BX.out w2 (K1.out.trans k2)
  have K2A : Aside _ := K2
  have B2 : Aside _ := b2
  clear c2 K2 b2 BX k2 K1
  go_wp2_with (with_reducible refine wrap2 ?_)
  unfold Wrapd
  refine wpList_store_two (v0 := .string kt) (v1 := .string xt) rfl 39 (.tmp 4) (.tmp 21) rfl (by kernel_rfl) w.heap.size B2.out rfl rfl (by simp [Value.oneCell']) ?_
  intro w5 b5 st5
  have KF : Aside (K w w5) := Hp.K.thenKept K2A.out st5 (Nat.le_refl _)
  obtain ⟨d0, d1⟩ := two b5
  clear b5 st5
  go_wp2
  refine bodyPost_ret (v := .tuple #[prV kt xt, .int .i64 0]) (by simp [results, Tryz.results18, go_sem, d0, d1]; try rfl) rfl ?_
  exact ⟨rfl, KF.out⟩

end Wa
end Go.Proofs.YtbbjfebdihepnaaGreatDoor
