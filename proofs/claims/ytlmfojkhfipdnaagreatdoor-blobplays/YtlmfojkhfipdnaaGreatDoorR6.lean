/-
  What slides keep of what is held.
-/
import Derived.Test.YtlmfojkhfipdnaaGreatDoorL1
import Derived.Test.YtlmfojkhfipdnaaGreatDoorG1
import Derived.Test.YtlmfojkhfipdnaaGreatDoorR5
import Derived.Test.YtlmfojkhfipdnaaGreatDoorE2
import Derived.Test.YtlmfojkhfipdnaaGreatDoorE4
import Derived.Test.YtlmfojkhfipdnaaGreatDoorE7
import Derived.Test.YtlmfojkhfipdnaaGreatDoorR4
import Derived.Test.YtlmfojkhfipdnaaGreatDoorR2
import Derived.Test.YtlmfojkhfipdnaaGreatDoorR3
namespace Go.Proofs.YtlmfojkhfipdnaaGreatDoor
namespace Nd
open Hp (Pg)
open Hd (findL)
open Co (Wk)
open Go.Proofs.YtlmfojkhfipdnaaGreatDoor.Bb (Ho rwI_some wdA_eq)
open Go.Proofs.YtlmfojkhfipdnaaGreatDoor.So (Rec)
variable {L L' : List Pg} {T T' : List Hd.Sl} {W W' : Int → Int} {x y : Int} {ws : List Int}

theorem wk_slot (h : Wk T W T' W') {i : Nat} {s : Hd.Sl} (hi : T[i]? = some s) : ∃ t, T'[i]? = some t ∧ t.o = s.o ∧ t.g = s.g := by
  obtain ⟨h1, h2⟩ := h.2 i s hi
  cases so : s.o with
  | false => exact ⟨s, h1 so, so, rfl⟩
  | true =>
    obtain ⟨b, hb, _⟩ := h2 so
    exact ⟨_, hb, rfl, rfl⟩
theorem wk_find (h : Wk T W T' W') (x : Int) : findL T' x = findL T x := by
  unfold findL
  split
  · rfl
  · cases hi : T[(x % 4294967296 - 1).toNat]? with
    | none =>
      have : T'[(x % 4294967296 - 1).toNat]? = none := by
        rw [List.getElem?_eq_none_iff] at hi ⊢
        rw [h.1]
        exact hi
      rw [this]
    | some s =>
      obtain ⟨t, ht, ho, hg⟩ := wk_slot h hi
      rw [ht]
      simp only [ho, hg]
theorem Ho.wk (r : Rec L W T) (h : Wk T W T' W') {y : Int} {ws : List Int} (ho : Ho T W y ws) : Ho T' W' y ws := by
  obtain ⟨h1, h2⟩ := ho
  obtain ⟨j, hj⟩ := Option.isSome_iff_exists.1 h1
  obtain ⟨s, hs, so, _, _⟩ := Hd.findL_some hj
  obtain ⟨_, n0, n1, _⟩ := r.nm j s hs so
  obtain ⟨b, hb, hw⟩ := (h.2 j s hs).2 so
  refine ⟨by rw [wk_find h]; exact h1, ?_⟩
  rw [rwI_some (by rw [wk_find h]; exact hj) hb, ← h2, rwI_some hj hs]
  refine wdA_eq (hw 1 (by omega) (by omega)) fun k k0 k1 => ?_
  have := hw (2 + k) (by omega) (by omega)
  rw [Int.add_assoc, Int.add_assoc]
  exact this

end Nd
end Go.Proofs.YtlmfojkhfipdnaaGreatDoor

/-
  A store and its reference, told of slots, words and records: what each call does to both. No walk.
-/
namespace Go.Proofs.YtlmfojkhfipdnaaGreatDoor
namespace Rs
open Hp (Pg Wl Same SameBut findB)
open Hd (findL openL cls closeR moveL atL)
open Co (Wk)
open Go.Proofs.YtlmfojkhfipdnaaGreatDoor.Bb (Ho rwI wdA rwI_some rwI_len wdA_of find_make find_drop)
open Go.Proofs.YtlmfojkhfipdnaaGreatDoor.So (Rec lN lE gV wE wA pW fullB)
open Go.Proofs.YtlmfojkhfipdnaaGreatDoor.Nd (ho_slot wdA_len wdA_get wk_find)
variable {L L' : List Pg} {T T' R R' : List Hd.Sl} {W W' : Int → Int} {C C' : List Rc} {m z a x : Int}

structure Rl (T : List Hd.Sl) (W : Int → Int) (R : List Hd.Sl) (C : List Rc) : Prop where
  t : cls R = T
  r : ∀ c ∈ C, Ho T W c.h c.ws
  nd : C.Pairwise (fun c d => c.h ≠ d.h)
  a : ∀ x, (findL T x).isSome = true → ∃ c ∈ C, c.h = x

theorem Rl.find_none (h : Rl T W R C) (hf : findL T x = none) : fdR C x = -1 := fdR_none fun j t ht e => by
  have := (h.r t (List.mem_of_getElem? ht)).1
  rw [e, hf] at this
  cases this
theorem Rl.ix (h : Rl T W R C) {i j : Nat} {c d : Rc} (hi : C[i]? = some c) (hj : C[j]? = some d) (e : c.h = d.h) : i = j := by
  obtain ⟨li, ei⟩ := List.getElem?_eq_some_iff.1 hi
  obtain ⟨lj, ej⟩ := List.getElem?_eq_some_iff.1 hj
  have := List.pairwise_iff_getElem.1 h.nd
  rcases Nat.lt_trichotomy i j with h1 | h1 | h1
  · exact absurd (by rw [ei, ej]; exact e) (this i j li lj h1)
  · exact h1
  · exact absurd (by rw [ei, ej]; exact e.symm) (this j i lj li h1)
theorem Rl.find_some (h : Rl T W R C) {i : Nat} (hf : findL T x = some i) : ∃ (j : Nat) (c : Rc), C[j]? = some c ∧ c.h = x ∧ fdR C x = (j : Int) ∧ Ho T W x c.ws := by
  obtain ⟨c, hc, e⟩ := h.a x (by rw [hf]; rfl)
  obtain ⟨j, hj⟩ := List.getElem?_of_mem hc
  refine ⟨j, c, hj, e, fdR_some hj e fun k t hk ht e2 => ?_, e ▸ h.r c hc⟩
  have := h.ix ht hj (e2.trans e.symm)
  omega

theorem Rl.get (h : Rl T W R C) (r : Rec L W T) (x k : Int) : gtR C x k = (gV T W x k, wE T W x k) := by
  cases hf : findL T x with
  | none =>
    have e := h.find_none hf
    rcases fdR_cases C x with ⟨h1, _⟩ | ⟨i, c, _, h2, _⟩
    · have e7 : wE T W x k = 7 := by simp [wE, hf]
      unfold gtR gV
      rw [h1, e7]
      rfl
    · omega
  | some i =>
    obtain ⟨j, c, hj, hc, e, ho⟩ := h.find_some hf
    rcases fdR_cases C x with ⟨_, h2⟩ | ⟨i', c', h1, h2, h3, _⟩
    · omega
    · obtain rfl : i' = j := by omega
      obtain rfl := Option.some.inj (h3.symm.trans hj)
      have e3 : C.getD i' ⟨0, .bool false, []⟩ = c' := by rw [List.getD_eq_getElem?_getD, h3]; rfl
      obtain ⟨i2, s, hi, hs, so, hw⟩ := ho_slot ho
      obtain rfl := Option.some.inj (hf.symm.trans hi)
      obtain ⟨_, n0, n1, _⟩ := r.nm i s hs so
      have ea : Hd.addrAt T i = s.a := by simp [Hd.addrAt, hs]
      have hl : (c'.ws.length : Int) = W (s.a + 1) := by rw [← hw, wdA_len]; omega
      unfold gtR gV
      rw [h1]
      simp only [e3]
      by_cases hk : 0 ≤ k ∧ k < (c'.ws.length : Int)
      · have e0 : wE T W x k = 0 := by simp only [wE, hf, ea]; rw [if_pos ⟨by omega, by omega⟩]
        have eA : wA T x k = s.a + 2 + k := by simp [wA, hf, ea]
        rw [if_pos hk, e0, if_pos rfl, eA, ← hw, List.getD_eq_getElem?_getD, wdA_get (by rw [hw]; omega), Int.toNat_of_nonneg hk.1]
        rfl
      · have e0 : wE T W x k = 2 := by simp only [wE, hf, ea]; rw [if_neg (by omega)]
        rw [if_neg hk, e0]
        rfl

/-- A record more. -/
theorem Rl.make (h : Rl T W R C) (r : Rec L W T) (hs : Same L W W') (a0 : 0 ≤ a) (hl : T.length ≤ 65536) (e : openL m z T a = (x, 0, T')) {n : Nat} (hn : W' (a + 1) = n) (hz : ∀ i, 0 ≤ i → i < (n : Int) → W' (a + 2 + i) = 0) (v : Value) :
    ∃ R', openL m z R a = (x, 0, R') ∧ Rl T' W' R' (C ++ [newR x v n]) := by
  have ec := Hd.openL_cls (q := m) (z := z) (R := R) a
  rw [h.t, e] at ec
  obtain ⟨e1, e2, e3⟩ : x = (openL m z R a).1 ∧ 0 = (openL m z R a).2.1 ∧ T' = cls (openL m z R a).2.2 := by
    simpa only [Prod.mk.injEq] using ec
  obtain ⟨⟨i, g, hf, hi⟩, hno, _, hoff, _⟩ := find_make a0 hl e
  refine ⟨(openL m z R a).2.2, by rw [e1]; exact Prod.ext rfl (Prod.ext e2.symm rfl), e3.symm, fun c hc => ?_, ?_, fun y hy => ?_⟩
  · rcases List.mem_append.1 hc with hc | hc
    · exact (Ho.make r hs a0 hl e (h.r c hc)).2
    · obtain rfl := List.mem_singleton.1 hc
      refine ⟨by rw [hf]; rfl, ?_⟩
      rw [rwI_some hf hi]
      refine wdA_of (by rw [List.length_replicate]; exact hn) fun k y hy => ?_
      have hk := (List.getElem?_eq_some_iff.1 hy).1
      rw [List.length_replicate] at hk
      have : y = 0 := List.eq_of_mem_replicate (List.mem_of_getElem? hy)
      rw [this]
      exact hz k (by omega) (by omega)
  · refine List.pairwise_append.2 ⟨h.nd, List.pairwise_singleton _ _, fun c hc d hd => ?_⟩
    obtain rfl := List.mem_singleton.1 hd
    exact (Ho.make r hs a0 hl e (h.r c hc)).1
  · by_cases e2 : y = x
    · subst e2
      exact ⟨_, List.mem_append_right _ (List.mem_singleton.2 rfl), rfl⟩
    · rw [hoff y e2] at hy
      obtain ⟨c, hc, e3⟩ := h.a y hy
      exact ⟨c, List.mem_append_left _ hc, e3⟩
theorem Rl.full (h : Rl T W R C) (a0 : 0 ≤ a) (hf : fullB m z T = true) : ∃ y, openL m z R a = (y, 10, R) := by
  have hT : openL m z T a = ((openL m z T a).1, (openL m z T a).2.1, (openL m z T a).2.2) := rfl
  have hR : openL m z R a = ((openL m z R a).1, (openL m z R a).2.1, (openL m z R a).2.2) := rfl
  have ec := Hd.openL_cls (q := m) (z := z) (R := R) a
  rw [h.t] at ec
  rcases So.full_open a0 hT with ⟨h1, _⟩ | ⟨_, h2, _, _⟩
  · rw [hf] at h1; cases h1
  · rcases So.full_open a0 hR with ⟨_, h3⟩ | ⟨_, h3, _, h4⟩
    · exfalso
      rw [ec] at h2
      simp only at h2
      omega
    · exact ⟨_, by rw [hR, h3, h4]⟩

/-- Words that no record has. -/
theorem Rl.same (h : Rl T W R C) (r : Rec L W T) (hs : Same L W W') : Rl T W' R C := ⟨h.t, fun c hc => Ho.same r hs (h.r c hc), h.nd, h.a⟩

theorem mem_but {C : List Rc} {j : Nat} {c d : Rc} (hj : C[j]? = some c) : d ∈ C ↔ d = c ∨ d ∈ C.take j ++ C.drop (j + 1) := by
  obtain ⟨lj, ej⟩ := List.getElem?_eq_some_iff.1 hj
  have : C = C.take j ++ C[j] :: C.drop (j + 1) := by rw [← List.drop_eq_getElem_cons lj, List.take_append_drop]
  rw [List.mem_append]
  constructor
  · intro h
    rw [this, List.mem_append, List.mem_cons, ej] at h
    rcases h with h | h | h
    · exact .inr (.inl h)
    · exact .inl h
    · exact .inr (.inr h)
  · rintro (rfl | h | h)
    · exact List.mem_of_getElem? hj
    · exact List.mem_of_mem_take h
    · exact List.mem_of_mem_drop h
theorem but_ne (h : C.Pairwise (fun c d => c.h ≠ d.h)) {j : Nat} {c d : Rc} (hj : C[j]? = some c) (hd : d ∈ C.take j ++ C.drop (j + 1)) : d.h ≠ c.h := by
  obtain ⟨lj, ej⟩ := List.getElem?_eq_some_iff.1 hj
  have e : C = C.take j ++ C[j] :: C.drop (j + 1) := by rw [← List.drop_eq_getElem_cons lj, List.take_append_drop]
  rw [e] at h
  obtain ⟨_, h2, h3⟩ := List.pairwise_append.1 h
  rw [ej] at h2 h3
  rcases List.mem_append.1 hd with hd | hd
  · exact h3 d hd c (List.mem_cons_self ..)
  · exact (List.rel_of_pairwise_cons h2 hd).symm

/-- A record less. -/
theorem Rl.drop (h : Rl T W R C) (r : Rec L W T) (hl : T.length ≤ 65536) {i : Nat} {s : Hd.Sl} (hf : findL T x = some i) (hs : T[i]? = some s) {p : Pg} {k : Int} (hfb : findB L s.a = some (p, k)) (hsb : SameBut L p k W W') :
    ∃ (j : Nat) (c : Rc), C[j]? = some c ∧ fdR C x = (j : Int) ∧ atL R x = (s.a, 0) ∧ Rl (T.set i ⟨false, s.g, 0⟩) W' (closeR R x).2 (C.take j ++ C.drop (j + 1)) := by
  obtain ⟨j, c, hj, hc, e, ho⟩ := h.find_some hf
  obtain ⟨d1, d2⟩ := find_drop hf hs
  refine ⟨j, c, hj, e, ?_, ⟨?_, fun d hd => ?_, ?_, fun y hy => ?_⟩⟩
  · rw [← Hd.atL_cls, h.t]
    exact Hd.atL_some hf hs
  · have := Hd.closeL_cls (R := R) x
    rw [h.t, Hd.closeL_some hf hs] at this
    exact (congrArg Prod.snd this).symm
  · exact Ho.drop r hl hf hs hfb hsb (by rw [← hc]; exact but_ne h.nd hj hd) (h.r d ((mem_but hj).2 (.inr hd)))
  · refine List.Pairwise.sublist ?_ h.nd
    have e : C = C.take j ++ C.drop j := (List.take_append_drop j C).symm
    conv => rhs; rw [e]
    exact List.Sublist.append_left (by rw [← List.tail_drop]; exact List.tail_sublist _) _
  · have hyx : y ≠ x := fun e => by rw [e, d1] at hy; cases hy
    rw [(d2 y hyx).1] at hy
    obtain ⟨d, hd, e2⟩ := h.a y hy
    rcases (mem_but hj).1 hd with rfl | h3
    · exact absurd (e2.symm.trans hc) hyx
    · exact ⟨d, h3, e2⟩

/-- A word of a record is put. -/
theorem Rl.put (h : Rl T W R C) (r : Rec L W T) (l : Wl L) (hl : T.length ≤ 65536) {j : Nat} {c : Rc} (hj : C[j]? = some c) {k : Nat} (hk : k < c.ws.length) (y : Int) (v : Value) : Rl T (pW T W c.h k y) R (C.set j ⟨c.h, v, c.ws.set k y⟩) := by
  obtain ⟨lj, ej⟩ := List.getElem?_eq_some_iff.1 hj
  obtain ⟨_, h2, h3⟩ := Nd.Ho.put r l hl (h.r c (List.mem_of_getElem? hj)) hk y
  refine ⟨h.t, fun d hd => ?_, ?_, fun y hy => ?_⟩
  · obtain ⟨i, hi⟩ := List.getElem?_of_mem hd
    rw [List.getElem?_set] at hi
    by_cases e : j = i
    · subst e
      rw [if_pos rfl, if_pos lj] at hi
      rw [← Option.some.inj hi]
      exact h2
    · rw [if_neg e] at hi
      exact h3 _ _ (fun e2 => e (h.ix hi hj e2).symm) (h.r d (List.mem_of_getElem? hi))
  · refine List.pairwise_iff_getElem.2 fun i i' li li' hlt => ?_
    rw [List.length_set] at li li'
    have := List.pairwise_iff_getElem.1 h.nd i i' li li' hlt
    rw [List.getElem_set, List.getElem_set]
    split
    · next e1 =>
      rw [if_neg (by omega)]
      subst e1
      rw [ej] at this
      exact this
    · split
      · next e1 =>
        subst e1
        rw [ej] at this
        exact this
      · exact this
  · obtain ⟨d, hd, e⟩ := h.a y hy
    obtain ⟨i, hi⟩ := List.getElem?_of_mem hd
    by_cases e2 : j = i
    · subst e2
      obtain rfl := Option.some.inj (hi.symm.trans hj)
      exact ⟨_, List.mem_of_getElem? (List.getElem?_set_self lj), e⟩
    · exact ⟨d, List.mem_of_getElem? (i := i) (by rw [List.getElem?_set_ne e2]; exact hi), e⟩

/-- A record lies elsewhere. -/
theorem Rl.wk (h : Rl T W R C) (r : Rec L W T) (hw : Wk T W T' W') (ht : cls R' = T') : Rl T' W' R' C :=
  ⟨ht, fun c hc => Nd.Ho.wk r hw (h.r c hc), h.nd, fun x hx => h.a x (by rw [← wk_find hw]; exact hx)⟩

end Rs
end Go.Proofs.YtlmfojkhfipdnaaGreatDoor

/-
  What Alloc makes of the entries is well laid; what a store's calls, and the reference's, turn. No walk.
-/
namespace Go.Proofs.YtlmfojkhfipdnaaGreatDoor
open Go.RowKit Go.Maps
namespace Rs
open Hp (Pg Wl Srt Ent Kept K No fit insL updL withT smallPg largePg allocL granted freeB Nb)
open Hd (findL)
open Go.Proofs.YtlmfojkhfipdnaaGreatDoor.So (Ad Sb Sw Stp Rn sp)
variable {u0 : World × Nat} {w0 w w' w1 w2 : World} {B br : Nat} {A : Ad} {pg pg' : List (Int × Nat)} {W W' : Int → Int} {L L' : List Pg} {v v' : Value} {T T' R R' : List Hd.Sl} {E E' : List Hp.Re} {C C' : List Rc} {q m z x : Int}

theorem fit_apart (l : Wl L) {m : Int} (hm : 1 ≤ m) : 0 ≤ fit m 0 L ∧ ∀ r ∈ L, fit m 0 L + m ≤ r.n ∨ r.n + r.span ≤ fit m 0 L := by
  obtain ⟨g0, g1, g2⟩ := Hp.fit_spec hm L 0 l.srt (fun p hp => (l.ent p hp).span.1) l.n0
  refine ⟨g0, fun r hr => ?_⟩
  have hrs := (l.ent r hr).span
  by_cases h1 : fit m 0 L + m ≤ r.n
  · exact .inl h1
  · by_cases h2 : r.n + r.span ≤ fit m 0 L
    · exact .inr h2
    · exfalso
      by_cases h3 : fit m 0 L ≤ r.n
      · exact g1 r.n h3 (by omega) ⟨r, hr, by omega, by omega⟩
      · exact g1 (fit m 0 L) (by omega) (by omega) ⟨r, hr, by omega, by omega⟩

theorem alloc_wl (l : Wl L) (x : Int) : Wl (allocL q L x).2.2 := by
  unfold allocL
  split
  · next hx =>
    split
    · next hs =>
      have hc := Hp.cls_in hx hs
      split
      · next p s hf =>
        obtain ⟨hp, hk, hcl, s0, s1, _⟩ := Hp.freeB_some hf
        exact l.upd hp rfl rfl (Hp.ent_set (l.ent p hp) hk s0 (by rw [hcl]; exact s1))
      · split
        · obtain ⟨f0, f1⟩ := fit_apart l (m := 1) (by decide)
          exact Co.Wl.ins l (Hp.ent_smallPg _ hc.1 hc.2.1) f0 f1
        · exact l
    · next hs =>
      split
      · obtain ⟨f0, f1⟩ := fit_apart l (m := Cl.pagI x) (Hp.pag_range hx.1 hx.2).1
        exact Co.Wl.ins l (Hp.ent_largePg _ hx.1 hx.2 (by simpa using hs)) f0 f1
      · exact l
  · exact l

theorem alloc_gr (l : Wl L) (x : Int) (hg : granted L * 64 ≤ q) : granted (allocL q L x).2.2 * 64 ≤ q := by
  unfold allocL
  split
  · next hx =>
    split
    · split
      · next p s hf =>
        have hp := (Hp.freeB_some hf).1
        show granted (updL L p.n (withT p (Bt.setI p.taken s))) * 64 ≤ q
        rw [Hp.granted_upd (p' := withT p (Bt.setI p.taken s)) (fun r hr e => by
          rw [l.inj hr hp e]
          rfl)]
        exact hg
      · split
        · next h =>
          show granted (insL _ L) * 64 ≤ q
          rw [Hp.granted_add]
          exact h
        · exact hg
    · split
      · next h =>
        show granted (insL _ L) * 64 ≤ q
        rw [Hp.granted_add]
        exact h
      · exact hg
  · exact hg

/-- The kinds of blocks that a call on the store, or on the reference, may turn. -/
def Ks (t : TypeId) : Prop := t = 152 ∨ t = 194 ∨ t = 132 ∨ t = 134 ∨ t = 37 ∨ t = 181
instance (t : TypeId) : Decidable (Ks t) := by unfold Ks; infer_instance
def Kd (w w' : World) : Prop := Kept (fun j => ∀ cs t, w.heap[j]? = some (.cells cs t) → Ks t) w w'
theorem Kd.ofK (k : K w w') : Kd w w' := k.kept _
theorem Kd.refl (w : World) : Kd w w := Kept.refl _ _
theorem Kd.trans (h : Kd w w1) (k : Kd w1 w2) : Kd w w2 :=
  ⟨k.os.trans h.os, k.tape.trans h.tape, k.output.trans h.output, Nat.le_trans h.size k.size, fun j hj hn => by
    have e := h.same j hj hn
    rw [k.same j (Nat.lt_of_lt_of_le hj h.size) (fun hf => hn (fun cs t hc => hf cs t (by rw [e]; exact hc)))]
    exact e⟩
theorem Kd.block (h : Kd w w') {j : Nat} {cs : Array Value} {t : TypeId} (hb : w.heap[j]? = some (.cells cs t)) (ht : ¬ Ks t) : w'.heap[j]? = some (.cells cs t) := Kept.block h hb (fun hf => ht (hf cs t hb))
theorem Kd.row (h : Kd w w') {n sz : Nat} {t : TypeId} {u : Value} {xs : List Value} (hr : w.ownsRow B t sz u n xs) (ht : ¬ Ks t) : w'.ownsRow B t sz u n xs := own_kept hr h (fun _ cs hb hf => ht (hf cs t hb))

theorem foot_kind (h : Sb w B A pg W L v T) {j : Nat} (hj : So.foot A pg v j) {cs : Array Value} {t : TypeId} (hb : w.heap[j]? = some (.cells cs t)) : t = 152 ∨ t = 194 ∨ t = 132 ∨ t = 134 := by
  rcases hj with (rfl | rfl | ⟨p, hp, rfl⟩) | rfl | hj
  · exact .inl (kind_ne hb h.hp.hw.ar.s0)
  · obtain ⟨_, _, hm⟩ := Sl.PMap.isMap h.hp.hw.ar.pm
    rw [hb] at hm
    cases hm
  · exact .inr (.inl (kind_ne hb (h.hp.hw.ar.page p hp)))
  · exact .inr (.inr (.inl (kind_ne hb h.tb.hd)))
  · obtain ⟨ds, hd⟩ := own_kind h.tb.row hj
    exact .inr (.inr (.inr (kind_ne hb hd)))
theorem Stp.kd (h : Sb w B A pg W L v T) (s : Stp A pg pg' v v' w w') : Kd w w' := Kept.mono s.k fun _ _ hf cs t hb => by
  rcases foot_kind h hf hb with e | e | e | e
  · exact .inl e
  · exact .inr (.inl e)
  · exact .inr (.inr (.inl e))
  · exact .inr (.inr (.inr (.inl e)))

/-- The reference stays where blocks of its kinds stay. -/
theorem Sr.stays (s : Sr u0 w br q m z E R C) {O : Nat → Prop} (k : Kept O w w') (hO : ∀ j cs t, w.heap[j]? = some (.cells cs t) → (t = 37 ∨ t = 176 ∨ t = 181 ∨ t = 108 ∨ t = 41) → ¬ O j) : Sr (w', u0.2) w' br q m z E R C := by
  obtain ⟨a1, c1, v2, a3, c3, h1, h2, h3⟩ := s.ex
  have h0 : w'.heap[br]? = _ := k.block h1.s0 (hO br _ _ h1.s0 (.inl rfl))
  exact ⟨⟨a1, c1, v2, a3, c3, ⟨h0, own_kept h1.row k (fun j cs hb => hO j cs _ hb (.inr (.inl rfl)))⟩, ⟨h0, own_kept h2.row k (fun j cs hb => hO j cs _ hb (.inr (.inr (.inl rfl)))), h2.ap, h2.wf, h2.lo⟩, own_kept h3 k (fun j cs hb => hO j cs _ hb (.inr (.inr (.inr (.inl rfl)))))⟩, fun i r hr => (s.ws i r hr).kept k (fun j cs hb => hO j cs _ hb (.inr (.inr (.inr (.inr rfl))))), s.eo, s.few, Tn.refl _ _⟩
theorem Sr.again (s : Sr u0 w br q m z E R C) : Sr (w, u0.2) w br q m z E R C := s.stays (K.refl w) (fun _ _ _ _ _ h => h)

/-- A store and its reference, side by side. -/
structure Pm (w0 w : World) (A : Ad) (br : Nat) (pg : List (Int × Nat)) (W : Int → Int) (L : List Pg) (v : Value) (T : List Hd.Sl) (E : List Hp.Re) (R : List Hd.Sl) (C : List Rc) : Prop where
  rn : Rn w0 w A pg W L v T
  sr : Sr (w, w0.heap.size) w br A.q A.m A.z E R C
theorem Pm.keep (h : Pm w0 w A br pg W L v T E R C) (k : K w w') : Pm w0 w' A br pg W L v T E R C := ⟨h.rn.keep k, (h.sr.keep k).again⟩
theorem Pm.store (h : Pm w0 w A br pg W L v T E R C) (rn : Rn w0 w' A pg' W' L' v' T') (st : Stp A pg pg' v v' w w') : Pm w0 w' A br pg' W' L' v' T' E R C ∧ Kd w w' := by
  refine ⟨⟨rn, h.sr.stays st.k fun j cs t hb ht hf => ?_⟩, Stp.kd h.rn.s.b st⟩
  have := foot_kind h.rn.s.b hf hb
  revert ht this
  rintro (rfl | rfl | rfl | rfl | rfl) <;> decide
theorem Pm.ref (h : Pm w0 w A br pg W L v T E R C) (z0 : 0 < w0.heap.size) (s : Sr (w, w0.heap.size) w' br A.q A.m A.z E' R' C') : Pm w0 w' A br pg W L v T E' R' C' ∧ Kd w w' := by
  have f : Kept (Tk w0.heap.size w) w w' := s.fr
  refine ⟨⟨⟨⟨h.rn.s.b.kept f fun j hj => ?_, h.rn.s.r⟩, Nd.kthen h.rn.k f fun j hj => hj.1⟩, s.again⟩, Kept.mono f fun j _ hj cs t hb => ?_⟩
  · obtain ⟨lo, cs, t, hb, ht⟩ := hj
    refine ⟨fun hf => ?_, fun e => ?_, by omega, fun e => ?_⟩
    · have := foot_kind h.rn.s.b hf hb
      revert ht this
      rintro (rfl | rfl) <;> decide
    · subst e
      have := kind_ne hb h.rn.s.b.hp.hw.hd
      revert ht this
      rintro (rfl | rfl) <;> decide
    · subst e
      have := kind_ne hb h.rn.s.b.hd
      revert ht this
      rintro (rfl | rfl) <;> decide
  · obtain ⟨_, ds, u, hd, ht⟩ := hj
    obtain rfl := kind_ne hb hd
    rcases ht with e | e
    · exact .inr (.inr (.inr (.inr (.inl e))))
    · exact .inr (.inr (.inr (.inr (.inr e))))
theorem Pm.full (h : Pm w0 w A br pg W L v T E R C) (hq : A.q ≤ 4000) : granted L * 64 ≤ 4000 := by
  have h1 := h.rn.s.b.hp.hw.ar.full
  have h2 := h.rn.s.b.hp.len
  omega
theorem Pm.fullq (h : Pm w0 w A br pg W L v T E R C) : granted L * 64 ≤ A.q := by
  have h1 := h.rn.s.b.hp.hw.ar.full
  have h2 := h.rn.s.b.hp.len
  omega

/-- The same is in both. -/
structure Pr (w0 w : World) (A : Ad) (br : Nat) (pg : List (Int × Nat)) (W : Int → Int) (L : List Pg) (v : Value) (T : List Hd.Sl) (E : List Hp.Re) (R : List Hd.Sl) (C : List Rc) : Prop where
  m : Pm w0 w A br pg W L v T E R C
  e : Hp.entsR E = L
  nb : Nb L
  rl : Rl T W R C
  q4 : A.q ≤ 4000
def Pl (w0 w : World) (A : Ad) (br : Nat) (n : Nat) : Prop := ∃ pg W L v T E R C, Pr w0 w A br pg W L v T E R C ∧ C.length ≤ n
theorem Pr.keep (h : Pr w0 w A br pg W L v T E R C) (k : K w w') : Pr w0 w' A br pg W L v T E R C := ⟨h.m.keep k, h.e, h.nb, h.rl, h.q4⟩
theorem Pl.keep {n : Nat} (h : Pl w0 w A br n) (k : K w w') : Pl w0 w' A br n := by
  obtain ⟨pg, W, L, v, T, E, R, C, h1, h2⟩ := h
  exact ⟨pg, W, L, v, T, E, R, C, h1.keep k, h2⟩
theorem Pl.k {n : Nat} (h : Pl w0 w A br n) : K w0 w := by
  obtain ⟨pg, W, L, v, T, E, R, C, h1, h2⟩ := h
  exact h1.m.rn.k
theorem Pl.mono {n n' : Nat} (h : Pl w0 w A br n) (hn : n ≤ n') : Pl w0 w A br n' := by
  obtain ⟨pg, W, L, v, T, E, R, C, h1, h2⟩ := h
  exact ⟨pg, W, L, v, T, E, R, C, h1, Nat.le_trans h2 hn⟩

/-- What Alloc makes may be the reference's. -/
theorem Pr.alloc (h : Pr w0 w A br pg W L v T E R C) (x : Int) : ∀ E', Hp.entsR E' = (allocL A.q L x).2.2 → Hp.Eo E' := fun E' he => by
  have h1 := alloc_gr (q := A.q) h.m.rn.s.b.wl x h.m.fullq
  have h2 := h.q4
  exact Hp.eo_of (alloc_wl h.m.rn.s.b.wl x) (Hp.nb_alloc h.m.rn.s.b.wl h.nb h.q4 x) (by omega) he

end Rs
end Go.Proofs.YtlmfojkhfipdnaaGreatDoor

/-
  Each call on the store, then on its reference.
-/
namespace Go.Proofs.YtlmfojkhfipdnaaGreatDoor
open Go.RowKit Go.Maps
namespace Rs
open Hp (Pg Wl Kept K No allocL freeL slideL dropL findB Nb entsR)
open Hd (U64 findL openL closeR moveL atL)
open Go.Proofs.YtlmfojkhfipdnaaGreatDoor.Bb (Ho)
open Go.Proofs.YtlmfojkhfipdnaaGreatDoor.So (Ad Sb Sw Stp Rn sp wE gV pW lE lN)
variable {w0 w w' w1 w2 : World} {br n : Nat} {A : Ad}

/-- What the reference's call then does. -/
abbrev Nx (f : FuncId) (args : Array Value) (r : Value) (w0 : World) (A : Ad) (br n : Nat) (w1 : World) : Prop := ∀ V, K w1 V → Calls Tryz.prog f args V fun e w2 => e = .returned r ∧ Aside (Kd V w2 ∧ Pl w0 w2 A br n)

theorem addr_le {w : World} {B : Nat} {pg : List (Int × Nat)} {W : Int → Int} {L : List Pg} {v : Value} {T : List Hd.Sl} (h : Sw w B A pg W L v T) {i : Nat} {s : Hd.Sl} (hs : T[i]? = some s) (so : s.o = true) : 0 ≤ s.a ∧ s.a ≤ 67108864 := by
  obtain ⟨_, _, _, hb⟩ := h.r.nm i s hs so
  have := h.b.at hb
  omega

theorem Pl.make (h : Pl w0 w A br n) (z0 : 0 < w0.heap.size) (hn : n < 65536) (x : Int) :
    Calls Tryz.prog 20 #[sp A.st, .int .i64 x] w fun e w1 => ∃ y er, e = .returned (.tuple #[.int .u64 y, .int .i64 er]) ∧ Aside (U64 y ∧ K w0 w1 ∧ Kd w w1 ∧ Nx 21 #[rp br, .int .i64 x] (.tuple #[.int .u64 y, .int .i64 er]) w0 A br (n + 1) w1) := by
  obtain ⟨pg, W, L, v, T, E, R, C, P, hl⟩ := h
  have hC := P.alloc (x + 2)
  have he := P.e
  refine (So.make_any P.m.rn.s P.m.rn.k.size x).mono ?_
  rintro e w1 (⟨n0, n1, a, L', y, T', ea, eo, rfl, pg', W', v', sw, sm, hwa, hwn, hz, st⟩ | ⟨er, her, hc, rfl, pg', W', v', sw, sm, st⟩)
  · obtain ⟨nn, rfl⟩ : ∃ nn : Nat, x = (nn : Int) := ⟨x.toNat, by omega⟩
    have ea2 : allocL A.q (entsR E) ((nn : Int) + 2) = (a, 0, L') := by rw [he, Int.add_comm]; exact ea
    have a0 : 0 ≤ a ∧ a ≤ 67108864 := by
      obtain ⟨_, hR⟩ := So.allocRm P.m.rn.s.b.wl (x := 2 + (nn : Int)) ⟨by omega, by omega⟩ ea
      have := sw.b.at ((hR _ _).2 (.inl ⟨rfl, rfl⟩))
      omega
    have hy := (So.nm_word a0.1 P.m.rn.s.b.tl sw.b.tb.wf eo).2
    obtain ⟨P1, kd1⟩ := P.m.store ⟨sw, P.m.rn.kst st⟩ st
    refine ⟨y, 0, rfl, hy, P1.rn.k, kd1, fun V k => ?_⟩
    have PV := P1.keep k
    obtain ⟨R', hoR, _⟩ := P.rl.make P.m.rn.s.r sm a0.1 P.m.rn.s.b.tl eo hwn hz (.bool false)
    rw [show allocL A.q L ((nn : Int) + 2) = (a, 0, L') by rw [Int.add_comm]; exact ea] at hC
    refine (rMake_ok PV.sr nn (by omega) ea2 hC (by omega) hoR (by omega)).mono ?_
    rintro e w2 ⟨rfl, E', v9, hE, s2⟩
    obtain ⟨P2, kd2⟩ := PV.ref z0 s2
    obtain ⟨R2, hoR2, rl2⟩ := P.rl.make P.m.rn.s.r sm a0.1 P.m.rn.s.b.tl eo hwn hz v9
    rw [hoR] at hoR2
    simp only [Prod.mk.injEq] at hoR2
    obtain ⟨_, _, rfl⟩ := hoR2
    have nb := Hp.nb_alloc P.m.rn.s.b.wl P.nb P.q4 (2 + (nn : Int))
    rw [ea] at nb
    exact ⟨rfl, kd2, _, _, _, _, _, _, _, _, ⟨P2, hE, nb, rl2, P.q4⟩, by simp; omega⟩
  · obtain ⟨P1, kd1⟩ := P.m.store ⟨sw, P.m.rn.kst st⟩ st
    refine ⟨0, er, rfl, ⟨by decide, by decide⟩, P1.rn.k, kd1, fun V k => ?_⟩
    have PV := P1.keep k
    have rl1 := P.rl.same P.m.rn.s.r sm
    rcases hc with ⟨rfl, hx⟩ | ⟨n0, n1, ⟨a, ea, hne⟩ | ⟨rfl, hf, a, L', ea⟩⟩
    · refine (rMake_arg PV.sr x (by omega)).mono ?_
      rintro e w2 ⟨rfl, s2⟩
      obtain ⟨P2, kd2⟩ := PV.ref z0 s2
      exact ⟨rfl, kd2, _, _, _, _, _, _, _, _, ⟨P2, he, P.nb, rl1, P.q4⟩, by omega⟩
    · have ea2 : allocL A.q (entsR E) (x + 2) = (a, er, L) := by rw [he, Int.add_comm]; exact ea
      rw [show allocL A.q L (x + 2) = (a, er, L) by rw [Int.add_comm]; exact ea] at hC
      refine (rMake_noroom PV.sr x n0 n1 ea2 hne hC).mono ?_
      rintro e w2 ⟨rfl, E', hE, s2⟩
      obtain ⟨P2, kd2⟩ := PV.ref z0 s2
      exact ⟨rfl, kd2, _, _, _, _, _, _, _, _, ⟨P2, hE, P.nb, rl1, P.q4⟩, by omega⟩
    · have ea2 : allocL A.q (entsR E) (x + 2) = (a, 0, L') := by rw [he, Int.add_comm]; exact ea
      rw [show allocL A.q L (x + 2) = (a, 0, L') by rw [Int.add_comm]; exact ea] at hC
      have a0 : 0 ≤ a ∧ a ≤ 67108864 := by
        obtain ⟨_, hR⟩ := So.allocRm P.m.rn.s.b.wl (x := 2 + x) ⟨by omega, by omega⟩ ea
        have wl2 := alloc_wl (q := A.q) P.m.rn.s.b.wl (2 + x)
        have nb2 := Hp.nb_alloc P.m.rn.s.b.wl P.nb P.q4 (2 + x)
        rw [ea] at wl2 nb2
        obtain ⟨p, hp, k, hk, hpa, _⟩ := (hR a _).2 (.inl ⟨rfl, rfl⟩)
        have h1 := Hp.place_in (wl2.ent p hp) (Hp.slot_ok hk)
        have h2 := wl2.n0 p hp
        have h3 := nb2 p hp
        have h4 := (wl2.ent p hp).span
        unfold Hp.addrI at hpa
        omega
      obtain ⟨y, hoR⟩ := rl1.full a0.1 hf
      refine (rMake_full PV.sr x n0 n1 ea2 hC (by omega) hoR (by decide)).mono ?_
      rintro e w2 ⟨rfl, s2⟩
      obtain ⟨P2, kd2⟩ := PV.ref z0 s2
      exact ⟨rfl, kd2, _, _, _, _, _, _, _, _, ⟨P2, he, P.nb, rl1, P.q4⟩, by omega⟩

theorem Pl.drop (h : Pl w0 w A br n) (z0 : 0 < w0.heap.size) {x : Int} (hx : U64 x) :
    Calls Tryz.prog 46 #[sp A.st, .int .u64 x] w fun e w1 => ∃ er, e = .returned (.int .i64 er) ∧ Aside (K w0 w1 ∧ Kd w w1 ∧ Nx 47 #[rp br, .int .u64 x] (.int .i64 er) w0 A br n w1) := by
  obtain ⟨pg, W, L, v, T, E, R, C, P, hl⟩ := h
  have he := P.e
  cases hf : findL T x with
  | none =>
    refine (So.drop_none P.m.rn.s x hx hf).mono ?_
    rintro e w1 ⟨rfl, k⟩
    have P1 := P.keep k
    refine ⟨7, rfl, P1.m.rn.k, Kd.ofK k, fun V k2 => ?_⟩
    refine (rDrop_none (P1.m.keep k2).sr x (P.rl.find_none hf)).mono ?_
    rintro e w2 ⟨rfl, s2⟩
    obtain ⟨P2, kd2⟩ := (P1.m.keep k2).ref z0 s2
    exact ⟨rfl, kd2, _, _, _, _, _, _, _, _, ⟨P2, he, P.nb, P.rl, P.q4⟩, hl⟩
  | some i =>
    obtain ⟨s, hs, so, _⟩ := Hd.findL_some hf
    refine (So.drop_some P.m.rn.s P.m.rn.k.size x hx hf hs).mono ?_
    rintro e w1 ⟨rfl, pg', W', p, k, hfb, hsb, sw, st⟩
    obtain ⟨P1, kd1⟩ := P.m.store ⟨sw, P.m.rn.kst st⟩ st
    refine ⟨0, rfl, P1.rn.k, kd1, fun V k2 => ?_⟩
    obtain ⟨j, c, hj, hfd, hat, rl2⟩ := P.rl.drop P.m.rn.s.r P.m.rn.s.b.tl hf hs hfb hsb
    have hfr : (freeL L s.a).2 = dropL L p k := by unfold freeL; rw [hfb]
    have hp := (Hp.findB_some hfb).1
    have PV := P1.keep k2
    refine (rDrop_some PV.sr x hfd (List.getElem?_eq_some_iff.1 hj).1 hat (fun E' hE => ?_)).mono ?_
    · rw [he, hfr] at hE
      exact Hp.eo_of sw.b.wl (Hp.nb_drop P.nb hp k) (P1.full P.q4) hE
    · rintro e w2 ⟨rfl, E', hE, s2⟩
      rw [he, hfr] at hE
      obtain ⟨P2, kd2⟩ := PV.ref z0 s2
      exact ⟨rfl, kd2, _, _, _, _, _, _, _, _, ⟨P2, hE, Hp.nb_drop P.nb hp k, rl2, P.q4⟩, by simp; omega⟩

theorem Pl.slide (h : Pl w0 w A br n) (z0 : 0 < w0.heap.size) {x : Int} (hx : U64 x) :
    Calls Tryz.prog 24 #[sp A.st, .int .u64 x] w fun e w1 => ∃ b er, e = .returned (.tuple #[.bool b, .int .i64 er]) ∧ Aside (K w0 w1 ∧ Kd w w1 ∧ Nx 25 #[rp br, .int .u64 x] (.tuple #[.bool b, .int .i64 er]) w0 A br n w1) := by
  obtain ⟨pg, W, L, v, T, E, R, C, P, hl⟩ := h
  have he := P.e
  cases hf : findL T x with
  | none =>
    refine (So.slide_none P.m.rn.s x hx hf).mono ?_
    rintro e w1 ⟨rfl, k⟩
    have P1 := P.keep k
    refine ⟨false, 7, rfl, P1.m.rn.k, Kd.ofK k, fun V k2 => ?_⟩
    refine (rSlide_none (P1.m.keep k2).sr x (P.rl.find_none hf)).mono ?_
    rintro e w2 ⟨rfl, s2⟩
    obtain ⟨P2, kd2⟩ := (P1.m.keep k2).ref z0 s2
    exact ⟨rfl, kd2, _, _, _, _, _, _, _, _, ⟨P2, he, P.nb, P.rl, P.q4⟩, hl⟩
  | some i =>
    obtain ⟨s, hs, so, _⟩ := Hd.findL_some hf
    obtain ⟨bb, er, L', hsl⟩ : ∃ bb er L', slideL L s.a = (bb, er, L') := ⟨_, _, _, rfl⟩
    refine (So.slide_some P.m.rn.s P.m.rn.k.size x hx hf hs hsl).mono ?_
    rintro e w1 ⟨rfl, pg', W', p, k, hfb, hsb, hw, sw, st⟩
    obtain ⟨P1, kd1⟩ := P.m.store ⟨sw, P.m.rn.kst st⟩ st
    refine ⟨bb != s.a, 0, rfl, P1.rn.k, kd1, fun V k2 => ?_⟩
    obtain ⟨j, c, hj, hc, hfd, ho⟩ := P.rl.find_some hf
    have hat : atL R x = (s.a, 0) := by
      rw [← Hd.atL_cls, P.rl.t]
      exact Hd.atL_some hf hs
    have hlt := (List.getElem?_eq_some_iff.1 hs).1
    have b0 := addr_le sw (List.getElem?_set_self hlt) rfl
    have PV := P1.keep k2
    have nb2 : Nb L' := by
      have := Hp.nb_slide PV.sr.eo (by rw [he]; exact P.nb) s.a
      rw [he, hsl] at this
      exact this
    have mv : Hd.cls (moveL R x bb).2 = T.set i ⟨true, s.g, bb⟩ := by
      have := Hd.moveL_cls (R := R) x bb
      rw [P.rl.t, Hd.moveL_some b0.1 hf hs] at this
      exact (congrArg Prod.snd this).symm
    refine (rSlide_some PV.sr x hfd hat (b := bb) (fun E' hE => ?_) (by rw [he, hsl]) (by have h : bb ≤ 67108864 := b0.2; omega)).mono ?_
    · rw [he, hsl] at hE
      exact Hp.eo_of sw.b.wl nb2 (P1.full P.q4) hE
    · rintro e w2 ⟨rfl, E', hE, s2⟩
      rw [he, hsl] at hE
      obtain ⟨P2, kd2⟩ := PV.ref z0 s2
      exact ⟨rfl, kd2, _, _, _, _, _, _, _, _, ⟨P2, hE, nb2, P.rl.wk P.m.rn.s.r (Co.Wk.slide P.m.rn.s.r P.m.rn.s.b.wl P.m.rn.s.b.tl hs so hfb hsb hw) mv, P.q4⟩, hl⟩

end Rs
end Go.Proofs.YtlmfojkhfipdnaaGreatDoor
