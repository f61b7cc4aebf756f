/-
  StoreApart's lists: the handles that were told, and what was put to each; pure facts, and the two rows in memory.
-/
import Derived.Test.YtckofhbfdfmnoaaGreatDoorWMakeN
import Derived.Test.YtckofhbfdfmnoaaGreatDoorK1
namespace Go.Proofs.YtckofhbfdfmnoaaGreatDoor
open Go.RowKit Go.Maps
namespace So
open Hp (Kept K No Pg BlR Bl Wl Same SameBut allocL slideL dropL findB roomI)
open Hd (U64 findL openL nm)

abbrev Cw := Option (Nat × List Int)

section
variable {T T' : List Hd.Sl} {W W' : Int → Int} {L L' : List Pg} {hs : List Int} {cs : List Cw} {m z : Int}

/-- What was told, and what is there. -/
structure Vs (T : List Hd.Sl) (W : Int → Int) (hs : List Int) (cs : List Cw) : Prop where
  told : ∀ x ∈ hs, ∃ (i : Nat) (s : Hd.Sl) (g : Int), T[i]? = some s ∧ x = nm (i + 1) g ∧ 1 ≤ g ∧ g ≤ s.g
  nd : hs.Nodup
  live : ∀ (k : Nat) x g ws, hs[k]? = some x → cs[k]? = some (some (g, ws)) → ∃ (i : Nat) (s : Hd.Sl), findL T x = some i ∧ T[i]? = some s ∧ W (s.a + 1) = ws.length ∧ ∀ (j : Nat) y, ws[j]? = some y → W (s.a + 2 + j) = y
  dead : ∀ (k : Nat) x, hs[k]? = some x → cs[k]? = some none → findL T x = none

theorem Vs.nil (T : List Hd.Sl) (W : Int → Int) : Vs T W [] [] := ⟨fun _ h => (by cases h), List.nodup_nil, fun k x g ws h => (by simp at h), fun k x h => (by simp at h)⟩

/-- The words of records stay where blocks' do. -/
theorem Vs.same (v : Vs T W hs cs) (r : Rec L W T) (h : Same L W W') : Vs T W' hs cs := by
  refine ⟨v.told, v.nd, fun k x g ws hk hc => ?_, v.dead⟩
  obtain ⟨i, s, h1, h2, h3, h4⟩ := v.live k x g ws hk hc
  obtain ⟨s', hs', so, _⟩ := Hd.findL_some h1
  obtain rfl : s = s' := Option.some.inj (h2.symm.trans hs')
  obtain ⟨_, n0, n1, hb⟩ := r.nm i s h2 so
  have hg := rm_ge (x := 2 + W (s.a + 1)) ⟨by omega, by omega⟩
  refine ⟨i, s, h1, h2, ?_, fun j y hy => ?_⟩
  · rw [Same.at h hb (i := 1) (by omega) (by omega)]
    exact h3
  · have hj := (List.getElem?_eq_some_iff.1 hy).1
    rw [show s.a + 2 + (j : Int) = s.a + (2 + j) by omega, Same.at h hb (i := 2 + j) (by omega) (by omega), show s.a + (2 + (j : Int)) = s.a + 2 + j by omega]
    exact h4 j y hy

theorem find_old {a x y : Int} {i : Nat} {g : Int} (hi : T'[i]? = some ⟨true, g, a⟩) (hc : ∀ s, T[i]? = some s → s.o = false) (ho : ∀ j, j ≠ i → T'[j]? = T[j]?) (hx : x = nm (i + 1) g) (hl : i < 65537) (hne : y ≠ x) (hy : ∃ (j : Nat) (s : Hd.Sl) (k : Int), T[j]? = some s ∧ y = nm (j + 1) k) (htl : T.length ≤ 65536) : findL T' y = findL T y := by
  obtain ⟨j, s, k, hj, rfl⟩ := hy
  have hjl := (List.getElem?_eq_some_iff.1 hj).1
  by_cases e : j = i
  · subst e
    rw [Hd.findL_nm hi (by omega), Hd.findL_nm hj (by omega), if_neg, if_neg]
    · rintro ⟨h1, _⟩
      rw [hc s hj] at h1
      cases h1
    · rintro ⟨_, h2⟩
      have h2 : g = k := h2
      exact hne (by rw [hx, h2])
  · rw [Hd.findL_nm hj (by omega), Hd.findL_nm ((ho j e).trans hj) (by omega)]

/-- A record comes. -/
theorem Vs.make (v : Vs T W hs cs) (r : Rec L W T) {n a x : Int} (n0 : 0 ≤ n) (n1 : n ≤ 3998) (htl : T.length ≤ 65536) (wf : Hd.Wf m z T) (a0 : 0 ≤ a) (eo : openL m z T a = (x, 0, T')) (hsm : Same L W W') (hw : W' (a + 1) = n) (hz : ∀ i, 0 ≤ i → i < n → W' (a + 2 + i) = 0) (hlen : hs.length = cs.length) (g : Nat) :
    Vs T' W' (hs ++ [x]) (cs ++ [some (g, List.replicate n.toNat 0)]) := by
  obtain ⟨i, gg, hx, hi, hc, ho, hlt⟩ := open_slots a0 htl eo
  have hgen : ∀ s, T[i]? = some s → s.g < gg := fun s hs => by
    have hk := wf.get hs
    have hso := hc s hs
    unfold openL at eo
    rw [if_neg (by omega)] at eo
    split at eo
    · next i' hi' =>
      obtain ⟨s', hs', hf, _⟩ := Hd.freeAt_some hi'
      simp only [Prod.mk.injEq] at eo
      obtain ⟨e1, _, rfl⟩ := eo
      have hl1 := (List.getElem?_eq_some_iff.1 hs').1
      have hl2 := (List.getElem?_eq_some_iff.1 hs).1
      rw [Hd.getD_of hs', hx] at e1
      obtain ⟨e2, e3⟩ := Hd.nm_inj e1 (by omega) (by omega) (by omega) (by omega)
      have : i' = i := by omega
      subst this
      obtain rfl := Option.some.inj (hs.symm.trans hs')
      omega
    · split at eo
      · simp only [Prod.mk.injEq] at eo
        obtain ⟨e1, _, rfl⟩ := eo
        have hl2 := (List.getElem?_eq_some_iff.1 hs).1
        rw [hx] at e1
        obtain ⟨e2, e3⟩ := Hd.nm_inj e1 (by omega) (by omega) (by omega) (by omega)
        omega
      · simp at eo
  have g1 : 1 ≤ gg := by
    by_cases hex : ∃ s, T[i]? = some s
    · obtain ⟨s, hs⟩ := hex
      have := hgen s hs
      have := (wf.get hs).lo
      omega
    · have hw' := Hd.openL_wf wf (a := a)
      unfold openL at eo
      rw [if_neg (by omega)] at eo
      split at eo
      · next i' hi' =>
        obtain ⟨s', hs', hf, _⟩ := Hd.freeAt_some hi'
        simp only [Prod.mk.injEq] at eo
        obtain ⟨e1, _, _⟩ := eo
        have hl1 := (List.getElem?_eq_some_iff.1 hs').1
        rw [Hd.getD_of hs', hx] at e1
        obtain ⟨e2, e3⟩ := Hd.nm_inj e1 (by omega) (by omega) (by omega) (by omega)
        have := (wf.get hs').lo
        omega
      · split at eo
        · simp only [Prod.mk.injEq] at eo
          obtain ⟨e1, _, _⟩ := eo
          rw [hx] at e1
          obtain ⟨e2, e3⟩ := Hd.nm_inj e1 (by omega) (by omega) (by omega) (by omega)
          omega
        · simp at eo
  have hnew : x ∉ hs := fun hm => by
    obtain ⟨j, s, k, hj, e, _, hk⟩ := v.told x hm
    have hjl := (List.getElem?_eq_some_iff.1 hj).1
    rw [hx] at e
    obtain ⟨e1, e2⟩ := Hd.nm_inj e (by omega) (by omega) (by omega) (by omega)
    have : j = i := by omega
    subst this
    have := hgen s hj
    omega
  have told' : ∀ y ∈ hs, ∃ (j : Nat) (s : Hd.Sl) (k : Int), T[j]? = some s ∧ y = nm (j + 1) k := fun y hy => by
    obtain ⟨j, s, k, hj, e, _⟩ := v.told y hy
    exact ⟨j, s, k, hj, e⟩
  have hold : ∀ y ∈ hs, findL T' y = findL T y := fun y hy => find_old hi hc ho hx hlt (fun e => hnew (e ▸ hy)) (told' y hy) htl
  have vs := v.same r hsm
  refine ⟨fun y hy => ?_, ?_, fun k y g' ws hk hcs => ?_, fun k y hk hcs => ?_⟩
  · rcases List.mem_append.1 hy with h1 | h1
    · obtain ⟨j, s, k, hj, e, hk1, hk2⟩ := v.told y h1
      by_cases ej : j = i
      · subst ej
        exact ⟨j, _, k, hi, e, hk1, by have := hgen s hj; show k ≤ gg; omega⟩
      · exact ⟨j, s, k, (ho j ej).trans hj, e, hk1, hk2⟩
    · obtain rfl : y = x := by simpa using h1
      exact ⟨i, _, gg, hi, hx, g1, Int.le_refl _⟩
  · rw [List.nodup_append]
    exact ⟨v.nd, by simp, fun y hy b hb e => by
      have hbx : b = x := by simpa using hb
      subst hbx
      exact hnew (e ▸ hy)⟩
  · by_cases hkl : k < hs.length
    · rw [List.getElem?_append_left hkl] at hk
      rw [List.getElem?_append_left (by omega)] at hcs
      obtain ⟨j, s, h1, h2, h3, h4⟩ := vs.live k y g' ws hk hcs
      have hf := hold y (List.mem_of_getElem? hk)
      obtain ⟨s', hs', so, _⟩ := Hd.findL_some h1
      obtain rfl := Option.some.inj (h2.symm.trans hs')
      have ej : j ≠ i := fun e => by
        subst e
        rw [hc s h2] at so
        cases so
      exact ⟨j, s, hf.trans h1, (ho j ej).trans h2, h3, h4⟩
    · have hk2 : k = hs.length := by
        have := (List.getElem?_eq_some_iff.1 hk).1
        simp at this
        omega
      subst hk2
      rw [List.getElem?_append_right (Nat.le_refl _)] at hk
      rw [List.getElem?_append_right (by omega)] at hcs
      simp at hk
      simp [hlen] at hcs
      subst hk
      obtain ⟨rfl, rfl⟩ := hcs
      refine ⟨i, _, ?_, hi, ?_, fun j y hy => ?_⟩
      · have := Hd.findL_of hi rfl (by omega)
        rw [hx]
        exact this
      · show W' (a + 1) = _
        rw [hw, List.length_replicate]
        omega
      · have hj := (List.getElem?_eq_some_iff.1 hy).1
        rw [List.length_replicate] at hj
        rw [List.getElem?_replicate, if_pos hj] at hy
        cases hy
        show W' (a + 2 + j) = 0
        exact hz j (by omega) (by omega)
  · by_cases hkl : k < hs.length
    · rw [List.getElem?_append_left hkl] at hk
      rw [List.getElem?_append_left (by omega)] at hcs
      exact (hold y (List.mem_of_getElem? hk)).trans (v.dead k y hk hcs)
    · rw [List.getElem?_append_right (by omega)] at hcs
      have : k - cs.length = 0 := by
        have := (List.getElem?_eq_some_iff.1 hcs).1
        simp at this
        omega
      rw [this] at hcs
      simp at hcs

/-- Which record a told handle is, where it is live. -/
theorem Vs.idx (v : Vs T W hs cs) {j k : Nat} {x y : Int} {i : Nat} (hj : hs[j]? = some x) (hk : hs[k]? = some y) (fx : findL T x = some i) (fy : findL T y = some i) : j = k := by
  obtain ⟨s, hs1, _, g1, e1⟩ := Hd.findL_some fx
  obtain ⟨s', hs2, _, g2, e2⟩ := Hd.findL_some fy
  obtain rfl := Option.some.inj (hs1.symm.trans hs2)
  have hil := (List.getElem?_eq_some_iff.1 hs1).1
  have hxy : x = y := by omega
  subst hxy
  have hlj := (List.getElem?_eq_some_iff.1 hj).1
  exact (List.getElem?_inj hlj v.nd).1 (hj.trans hk.symm)

/-- A record goes. -/
theorem Vs.drop (v : Vs T W hs cs) (r : Rec L W T) (htl : T.length ≤ 65536) {k : Nat} {x : Int} {i : Nat} {s : Hd.Sl} (hk : hs[k]? = some x) (hf : findL T x = some i) (hs' : T[i]? = some s) {p : Pg} {kk : Int} (hfb : findB L s.a = some (p, kk)) (hsb : SameBut L p kk W W') :
    Vs (T.set i ⟨false, s.g, 0⟩) W' hs (cs.set k none) := by
  have hlt := (List.getElem?_eq_some_iff.1 hs').1
  obtain ⟨s0, hs0, so, _, ei⟩ := Hd.findL_some hf
  obtain rfl := Option.some.inj (hs'.symm.trans hs0)
  have fnd : ∀ y (j : Nat), hs[j]? = some y → j ≠ k → findL (T.set i ⟨false, s.g, 0⟩) y = findL T y := fun y j hj hjk => by
    obtain ⟨a, t, g, ht, e, _⟩ := v.told y (List.mem_of_getElem? hj)
    have hal := (List.getElem?_eq_some_iff.1 ht).1
    rw [e]
    by_cases ea : a = i
    · subst ea
      obtain rfl := Option.some.inj (hs'.symm.trans ht)
      rw [Hd.findL_nm (List.getElem?_set_self hlt) (by omega), Hd.findL_nm ht (by omega), if_neg (by simp), if_neg]
      rintro ⟨_, h2⟩
      refine hjk (v.idx hj hk ?_ hf)
      rw [e, Hd.findL_nm ht (by omega), if_pos ⟨so, h2⟩]
    · rw [Hd.findL_nm (s := t) (by rw [List.getElem?_set_ne (Ne.symm ea)]; exact ht) (by omega), Hd.findL_nm ht (by omega)]
  refine ⟨fun y hy => ?_, v.nd, fun j y g ws hj hc => ?_, fun j y hj hc => ?_⟩
  · obtain ⟨a, t, g, ht, e, h1, h2⟩ := v.told y hy
    by_cases ea : a = i
    · subst ea
      obtain rfl := Option.some.inj (hs'.symm.trans ht)
      exact ⟨a, _, g, List.getElem?_set_self hlt, e, h1, h2⟩
    · exact ⟨a, t, g, by rw [List.getElem?_set_ne (Ne.symm ea)]; exact ht, e, h1, h2⟩
  · by_cases ej : j = k
    · subst ej
      by_cases hl : j < cs.length
      · rw [List.getElem?_set_self hl] at hc
        cases hc
      · rw [List.getElem?_eq_none (by simp; omega)] at hc
        cases hc
    · rw [List.getElem?_set_ne (Ne.symm ej)] at hc
      obtain ⟨a, t, h1, h2, h3, h4⟩ := v.live j y g ws hj hc
      obtain ⟨t', ht', to, _⟩ := Hd.findL_some h1
      obtain rfl := Option.some.inj (h2.symm.trans ht')
      obtain ⟨_, n0, n1, hb⟩ := r.nm a t h2 to
      have hg := rm_ge (x := 2 + W (t.a + 1)) ⟨by omega, by omega⟩
      have ea : a ≠ i := fun e => ej (by subst e; exact v.idx hj hk h1 hf)
      have hne : t.a ≠ s.a := fun e => ea (r.inj htl h2 hs' to so e)
      refine ⟨a, t, (fnd y j hj ej).trans h1, by rw [List.getElem?_set_ne (Ne.symm ea)]; exact h2, ?_, fun b y' hy' => ?_⟩
      · rw [SameBut.at hfb hsb hb hne (i := 1) (by omega) (by omega)]
        exact h3
      · have hbl := (List.getElem?_eq_some_iff.1 hy').1
        rw [show t.a + 2 + (b : Int) = t.a + (2 + b) by omega, SameBut.at hfb hsb hb hne (i := 2 + b) (by omega) (by omega), show t.a + (2 + (b : Int)) = t.a + 2 + b by omega]
        exact h4 b y' hy'
  · by_cases ej : j = k
    · subst ej
      obtain rfl := Option.some.inj (hk.symm.trans hj)
      have hn : x = nm (i + 1) (x / 4294967296) := by unfold Hd.nm; omega
      rw [hn, Hd.findL_nm (List.getElem?_set_self hlt) (by omega), if_neg (by simp)]
    · rw [List.getElem?_set_ne (Ne.symm ej)] at hc
      exact (fnd y j hj ej).trans (v.dead j y hj hc)

/-- A record goes elsewhere. -/
theorem Vs.slide (v : Vs T W hs cs) (r : Rec L W T) (l : Wl L) (htl : T.length ≤ 65536) {x : Int} {i : Nat} {s : Hd.Sl} (hf : findL T x = some i) (hs' : T[i]? = some s) {p : Pg} {kk b : Int} (hfb : findB L s.a = some (p, kk)) (hsb : SameBut L p kk W W') (hw : ∀ i, 0 ≤ i → i < roomI p → W' (b + i) = W (s.a + i)) :
    Vs (T.set i ⟨true, s.g, b⟩) W' hs cs := by
  have hlt := (List.getElem?_eq_some_iff.1 hs').1
  obtain ⟨s0, hs0, so, _, ei⟩ := Hd.findL_some hf
  obtain rfl := Option.some.inj (hs'.symm.trans hs0)
  have fnd : ∀ y ∈ hs, findL (T.set i ⟨true, s.g, b⟩) y = findL T y := fun y hy => by
    obtain ⟨a, t, g, ht, e, _⟩ := v.told y hy
    have hal := (List.getElem?_eq_some_iff.1 ht).1
    rw [e]
    by_cases ea : a = i
    · subst ea
      obtain rfl := Option.some.inj (hs'.symm.trans ht)
      rw [Hd.findL_nm (List.getElem?_set_self hlt) (by omega), Hd.findL_nm ht (by omega)]
      simp [so]
    · rw [Hd.findL_nm (s := t) (by rw [List.getElem?_set_ne (Ne.symm ea)]; exact ht) (by omega), Hd.findL_nm ht (by omega)]
  obtain ⟨hpm, hks, hpa⟩ := Hp.findB_some hfb
  refine ⟨fun y hy => ?_, v.nd, fun j y g ws hj hc => ?_, fun j y hj hc => (fnd y (List.mem_of_getElem? hj)).trans (v.dead j y hj hc)⟩
  · obtain ⟨a, t, g, ht, e, h1, h2⟩ := v.told y hy
    by_cases ea : a = i
    · subst ea
      obtain rfl := Option.some.inj (hs'.symm.trans ht)
      exact ⟨a, _, g, List.getElem?_set_self hlt, e, h1, h2⟩
    · exact ⟨a, t, g, by rw [List.getElem?_set_ne (Ne.symm ea)]; exact ht, e, h1, h2⟩
  · obtain ⟨a, t, h1, h2, h3, h4⟩ := v.live j y g ws hj hc
    obtain ⟨t', ht', to, _⟩ := Hd.findL_some h1
    obtain rfl := Option.some.inj (h2.symm.trans ht')
    obtain ⟨_, n0, n1, hb⟩ := r.nm a t h2 to
    have hg := rm_ge (x := 2 + W (t.a + 1)) ⟨by omega, by omega⟩
    have hf' := (fnd y (List.mem_of_getElem? hj)).trans h1
    by_cases ea : a = i
    · subst ea
      obtain rfl := Option.some.inj (hs'.symm.trans h2)
      have hro : rmI (2 + W (s.a + 1)) = roomI p := l.roomOne hb ⟨p, hpm, kk, hks, hpa, rfl⟩
      refine ⟨a, _, hf', List.getElem?_set_self hlt, ?_, fun c y' hy' => ?_⟩
      · show W' (b + 1) = _
        rw [hw 1 (by omega) (by omega)]
        exact h3
      · have hbl := (List.getElem?_eq_some_iff.1 hy').1
        show W' (b + 2 + c) = _
        rw [show b + 2 + (c : Int) = b + (2 + c) by omega, hw (2 + c) (by omega) (by omega), show s.a + (2 + (c : Int)) = s.a + 2 + c by omega]
        exact h4 c y' hy'
    · have hne : t.a ≠ s.a := fun e => ea (r.inj htl h2 hs' to so e)
      refine ⟨a, t, hf', by rw [List.getElem?_set_ne (Ne.symm ea)]; exact h2, ?_, fun c y' hy' => ?_⟩
      · rw [SameBut.at hfb hsb hb hne (i := 1) (by omega) (by omega)]
        exact h3
      · have hbl := (List.getElem?_eq_some_iff.1 hy').1
        rw [show t.a + 2 + (c : Int) = t.a + (2 + c) by omega, SameBut.at hfb hsb hb hne (i := 2 + c) (by omega) (by omega), show t.a + (2 + (c : Int)) = t.a + 2 + c by omega]
        exact h4 c y' hy'

/-- A word is put. -/
theorem Vs.put (v : Vs T W hs cs) (r : Rec L W T) (l : Wl L) (htl : T.length ≤ 65536) {k : Nat} {x : Int} {i : Nat} {s : Hd.Sl} {g : Nat} {ws : List Int} {c : Nat} {y : Int} (hk : hs[k]? = some x) (hc : cs[k]? = some (some (g, ws))) (hf : findL T x = some i) (hs' : T[i]? = some s) (hcl : c < ws.length) :
    Vs T (Sl.upd W (s.a + 2 + c) y) hs (cs.set k (some (g, ws.set c y))) := by
  obtain ⟨s0, hs0, so, _, ei⟩ := Hd.findL_some hf
  obtain rfl := Option.some.inj (hs'.symm.trans hs0)
  obtain ⟨_, an0, an1, hab⟩ := r.nm i s hs' so
  have hag := rm_ge (x := 2 + W (s.a + 1)) ⟨by omega, by omega⟩
  have hlen : W (s.a + 1) = ws.length := by
    obtain ⟨a, t, h1, h2, h3, _⟩ := v.live k x g ws hk hc
    obtain rfl : i = a := Option.some.inj (hf.symm.trans h1)
    obtain rfl := Option.some.inj (hs'.symm.trans h2)
    exact h3
  have hkl := (List.getElem?_eq_some_iff.1 hc).1
  refine ⟨v.told, v.nd, fun j z g' ws' hj hc' => ?_, fun j z hj hc' => ?_⟩
  · by_cases ej : j = k
    · subst ej
      rw [List.getElem?_set_self hkl] at hc'
      simp only [Option.some.injEq, Prod.mk.injEq] at hc'
      obtain ⟨rfl, rfl⟩ := hc'
      obtain rfl := Option.some.inj (hk.symm.trans hj)
      obtain ⟨a, t, h1, h2, h3, h4⟩ := v.live j x g ws hk hc
      obtain rfl : i = a := Option.some.inj (hf.symm.trans h1)
      obtain rfl := Option.some.inj (hs'.symm.trans h2)
      refine ⟨i, s, h1, h2, ?_, fun d y' hy' => ?_⟩
      · rw [upd_off (by omega), List.length_set]
        exact h3
      · by_cases ed : d = c
        · subst ed
          rw [List.getElem?_set_self hcl] at hy'
          cases hy'
          exact upd_on
        · rw [List.getElem?_set_ne (Ne.symm ed)] at hy'
          rw [upd_off (by omega)]
          exact h4 d y' hy'
    · rw [List.getElem?_set_ne (Ne.symm ej)] at hc'
      obtain ⟨a, t, h1, h2, h3, h4⟩ := v.live j z g' ws' hj hc'
      obtain ⟨t', ht', to, _⟩ := Hd.findL_some h1
      obtain rfl := Option.some.inj (h2.symm.trans ht')
      obtain ⟨_, n0, n1, hb⟩ := r.nm a t h2 to
      have hg := rm_ge (x := 2 + W (t.a + 1)) ⟨by omega, by omega⟩
      have ea : a ≠ i := fun e => ej (by subst e; exact v.idx hj hk h1 hf)
      have hne : t.a ≠ s.a := fun e => ea (r.inj htl h2 hs' to so e)
      refine ⟨a, t, h1, h2, ?_, fun d y' hy' => ?_⟩
      · have := l.apart hb hab hne (i := 1) (j := 2 + c) (by omega) (by omega) (by omega) (by omega)
        rw [upd_off (by omega)]
        exact h3
      · have hbl := (List.getElem?_eq_some_iff.1 hy').1
        have := l.apart hb hab hne (i := 2 + d) (j := 2 + c) (by omega) (by omega) (by omega) (by omega)
        rw [upd_off (by omega)]
        exact h4 d y' hy'
  · by_cases ej : j = k
    · subst ej
      rw [List.getElem?_set_self hkl] at hc'
      cases hc'
    · rw [List.getElem?_set_ne (Ne.symm ej)] at hc'
      exact v.dead j z hj hc'

end
end So
end Go.Proofs.YtckofhbfdfmnoaaGreatDoor
