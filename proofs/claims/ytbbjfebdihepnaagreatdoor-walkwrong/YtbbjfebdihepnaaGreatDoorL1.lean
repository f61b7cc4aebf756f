/-
  Blobs, told of slots and words: what is held under a handle, behind Make, Put of the words and Drop.
-/
import Derived.Test.YtbbjfebdihepnaaGreatDoorE1
import Derived.Test.YtbbjfebdihepnaaGreatDoorX1
import Derived.Test.YtbbjfebdihepnaaGreatDoorE2
namespace Go.Proofs.YtbbjfebdihepnaaGreatDoor
namespace Bb
open Hp (Pg BlR Bl Wl Same SameBut findB)
open Hd (findL openL nm)
open Go.Proofs.YtbbjfebdihepnaaGreatDoor.So (Rec lN lE gV wE wA rmI rm_ge open_slots Same.at SameBut.at)
variable {L L' : List Pg} {T T' : List Hd.Sl} {W W' : Int → Int} {m z a x y : Int} {ws : List Int}

/-- The words of a record. -/
def rwI (T : List Hd.Sl) (W : Int → Int) (x : Int) : List Int := (List.range (lN T W x).toNat).map fun (k : Nat) => gV T W x (k : Int)
def wdA (W : Int → Int) (a : Int) : List Int := (List.range (W (a + 1)).toNat).map fun (k : Nat) => W (a + 2 + (k : Int))

theorem rwI_some {i : Nat} {s : Hd.Sl} (hf : findL T x = some i) (hs : T[i]? = some s) : rwI T W x = wdA W s.a := by
  have ea : Hd.addrAt T i = s.a := by simp [Hd.addrAt, hs]
  have e1 : lN T W x = W (s.a + 1) := by simp [lN, hf, ea]
  unfold rwI wdA
  rw [e1]
  refine List.map_congr_left fun k hk => ?_
  have hk2 := List.mem_range.1 hk
  have hkn : (k : Int) < W (s.a + 1) := by omega
  have w1 : wE T W x k = 0 := by simp [wE, hf, ea, hkn]
  simp [gV, w1, wA, hf, ea]
theorem rwI_len (T : List Hd.Sl) (W : Int → Int) (x : Int) : (rwI T W x).length = (lN T W x).toNat := by simp [rwI]
theorem wdA_eq {b : Int} (hn : W' (b + 1) = W (a + 1)) (h : ∀ k, 0 ≤ k → k < W (a + 1) → W' (b + 2 + k) = W (a + 2 + k)) : wdA W' b = wdA W a := by
  unfold wdA
  rw [hn]
  refine List.map_congr_left fun k hk => ?_
  have hk2 := List.mem_range.1 hk
  exact h k (by omega) (by omega)
theorem wdA_of {ws : List Int} (hn : W (a + 1) = ws.length) (h : ∀ (k : Nat) y, ws[k]? = some y → W (a + 2 + k) = y) : wdA W a = ws := by
  unfold wdA
  rw [hn, Int.toNat_natCast]
  apply List.ext_getElem?
  intro k
  by_cases hk : k < ws.length
  · rw [List.getElem?_map, List.getElem?_range hk, List.getElem?_eq_getElem hk]
    simp only [Option.map_some]
    rw [h k _ (List.getElem?_eq_getElem hk)]
  · rw [List.getElem?_eq_none (by simp; omega), List.getElem?_eq_none (by omega)]

/-- Under a handle these words are held. -/
def Ho (T : List Hd.Sl) (W : Int → Int) (x : Int) (ws : List Int) : Prop := (findL T x).isSome = true ∧ rwI T W x = ws

theorem find_make (a0 : 0 ≤ a) (hl : T.length ≤ 65536) (e : openL m z T a = (x, 0, T')) : (∃ i g, findL T' x = some i ∧ T'[i]? = some ⟨true, g, a⟩) ∧ findL T x = none ∧ x ≠ 0 ∧ (∀ y, y ≠ x → findL T' y = findL T y) ∧ ∀ y j, findL T y = some j → T'[j]? = T[j]? := by
  obtain ⟨i, g, rfl, hi, hc, ho, hlt⟩ := open_slots a0 hl e
  have em : nm (i + 1) g % 4294967296 = i + 1 := by unfold nm; omega
  have hne : ∀ y j, findL T y = some j → j ≠ i := fun y j hj e => by
    subst e
    obtain ⟨s, hs, so, _⟩ := Hd.findL_some hj
    rw [hc s hs] at so
    cases so
  refine ⟨⟨i, g, ?_, hi⟩, ?_, ?_, fun y hy => ?_, fun y j hj => ho j (hne y j hj)⟩
  · have := Hd.findL_of hi rfl (by omega)
    exact this
  · cases hf : findL T (nm (i + 1) g) with
    | none => rfl
    | some j =>
      obtain ⟨s, hs, so, _, ej⟩ := Hd.findL_some hf
      exact absurd (by omega) (hne _ j hf)
  · intro h
    rw [h] at em
    omega
  · unfold findL
    split
    · rfl
    · next h0 =>
      by_cases hj : (y % 4294967296 - 1).toNat = i
      · rw [hj, hi]
        have hg : ¬ (g = y / 4294967296) := fun e => hy (by unfold nm; omega)
        simp only [hg, and_false, if_false]
        cases ht : T[i]? with
        | none => rfl
        | some s =>
          have := hc s ht
          simp [this]
      · rw [ho _ hj]

theorem Ho.make (r : Rec L W T) (hs : Same L W W') (a0 : 0 ≤ a) (hl : T.length ≤ 65536) (e : openL m z T a = (x, 0, T')) (h : Ho T W y ws) : y ≠ x ∧ Ho T' W' y ws := by
  obtain ⟨_, hn, _, hy, hk⟩ := find_make a0 hl e
  obtain ⟨h1, h2⟩ := h
  have hyx : y ≠ x := fun e => by rw [e, hn] at h1; cases h1
  obtain ⟨j, hj⟩ := Option.isSome_iff_exists.1 h1
  obtain ⟨s, hs1, so, _, _⟩ := Hd.findL_some hj
  obtain ⟨_, n0, n1, hb⟩ := r.nm j s hs1 so
  have hg := rm_ge (x := 2 + W (s.a + 1)) ⟨by omega, by omega⟩
  refine ⟨hyx, by rw [hy y hyx]; exact h1, ?_⟩
  rw [rwI_some (by rw [hy y hyx]; exact hj) (by rw [hk y j hj]; exact hs1), ← h2, rwI_some hj hs1]
  refine wdA_eq (Same.at hs hb (by omega) (by omega)) fun k k0 k1 => ?_
  have := Same.at hs hb (i := 2 + k) (by omega) (by omega)
  rw [Int.add_assoc]
  exact this

theorem Ho.same (r : Rec L W T) (hs : Same L W W') (h : Ho T W y ws) : Ho T W' y ws := by
  obtain ⟨h1, h2⟩ := h
  obtain ⟨j, hj⟩ := Option.isSome_iff_exists.1 h1
  obtain ⟨s, hs1, so, _, _⟩ := Hd.findL_some hj
  obtain ⟨_, n0, n1, hb⟩ := r.nm j s hs1 so
  have hg := rm_ge (x := 2 + W (s.a + 1)) ⟨by omega, by omega⟩
  refine ⟨h1, ?_⟩
  rw [← h2, rwI_some hj hs1, rwI_some hj hs1]
  refine wdA_eq (Same.at hs hb (by omega) (by omega)) fun k k0 k1 => ?_
  have := Same.at hs hb (i := 2 + k) (by omega) (by omega)
  rw [Int.add_assoc]
  exact this

theorem find_drop {i : Nat} {s : Hd.Sl} (hf : findL T x = some i) (hs : T[i]? = some s) : findL (T.set i ⟨false, s.g, 0⟩) x = none ∧ ∀ y, y ≠ x → findL (T.set i ⟨false, s.g, 0⟩) y = findL T y ∧ ∀ j, findL T y = some j → j ≠ i := by
  have hlt := (List.getElem?_eq_some_iff.1 hs).1
  obtain ⟨s', hs', so, sg, ei⟩ := Hd.findL_some hf
  obtain rfl := Option.some.inj (hs.symm.trans hs')
  have hset : (T.set i ⟨false, s.g, 0⟩)[i]? = some ⟨false, s.g, 0⟩ := List.getElem?_set_self hlt
  refine ⟨?_, fun y hy => ⟨?_, fun j hj e => ?_⟩⟩
  · cases hq : findL (T.set i ⟨false, s.g, 0⟩) x with
    | none => rfl
    | some j =>
      obtain ⟨t, ht, to, _, ej⟩ := Hd.findL_some hq
      obtain rfl : j = i := by omega
      rw [hset] at ht
      cases ht
      cases to
  · unfold findL
    split
    · rfl
    · next h0 =>
      by_cases hj : (y % 4294967296 - 1).toNat = i
      · rw [hj, hset, hs]
        have hg : ¬ (s.g = y / 4294967296) := fun e => hy (by omega)
        simp [hg]
      · rw [List.getElem?_set_ne (fun e => hj e.symm)]
  · subst e
    obtain ⟨t, ht, to, tg, ej⟩ := Hd.findL_some hj
    obtain rfl := Option.some.inj (hs.symm.trans ht)
    exact hy (by omega)

theorem Ho.drop (r : Rec L W T) (hl : T.length ≤ 65536) {i : Nat} {s : Hd.Sl} (hf : findL T x = some i) (hs : T[i]? = some s) {p : Pg} {k : Int} (hfb : findB L s.a = some (p, k)) (hsb : SameBut L p k W W') (hyx : y ≠ x) (h : Ho T W y ws) : Ho (T.set i ⟨false, s.g, 0⟩) W' y ws := by
  obtain ⟨_, hd⟩ := find_drop hf hs
  obtain ⟨hy, hn⟩ := hd y hyx
  obtain ⟨h1, h2⟩ := h
  obtain ⟨j, hj⟩ := Option.isSome_iff_exists.1 h1
  have hji := hn j hj
  obtain ⟨t, ht, to, _, _⟩ := Hd.findL_some hj
  obtain ⟨s', hs', so, _, _⟩ := Hd.findL_some hf
  obtain rfl := Option.some.inj (hs.symm.trans hs')
  obtain ⟨_, n0, n1, hb⟩ := r.nm j t ht to
  have hg := rm_ge (x := 2 + W (t.a + 1)) ⟨by omega, by omega⟩
  have hne : t.a ≠ s.a := fun e => hji (r.inj hl ht hs to so e)
  refine ⟨by rw [hy]; exact h1, ?_⟩
  rw [rwI_some (by rw [hy]; exact hj) (by rw [List.getElem?_set_ne (Ne.symm hji)]; exact ht), ← h2, rwI_some hj ht]
  refine wdA_eq (SameBut.at hfb hsb hb hne (by omega) (by omega)) fun k k0 k1 => ?_
  have := SameBut.at hfb hsb hb hne (i := 2 + k) (by omega) (by omega)
  rw [Int.add_assoc]
  exact this

/-- What Get answers. -/
instance (L : List Int) : Decidable (Tx.Is L) := decidable_of_iff (0 < L.length ∧ L.getD 0 0 ≤ 1000 ∧ (L.length : Int) = 1 + (L.getD 0 0 + 7) / 8 ∧ Tx.rest L (L.getD 0 0).toNat = 0) ⟨fun h => ⟨h.1, h.2.1, h.2.2.1, h.2.2.2⟩, fun h => ⟨h.ne, h.le, h.len, h.rest⟩⟩
def gtS (T : List Hd.Sl) (W : Int → Int) (x : Int) : List UInt8 := if (findL T x).isSome = true ∧ Tx.Is (rwI T W x) then Tx.ofT (rwI T W x) else []
def gtE (T : List Hd.Sl) (W : Int → Int) (x : Int) : Int := if (findL T x).isSome = true then (if Tx.Is (rwI T W x) then 0 else 8) else 7

theorem Ho.get {t : List UInt8} (ht : t.length ≤ 1000) (h : Ho T W x (Tx.wds t)) : gtS T W x = t ∧ gtE T W x = 0 := by
  have hi := Tx.is_wds ht
  unfold gtS gtE
  rw [if_pos h.1, h.2, if_pos hi, if_pos ⟨h.1, hi⟩, Tx.ofT_wds]
  exact ⟨rfl, rfl⟩
theorem get_none (h : findL T x = none) : gtS T W x = [] ∧ gtE T W x = 7 := by
  unfold gtS gtE
  rw [h]
  exact ⟨rfl, rfl⟩

/-- What Cost answers. -/
def cstI (n : Int) : Int := if Tx.mn n = 0 then 0 else 2 + Tx.mn n

/-- How many slots are open. -/
def op (T : List Hd.Sl) : Nat := T.countP fun s => s.o
theorem open_op (a0 : 0 ≤ a) (e : openL m z T a = (x, 0, T')) : op T' = op T + 1 := by
  cases hf : Hd.freeAt z T with
  | some i =>
    obtain ⟨s, hs, hfr, _⟩ := Hd.freeAt_some hf
    rw [Hd.openL_free a0 hf hs] at e
    simp only [Prod.mk.injEq] at e
    obtain ⟨_, _, rfl⟩ := e
    have hl := (List.getElem?_eq_some_iff.1 hs).1
    have he := (List.getElem?_eq_some_iff.1 hs).2
    simp [Hd.fr] at hfr
    unfold op
    rw [List.countP_set hl]
    simp [he, hfr.1]
  | none =>
    by_cases hm : (T.length : Int) < m
    · rw [Hd.openL_new a0 hf hm] at e
      simp only [Prod.mk.injEq] at e
      obtain ⟨_, _, rfl⟩ := e
      simp [op]
    · rw [Hd.openL_full a0 hf (by omega)] at e
      simp at e
theorem close_op {i : Nat} {s : Hd.Sl} (hs : T[i]? = some s) (so : s.o = true) (g : Int) : op (T.set i ⟨false, g, 0⟩) + 1 = op T := by
  have hl := (List.getElem?_eq_some_iff.1 hs).1
  have he := (List.getElem?_eq_some_iff.1 hs).2
  have hp : 0 < T.countP fun s => s.o := List.countP_pos_iff.2 ⟨s, List.mem_of_getElem? hs, so⟩
  unfold op
  rw [List.countP_set hl]
  simp [he, so]
  omega

end Bb
end Go.Proofs.YtbbjfebdihepnaaGreatDoor

/-
  Nodes, told of slots and words: a word of a record that is put; six words put one by one; behind a slide.
-/
namespace Go.Proofs.YtbbjfebdihepnaaGreatDoor
namespace Nd
open Hp (Kept K Pg BlR Bl Wl Same SameBut findB)
open Hd (findL openL nm)
open Go.Proofs.YtbbjfebdihepnaaGreatDoor.Bb (Ho rwI wdA rwI_some rwI_len wdA_eq wdA_of find_make)
open Go.Proofs.YtbbjfebdihepnaaGreatDoor.So (Rec lN lE gV wE wA rmI rm_ge pW upd_on upd_off)
variable {L L' : List Pg} {T T' : List Hd.Sl} {W W' : Int → Int} {m z a x y : Int}

theorem kthen {O : Nat → Prop} {a b c : World} (h : K a b) (k : Kept O b c) (hO : ∀ j, O j → a.heap.size ≤ j) : K a c :=
  ⟨k.os.trans h.os, k.tape.trans h.tape, k.output.trans h.output, Nat.le_trans h.size k.size, fun j hj _ => (k.same j (Nat.lt_of_lt_of_le hj h.size) (fun e => by have := hO j e; omega)).trans (h.same j hj (fun z => z))⟩

theorem ho_slot {ws : List Int} (ho : Ho T W x ws) : ∃ (i : Nat) (s : Hd.Sl), findL T x = some i ∧ T[i]? = some s ∧ s.o = true ∧ wdA W s.a = ws := by
  obtain ⟨h1, h2⟩ := ho
  obtain ⟨i, hi⟩ := Option.isSome_iff_exists.1 h1
  obtain ⟨s, hs, so, _, _⟩ := Hd.findL_some hi
  exact ⟨i, s, hi, hs, so, by rw [← h2, rwI_some hi hs]⟩
theorem wdA_get {k : Nat} (h : k < (wdA W a).length) : (wdA W a)[k]? = some (W (a + 2 + k)) := by
  have : k < (W (a + 1)).toNat := by simpa [wdA] using h
  simp [wdA, this]
theorem wdA_len : (wdA W a).length = (W (a + 1)).toNat := by simp [wdA]

/-- A word of a record is put. -/
theorem Ho.put {ws : List Int} (r : Rec L W T) (l : Wl L) (hl : T.length ≤ 65536) {k : Nat} (ho : Ho T W x ws) (hk : k < ws.length) (y : Int) : wE T W x k = 0 ∧ Ho T (pW T W x k y) x (ws.set k y) ∧ ∀ z zs, z ≠ x → Ho T W z zs → Ho T (pW T W x k y) z zs := by
  obtain ⟨i, s, hi, hs, so, hw⟩ := ho_slot ho
  obtain ⟨h1, n0, n1, hb⟩ := r.nm i s hs so
  have ea : Hd.addrAt T i = s.a := by simp [Hd.addrAt, hs]
  have hn : (ws.length : Int) = W (s.a + 1) := by rw [← hw, wdA_len]; omega
  have e0 : wE T W x k = 0 := by simp only [wE, hi, ea]; rw [if_pos ⟨by omega, by omega⟩]
  have eA : wA T x k = s.a + 2 + k := by simp [wA, hi, ea]
  have eP : pW T W x k y = Sl.upd W (s.a + 2 + k) y := by unfold pW; rw [if_pos e0, eA]
  rw [eP]
  refine ⟨e0, ⟨by rw [hi]; rfl, ?_⟩, fun z zs hz hoz => ?_⟩
  · rw [rwI_some hi hs]
    refine wdA_of (by rw [upd_off (by omega), List.length_set]; omega) fun j u hu => ?_
    rw [List.getElem?_set] at hu
    by_cases e : k = j
    · subst e
      rw [if_pos rfl, if_pos hk] at hu
      rw [← Option.some.inj hu]
      exact upd_on
    · rw [if_neg e] at hu
      rw [upd_off (by omega)]
      rw [← hw] at hu
      have := (List.getElem?_eq_some_iff.1 hu).1
      rw [wdA_get this] at hu
      exact Option.some.inj hu
  · obtain ⟨j, t, hj, ht, to, hwt⟩ := ho_slot hoz
    obtain ⟨s', hs', _, sg, ei⟩ := Hd.findL_some hi
    obtain rfl := Option.some.inj (hs.symm.trans hs')
    obtain ⟨t', ht', _, tg, ej⟩ := Hd.findL_some hj
    obtain rfl := Option.some.inj (ht.symm.trans ht')
    have hji : j ≠ i := fun e => by
      subst e
      obtain rfl := Option.some.inj (hs.symm.trans ht)
      exact hz (by omega)
    have hne : t.a ≠ s.a := fun e => hji (r.inj hl ht hs to so e)
    obtain ⟨_, m0, m1, hbt⟩ := r.nm j t ht to
    have g1 := rm_ge (x := 2 + W (s.a + 1)) ⟨by omega, by omega⟩
    have g2 := rm_ge (x := 2 + W (t.a + 1)) ⟨by omega, by omega⟩
    have ap : ∀ i, 0 ≤ i → i < rmI (2 + W (t.a + 1)) → Sl.upd W (s.a + 2 + k) y (t.a + i) = W (t.a + i) := fun i i0 i1 => by
      have := l.apart hbt hb hne (i := i) (j := 2 + k) i0 i1 (by omega) (by omega)
      rw [upd_off (by omega)]
    refine ⟨by rw [hj]; rfl, ?_⟩
    rw [rwI_some hj ht, ← hwt]
    refine wdA_eq (ap 1 (by omega) (by omega)) fun n n0 n1 => ?_
    have := ap (2 + n) (by omega) (by omega)
    rw [← Int.add_assoc] at this
    exact this

/-- Six words over six others: the first k are laid. -/
def mix (new old : List Int) (k : Nat) : List Int := new.take k ++ old.drop k
theorem mix_len {new old : List Int} {k n : Nat} (h1 : new.length = n) (h2 : old.length = n) (hk : k ≤ n) : (mix new old k).length = n := by
  simp [mix]
  omega
theorem mix_get {new old : List Int} {k n : Nat} (h1 : new.length = n) (hk : k ≤ n) (j : Nat) : (mix new old k)[j]? = if j < k then new[j]? else old[j]? := by
  unfold mix
  by_cases e : j < k
  · rw [if_pos e, List.getElem?_append_left (by simp; omega), List.getElem?_take, if_pos e]
  · rw [if_neg e, List.getElem?_append_right (by simp; omega), List.getElem?_drop]
    congr 1
    simp
    omega
theorem mix_set {new old : List Int} {k n : Nat} (h1 : new.length = n) (h2 : old.length = n) (hk : k < n) {y : Int} (hy : new[k]? = some y) : (mix new old k).set k y = mix new old (k + 1) := by
  apply List.ext_getElem?
  intro j
  rw [List.getElem?_set, mix_get h1 (by omega), mix_get h1 (by omega), mix_len h1 h2 (by omega)]
  by_cases e : k = j
  · subst e
    rw [if_pos rfl, if_pos hk, if_pos (by omega), hy]
  · rw [if_neg e]
    by_cases e2 : j < k
    · rw [if_pos e2, if_pos (by omega)]
    · rw [if_neg e2, if_neg (by omega)]
theorem mix_zero (new old : List Int) : mix new old 0 = old := by simp [mix]
theorem mix_full {new old : List Int} {n : Nat} (h1 : new.length = n) (h2 : old.length = n) : mix new old n = new := by
  unfold mix
  rw [List.take_of_length_le (by omega), List.drop_eq_nil_of_le (by omega), List.append_nil]

/-- A node's six words. -/
structure Nv where
  a : Int
  b : Int
  c : Int
  d : Int
  e : Int
  f : Int
def Nv.ws (n : Nv) : List Int := [n.a, n.b, n.c, n.d, n.e, n.f]
abbrev encU (x : Int) : Value := .int .u64 x
def Nv.cs (n : Nv) : Array Value := #[encU n.a, encU n.b, encU n.c, encU n.d, encU n.e, encU n.f]
abbrev Nv.v (n : Nv) : Value := .agg #[encU n.a, encU n.b, encU n.c, encU n.d, encU n.e, encU n.f]
def nv0 : Nv := ⟨0, 0, 0, 0, 0, 0⟩
/-- All six are words. -/
structure Nv.Ok (n : Nv) : Prop where
  a : 0 ≤ n.a ∧ n.a ≤ 18446744073709551615
  b : 0 ≤ n.b ∧ n.b ≤ 18446744073709551615
  c : 0 ≤ n.c ∧ n.c ≤ 18446744073709551615
  d : 0 ≤ n.d ∧ n.d ≤ 18446744073709551615
  e : 0 ≤ n.e ∧ n.e ≤ 18446744073709551615
  f : 0 ≤ n.f ∧ n.f ≤ 18446744073709551615
theorem Nv.Ok.word {n : Nv} (h : n.Ok) {k : Nat} {y : Int} (hy : n.ws[k]? = some y) : 0 ≤ y ∧ y ≤ 18446744073709551615 := by
  have hk := (List.getElem?_eq_some_iff.1 hy).1
  have hk6 : k < 6 := by simpa [Nv.ws] using hk
  obtain ⟨h0, h1, h2, h3, h4, h5⟩ := h
  rcases (by omega : k = 0 ∨ k = 1 ∨ k = 2 ∨ k = 3 ∨ k = 4 ∨ k = 5) with rfl | rfl | rfl | rfl | rfl | rfl <;> (simp [Nv.ws] at hy; subst hy; assumption)
theorem Nv.of_ws {ws : List Int} (h : ws.length = 6) : ∃ n : Nv, n.ws = ws := by
  match ws, h with
  | [a, b, c, d, e, f], _ => exact ⟨⟨a, b, c, d, e, f⟩, rfl⟩
theorem Nv.inj {n n' : Nv} (h : n.ws = n'.ws) : n = n' := by
  obtain ⟨a, b, c, d, e, f⟩ := n
  obtain ⟨a', b', c', d', e', f'⟩ := n'
  simp only [Nv.ws, List.cons.injEq, and_true] at h
  obtain ⟨rfl, rfl, rfl, rfl, rfl, rfl⟩ := h
  rfl

/-- What a call on a node answers: no record, a record that is no node, a node. -/
def ckE (T : List Hd.Sl) (W : Int → Int) (x : Int) : Int := if (findL T x).isSome = true then (if lN T W x = 6 then 0 else 8) else 7
theorem ck_ho {ws : List Int} (h : Ho T W x ws) (hl : ws.length = 6) : ckE T W x = 0 ∧ lN T W x = 6 := by
  obtain ⟨i, s, hi, hs, so, hw⟩ := ho_slot h
  have e : lN T W x = W (s.a + 1) := by simp [lN, hi, Hd.addrAt, hs]
  have : lN T W x = 6 := by
    have := wdA_len (W := W) (a := s.a)
    rw [hw, hl] at this
    omega
  exact ⟨by unfold ckE; rw [if_pos h.1, if_pos this], this⟩
theorem ho_ck (h : ckE T W x = 0) : ∃ n : Nv, Ho T W x n.ws := by
  unfold ckE at h
  split at h
  · next h1 =>
    split at h
    · next h2 =>
      obtain ⟨n, hn⟩ := Nv.of_ws (ws := rwI T W x) (by rw [rwI_len, h2]; rfl)
      exact ⟨n, h1, hn.symm⟩
    · cases h
  · cases h

end Nd
end Go.Proofs.YtbbjfebdihepnaaGreatDoor
