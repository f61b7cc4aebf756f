/-
  Blobs, told of slots and words: what is held under a handle, behind Make, Put of the words and Drop.
-/
import Derived.Test.YtimedllggcfldaaGreatDoorE1
import Derived.Test.YtimedllggcfldaaGreatDoorX1
import Derived.Test.YtimedllggcfldaaGreatDoorE7
import Derived.Test.YtimedllggcfldaaGreatDoorE2
import Derived.Test.YtimedllggcfldaaGreatDoorG2
import Derived.LoopIn
import Derived.LoopNIn
import Derived.TacticsInMore
import Derived.OwnWalkIn
import Derived.Maps.OwnIn
namespace Go.Proofs.YtimedllggcfldaaGreatDoor
namespace Bb
open Hp (Pg BlR Bl Wl Same SameBut findB)
open Hd (findL openL nm)
open Go.Proofs.YtimedllggcfldaaGreatDoor.So (Rec lN lE gV wE wA rmI rm_ge open_slots Same.at SameBut.at)
variable {L L' : List Pg} {T T' : List Hd.Sl} {W W' : Int → Int} {m z a x y : Int} {ws : List Int}

/-- The words of a record. -/
def rwI (T : List Hd.Sl) (W : Int → Int) (x : Int) : List Int := (List.range (lN T W x).toNat).map fun (k : Nat) => gV T W x (k : Int)
def wdA (W : Int → Int) (a : Int) : List Int := (List.range (W (a + 1)).toNat).map fun (k : Nat) => W (a + 2 + (k : Int))

theorem rwI_some {i : Nat} {s : Hd.Sl} (hf : findL T x = some i) (hs : T[i]? = some s) : rwI T W x = wdA W s.a := by
  have ea : Hd.addrAt T i = s.a := by simp [Hd.addrAt, hs]
  have e1 : lN T W x = W (s.a + 1) := by simp [lN, hf, ea]
  unfold rwI wdA
  rw [e1]
  refine List.map_congr_left fun k hk => ?_
  have hk2 := List.mem_range.1 hk
  have hkn : (k : Int) < W (s.a + 1) := by omega
  have w1 : wE T W x k = 0 := by simp [wE, hf, ea, hkn]
  simp [gV, w1, wA, hf, ea]
theorem rwI_len (T : List Hd.Sl) (W : Int → Int) (x : Int) : (rwI T W x).length = (lN T W x).toNat := by simp [rwI]
theorem wdA_eq {b : Int} (hn : W' (b + 1) = W (a + 1)) (h : ∀ k, 0 ≤ k → k < W (a + 1) → W' (b + 2 + k) = W (a + 2 + k)) : wdA W' b = wdA W a := by
  unfold wdA
  rw [hn]
  refine List.map_congr_left fun k hk => ?_
  have hk2 := List.mem_range.1 hk
  exact h k (by omega) (by omega)
theorem wdA_of {ws : List Int} (hn : W (a + 1) = ws.length) (h : ∀ (k : Nat) y, ws[k]? = some y → W (a + 2 + k) = y) : wdA W a = ws := by
  unfold wdA
  rw [hn, Int.toNat_natCast]
  apply List.ext_getElem?
  intro k
  by_cases hk : k < ws.length
  · rw [List.getElem?_map, List.getElem?_range hk, List.getElem?_eq_getElem hk]
    simp only [Option.map_some]
    rw [h k _ (List.getElem?_eq_getElem hk)]
  · rw [List.getElem?_eq_none (by simp; omega), List.getElem?_eq_none (by omega)]

/-- Under a handle these words are held. -/
def Ho (T : List Hd.Sl) (W : Int → Int) (x : Int) (ws : List Int) : Prop := (findL T x).isSome = true ∧ rwI T W x = ws

theorem find_make (a0 : 0 ≤ a) (hl : T.length ≤ 65536) (e : openL m z T a = (x, 0, T')) : (∃ i g, findL T' x = some i ∧ T'[i]? = some ⟨true, g, a⟩) ∧ findL T x = none ∧ x ≠ 0 ∧ (∀ y, y ≠ x → findL T' y = findL T y) ∧ ∀ y j, findL T y = some j → T'[j]? = T[j]? := by
  obtain ⟨i, g, rfl, hi, hc, ho, hlt⟩ := open_slots a0 hl e
  have em : nm (i + 1) g % 4294967296 = i + 1 := by unfold nm; omega
  have hne : ∀ y j, findL T y = some j → j ≠ i := fun y j hj e => by
    subst e
    obtain ⟨s, hs, so, _⟩ := Hd.findL_some hj
    rw [hc s hs] at so
    cases so
  refine ⟨⟨i, g, ?_, hi⟩, ?_, ?_, fun y hy => ?_, fun y j hj => ho j (hne y j hj)⟩
  · have := Hd.findL_of hi rfl (by omega)
    exact this
  · cases hf : findL T (nm (i + 1) g) with
    | none => rfl
    | some j =>
      obtain ⟨s, hs, so, _, ej⟩ := Hd.findL_some hf
      exact absurd (by omega) (hne _ j hf)
  · intro h
    rw [h] at em
    omega
  · unfold findL
    split
    · rfl
    · next h0 =>
      by_cases hj : (y % 4294967296 - 1).toNat = i
      · rw [hj, hi]
        have hg : ¬ (g = y / 4294967296) := fun e => hy (by unfold nm; omega)
        simp only [hg, and_false, if_false]
        cases ht : T[i]? with
        | none => rfl
        | some s =>
          have := hc s ht
          simp [this]
      · rw [ho _ hj]

theorem Ho.make (r : Rec L W T) (hs : Same L W W') (a0 : 0 ≤ a) (hl : T.length ≤ 65536) (e : openL m z T a = (x, 0, T')) (h : Ho T W y ws) : y ≠ x ∧ Ho T' W' y ws := by
  obtain ⟨_, hn, _, hy, hk⟩ := find_make a0 hl e
  obtain ⟨h1, h2⟩ := h
  have hyx : y ≠ x := fun e => by rw [e, hn] at h1; cases h1
  obtain ⟨j, hj⟩ := Option.isSome_iff_exists.1 h1
  obtain ⟨s, hs1, so, _, _⟩ := Hd.findL_some hj
  obtain ⟨_, n0, n1, hb⟩ := r.nm j s hs1 so
  have hg := rm_ge (x := 2 + W (s.a + 1)) ⟨by omega, by omega⟩
  refine ⟨hyx, by rw [hy y hyx]; exact h1, ?_⟩
  rw [rwI_some (by rw [hy y hyx]; exact hj) (by rw [hk y j hj]; exact hs1), ← h2, rwI_some hj hs1]
  refine wdA_eq (Same.at hs hb (by omega) (by omega)) fun k k0 k1 => ?_
  have := Same.at hs hb (i := 2 + k) (by omega) (by omega)
  rw [Int.add_assoc]
  exact this

theorem Ho.same (r : Rec L W T) (hs : Same L W W') (h : Ho T W y ws) : Ho T W' y ws := by
  obtain ⟨h1, h2⟩ := h
  obtain ⟨j, hj⟩ := Option.isSome_iff_exists.1 h1
  obtain ⟨s, hs1, so, _, _⟩ := Hd.findL_some hj
  obtain ⟨_, n0, n1, hb⟩ := r.nm j s hs1 so
  have hg := rm_ge (x := 2 + W (s.a + 1)) ⟨by omega, by omega⟩
  refine ⟨h1, ?_⟩
  rw [← h2, rwI_some hj hs1, rwI_some hj hs1]
  refine wdA_eq (Same.at hs hb (by omega) (by omega)) fun k k0 k1 => ?_
  have := Same.at hs hb (i := 2 + k) (by omega) (by omega)
  rw [Int.add_assoc]
  exact this

theorem find_drop {i : Nat} {s : Hd.Sl} (hf : findL T x = some i) (hs : T[i]? = some s) : findL (T.set i ⟨false, s.g, 0⟩) x = none ∧ ∀ y, y ≠ x → findL (T.set i ⟨false, s.g, 0⟩) y = findL T y ∧ ∀ j, findL T y = some j → j ≠ i := by
  have hlt := (List.getElem?_eq_some_iff.1 hs).1
  obtain ⟨s', hs', so, sg, ei⟩ := Hd.findL_some hf
  obtain rfl := Option.some.inj (hs.symm.trans hs')
  have hset : (T.set i ⟨false, s.g, 0⟩)[i]? = some ⟨false, s.g, 0⟩ := List.getElem?_set_self hlt
  refine ⟨?_, fun y hy => ⟨?_, fun j hj e => ?_⟩⟩
  · cases hq : findL (T.set i ⟨false, s.g, 0⟩) x with
    | none => rfl
    | some j =>
      obtain ⟨t, ht, to, _, ej⟩ := Hd.findL_some hq
      obtain rfl : j = i := by omega
      rw [hset] at ht
      cases ht
      cases to
  · unfold findL
    split
    · rfl
    · next h0 =>
      by_cases hj : (y % 4294967296 - 1).toNat = i
      · rw [hj, hset, hs]
        have hg : ¬ (s.g = y / 4294967296) := fun e => hy (by omega)
        simp [hg]
      · rw [List.getElem?_set_ne (fun e => hj e.symm)]
  · subst e
    obtain ⟨t, ht, to, tg, ej⟩ := Hd.findL_some hj
    obtain rfl := Option.some.inj (hs.symm.trans ht)
    exact hy (by omega)

theorem Ho.drop (r : Rec L W T) (hl : T.length ≤ 65536) {i : Nat} {s : Hd.Sl} (hf : findL T x = some i) (hs : T[i]? = some s) {p : Pg} {k : Int} (hfb : findB L s.a = some (p, k)) (hsb : SameBut L p k W W') (hyx : y ≠ x) (h : Ho T W y ws) : Ho (T.set i ⟨false, s.g, 0⟩) W' y ws := by
  obtain ⟨_, hd⟩ := find_drop hf hs
  obtain ⟨hy, hn⟩ := hd y hyx
  obtain ⟨h1, h2⟩ := h
  obtain ⟨j, hj⟩ := Option.isSome_iff_exists.1 h1
  have hji := hn j hj
  obtain ⟨t, ht, to, _, _⟩ := Hd.findL_some hj
  obtain ⟨s', hs', so, _, _⟩ := Hd.findL_some hf
  obtain rfl := Option.some.inj (hs.symm.trans hs')
  obtain ⟨_, n0, n1, hb⟩ := r.nm j t ht to
  have hg := rm_ge (x := 2 + W (t.a + 1)) ⟨by omega, by omega⟩
  have hne : t.a ≠ s.a := fun e => hji (r.inj hl ht hs to so e)
  refine ⟨by rw [hy]; exact h1, ?_⟩
  rw [rwI_some (by rw [hy]; exact hj) (by rw [List.getElem?_set_ne (Ne.symm hji)]; exact ht), ← h2, rwI_some hj ht]
  refine wdA_eq (SameBut.at hfb hsb hb hne (by omega) (by omega)) fun k k0 k1 => ?_
  have := SameBut.at hfb hsb hb hne (i := 2 + k) (by omega) (by omega)
  rw [Int.add_assoc]
  exact this

/-- What Get answers. -/
instance (L : List Int) : Decidable (Tx.Is L) := decidable_of_iff (0 < L.length ∧ L.getD 0 0 ≤ 1000 ∧ (L.length : Int) = 1 + (L.getD 0 0 + 7) / 8 ∧ Tx.rest L (L.getD 0 0).toNat = 0) ⟨fun h => ⟨h.1, h.2.1, h.2.2.1, h.2.2.2⟩, fun h => ⟨h.ne, h.le, h.len, h.rest⟩⟩
def gtS (T : List Hd.Sl) (W : Int → Int) (x : Int) : List UInt8 := if (findL T x).isSome = true ∧ Tx.Is (rwI T W x) then Tx.ofT (rwI T W x) else []
def gtE (T : List Hd.Sl) (W : Int → Int) (x : Int) : Int := if (findL T x).isSome = true then (if Tx.Is (rwI T W x) then 0 else 8) else 7

theorem Ho.get {t : List UInt8} (ht : t.length ≤ 1000) (h : Ho T W x (Tx.wds t)) : gtS T W x = t ∧ gtE T W x = 0 := by
  have hi := Tx.is_wds ht
  unfold gtS gtE
  rw [if_pos h.1, h.2, if_pos hi, if_pos ⟨h.1, hi⟩, Tx.ofT_wds]
  exact ⟨rfl, rfl⟩
theorem get_none (h : findL T x = none) : gtS T W x = [] ∧ gtE T W x = 7 := by
  unfold gtS gtE
  rw [h]
  exact ⟨rfl, rfl⟩

/-- What Cost answers. -/
def cstI (n : Int) : Int := if Tx.mn n = 0 then 0 else 2 + Tx.mn n

end Bb
end Go.Proofs.YtimedllggcfldaaGreatDoor

/-
  Walks of package blob: made, Cost; without a store: Put, Get, Drop.
-/
namespace Go.Proofs.YtimedllggcfldaaGreatDoor
open Go.RowKit Go.Maps
attribute [local go_sem ↓] Go.wp_at_zero Go.wp_at_succ
namespace Bb
open Hp (Kept K No Pg BlR Bl Wl)
open Hd (U64 findL)
open Go.Proofs.YtimedllggcfldaaGreatDoor.So (Ad Sb Sw Rec sp lE lN len_any Un)
variable {w w' : World} {B : Nat} {A : Ad} {pg : List (Int × Nat)} {W : Int → Int} {L : List Pg} {v : Value} {T : List Hd.Sl}

theorem cost_any (n : Int) (w : World) : Calls Tryz.prog 16 #[.int .i64 n] w fun e w' => e = .returned (.int .i64 (cstI n)) ∧ w = w' := by
  have cm := Tx.many_any n
  by_cases h : Tx.mn n = 0
  · have E : Hid (cstI n = 0) := if_pos h
    rw [h] at cm
    clear h
    go_enter Tryz.func16, Tryz.ntmps16
    go_wp2_with (go_at_call 45; refine (cm _).mono ?_; rintro e w1 ⟨rfl, rfl⟩)
    go_ret
    exact ⟨by rw [E.out]; first | rfl | (show Ending.returned (Value.int IntKind.i64 (IntKind.i64.wrap (2 + x))) = _; rw [IntKind.wrap_i64]; congr 2; omega), rfl⟩
  · have E : Hid (cstI n = 2 + Tx.mn n) := if_neg h
    have hr : 1 ≤ Tx.mn n ∧ Tx.mn n ≤ 126 := by
      unfold Tx.mn at h ⊢
      split at h
      · next hn => rw [if_pos hn]; omega
      · exact absurd rfl h
    generalize Tx.mn n = x at *
    go_enter Tryz.func16, Tryz.ntmps16
    go_wp2_with (go_at_call 45; refine (cm _).mono ?_; rintro e w1 ⟨rfl, rfl⟩)
    go_ret
    exact ⟨by rw [E.out]; first | rfl | (show Ending.returned (Value.int IntKind.i64 (IntKind.i64.wrap (2 + x))) = _; rw [IntKind.wrap_i64]; congr 2; omega), rfl⟩

theorem find_zero (T : List Hd.Sl) : findL T 0 = none := by
  unfold findL
  rw [if_pos (by decide)]

theorem made_yes (h : Sw w B A pg W L v T) : Calls Tryz.prog 41 #[sp A.st] w fun e w' => e = .returned (.bool true) ∧ K w w' := by
  have ln := len_any h 0 ⟨by decide, by decide⟩
  rw [show lE T 0 = 7 by simp [lE, find_zero]] at ln
  go_enter Tryz.func41, Tryz.ntmps41
  go_wp2_with (go_at_call 21; refine ln.mono ?_; rintro e w1 ⟨rfl, k1⟩)
  go_ret
  exact ⟨rfl, k1⟩

theorem len_un {v : Value} (h : Un w v) (x : Int) : Calls Tryz.prog 21 #[v, .int .u64 x] w fun e w' => e = .returned (.tuple #[.int .i64 0, .int .i64 1]) ∧ K w w' := by
  have hf := So.find_un h x
  go_enter Tryz.func21, Tryz.ntmps21
  go_wp2_with (go_at_call 51; refine hf.mono ?_; rintro e w1 ⟨rfl, k1⟩)
  go_ret2
  exact ⟨rfl, k1.alloc _⟩

theorem made_no {p : Option Addr} (h : Un w (.pointer p)) : Calls Tryz.prog 41 #[.pointer p] w fun e w' => e = .returned (.bool false) ∧ K w w' := by
  have ln := len_un h 0
  go_enter Tryz.func41, Tryz.ntmps41
  go_wp2_with (go_at_call 21; refine ln.mono ?_; rintro e w1 ⟨rfl, k1⟩)
  go_ret
  exact ⟨rfl, k1⟩

theorem put_un {p : Option Addr} (h : Un w (.pointer p)) (t : ByteArray) : Calls Tryz.prog 14 #[.pointer p, .string t] w fun e w' => e = .returned (.tuple #[.int .u64 0, .int .i64 1]) ∧ K w w' := by
  have hm := made_no h
  go_enter Tryz.func14, Tryz.ntmps14
  go_wp2_with (go_at_call 41; refine hm.mono ?_; rintro e w1 ⟨rfl, k1⟩)
  go_ret2
  exact ⟨rfl, k1⟩
theorem get_un {p : Option Addr} (h : Un w (.pointer p)) (x : Int) : Calls Tryz.prog 15 #[.pointer p, .int .u64 x] w fun e w' => e = .returned (.tuple #[.string ⟨#[]⟩, .int .i64 1]) ∧ K w w' := by
  have ln := len_un h x
  go_enter Tryz.func15, Tryz.ntmps15
  go_wp2_with (go_at_call 21; refine ln.mono ?_; rintro e w1 ⟨rfl, k1⟩)
  go_ret2
  exact ⟨rfl, k1⟩
theorem drop_un {p : Option Addr} (h : Un w (.pointer p)) (x : Int) : Calls Tryz.prog 17 #[.pointer p, .int .u64 x] w fun e w' => e = .returned (.int .i64 1) ∧ K w w' := by
  have ln := get_un h x
  go_enter Tryz.func17, Tryz.ntmps17
  go_wp2_with (go_at_call 15; refine ln.mono ?_; rintro e w1 ⟨rfl, k1⟩)
  go_ret
  exact ⟨rfl, k1⟩

end Bb
end Go.Proofs.YtimedllggcfldaaGreatDoor

/-
  The words of a record: package blob's iterator, its contract; and a row of words in a variable that grows, for the caller.
-/
namespace Go.Proofs.YtimedllggcfldaaGreatDoor
open Go.RowKit Go.Maps
attribute [local go_sem] Oper.semAt_some
namespace Bb
open Hp (Kept K No Pg BlR Bl Wl Grows lt_of_cell)
open Hd (U64 findL)
open Co (Off SeqS)
open Go.Proofs.YtimedllggcfldaaGreatDoor.So (Ad Sb Sw Rec sp lE lN gV wE len_any get_any)
variable {w w' : World} {B : Nat} {A : Ad} {pg : List (Int × Nat)} {W : Int → Int} {L : List Pg} {v : Value} {T : List Hd.Sl} {x : Int}

theorem words_any (st : Nat) (x : Int) (w : World) : Calls Tryz.prog 43 #[sp st, .int .u64 x] w fun e w' => e = .returned (.func (.func 90) #[] #[.pointer (some ⟨w.heap.size, 0, none⟩), .pointer (some ⟨w.heap.size + 1, 0, none⟩)]) ∧ w' = (w.alloc (.cells #[sp st] 24)).alloc (.cells #[.int .u64 x] 49) := by
  have hmf : ∀ (fn : Fn) (first cap : Array Value) (w : World), (Instr.makeFunc fn first cap).run Tryz.prog w = .ok (.func fn first cap) w := fun _ _ _ _ => rfl
  go_enter Tryz.func43, Tryz.ntmps43
  go_wp2
  go_ret
  exact ⟨by simp, rfl⟩

theorem lN_rng (h : Sw w B A pg W L v T) (x : Int) : 0 ≤ lN T W x ∧ lN T W x ≤ 3998 := by
  cases hf : findL T x with
  | none => simp [lN, hf]
  | some i =>
    obtain ⟨s, hs, _, _, n0, n1, _⟩ := h.live hf
    have ea : Hd.addrAt T i = s.a := by simp [Hd.addrAt, hs]
    simp only [lN, hf, ea]
    exact ⟨n0, n1⟩

theorem rwI_pre {k : Nat} (h : k < (lN T W x).toNat) : (rwI T W x).take k ++ [gV T W x (k : Int)] = (rwI T W x).take (k + 1) ∧ (rwI T W x).take k ++ [gV T W x (k : Int)] <+: rwI T W x := by
  have hk : (rwI T W x)[k]? = some (gV T W x (k : Int)) := by
    unfold rwI
    rw [List.getElem?_map, List.getElem?_range h]
    rfl
  have e : (rwI T W x).take k ++ [gV T W x (k : Int)] = (rwI T W x).take (k + 1) := by rw [List.take_add_one, hk]; rfl
  exact ⟨e, by rw [e]; exact List.take_prefix _ _⟩

/-- What the iterator reads. -/
structure Rd (w : World) (st : Nat) (x : Int) (b1 b2 : Nat) (V : World) : Prop where
  k : K w V
  c1 : V.cell? ⟨b1, 0, none⟩ = some (sp st)
  c2 : V.cell? ⟨b2, 0, none⟩ = some (.int .u64 x)

set_option maxRecDepth 100000 in
set_option maxHeartbeats 1000000 in
theorem words_seq (h : Sw w B A pg W L v T) (hx : U64 x) (b1 b2 : Nat) (O : Nat → Prop) (wa : World) :
    SeqS Tryz.prog 90 #[] #[.pointer (some ⟨b1, 0, none⟩), .pointer (some ⟨b2, 0, none⟩)] (fun y : Int => #[.int .u64 y]) (rwI T W x) O (fun _ V => Rd w A.st x b1 b2 V) wa := fun m r J Jx W0 k0 hr0 hOlt hJ hJx hJS hY h0 => by
  have S0 := hJS _ _ _ h0
  have ln := len_any (h.keep S0.k) x hx
  have hrng := lN_rng h x
  have PP : Aside (∀ k, k < (lN T W x).toNat → (rwI T W x).take k ++ [gV T W x (k : Int)] = (rwI T W x).take (k + 1) ∧ (rwI T W x).take k ++ [gV T W x (k : Int)] <+: rwI T W x) := fun k hk => rwI_pre hk
  have PL : Aside ((rwI T W x).length = (lN T W x).toNat) := rwI_len T W x
  have ge : Aside (∀ V, K w V → ∀ k : Int, Calls Tryz.prog 22 #[sp A.st, .int .u64 x, .int .i64 k] V fun e w' => e = .returned (.tuple #[.int .u64 (gV T W x k), .int .i64 (wE T W x k)]) ∧ K V w') := fun V kv k => get_any (h.keep kv) x k hx
  obtain ⟨c1, c2⟩ := And.intro S0.c1 S0.c2
  clear h
  generalize lE T x = er at *
  generalize hn : lN T W x = n at *
  obtain ⟨nn, rfl⟩ : ∃ nn : Nat, n = (nn : Int) := ⟨n.toNat, by omega⟩
  rw [Int.toNat_natCast] at PP PL
  clear hn
  refine callsIn_of_wp Tryz.func90 rfl trivial ?_ rfl
  simp only [Tryz.ntmps90, List.size_toArray, List.length_cons, List.length_nil, Nat.reduceAdd, Nat.reduceSub, Array.replicate_succ, Array.replicate_zero, List.push_toArray, List.append_toArray, List.nil_append, List.cons_append]
  gi_wp2
  refine ⟨trivial, fun h => (by cases h), (callsIn_wide.2 ln).mono ?_⟩
  rintro e w1 ⟨rfl, k1⟩
  have h1 := hJ _ _ _ _ h0 (k1.kept _)
  clear ln
  gi_wp2
  gi_loopw [16] (fun i wr => ∃ (k : Nat) (M : Nat → Prop), k ≤ nn ∧ i = .int .i64 (k : Int) ∧ J ((rwI T W x).take k) M wr) (fun i _ => nn - (intOf i).toNat)
  case atStart => exact ⟨0, O, Nat.zero_le _, rfl, by simpa using h1⟩
  case round =>
    clear h1 c1 c2 S0
    obtain ⟨k, M, hk, rfl, hJr⟩ := hrel
    by_cases hlt : k < nn
    · have S1 := hJS _ _ _ hJr
      obtain ⟨c1, c2⟩ := And.intro S1.c1 S1.c2
      have gk := ge.out _ S1.k (k : Int)
      obtain ⟨p1, p2⟩ := PP.out k hlt
      have hYk := fun V2 (kv : K wr V2) => hY _ (gV T W x (k : Int)) M V2 p2 (hJ _ _ _ _ hJr (kv.kept _))
      have P1 : Aside _ := And.intro p1 p2
      have HY : Aside _ := hYk
      clear p1 p2 hYk hY S1
      generalize gV T W x (k : Int) = y at *
      generalize wE T W x (k : Int) = e9 at *
      gi_wp2
      refine ⟨trivial, fun h => (by cases h), (callsIn_wide.2 gk).mono ?_⟩
      rintro e w2 ⟨rfl, k2⟩
      obtain ⟨fn, tmps, assign, body, hy, hR⟩ := HY.out w2 k2
      gi_wp2
      refine ⟨fun h => (by cases h), hR.mono ?_⟩
      rintro e w3 (⟨rfl, M3, hJ3, k3, g3⟩ | ⟨rfl, M3, hJx3, k3, g3⟩)
      · rw [P1.out.1] at hJ3
        gi_wp2
        go_roundw
        case rel => exact ⟨k + 1, M3, by omega, by go_num, hJ3⟩
        case measure => simp [intOf]; omega
      · gi_wp2
        refine bodyPost_ret (results_none rfl _ _ _) rfl ?_
        exact ⟨⟨_, rfl⟩, .inr ⟨_, M3, P1.out.2, hJx3⟩⟩
    · obtain rfl : k = nn := by omega
      have e : (rwI T W x).take k = rwI T W x := List.take_of_length_le (by rw [PL.out]; exact Nat.le_refl _)
      rw [e] at hJr
      gi_wp2
      go_end0
      exact ⟨⟨_, rfl⟩, .inl ⟨M, hJr⟩⟩

/-- The variable at B holds a row of these; M: the variable and the row. -/
abbrev mine (B : Nat) (v : Value) : Nat → Prop := fun k => k = B ∨ some k = v.ownBlock
def RowU (n₀ B : Nat) (xs : List Int) (M : Nat → Prop) (V : World) : Prop := ∃ v, Boxed V B 101 v ∧ V.ownsRow n₀ 41 1 v xs.length (xs.map Tx.encU) ∧ some B ≠ v.ownBlock ∧ n₀ ≤ B ∧ M = mine B v

theorem RowU.next {n₀ B : Nat} {xs : List Int} {M : Nat → Prop} {V V' : World} (h : RowU n₀ B xs M V) {O : Nat → Prop} (kk : Kept O V V') (hO : ∀ g, M g → ¬ O g) : RowU n₀ B xs M V' := by
  obtain ⟨v, h1, h2, h3, h4, rfl⟩ := h
  exact ⟨v, kk.boxed h1 (hO _ (.inl rfl)), Hd.ownsRow_kept h2 kk (fun g hg => hO g (.inr hg)), h3, h4, rfl⟩
theorem RowU.lt {n₀ B : Nat} {xs : List Int} {M : Nat → Prop} {V : World} (h : RowU n₀ B xs M V) {k : Nat} (hk : M k) : k < V.heap.size ∧ n₀ ≤ k := by
  obtain ⟨v, h1, h2, h3, h4, rfl⟩ := h
  rcases hk with rfl | hk
  · exact ⟨h1.lt, h4⟩
  · exact ⟨(Hd.own_lt h2 hk).2, (Hd.own_lt h2 hk).1⟩

/-- What an append makes of the row, and its store into the variable. -/
theorem RowU.app {n₀ B : Nat} {xs : List Int} {v v' : Value} {V W3 : World} (h1 : Boxed V B 101 v) (h3 : some B ≠ v.ownBlock) (h4 : n₀ ≤ B) {o : Obj} {y : Int}
    (hown : W3.ownsRow n₀ 41 1 v' (xs.length + 1) (xs.map Tx.encU ++ [Tx.encU y])) (hg : (V.alloc o).grownBy W3 v.ownBlock) (hat : v'.ownBlock = v.ownBlock ∨ v'.ownBlock = some (V.alloc o).heap.size) :
    Boxed W3 B 101 v ∧ Kept (mine B v) V (W3.setCell ⟨B, 0, none⟩ v') ∧ RowU n₀ B (xs ++ [y]) (mine B v') (W3.setCell ⟨B, 0, none⟩ v') ∧ Grows (mine B v) (mine B v') V := by
  have hBlt := h1.lt
  have hb3 : Boxed W3 B 101 v := (((Hp.K.refl V).alloc o).boxed h1).kept hg h3
  have hsz := hg.size
  simp at hsz
  have k3 : Kept (mine B v) V W3 := ⟨hg.os, hg.tape, hg.output, by omega, fun j hj hn => by
    rw [hg.block j (by simp; omega) (fun e => hn (.inr e)), Below.heap_alloc V o j hj]⟩
  have hne : some B ≠ v'.ownBlock := by
    rcases hat with e | e
    · rw [e]; exact h3
    · rw [e]
      intro e2
      have := Option.some.inj e2
      simp at this
      omega
  refine ⟨hb3, k3.setCell (p := ⟨B, 0, none⟩) v' (.inl (.inl rfl)), ⟨v', hb3.set _, ?_, hne, h4, rfl⟩, fun k hk => ?_⟩
  · rw [List.length_append, List.map_append]
    exact Hd.ownsRow_kept hown ((Kept.refl (fun k => k = B) W3).setCell (p := ⟨B, 0, none⟩) v' (.inl rfl)) (fun g hg e => by subst e; exact hne hg)
  · rcases hk with rfl | hk
    · exact .inl (.inl rfl)
    · rcases hat with e | e
      · exact .inl (.inr (by rw [← e]; exact hk))
      · rw [e] at hk
        have := Option.some.inj hk
        simp at this
        exact .inr (by omega)

end Bb
end Go.Proofs.YtimedllggcfldaaGreatDoor
