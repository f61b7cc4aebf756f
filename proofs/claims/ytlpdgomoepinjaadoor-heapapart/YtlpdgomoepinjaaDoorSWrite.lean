/-
  Walks of package slab's New, Write and Release.
-/
import Derived.Test.YtlpdgomoepinjaaDoorSGrant
import Derived.Deep.RegionWith
namespace Go.Proofs.YtlpdgomoepinjaaDoor
open Go.RowKit Go.Maps
namespace Sl
variable {w : World} {bs bm : Nat} {q : Int} {pg : List (Int × Nat)} {W : Int → Int}

def upd (W : Int → Int) (a x : Int) : Int → Int := fun y => if y = a then x else W y

theorem heap_setCell_same {b i : Nat} {c : Array Value} {t : TypeId} {f : Nat × Nat} (h : w.heap[b]? = some (.cells c t f)) (v : Value) : (w.setCell ⟨b, i, none⟩ v).heap[b]? = some (.cells (c.setIfInBounds i v) t f) := by
  simp [World.setCell, Array.getElem?_modify, h]

theorem words_upd (W : Int → Int) (k : Int) (i : Nat) (x : Int) (hi : i < 64) : (words W k).setIfInBounds i (.int .u64 x) = words (upd W (64 * k + i) x) k := by
  apply Array.ext_getElem?
  intro j
  rw [Array.getElem?_setIfInBounds]
  by_cases hj : j < 64
  · by_cases e : i = j
    · subst e
      rw [if_pos rfl, if_pos (by rw [words_size]; exact hi), words_get _ _ _ hi]
      simp [upd]
    · rw [if_neg e, words_get _ _ _ hj, words_get _ _ _ hj]
      simp only [upd]
      rw [if_neg (by omega)]
  · have h1 : (words W k)[j]? = none := Array.getElem?_eq_none (by rw [words_size]; omega)
    have h2 : (words (upd W (64 * k + i) x) k)[j]? = none := Array.getElem?_eq_none (by rw [words_size]; omega)
    rw [h1, h2, if_neg (by omega)]

theorem words_upd_other (W : Int → Int) (k k' : Int) (i : Nat) (x : Int) (hi : i < 64) (hk : k' ≠ k) : words (upd W (64 * k + i) x) k' = words W k' := by
  unfold words
  apply Array.map_congr_left
  intro j hj
  have : j < 64 := by simpa using hj
  simp only [upd]
  rw [if_neg (by omega)]

theorem Arena.write (h : Arena w bs bm q pg W) {k : Int} {b : Nat} (hb : blk pg k = some b) (i : Nat) (hi : i < 64) (x : Int) (hx : WordOk x) :
    Arena (w.setCell ⟨b, i, none⟩ (.int .u64 x)) bs bm q pg (upd W (64 * k + i) x) ∧ Step bs bm pg pg w (w.setCell ⟨b, i, none⟩ (.int .u64 x)) := by
  have hm := blk_mem hb
  have old : ∀ j, j ≠ b → (w.setCell ⟨b, i, none⟩ (.int .u64 x)).heap[j]? = w.heap[j]? := fun j hj => Below.heap_setCell _ _ _ _ hj
  refine ⟨⟨(old bs (fun e => (h.pg_ne hm).2 e.symm)).trans h.s0, ?_, h.rise, h.rng, h.q0, h.q1, h.full, ?_, h.nd, ?_, ?_⟩, ⟨rfl, rfl, rfl, by simp, fun j _ hf => old j (fun e => hf (Or.inr (Or.inr ⟨_, hm, e.symm⟩))), fun _ h => Or.inl h⟩⟩
  · obtain ⟨es, c, hbm, r⟩ := h.pm
    exact ⟨es, c, (old bm (fun e => (h.pg_ne hm).1 e.symm)).trans hbm, r⟩
  · intro p hp
    by_cases e : p.1 = k
    · have hpb : p.2 = b := by
        have h1 := blk_of_mem h.rise (show (p.1, p.2) ∈ pg from hp)
        rw [e, hb] at h1
        exact (Option.some.inj h1).symm
      rw [hpb, e, heap_setCell_same (show w.heap[b]? = some (.cells (words W k) 95 (0, 0)) from h.page _ hm), words_upd _ _ _ _ hi]
    · have hpb : p.2 ≠ b := fun e2 => by
        have := nd_inj h.nd hp hm e2
        rw [this] at e
        exact e rfl
      rw [old p.2 hpb, words_upd_other _ _ _ _ _ hi e]
      exact h.page p hp
  · intro a
    simp only [upd]
    split
    · exact hx
    · exact h.ww a
  · intro a ha
    simp only [upd]
    rw [if_neg]
    · exact h.z a ha
    · intro e
      rw [e, show (64 * k + (i : Int)) / 64 = k from by omega, hb] at ha
      cases ha

theorem write_no (h : Arena w bs bm q pg W) (a x : Int) (hne : readE pg a ≠ 0) :
    Calls Tryd.prog 8 #[.pointer (some ⟨bs, 0, none⟩), .int .i64 a, .int .u64 x] w fun e w' => e = .returned (.int .i64 (readE pg a)) ∧ w = w' := by
  cases hs : isSpanB a 1 with
  | false =>
    have hp := pageOf_arg h a hs
    have HE : Hid (readE pg a = 2) := by simp [readE, hs, Hid]
    clear hne
    go_enter Tryd.func8, Tryd.ntmps8
    go_wp2_with (go_at_call 19; refine hp.mono ?_; rintro e w' ⟨rfl, rfl⟩)
    go_ret
    exact ⟨by rw [HE.out]; rfl, rfl⟩
  | true =>
    cases hb : blk pg (a / 64) with
    | none =>
      have hp := pageOf_none h a hs hb
      have HE : Hid (readE pg a = 5) := by simp [readE, hs, hb, Hid]
      clear hne
      go_enter Tryd.func8, Tryd.ntmps8
      go_wp2_with (go_at_call 19; refine hp.mono ?_; rintro e w' ⟨rfl, rfl⟩)
      go_ret
      exact ⟨by rw [HE.out]; rfl, rfl⟩
    | some b => exact absurd (by simp [readE, hs, hb]) hne

theorem readE_zero {pg : List (Int × Nat)} {a : Int} (he : readE pg a = 0) : isSpanB a 1 = true ∧ ∃ b, blk pg (a / 64) = some b := by
  cases hs : isSpanB a 1 with
  | false => simp [readE, hs] at he
  | true =>
    cases hb : blk pg (a / 64) with
    | none => simp [readE, hs, hb] at he
    | some b => exact ⟨rfl, b, rfl⟩

theorem write_ok (h : Arena w bs bm q pg W) (a x : Int) (he : readE pg a = 0) (hx : WordOk x) :
    Calls Tryd.prog 8 #[.pointer (some ⟨bs, 0, none⟩), .int .i64 a, .int .u64 x] w fun e w' => e = .returned (.int .i64 0) ∧ Arena w' bs bm q pg (upd W a x) ∧ Step bs bm pg pg w w' := by
  obtain ⟨hs, b, hb⟩ := readE_zero he
  have hp := pageOf_some h a b hs hb
  simp [isSpanB] at hs
  have hc := h.word hb (a % 64).toNat (by omega)
  have hfz : w.frozen? ⟨b, (a % 64).toNat, none⟩ = false := by
    have := h.page _ (blk_mem hb)
    simp [World.frozen?, this]
  have hw := h.write hb (a % 64).toNat (by omega) x hx
  rw [show 64 * (a / 64) + ((a % 64).toNat : Int) = a from by omega] at hc hw
  have HW : Aside _ := hw
  clear hw he
  go_enter Tryd.func8, Tryd.ntmps8
  go_wp2_with (go_at_call 19; refine hp.mono ?_; rintro e w' ⟨rfl, rfl⟩)
  go_ret
  exact ⟨rfl, HW.out.1, HW.out.2⟩

theorem new_arg (n : Int) (w : World) (hn : n < 0 ∨ 262144 < n) :
    Calls Tryd.prog 13 #[.int .i64 n] w fun e w' => e = .returned (.tuple #[.pointer none, .int .i64 2]) ∧ w = w' := by
  by_cases h0 : n < 0
  · go_enter Tryd.func13, Tryd.ntmps13
    go_wp2
    go_ret2
    exact ⟨rfl, rfl⟩
  · have h1 : 262144 < n := by omega
    go_enter Tryd.func13, Tryd.ntmps13
    go_wp2
    go_ret2
    exact ⟨rfl, rfl⟩

theorem arena_new (n : Int) (w : World) (h0 : 0 ≤ n) (h1 : n ≤ 262144) :
    Arena ((w.alloc (Obj.map #[] 0)).alloc (Obj.cells #[Value.int IntKind.i64 n, Value.map (some w.heap.size)] 71)) (w.heap.size + 1) w.heap.size n [] (fun _ => 0) := by
  refine ⟨?_, ?_, List.Pairwise.nil, fun p hp => by simp at hp, h0, h1, by simpa using h0, fun p hp => by simp at hp, by simp, fun _ => wordOk_zero, fun _ _ => rfl⟩
  · have := (MapKept.heap_alloc (w.alloc (Obj.map #[] 0)) (Obj.cells #[Value.int IntKind.i64 n, Value.map (some w.heap.size)] 71)).1
    simpa using this
  · exact World.ownsMap.alloc (World.ownsMap_made w Tryd.prog 3 ptrElem) _

theorem new_ok (n : Int) (w : World) (h0 : 0 ≤ n) (h1 : n ≤ 262144) :
    Calls Tryd.prog 13 #[.int .i64 n] w fun e w' => e = .returned (.tuple #[.pointer (some ⟨w.heap.size + 1, 0, none⟩), .int .i64 0]) ∧ Arena w' (w.heap.size + 1) w.heap.size n [] (fun _ => 0) ∧ Below w.heap.size w w' := by
  have hmm := @run_makeMap Tryd.prog
  go_enter Tryd.func13, Tryd.ntmps13
  go_wp2
  go_ret2
  exact ⟨rfl, arena_new n w h0 h1, ((Below.refl _ _).alloc (Nat.le_refl _) _).alloc (by simp) _⟩

def zp (W : Int → Int) (k : Int) : Int → Int := fun a => if a / 64 = k then 0 else W a
/-- The words behind the release of k pages from f on. -/
def zr (W : Int → Int) (f k : Int) : Int → Int := fun a => if f ≤ a / 64 ∧ a / 64 < f + k then 0 else W a

theorem zr_zero (W : Int → Int) (f : Int) : zr W f 0 = W := by
  funext a
  simp only [zr]
  rw [if_neg (by omega)]
theorem zr_succ (W : Int → Int) (f k : Int) (hk : 0 ≤ k) : zp (zr W f k) (f + k) = zr W f (k + 1) := by
  funext a
  simp only [zr, zp]
  by_cases h1 : a / 64 = f + k
  · rw [if_pos h1, if_pos (by omega)]
  · rw [if_neg h1]
    by_cases h2 : f ≤ a / 64 ∧ a / 64 < f + k
    · rw [if_pos h2, if_pos (by omega)]
    · rw [if_neg h2, if_neg (by omega)]

theorem words_zp (W : Int → Int) (k k' : Int) (h : k' ≠ k) : words (zp W k) k' = words W k' := by
  unfold words
  apply Array.map_congr_left
  intro j hj
  have : j < 64 := by simpa using hj
  simp only [zp]
  rw [if_neg (by omega)]

theorem Arena.drop (h : Arena w bs bm q pg W) {k : Int} (hb : (blk pg k).isSome = true) {n : Nat} {w2 : World}
    (hown : w2.ownsMap Tryd.prog 3 ptrElem bm n ((pd pg).del (.int .i64 k))) (ht : w.mapTurned w2 bm) :
    Arena w2 bs bm q (del k pg) (zp W k) ∧ Step bs bm pg (del k pg) w w2 := by
  rw [del_pd pg k] at hown
  obtain ⟨b, hb⟩ := Option.isSome_iff_exists.1 hb
  have hg := ht.grown
  have old : ∀ j, j < w.heap.size → j ≠ bm → w2.heap[j]? = w.heap[j]? := fun j hj hne => hg.block j hj (fun e => hne (Option.some.inj e))
  refine ⟨⟨(old bs (h.foot_lt (Or.inl rfl)) h.bs_ne).trans h.s0, PMap.tight hown, del_rising h.rise, fun p hp => h.rng p (mem_del.1 hp).1, h.q0, h.q1, ?_, ?_, nd_del h.nd k, ?_, ?_⟩, ⟨hg.os, hg.tape, hg.output, hg.size, ?_, ?_⟩⟩
  · have := del_length h.rise hb
    have := h.full
    omega
  · intro p hp
    obtain ⟨h1, h2⟩ := mem_del.1 hp
    rw [old p.2 (h.foot_lt (Or.inr (Or.inr ⟨p, h1, rfl⟩))) (h.pg_ne h1).1, words_zp _ _ _ h2]
    exact h.page p h1
  · intro a
    simp only [zp]
    split
    · exact wordOk_zero
    · exact h.ww a
  · intro a ha
    rw [blk_del h.rise] at ha
    simp only [zp]
    split
    · rfl
    · rename_i hne
      rw [if_neg hne] at ha
      exact h.z a ha
  · intro j hj hf
    exact old j hj (fun e => hf (Or.inr (Or.inl e)))
  · intro j hj
    rcases hj with rfl | rfl | ⟨p, hp, rfl⟩
    · exact Or.inl (Or.inl rfl)
    · exact Or.inl (Or.inr (Or.inl rfl))
    · exact Or.inl (Or.inr (Or.inr ⟨p, (mem_del.1 hp).1, rfl⟩))

/-- k pages from f on have gone. -/
structure Gone (pg pg' : List (Int × Nat)) (f k : Int) : Prop where
  len : (pg'.length : Int) + k = pg.length
  gone : ∀ j, f ≤ j → j < f + k → blk pg' j = none
  old : ∀ j, (j < f ∨ f + k ≤ j) → blk pg' j = blk pg j

theorem Gone.zero (pg : List (Int × Nat)) (f : Int) : Gone pg pg f 0 := ⟨by simp, fun j h1 h2 => by omega, fun _ _ => rfl⟩
theorem Gone.step {pg pg1 : List (Int × Nat)} {f k : Int} (h : Gone pg pg1 f k) (hs : Rising pg1) (hk : 0 ≤ k) (hb : (blk pg1 (f + k)).isSome = true) : Gone pg (del (f + k) pg1) f (k + 1) := by
  obtain ⟨b, hb⟩ := Option.isSome_iff_exists.1 hb
  refine ⟨?_, ?_, ?_⟩
  · have := h.len
    have := del_length hs hb
    omega
  · intro j h1 h2
    rw [blk_del hs]
    by_cases e : j = f + k
    · simp [e]
    · rw [if_neg e]
      exact h.gone j h1 (by omega)
  · intro j hj
    rw [blk_del hs, if_neg (by omega)]
    exact h.old j (by omega)

def relE (pg : List (Int × Nat)) (p n : Int) : Int := if isPageB p = true ∧ isCountB n = true ∧ isPageB (p + n - 1) = true then (if allIn pg p n.toNat = true then 0 else 5) else 2

theorem release_no (h : Arena w bs bm q pg W) (p n : Int) (hne : relE pg p n ≠ 0) :
    Calls Tryd.prog 21 #[.pointer (some ⟨bs, 0, none⟩), .int .i64 p, .int .i64 n] w fun e w' => e = .returned (.int .i64 (relE pg p n)) ∧ w = w' := by
  have hm := made_yes bs bm w h.c1
  have hp := isPage_any p w
  have hc := isCount_any n w
  cases h1 : isPageB p with
  | false =>
    have HE : Hid (relE pg p n = 2) := by simp [relE, h1, Hid]
    rw [h1] at hp
    clear hne h1
    go_enter Tryd.func21, Tryd.ntmps21
    go_wp2_with (first
      | (go_at_call 36; refine hm.mono ?_; rintro e w' ⟨rfl, rfl⟩)
      | (go_at_call 38; refine hp.mono ?_; rintro e w' ⟨rfl, rfl⟩))
    go_ret
    exact ⟨by rw [HE.out]; rfl, rfl⟩
  | true =>
    rw [h1] at hp
    cases h2 : isCountB n with
    | false =>
      have HE : Hid (relE pg p n = 2) := by simp [relE, h2, Hid]
      rw [h2] at hc
      clear hne h1 h2
      go_enter Tryd.func21, Tryd.ntmps21
      go_wp2_with (first
        | (go_at_call 36; refine hm.mono ?_; rintro e w' ⟨rfl, rfl⟩)
        | (go_at_call 38; refine hp.mono ?_; rintro e w' ⟨rfl, rfl⟩)
        | (go_at_call 39; refine hc.mono ?_; rintro e w' ⟨rfl, rfl⟩))
      go_ret
      exact ⟨by rw [HE.out]; rfl, rfl⟩
    | true =>
      rw [h2] at hc
      have hr1 : 0 ≤ p ∧ p ≤ 1048575 := by simpa [isPageB] using h1
      have hr2 : 1 ≤ n ∧ n ≤ 4096 := by simpa [isCountB] using h2
      have hp2 := isPage_any (p + n - 1) w
      cases h3 : isPageB (p + n - 1) with
      | false =>
        have HE : Hid (relE pg p n = 2) := by simp [relE, h3, Hid]
        rw [h3] at hp2
        clear hne h1 h2 h3
        go_enter Tryd.func21, Tryd.ntmps21
        go_wp2_with (first
          | (go_at_call 36; refine hm.mono ?_; rintro e w' ⟨rfl, rfl⟩)
          | (go_at_call_of 38 (Value.int IntKind.i64 p); refine hp.mono ?_; rintro e w' ⟨rfl, rfl⟩)
          | (go_at_call 39; refine hc.mono ?_; rintro e w' ⟨rfl, rfl⟩)
          | (go_at_call 38; refine hp2.mono ?_; rintro e w' ⟨rfl, rfl⟩))
        go_ret
        exact ⟨by rw [HE.out]; rfl, rfl⟩
      | true =>
        have hall : allIn pg p n.toNat = false := by
          cases h4 : allIn pg p n.toNat with
          | false => rfl
          | true => exact absurd (by simp [relE, h1, h2, h3, h4]) hne
        have HE : Hid (relE pg p n = 5) := by simp [relE, h1, h2, h3, hall, Hid]
        have ha := haveAll_any h p n.toNat (by omega) (by omega) (by omega)
        rw [hall, show ((n.toNat : Nat) : Int) = n from by omega] at ha
        rw [h3] at hp2
        clear hne h1 h2 h3 hall
        go_enter Tryd.func21, Tryd.ntmps21
        go_wp2_with (first
          | (go_at_call 36; refine hm.mono ?_; rintro e w' ⟨rfl, rfl⟩)
          | (go_at_call_of 38 (Value.int IntKind.i64 p); refine hp.mono ?_; rintro e w' ⟨rfl, rfl⟩)
          | (go_at_call 39; refine hc.mono ?_; rintro e w' ⟨rfl, rfl⟩)
          | (go_at_call 38; refine hp2.mono ?_; rintro e w' ⟨rfl, rfl⟩)
          | (go_at_call 40; refine ha.mono ?_; rintro e w' ⟨rfl, rfl⟩))
        go_ret
        exact ⟨by rw [HE.out]; rfl, rfl⟩


set_option maxHeartbeats 1000000 in
theorem release_ok (h : Arena w bs bm q pg W) (p n : Int) (he : relE pg p n = 0) :
    Calls Tryd.prog 21 #[.pointer (some ⟨bs, 0, none⟩), .int .i64 p, .int .i64 n] w fun e w' => e = .returned (.int .i64 0) ∧ ∃ pg', Gone pg pg' p n ∧ Arena w' bs bm q pg' (zr W p n) ∧ Step bs bm pg pg' w w' := by
  have hall : (isPageB p = true ∧ isCountB n = true ∧ isPageB (p + n - 1) = true) ∧ allIn pg p n.toNat = true := by
    by_cases h1 : isPageB p = true ∧ isCountB n = true ∧ isPageB (p + n - 1) = true
    · refine ⟨h1, ?_⟩
      cases h4 : allIn pg p n.toNat with
      | true => rfl
      | false => simp [relE, h1, h4] at he
    · rw [relE, if_neg h1] at he
      cases he
  obtain ⟨⟨h1, h2, h3⟩, h4⟩ := hall
  have hm := made_yes bs bm w h.c1
  have hp := isPage_any p w
  have hc := isCount_any n w
  have hp2 := isPage_any (p + n - 1) w
  have hr1 : 0 ≤ p ∧ p ≤ 1048575 := by simpa [isPageB] using h1
  have hr2 : 1 ≤ n ∧ n ≤ 4096 := by simpa [isCountB] using h2
  have ha := haveAll_any h p n.toNat (by omega) (by omega) (by omega)
  rw [h4, show ((n.toNat : Nat) : Int) = n from by omega] at ha
  rw [h1] at hp
  rw [h2] at hc
  rw [h3] at hp2
  have HA : Aside (∀ j, p ≤ j → j < p + n → (blk pg j).isSome = true) := fun j hj hj2 => by
    have := allIn_iff.1 h4 (j - p).toNat (by omega)
    rw [show p + ((j - p).toNat : Int) = j from by omega] at this
    exact this
  clear he h1 h2 h3 h4
  go_enter Tryd.func21, Tryd.ntmps21
  go_wp2_with (first
    | (go_at_call 36; refine hm.mono ?_; rintro e w' ⟨rfl, rfl⟩)
    | (go_at_call_of 38 (Value.int IntKind.i64 p); refine hp.mono ?_; rintro e w' ⟨rfl, rfl⟩)
    | (go_at_call 39; refine hc.mono ?_; rintro e w' ⟨rfl, rfl⟩)
    | (go_at_call 38; refine hp2.mono ?_; rintro e w' ⟨rfl, rfl⟩)
    | (go_at_call 40; refine ha.mono ?_; rintro e w' ⟨rfl, rfl⟩))
  go_loopg [7, 33] n.toNat (fun g _ t wx => ∃ (k : Int) (pg' : List (Int × Nat)), k + g = n ∧ 0 ≤ k ∧ t = .int .i64 k ∧ Gone pg pg' p k ∧ Arena wx bs bm q pg' (zr W p k) ∧ Step bs bm pg pg' w wx)
  case atStart => exact ⟨0, pg, by omega, by omega, rfl, Gone.zero _ _, by rw [zr_zero]; exact h, Step.refl _ _ _ _⟩
  case round =>
    obtain ⟨k, pg', hkg, hk0, rfl, hgone, har, hst⟩ := hrel
    by_cases hlt : k < n
    · have c1 := har.c1
      have hwf : (Lit.int .i64 (p + k)).wf = true := wf64 (by omega)
      go_wp2_with (first
        | (at_delete; refine wpList_delete_own _ rfl _ _ 69 3 rfl 51 law3 Tryd.underlying69 ptrElem bm pg'.length (pd pg') rfl har.pm _ _ rfl (keyOf_int_mk Tryd.underlying3 hwf) ?_; intro w2 hown2 hturn2))
      go_roundg (n - k - 1).toNat
      case measure => omega
      case rel =>
        have hsome : (blk pg' (p + k)).isSome = true := by
          rw [hgone.old (p + k) (Or.inr (Int.le_refl _))]
          exact HA.out (p + k) (by omega) (by omega)
        obtain ⟨r1, r2⟩ := Arena.drop har hsome hown2 hturn2
        rw [zr_succ _ _ _ hk0] at r1
        exact ⟨k + 1, _, by omega, by omega, by go_num, hgone.step har.rise hk0 hsome, r1, hst.trans r2⟩
    · obtain rfl : k = n := by omega
      go_wp2
      go_ret
      exact ⟨rfl, pg', hgone, har, hst⟩

end Sl
end Go.Proofs.YtlpdgomoepinjaaDoor
