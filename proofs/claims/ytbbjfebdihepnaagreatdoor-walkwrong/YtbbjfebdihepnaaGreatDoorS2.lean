/-
  Walks of package slab's Claim and Grant: pages are granted, all of their words 0.
-/
import Derived.Test.YtbbjfebdihepnaaGreatDoorS1
import Derived.Deep.RegionWith
import Derived.Laws.CopyOwn
namespace Go.Proofs.YtbbjfebdihepnaaGreatDoor
open Go.RowKit Go.Maps
namespace Sl
variable {w : World} {bs bm : Nat} {q : Int} {pg : List (Int × Nat)} {W : Int → Int}

/-- What Claim answers. -/
def claimE (q : Int) (pg : List (Int × Nat)) (p : Int) : Int := if isPageB p = false then 2 else if (blk pg p).isSome = true then 6 else if 64 * ((pg.length : Int) + 1) ≤ q then 0 else 3

/-- What Grant answers ahead of looking for a run. -/
def grantE (q : Int) (pg : List (Int × Nat)) (n : Int) : Int := if isCountB n = false then 2 else if ((pg.length : Int) + n) * 64 ≤ q then 0 else 3

/-- k pages from f on have come to pg. -/
structure Added (pg pg' : List (Int × Nat)) (f k : Int) : Prop where
  len : (pg'.length : Int) = pg.length + k
  new : ∀ j, f ≤ j → j < f + k → (blk pg' j).isSome = true
  old : ∀ j, (j < f ∨ f + k ≤ j) → blk pg' j = blk pg j

theorem grant_no (h : Arena w bs bm q pg W) (n : Int) (hne : grantE q pg n ≠ 0) :
    Calls Tryz.prog 154 #[.pointer (some ⟨bs, 0, none⟩), .int .i64 n] w fun e w' => e = .returned (.tuple #[.int .i64 0, .int .i64 (grantE q pg n)]) ∧ ∃ k, w' = w.drewN k := by
  have hm := made_yes bs bm w h.c1
  have hi := isCount_any n w
  cases hp : isCountB n with
  | false =>
    have HE : Hid (grantE q pg n = 2) := by simp [grantE, hp, Hid]
    rw [hp] at hi
    clear hp hne
    go_enter Tryz.func154, Tryz.ntmps154
    go_wp2_with (first
      | (go_at_call 68; refine hm.mono ?_; rintro e w' ⟨rfl, rfl⟩)
      | (go_at_call 126; refine hi.mono ?_; rintro e w' ⟨rfl, rfl⟩))
    go_ret2
    exact ⟨by rw [HE.out]; rfl, 0, rfl⟩
  | true =>
    rw [hp] at hi
    have hq : ¬ ((pg.length : Int) + n) * 64 ≤ q := fun hq => hne (by simp [grantE, hp, hq])
    have HE : Hid (grantE q pg n = 3) := by simp [grantE, hp, hq, Hid]
    have hr : 1 ≤ n ∧ n ≤ 4096 := by simpa [isCountB] using hp
    have hft := fits_any h n (by omega) (by omega)
    have hd : decide (((pg.length : Int) + n) * 64 ≤ q) = false := by simp; omega
    rw [hd] at hft
    clear hp hne hd hq hr
    go_enter Tryz.func154, Tryz.ntmps154
    go_wp2_with (first
      | (go_at_call 68; refine hm.mono ?_; rintro e w' ⟨rfl, rfl⟩)
      | (go_at_call 126; refine hi.mono ?_; rintro e w' ⟨rfl, rfl⟩)
      | (go_at_call 146; refine hft.mono ?_; rintro e w' ⟨rfl, nq, rfl⟩))
    go_ret2
    exact ⟨by rw [HE.out]; rfl, nq, rfl⟩

theorem Added.zero (pg : List (Int × Nat)) (f : Int) : Added pg pg f 0 := ⟨by simp, fun j h1 h2 => by omega, fun _ _ => rfl⟩

theorem Added.step {pg pg1 : List (Int × Nat)} {f k : Int} {b : Nat} (h : Added pg pg1 f k) (hs : Rising pg1) (hk : 0 ≤ k) (hn : blk pg1 (f + k) = none) : Added pg (ins (f + k) b pg1) f (k + 1) := by
  refine ⟨?_, ?_, ?_⟩
  · rw [ins_length]
    have := h.len
    omega
  · intro j h1 h2
    rw [blk_ins hs hn]
    by_cases e : j = f + k
    · simp [e]
    · rw [if_neg e]
      exact h.new j h1 (by omega)
  · intro j hj
    rw [blk_ins hs hn, if_neg (by omega)]
    exact h.old j (by omega)

set_option maxHeartbeats 1000000 in
theorem grant_ok (h : Arena w bs bm q pg W) (n : Int) (he : grantE q pg n = 0) :
    Calls Tryz.prog 154 #[.pointer (some ⟨bs, 0, none⟩), .int .i64 n] w fun e w' =>
      (∃ r, e = .returned (.tuple #[.int .i64 r, .int .i64 0]) ∧ Least pg n r ∧ ∃ pg', Added pg pg' r n ∧ Arena w' bs bm q pg' W ∧ Step bs bm pg pg' w w') ∨
      (e = .returned (.tuple #[.int .i64 0, .int .i64 3]) ∧ Nowhere pg n ∧ ∃ k, w' = w.drewN k) := by
  have hp : isCountB n = true := by
    cases hp : isCountB n with
    | true => rfl
    | false => simp [grantE, hp] at he
  have hf : ((pg.length : Int) + n) * 64 ≤ q := by
    by_cases hf : ((pg.length : Int) + n) * 64 ≤ q
    · exact hf
    · simp [grantE, hp, hf] at he
  have hr : 1 ≤ n ∧ n ≤ 4096 := by simpa [isCountB] using hp
  have hm := made_yes bs bm w h.c1
  have hi := isCount_any n w
  have hft := fits_any h n (by omega) (by omega)
  have hd : decide (((pg.length : Int) + n) * 64 ≤ q) = true := by simp; omega
  have hgp := fun nq => gap_any (h.drewN nq) n hr.1 hr.2
  rw [hd] at hft
  rw [hp] at hi
  clear hd he hp
  go_enter Tryz.func154, Tryz.ntmps154
  go_wp2_with (first
    | (go_at_call 68; refine hm.mono ?_; rintro e w' ⟨rfl, rfl⟩)
    | (go_at_call 126; refine hi.mono ?_; rintro e w' ⟨rfl, rfl⟩)
    | (go_at_call 146; refine hft.mono ?_; rintro e w' ⟨rfl, nq, rfl⟩)
    | fail)
  refine (hgp nq).mono ?_
  rintro e w' ⟨(⟨r, rfl, hle⟩ | ⟨rfl, hno⟩), rfl⟩
  · go_wp2
    go_loopg [8, 28] n.toNat (fun g _ t wx => ∃ (k : Int) (pg' : List (Int × Nat)), k + g = n ∧ 0 ≤ k ∧ t = .int .i64 k ∧ Added pg pg' r k ∧ Arena wx bs bm q pg' W ∧ Step bs bm pg pg' w wx)
    case atStart => exact ⟨0, pg, by omega, by omega, rfl, Added.zero _ _, h.drewN nq, Step.drewN _ _ _ _ _⟩
    case round =>
      obtain ⟨k, pg', hkg, hk0, rfl, hadd, har, hst⟩ := hrel
      have hlo := hle.lo
      have hhi := hle.hi
      by_cases hlt : k < n
      · have c1 := har.c1
        have hlen := har.len
        have hbs : bs < wr.heap.size := har.foot_lt (Or.inl rfl)
        have hwf : (Lit.int .i64 (r + k)).wf = true := wf64 (by omega)
        go_wp2_with (first
          | (with_reducible refine wpList_alloc_page ?_)
          | (at_mapUpdate; refine wpList_mapUpdate_in _ rfl _ _ _ 134 rfl 3 135 law3 Tryz.underlying134 ptrElem bm pg'.length (pd pg') rfl (World.ownsMap.alloc har.pm page0) (by unfold maxLen; omega) _ _ _ rfl rfl (keyOf_int_mk Tryz.underlying3 hwf) (.held wr.heap.size) [] rfl ?_; intro w2 hown2 hturn2))
        go_roundg (n - k - 1).toNat
        case measure => omega
        case rel =>
          have hnone : blk pg' (r + k) = none := by
            rw [hadd.old (r + k) (Or.inr (Int.le_refl _))]
            exact hle.run (r + k) (by omega) (by omega)
          obtain ⟨r1, r2⟩ := Arena.put har (by omega) (by omega) hnone (by have := hadd.len; omega) hown2 hturn2
          exact ⟨k + 1, _, by omega, by omega, by go_num, hadd.step har.rise hk0 hnone, r1, hst.trans r2⟩
      · obtain rfl : k = n := by omega
        go_wp2
        go_ret2
        exact Or.inl ⟨r, rfl, hle, pg', hadd, har, hst⟩
  · go_wp2
    go_ret2
    exact Or.inr ⟨rfl, hno, nq, rfl⟩

end Sl
end Go.Proofs.YtbbjfebdihepnaaGreatDoor

/-
  Walks of package slab's New, Write and Release.
-/
namespace Go.Proofs.YtbbjfebdihepnaaGreatDoor
open Go.RowKit Go.Maps
namespace Sl
variable {w : World} {bs bm : Nat} {q : Int} {pg : List (Int × Nat)} {W : Int → Int}

def upd (W : Int → Int) (a x : Int) : Int → Int := fun y => if y = a then x else W y

theorem heap_setCell_same {b i : Nat} {c : Array Value} {t : TypeId} {f : Nat × Nat} (h : w.heap[b]? = some (.cells c t f)) (v : Value) : (w.setCell ⟨b, i, none⟩ v).heap[b]? = some (.cells (c.setIfInBounds i v) t f) := by
  simp [World.setCell, Array.getElem?_modify, h]

theorem words_upd (W : Int → Int) (k : Int) (i : Nat) (x : Int) (hi : i < 64) : (words W k).setIfInBounds i (.int .u64 x) = words (upd W (64 * k + i) x) k := by
  apply Array.ext_getElem?
  intro j
  rw [Array.getElem?_setIfInBounds]
  by_cases hj : j < 64
  · by_cases e : i = j
    · subst e
      rw [if_pos rfl, if_pos (by rw [words_size]; exact hi), words_get _ _ _ hi]
      simp [upd]
    · rw [if_neg e, words_get _ _ _ hj, words_get _ _ _ hj]
      simp only [upd]
      rw [if_neg (by omega)]
  · have h1 : (words W k)[j]? = none := Array.getElem?_eq_none (by rw [words_size]; omega)
    have h2 : (words (upd W (64 * k + i) x) k)[j]? = none := Array.getElem?_eq_none (by rw [words_size]; omega)
    rw [h1, h2, if_neg (by omega)]

theorem words_upd_other (W : Int → Int) (k k' : Int) (i : Nat) (x : Int) (hi : i < 64) (hk : k' ≠ k) : words (upd W (64 * k + i) x) k' = words W k' := by
  unfold words
  apply Array.map_congr_left
  intro j hj
  have : j < 64 := by simpa using hj
  simp only [upd]
  rw [if_neg (by omega)]

theorem Arena.write (h : Arena w bs bm q pg W) {k : Int} {b : Nat} (hb : blk pg k = some b) (i : Nat) (hi : i < 64) (x : Int) (hx : WordOk x) :
    Arena (w.setCell ⟨b, i, none⟩ (.int .u64 x)) bs bm q pg (upd W (64 * k + i) x) ∧ Step bs bm pg pg w (w.setCell ⟨b, i, none⟩ (.int .u64 x)) := by
  have hm := blk_mem hb
  have old : ∀ j, j ≠ b → (w.setCell ⟨b, i, none⟩ (.int .u64 x)).heap[j]? = w.heap[j]? := fun j hj => Below.heap_setCell _ _ _ _ hj
  refine ⟨⟨(old bs (fun e => (h.pg_ne hm).2 e.symm)).trans h.s0, ?_, h.rise, h.rng, h.q0, h.q1, h.full, ?_, h.nd, ?_, ?_⟩, ⟨rfl, rfl, rfl, by simp, fun j _ hf => old j (fun e => hf (Or.inr (Or.inr ⟨_, hm, e.symm⟩))), fun _ h => Or.inl h⟩⟩
  · obtain ⟨es, c, hbm, r⟩ := h.pm
    exact ⟨es, c, (old bm (fun e => (h.pg_ne hm).1 e.symm)).trans hbm, r⟩
  · intro p hp
    by_cases e : p.1 = k
    · have hpb : p.2 = b := by
        have h1 := blk_of_mem h.rise (show (p.1, p.2) ∈ pg from hp)
        rw [e, hb] at h1
        exact (Option.some.inj h1).symm
      rw [hpb, e, heap_setCell_same (show w.heap[b]? = some (.cells (words W k) 215 (0, 0)) from h.page _ hm), words_upd _ _ _ _ hi]
    · have hpb : p.2 ≠ b := fun e2 => by
        have := nd_inj h.nd hp hm e2
        rw [this] at e
        exact e rfl
      rw [old p.2 hpb, words_upd_other _ _ _ _ _ hi e]
      exact h.page p hp
  · intro a
    simp only [upd]
    split
    · exact hx
    · exact h.ww a
  · intro a ha
    simp only [upd]
    rw [if_neg]
    · exact h.z a ha
    · intro e
      rw [e, show (64 * k + (i : Int)) / 64 = k from by omega, hb] at ha
      cases ha

theorem readE_zero {pg : List (Int × Nat)} {a : Int} (he : readE pg a = 0) : isSpanB a 1 = true ∧ ∃ b, blk pg (a / 64) = some b := by
  cases hs : isSpanB a 1 with
  | false => simp [readE, hs] at he
  | true =>
    cases hb : blk pg (a / 64) with
    | none => simp [readE, hs, hb] at he
    | some b => exact ⟨rfl, b, rfl⟩

theorem write_ok (h : Arena w bs bm q pg W) (a x : Int) (he : readE pg a = 0) (hx : WordOk x) :
    Calls Tryz.prog 89 #[.pointer (some ⟨bs, 0, none⟩), .int .i64 a, .int .u64 x] w fun e w' => e = .returned (.int .i64 0) ∧ Arena w' bs bm q pg (upd W a x) ∧ Step bs bm pg pg w w' := by
  obtain ⟨hs, b, hb⟩ := readE_zero he
  have hp := pageOf_some h a b hs hb
  simp [isSpanB] at hs
  have hc := h.word hb (a % 64).toNat (by omega)
  have hfz : w.frozen? ⟨b, (a % 64).toNat, none⟩ = false := by
    have := h.page _ (blk_mem hb)
    simp [World.frozen?, this]
  have hw := h.write hb (a % 64).toNat (by omega) x hx
  rw [show 64 * (a / 64) + ((a % 64).toNat : Int) = a from by omega] at hc hw
  have HW : Aside _ := hw
  clear hw he
  go_enter Tryz.func89, Tryz.ntmps89
  go_wp2_with (go_at_call 99; refine hp.mono ?_; rintro e w' ⟨rfl, rfl⟩)
  go_ret
  exact ⟨rfl, HW.out.1, HW.out.2⟩

theorem arena_new (n : Int) (w : World) (h0 : 0 ≤ n) (h1 : n ≤ 262144) :
    Arena ((w.alloc (Obj.map #[] 0)).alloc (Obj.cells #[Value.int IntKind.i64 n, Value.map (some w.heap.size)] 137)) (w.heap.size + 1) w.heap.size n [] (fun _ => 0) := by
  refine ⟨?_, ?_, List.Pairwise.nil, fun p hp => by simp at hp, h0, h1, by simpa using h0, fun p hp => by simp at hp, by simp, fun _ => wordOk_zero, fun _ _ => rfl⟩
  · have := (MapKept.heap_alloc (w.alloc (Obj.map #[] 0)) (Obj.cells #[Value.int IntKind.i64 n, Value.map (some w.heap.size)] 137)).1
    simpa using this
  · exact World.ownsMap.alloc (World.ownsMap_made w Tryz.prog 3 ptrElem) _

theorem new_ok (n : Int) (w : World) (h0 : 0 ≤ n) (h1 : n ≤ 262144) :
    Calls Tryz.prog 73 #[.int .i64 n] w fun e w' => e = .returned (.tuple #[.pointer (some ⟨w.heap.size + 1, 0, none⟩), .int .i64 0]) ∧ Arena w' (w.heap.size + 1) w.heap.size n [] (fun _ => 0) ∧ Below w.heap.size w w' := by
  have hmm := @run_makeMap Tryz.prog
  go_enter Tryz.func73, Tryz.ntmps73
  go_wp2
  go_ret2
  exact ⟨rfl, arena_new n w h0 h1, ((Below.refl _ _).alloc (Nat.le_refl _) _).alloc (by simp) _⟩

def zp (W : Int → Int) (k : Int) : Int → Int := fun a => if a / 64 = k then 0 else W a
/-- The words behind the release of k pages from f on. -/
def zr (W : Int → Int) (f k : Int) : Int → Int := fun a => if f ≤ a / 64 ∧ a / 64 < f + k then 0 else W a

theorem zr_zero (W : Int → Int) (f : Int) : zr W f 0 = W := by
  funext a
  simp only [zr]
  rw [if_neg (by omega)]
theorem zr_succ (W : Int → Int) (f k : Int) (hk : 0 ≤ k) : zp (zr W f k) (f + k) = zr W f (k + 1) := by
  funext a
  simp only [zr, zp]
  by_cases h1 : a / 64 = f + k
  · rw [if_pos h1, if_pos (by omega)]
  · rw [if_neg h1]
    by_cases h2 : f ≤ a / 64 ∧ a / 64 < f + k
    · rw [if_pos h2, if_pos (by omega)]
    · rw [if_neg h2, if_neg (by omega)]

theorem words_zp (W : Int → Int) (k k' : Int) (h : k' ≠ k) : words (zp W k) k' = words W k' := by
  unfold words
  apply Array.map_congr_left
  intro j hj
  have : j < 64 := by simpa using hj
  simp only [zp]
  rw [if_neg (by omega)]

theorem Arena.drop (h : Arena w bs bm q pg W) {k : Int} (hb : (blk pg k).isSome = true) {n : Nat} {w2 : World}
    (hown : w2.ownsMap Tryz.prog 3 ptrElem bm n ((pd pg).del (.int .i64 k))) (ht : w.mapTurned w2 bm) :
    Arena w2 bs bm q (del k pg) (zp W k) ∧ Step bs bm pg (del k pg) w w2 := by
  rw [del_pd pg k] at hown
  obtain ⟨b, hb⟩ := Option.isSome_iff_exists.1 hb
  have hg := ht.grown
  have old : ∀ j, j < w.heap.size → j ≠ bm → w2.heap[j]? = w.heap[j]? := fun j hj hne => hg.block j hj (fun e => hne (Option.some.inj e))
  refine ⟨⟨(old bs (h.foot_lt (Or.inl rfl)) h.bs_ne).trans h.s0, PMap.tight hown, del_rising h.rise, fun p hp => h.rng p (mem_del.1 hp).1, h.q0, h.q1, ?_, ?_, nd_del h.nd k, ?_, ?_⟩, ⟨hg.os, hg.tape, hg.output, hg.size, ?_, ?_⟩⟩
  · have := del_length h.rise hb
    have := h.full
    omega
  · intro p hp
    obtain ⟨h1, h2⟩ := mem_del.1 hp
    rw [old p.2 (h.foot_lt (Or.inr (Or.inr ⟨p, h1, rfl⟩))) (h.pg_ne h1).1, words_zp _ _ _ h2]
    exact h.page p h1
  · intro a
    simp only [zp]
    split
    · exact wordOk_zero
    · exact h.ww a
  · intro a ha
    rw [blk_del h.rise] at ha
    simp only [zp]
    split
    · rfl
    · rename_i hne
      rw [if_neg hne] at ha
      exact h.z a ha
  · intro j hj hf
    exact old j hj (fun e => hf (Or.inr (Or.inl e)))
  · intro j hj
    rcases hj with rfl | rfl | ⟨p, hp, rfl⟩
    · exact Or.inl (Or.inl rfl)
    · exact Or.inl (Or.inr (Or.inl rfl))
    · exact Or.inl (Or.inr (Or.inr ⟨p, (mem_del.1 hp).1, rfl⟩))

/-- k pages from f on have gone. -/
structure Gone (pg pg' : List (Int × Nat)) (f k : Int) : Prop where
  len : (pg'.length : Int) + k = pg.length
  gone : ∀ j, f ≤ j → j < f + k → blk pg' j = none
  old : ∀ j, (j < f ∨ f + k ≤ j) → blk pg' j = blk pg j

theorem Gone.zero (pg : List (Int × Nat)) (f : Int) : Gone pg pg f 0 := ⟨by simp, fun j h1 h2 => by omega, fun _ _ => rfl⟩
theorem Gone.step {pg pg1 : List (Int × Nat)} {f k : Int} (h : Gone pg pg1 f k) (hs : Rising pg1) (hk : 0 ≤ k) (hb : (blk pg1 (f + k)).isSome = true) : Gone pg (del (f + k) pg1) f (k + 1) := by
  obtain ⟨b, hb⟩ := Option.isSome_iff_exists.1 hb
  refine ⟨?_, ?_, ?_⟩
  · have := h.len
    have := del_length hs hb
    omega
  · intro j h1 h2
    rw [blk_del hs]
    by_cases e : j = f + k
    · simp [e]
    · rw [if_neg e]
      exact h.gone j h1 (by omega)
  · intro j hj
    rw [blk_del hs, if_neg (by omega)]
    exact h.old j (by omega)

def relE (pg : List (Int × Nat)) (p n : Int) : Int := if isPageB p = true ∧ isCountB n = true ∧ isPageB (p + n - 1) = true then (if allIn pg p n.toNat = true then 0 else 5) else 2

set_option maxHeartbeats 1000000 in
theorem release_ok (h : Arena w bs bm q pg W) (p n : Int) (he : relE pg p n = 0) :
    Calls Tryz.prog 92 #[.pointer (some ⟨bs, 0, none⟩), .int .i64 p, .int .i64 n] w fun e w' => e = .returned (.int .i64 0) ∧ ∃ pg', Gone pg pg' p n ∧ Arena w' bs bm q pg' (zr W p n) ∧ Step bs bm pg pg' w w' := by
  have hall : (isPageB p = true ∧ isCountB n = true ∧ isPageB (p + n - 1) = true) ∧ allIn pg p n.toNat = true := by
    by_cases h1 : isPageB p = true ∧ isCountB n = true ∧ isPageB (p + n - 1) = true
    · refine ⟨h1, ?_⟩
      cases h4 : allIn pg p n.toNat with
      | true => rfl
      | false => simp [relE, h1, h4] at he
    · rw [relE, if_neg h1] at he
      cases he
  obtain ⟨⟨h1, h2, h3⟩, h4⟩ := hall
  have hm := made_yes bs bm w h.c1
  have hp := isPage_any p w
  have hc := isCount_any n w
  have hp2 := isPage_any (p + n - 1) w
  have hr1 : 0 ≤ p ∧ p ≤ 1048575 := by simpa [isPageB] using h1
  have hr2 : 1 ≤ n ∧ n ≤ 4096 := by simpa [isCountB] using h2
  have ha := haveAll_any h p n.toNat (by omega) (by omega) (by omega)
  rw [h4, show ((n.toNat : Nat) : Int) = n from by omega] at ha
  rw [h1] at hp
  rw [h2] at hc
  rw [h3] at hp2
  have HA : Aside (∀ j, p ≤ j → j < p + n → (blk pg j).isSome = true) := fun j hj hj2 => by
    have := allIn_iff.1 h4 (j - p).toNat (by omega)
    rw [show p + ((j - p).toNat : Int) = j from by omega] at this
    exact this
  clear he h1 h2 h3 h4
  go_enter Tryz.func92, Tryz.ntmps92
  go_wp2_with (first
    | (go_at_call 68; refine hm.mono ?_; rintro e w' ⟨rfl, rfl⟩)
    | (go_at_call_of 125 (Value.int IntKind.i64 p); refine hp.mono ?_; rintro e w' ⟨rfl, rfl⟩)
    | (go_at_call 126; refine hc.mono ?_; rintro e w' ⟨rfl, rfl⟩)
    | (go_at_call 125; refine hp2.mono ?_; rintro e w' ⟨rfl, rfl⟩)
    | (go_at_call 127; refine ha.mono ?_; rintro e w' ⟨rfl, rfl⟩))
  go_loopg [7, 33] n.toNat (fun g _ t wx => ∃ (k : Int) (pg' : List (Int × Nat)), k + g = n ∧ 0 ≤ k ∧ t = .int .i64 k ∧ Gone pg pg' p k ∧ Arena wx bs bm q pg' (zr W p k) ∧ Step bs bm pg pg' w wx)
  case atStart => exact ⟨0, pg, by omega, by omega, rfl, Gone.zero _ _, by rw [zr_zero]; exact h, Step.refl _ _ _ _⟩
  case round =>
    obtain ⟨k, pg', hkg, hk0, rfl, hgone, har, hst⟩ := hrel
    by_cases hlt : k < n
    · have c1 := har.c1
      have hwf : (Lit.int .i64 (p + k)).wf = true := wf64 (by omega)
      go_wp2_with (first
        | (at_delete; refine wpList_delete_own _ rfl _ _ 134 3 rfl 135 law3 Tryz.underlying134 ptrElem bm pg'.length (pd pg') rfl har.pm _ _ rfl (keyOf_int_mk Tryz.underlying3 hwf) ?_; intro w2 hown2 hturn2))
      go_roundg (n - k - 1).toNat
      case measure => omega
      case rel =>
        have hsome : (blk pg' (p + k)).isSome = true := by
          rw [hgone.old (p + k) (Or.inr (Int.le_refl _))]
          exact HA.out (p + k) (by omega) (by omega)
        obtain ⟨r1, r2⟩ := Arena.drop har hsome hown2 hturn2
        rw [zr_succ _ _ _ hk0] at r1
        exact ⟨k + 1, _, by omega, by omega, by go_num, hgone.step har.rise hk0 hsome, r1, hst.trans r2⟩
    · obtain rfl : k = n := by omega
      go_wp2
      go_ret
      exact ⟨rfl, pg', hgone, har, hst⟩

end Sl
end Go.Proofs.YtbbjfebdihepnaaGreatDoor

/-
  Walks of package slab's rest, taken, lay and Move: words are copied out of the pages and into them.
-/
namespace Go.Proofs.YtbbjfebdihepnaaGreatDoor
open Go.RowKit Go.Maps
namespace Sl
variable {w : World} {bs bm : Nat} {q : Int} {pg : List (Int × Nat)} {W : Int → Int}

/-- A row of n words of which d have come. -/
def rowOf (F : Nat → Int) (n d : Nat) : Array Value := (Array.range n).map fun i : Nat => .int .u64 (if i < d then F i else 0)

theorem made_row (n : Nat) (F : Nat → Int) : madeCells (Value.int .u64 0).cells (n * 1) = rowOf F n 0 := by
  apply Array.ext_getElem?
  intro i
  by_cases h : i < n
  · simp [madeCells, rowOf, h, Value.cells, Nat.mod_one]
  · simp [madeCells, rowOf, h]

theorem row_get (F : Nat → Int) (n d i : Nat) (h : i < n) : (rowOf F n d)[i]? = some (.int .u64 (if i < d then F i else 0)) := by
  simp [rowOf, h]

/-- The words that one copy brings. -/
def seg (W : Int → Int) (a : Int) (m : Nat) : List Value := (List.range m).map fun j : Nat => .int .u64 (W (a + j))

/-- The words where d words of F have been laid from an address on. -/
def laid (W : Int → Int) (to : Int) (F : Nat → Int) (d : Nat) : Int → Int := fun x => if to ≤ x ∧ x < to + d then F (x - to).toNat else W x

def segF (F : Nat → Int) (d m : Nat) : List Value := (List.range m).map fun j : Nat => .int .u64 (F (d + j))

end Sl
end Go.Proofs.YtbbjfebdihepnaaGreatDoor

/-
  The walk of package slab's Move.
-/
namespace Go.Proofs.YtbbjfebdihepnaaGreatDoor
open Go.RowKit Go.Maps
namespace Sl
variable {w : World} {bs bm : Nat} {q : Int} {pg : List (Int × Nat)} {W : Int → Int}

def moveE (pg : List (Int × Nat)) (to fr n : Int) : Int := if isSpanB to n = true ∧ isSpanB fr n = true then (if spanIn pg to n = true ∧ spanIn pg fr n = true then 0 else 5) else 2
/-- The words behind a move. -/
def mv (W : Int → Int) (to fr n : Int) : Int → Int := fun x => if to ≤ x ∧ x < to + n then W (x - to + fr) else W x

end Sl
end Go.Proofs.YtbbjfebdihepnaaGreatDoor

/-
  The walk of the statements' fixed example: an arena of 192 words, three pages, a word written, moved, read.
-/
namespace Go.Proofs.YtbbjfebdihepnaaGreatDoor
open Go.RowKit Go.Maps
namespace Sl
variable {w : World} {bs bm : Nat} {q : Int} {pg : List (Int × Nat)} {W : Int → Int}

end Sl
end Go.Proofs.YtbbjfebdihepnaaGreatDoor

/-
  The walk of the statement on claimed pages.
-/
namespace Go.Proofs.YtbbjfebdihepnaaGreatDoor
open Go.RowKit Go.Maps
namespace Sl
variable {w : World} {bs bm : Nat} {q : Int} {pg : List (Int × Nat)} {W : Int → Int}

/-- What Pages tells: the granted pages, rising, in a new row. -/
def PagesSaid : Prop := ∀ (w : World) (bs bm : Nat) (q : Int) (pg : List (Int × Nat)) (W : Int → Int), Arena w bs bm q pg W →
  Calls Tryz.prog 46 #[.pointer (some ⟨bs, 0, none⟩)] w fun e w' => ∃ a cap, e = .returned (.slice a pg.length cap) ∧ Below w.heap.size w w' ∧
    (0 < pg.length → ∃ g, a = some ⟨g, 0, none⟩ ∧ w.heap.size ≤ g ∧ ∀ (i : Nat) (p : Int × Nat), pg[i]? = some p → w'.cell? ⟨g, i, none⟩ = some (.int .i64 p.1))

/-- A slice of numbers that came in. -/
structure Nums (w : World) (a : Option Addr) (b off len cap : Nat) (z : Nat → Int) : Prop where
  ix : ∀ i : Nat, i < len → ∀ w', (Instr.indexAt 23 (.slice a len cap) (.int .i64 (i : Int))).run Tryz.prog w' = .ok (.pointer (some ⟨b, off + i, none⟩)) w'
  lt : 0 < len → b < w.heap.size
  cell : ∀ j, j < len → w.cell? ⟨b, off + j, none⟩ = some (.int .i64 (z j))
  wf : ∀ j, (Lit.int .i64 (z j)).wf = true

/-- What the loop over the claimed pages keeps. -/
structure Kept (w wx : World) (pg : List (Int × Nat)) (W : Int → Int) (i : Nat) : Prop where
  le : pg.length ≤ i
  ar : Arena wx (w.heap.size + 1) w.heap.size 262144 pg W
  bel : Below w.heap.size w wx
  ge : ∀ k, foot (w.heap.size + 1) w.heap.size pg k → w.heap.size ≤ k

theorem Kept.step {w wx w2 : World} {pg pg2 : List (Int × Nat)} {W W2 : Int → Int} {i j : Nat} (h : Kept w wx pg W i) (ha : Arena w2 (w.heap.size + 1) w.heap.size 262144 pg2 W2) (hs : Step (w.heap.size + 1) w.heap.size pg pg2 wx w2) (hl : pg2.length ≤ j) : Kept w w2 pg2 W2 j :=
  ⟨hl, ha, h.bel.trans (hs.below h.bel.size h.ge), hs.foot_ge h.bel.size h.ge⟩

end Sl
end Go.Proofs.YtbbjfebdihepnaaGreatDoor
