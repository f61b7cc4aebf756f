/-
  Walks of package slab's Claim and Grant: pages are granted, all of their words 0.
-/
import Derived.Test.YtlpdgomoepinjaaDoorSGap
namespace Go.Proofs.YtlpdgomoepinjaaDoor
open Go.RowKit Go.Maps
namespace Sl
variable {w : World} {bs bm : Nat} {q : Int} {pg : List (Int × Nat)} {W : Int → Int}

/-- What Claim answers. -/
def claimE (q : Int) (pg : List (Int × Nat)) (p : Int) : Int := if isPageB p = false then 2 else if (blk pg p).isSome = true then 6 else if 64 * ((pg.length : Int) + 1) ≤ q then 0 else 3

/-- What Grant answers ahead of looking for a run. -/
def grantE (q : Int) (pg : List (Int × Nat)) (n : Int) : Int := if isCountB n = false then 2 else if ((pg.length : Int) + n) * 64 ≤ q then 0 else 3

/-- k pages from f on have come to pg. -/
structure Added (pg pg' : List (Int × Nat)) (f k : Int) : Prop where
  len : (pg'.length : Int) = pg.length + k
  new : ∀ j, f ≤ j → j < f + k → (blk pg' j).isSome = true
  old : ∀ j, (j < f ∨ f + k ≤ j) → blk pg' j = blk pg j

theorem grant_no (h : Arena w bs bm q pg W) (n : Int) (hne : grantE q pg n ≠ 0) :
    Calls Tryd.prog 30 #[.pointer (some ⟨bs, 0, none⟩), .int .i64 n] w fun e w' => e = .returned (.tuple #[.int .i64 0, .int .i64 (grantE q pg n)]) ∧ ∃ k, w' = w.drewN k := by
  have hm := made_yes bs bm w h.c1
  have hi := isCount_any n w
  cases hp : isCountB n with
  | false =>
    have HE : Hid (grantE q pg n = 2) := by simp [grantE, hp, Hid]
    rw [hp] at hi
    clear hp hne
    go_enter Tryd.func30, Tryd.ntmps30
    go_wp2_with (first
      | (go_at_call 36; refine hm.mono ?_; rintro e w' ⟨rfl, rfl⟩)
      | (go_at_call 39; refine hi.mono ?_; rintro e w' ⟨rfl, rfl⟩))
    go_ret2
    exact ⟨by rw [HE.out]; rfl, 0, rfl⟩
  | true =>
    rw [hp] at hi
    have hq : ¬ ((pg.length : Int) + n) * 64 ≤ q := fun hq => hne (by simp [grantE, hp, hq])
    have HE : Hid (grantE q pg n = 3) := by simp [grantE, hp, hq, Hid]
    have hr : 1 ≤ n ∧ n ≤ 4096 := by simpa [isCountB] using hp
    have hft := fits_any h n (by omega) (by omega)
    have hd : decide (((pg.length : Int) + n) * 64 ≤ q) = false := by simp; omega
    rw [hd] at hft
    clear hp hne hd hq hr
    go_enter Tryd.func30, Tryd.ntmps30
    go_wp2_with (first
      | (go_at_call 36; refine hm.mono ?_; rintro e w' ⟨rfl, rfl⟩)
      | (go_at_call 39; refine hi.mono ?_; rintro e w' ⟨rfl, rfl⟩)
      | (go_at_call 54; refine hft.mono ?_; rintro e w' ⟨rfl, nq, rfl⟩))
    go_ret2
    exact ⟨by rw [HE.out]; rfl, nq, rfl⟩

theorem Added.zero (pg : List (Int × Nat)) (f : Int) : Added pg pg f 0 := ⟨by simp, fun j h1 h2 => by omega, fun _ _ => rfl⟩

theorem Added.step {pg pg1 : List (Int × Nat)} {f k : Int} {b : Nat} (h : Added pg pg1 f k) (hs : Rising pg1) (hk : 0 ≤ k) (hn : blk pg1 (f + k) = none) : Added pg (ins (f + k) b pg1) f (k + 1) := by
  refine ⟨?_, ?_, ?_⟩
  · rw [ins_length]
    have := h.len
    omega
  · intro j h1 h2
    rw [blk_ins hs hn]
    by_cases e : j = f + k
    · simp [e]
    · rw [if_neg e]
      exact h.new j h1 (by omega)
  · intro j hj
    rw [blk_ins hs hn, if_neg (by omega)]
    exact h.old j (by omega)

set_option maxHeartbeats 1000000 in
theorem grant_ok (h : Arena w bs bm q pg W) (n : Int) (he : grantE q pg n = 0) :
    Calls Tryd.prog 30 #[.pointer (some ⟨bs, 0, none⟩), .int .i64 n] w fun e w' =>
      (∃ r, e = .returned (.tuple #[.int .i64 r, .int .i64 0]) ∧ Least pg n r ∧ ∃ pg', Added pg pg' r n ∧ Arena w' bs bm q pg' W ∧ Step bs bm pg pg' w w') ∨
      (e = .returned (.tuple #[.int .i64 0, .int .i64 3]) ∧ Nowhere pg n ∧ ∃ k, w' = w.drewN k) := by
  have hp : isCountB n = true := by
    cases hp : isCountB n with
    | true => rfl
    | false => simp [grantE, hp] at he
  have hf : ((pg.length : Int) + n) * 64 ≤ q := by
    by_cases hf : ((pg.length : Int) + n) * 64 ≤ q
    · exact hf
    · simp [grantE, hp, hf] at he
  have hr : 1 ≤ n ∧ n ≤ 4096 := by simpa [isCountB] using hp
  have hm := made_yes bs bm w h.c1
  have hi := isCount_any n w
  have hft := fits_any h n (by omega) (by omega)
  have hd : decide (((pg.length : Int) + n) * 64 ≤ q) = true := by simp; omega
  have hgp := fun nq => gap_any (h.drewN nq) n hr.1 hr.2
  rw [hd] at hft
  rw [hp] at hi
  clear hd he hp
  go_enter Tryd.func30, Tryd.ntmps30
  go_wp2_with (first
    | (go_at_call 36; refine hm.mono ?_; rintro e w' ⟨rfl, rfl⟩)
    | (go_at_call 39; refine hi.mono ?_; rintro e w' ⟨rfl, rfl⟩)
    | (go_at_call 54; refine hft.mono ?_; rintro e w' ⟨rfl, nq, rfl⟩)
    | fail)
  refine (hgp nq).mono ?_
  rintro e w' ⟨(⟨r, rfl, hle⟩ | ⟨rfl, hno⟩), rfl⟩
  · go_wp2
    go_loopg [8, 28] n.toNat (fun g _ t wx => ∃ (k : Int) (pg' : List (Int × Nat)), k + g = n ∧ 0 ≤ k ∧ t = .int .i64 k ∧ Added pg pg' r k ∧ Arena wx bs bm q pg' W ∧ Step bs bm pg pg' w wx)
    case atStart => exact ⟨0, pg, by omega, by omega, rfl, Added.zero _ _, h.drewN nq, Step.drewN _ _ _ _ _⟩
    case round =>
      obtain ⟨k, pg', hkg, hk0, rfl, hadd, har, hst⟩ := hrel
      have hlo := hle.lo
      have hhi := hle.hi
      by_cases hlt : k < n
      · have c1 := har.c1
        have hlen := har.len
        have hbs : bs < wr.heap.size := har.foot_lt (Or.inl rfl)
        have hwf : (Lit.int .i64 (r + k)).wf = true := wf64 (by omega)
        go_wp2_with (first
          | (with_reducible refine wpList_alloc_page ?_)
          | (at_mapUpdate; refine wpList_mapUpdate_in _ rfl _ _ _ 69 rfl 3 51 law3 Tryd.underlying69 ptrElem bm pg'.length (pd pg') rfl (World.ownsMap.alloc har.pm page0) (by unfold maxLen; omega) _ _ _ rfl rfl (keyOf_int_mk Tryd.underlying3 hwf) (.held wr.heap.size) [] rfl ?_; intro w2 hown2 hturn2))
        go_roundg (n - k - 1).toNat
        case measure => omega
        case rel =>
          have hnone : blk pg' (r + k) = none := by
            rw [hadd.old (r + k) (Or.inr (Int.le_refl _))]
            exact hle.run (r + k) (by omega) (by omega)
          obtain ⟨r1, r2⟩ := Arena.put har (by omega) (by omega) hnone (by have := hadd.len; omega) hown2 hturn2
          exact ⟨k + 1, _, by omega, by omega, by go_num, hadd.step har.rise hk0 hnone, r1, hst.trans r2⟩
      · obtain rfl : k = n := by omega
        go_wp2
        go_ret2
        exact Or.inl ⟨r, rfl, hle, pg', hadd, har, hst⟩
  · go_wp2
    go_ret2
    exact Or.inr ⟨rfl, hno, nq, rfl⟩

end Sl
end Go.Proofs.YtlpdgomoepinjaaDoor
