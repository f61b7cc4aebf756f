/-
  The walk of package slab's Move.
-/
import Derived.Test.YtlpdgomoepinjaaDoorSMove
namespace Go.Proofs.YtlpdgomoepinjaaDoor
open Go.RowKit Go.Maps
namespace Sl
variable {w : World} {bs bm : Nat} {q : Int} {pg : List (Int × Nat)} {W : Int → Int}

def moveE (pg : List (Int × Nat)) (to fr n : Int) : Int := if isSpanB to n = true ∧ isSpanB fr n = true then (if spanIn pg to n = true ∧ spanIn pg fr n = true then 0 else 5) else 2
/-- The words behind a move. -/
def mv (W : Int → Int) (to fr n : Int) : Int → Int := fun x => if to ≤ x ∧ x < to + n then W (x - to + fr) else W x

theorem span_all {a n : Int} (hs : isSpanB a n = true) (h : spanIn pg a n = true) : ∀ i : Nat, i < n.toNat → (blk pg ((a + i) / 64)).isSome = true := by
  intro i hi
  simp [isSpanB] at hs
  unfold spanIn at h
  rw [if_neg (by omega)] at h
  have := allIn_iff.1 h ((a + i) / 64 - a / 64).toNat (by omega)
  rw [show a / 64 + (((a + (i : Int)) / 64 - a / 64).toNat : Int) = (a + i) / 64 from by omega] at this
  exact this

theorem move_no (h : Arena w bs bm q pg W) (to fr n : Int) (hne : moveE pg to fr n ≠ 0) :
    Calls Tryd.prog 45 #[.pointer (some ⟨bs, 0, none⟩), .int .i64 to, .int .i64 fr, .int .i64 n] w fun e w' => e = .returned (.int .i64 (moveE pg to fr n)) ∧ w = w' := by
  have hm := made_yes bs bm w h.c1
  have hi1 := isSpan_any to n w
  have hi2 := isSpan_any fr n w
  cases h1 : isSpanB to n with
  | false =>
    have HE : Hid (moveE pg to fr n = 2) := by simp [moveE, h1, Hid]
    rw [h1] at hi1
    clear hne h1
    go_enter Tryd.func45, Tryd.ntmps45
    go_wp2_with (first
      | (go_at_call 36; refine hm.mono ?_; rintro e w' ⟨rfl, rfl⟩)
      | (go_at_call 37; refine hi1.mono ?_; rintro e w' ⟨rfl, rfl⟩))
    go_ret
    exact ⟨by rw [HE.out]; rfl, rfl⟩
  | true =>
    rw [h1] at hi1
    cases h2 : isSpanB fr n with
    | false =>
      have HE : Hid (moveE pg to fr n = 2) := by simp [moveE, h2, Hid]
      rw [h2] at hi2
      clear hne h1 h2
      go_enter Tryd.func45, Tryd.ntmps45
      go_wp2_with (first | (go_at_call 36; refine hm.mono ?_; rintro e w' ⟨rfl, rfl⟩))
      refine hi1.mono ?_
      rintro e w' ⟨rfl, rfl⟩
      go_wp2_with fail
      refine hi2.mono ?_
      rintro e w' ⟨rfl, rfl⟩
      go_wp2
      go_ret
      exact ⟨by rw [HE.out]; rfl, rfl⟩
    | true =>
      rw [h2] at hi2
      have hs1 := haveSpan_any h to n h1
      have hs2 := haveSpan_any h fr n h2
      cases h3 : spanIn pg to n with
      | false =>
        have HE : Hid (moveE pg to fr n = 5) := by simp [moveE, h1, h2, h3, Hid]
        rw [h3] at hs1
        clear hne h1 h2 h3 hs2
        go_enter Tryd.func45, Tryd.ntmps45
        go_wp2_with (first | (go_at_call 36; refine hm.mono ?_; rintro e w' ⟨rfl, rfl⟩))
        refine hi1.mono ?_
        rintro e w' ⟨rfl, rfl⟩
        go_wp2_with fail
        refine hi2.mono ?_
        rintro e w' ⟨rfl, rfl⟩
        go_wp2_with fail
        refine hs1.mono ?_
        rintro e w' ⟨rfl, rfl⟩
        go_wp2
        go_ret
        exact ⟨by rw [HE.out]; rfl, rfl⟩
      | true =>
        have h4 : spanIn pg fr n = false := by
          cases h4 : spanIn pg fr n with
          | false => rfl
          | true => exact absurd (by simp [moveE, h1, h2, h3, h4]) hne
        have HE : Hid (moveE pg to fr n = 5) := by simp [moveE, h1, h2, h4, Hid]
        rw [h3] at hs1
        rw [h4] at hs2
        clear hne h1 h2 h3 h4
        go_enter Tryd.func45, Tryd.ntmps45
        go_wp2_with (first | (go_at_call 36; refine hm.mono ?_; rintro e w' ⟨rfl, rfl⟩))
        refine hi1.mono ?_
        rintro e w' ⟨rfl, rfl⟩
        go_wp2_with fail
        refine hi2.mono ?_
        rintro e w' ⟨rfl, rfl⟩
        go_wp2_with fail
        refine hs1.mono ?_
        rintro e w' ⟨rfl, rfl⟩
        go_wp2_with fail
        refine hs2.mono ?_
        rintro e w' ⟨rfl, rfl⟩
        go_wp2
        go_ret
        exact ⟨by rw [HE.out]; rfl, rfl⟩

theorem laid_mv (W : Int → Int) (to fr n : Int) (hn : 0 ≤ n) : laid W to (fun i : Nat => W (fr + i)) n.toNat = mv W to fr n := by
  funext x
  simp only [laid, mv]
  by_cases hx : to ≤ x ∧ x < to + n
  · rw [if_pos (by omega), if_pos hx, show fr + ((x - to).toNat : Int) = x - to + fr from by omega]
  · rw [if_neg (by omega), if_neg hx]

theorem move_ok (h : Arena w bs bm q pg W) (to fr n : Int) (he : moveE pg to fr n = 0) :
    Calls Tryd.prog 45 #[.pointer (some ⟨bs, 0, none⟩), .int .i64 to, .int .i64 fr, .int .i64 n] w fun e w' => e = .returned (.int .i64 0) ∧ Arena w' bs bm q pg (mv W to fr n) ∧ Step bs bm pg pg w w' := by
  have hall : (isSpanB to n = true ∧ isSpanB fr n = true) ∧ spanIn pg to n = true ∧ spanIn pg fr n = true := by
    by_cases h1 : isSpanB to n = true ∧ isSpanB fr n = true
    · refine ⟨h1, ?_⟩
      by_cases h2 : spanIn pg to n = true ∧ spanIn pg fr n = true
      · exact h2
      · rw [moveE, if_pos h1, if_neg h2] at he
        cases he
    · rw [moveE, if_neg h1] at he
      cases he
  obtain ⟨⟨h1, h2⟩, h3, h4⟩ := hall
  have hm := made_yes bs bm w h.c1
  have hi1 := isSpan_any to n w
  have hi2 := isSpan_any fr n w
  have hs1 := haveSpan_any h to n h1
  have hs2 := haveSpan_any h fr n h2
  have a1 := span_all h1 h3
  have a2 := span_all h2 h4
  rw [h1] at hi1
  rw [h2] at hi2
  rw [h3] at hs1
  rw [h4] at hs2
  have b1 : 0 ≤ to ∧ to < 67108864 ∧ 0 ≤ n ∧ n ≤ 262144 ∧ to + n ≤ 67108864 := by simpa [isSpanB] using h1
  have b2 : 0 ≤ fr ∧ fr < 67108864 ∧ 0 ≤ n ∧ n ≤ 262144 ∧ fr + n ≤ 67108864 := by simpa [isSpanB] using h2
  have ht := taken_any h fr n.toNat b2.1 (by omega) (by omega) a2
  have hnn : ((n.toNat : Nat) : Int) = n := by omega
  rw [hnn] at ht
  have HL : Aside (∀ w1, Below w.heap.size w w1 → w1.heap[w.heap.size]? = some (.cells (rowOf (fun i => W (fr + i)) n.toNat n.toNat) 34) →
      Calls Tryd.prog 62 #[.pointer (some ⟨bs, 0, none⟩), .int .i64 to, .slice (some ⟨w.heap.size, 0, none⟩) n.toNat n.toNat] w1 fun e w' => e = .returned (.tuple #[]) ∧ Arena w' bs bm q pg (mv W to fr n) ∧ Step bs bm pg pg w w') := by
    intro w1 hb hr
    have har : Arena w1 bs bm q pg W := h.stays fun k hk => hb.block k (h.foot_lt hk)
    refine (lay_any har to (fun i => W (fr + i)) n.toNat w.heap.size b1.1 (by omega) (by omega) a1 hr (fun hf => by have := h.foot_lt hf; omega) (fun i => h.ww _)).mono ?_
    rintro e w2 ⟨he, hA, hS⟩
    rw [laid_mv _ _ _ _ b1.2.2.1] at hA
    exact ⟨he, hA, Step.trans ⟨hb.os, hb.tape, hb.output, hb.size, fun k hk _ => hb.block k hk, fun _ hk => Or.inl hk⟩ hS⟩
  clear he h1 h2 h3 h4 a1 a2 hnn
  go_enter Tryd.func45, Tryd.ntmps45
  go_wp2_with (first | (go_at_call 36; refine hm.mono ?_; rintro e w' ⟨rfl, rfl⟩))
  refine hi1.mono ?_
  rintro e w' ⟨rfl, rfl⟩
  go_wp2_with fail
  refine hi2.mono ?_
  rintro e w' ⟨rfl, rfl⟩
  go_wp2_with fail
  refine hs1.mono ?_
  rintro e w' ⟨rfl, rfl⟩
  go_wp2_with fail
  refine hs2.mono ?_
  rintro e w' ⟨rfl, rfl⟩
  go_wp2_with fail
  refine ht.mono ?_
  rintro e w1 ⟨rfl, hb, hr⟩
  go_wp2_with fail
  refine (HL.out w1 hb hr).mono ?_
  rintro e w2 ⟨rfl, hA, hS⟩
  go_wp2
  go_ret
  exact ⟨rfl, hA, hS⟩

end Sl
end Go.Proofs.YtlpdgomoepinjaaDoor
