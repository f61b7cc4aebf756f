/-
  The walk of the statements' fixed example: an arena of 192 words, three pages, a word written, moved, read.
-/
import Derived.Test.YtclbaepgodeoiaaMv
namespace Go.Proofs.Ytclbaepgodeoiaa
open Go.RowKit Go.Maps
namespace Sl
variable {w : World} {bs bm : Nat} {q : Int} {pg : List (Int × Nat)} {W : Int → Int}

/-- Least tells one page alone. -/
theorem least_eq {n r : Int} (h : Least pg n r) {s : Int} (hs : Least pg n s) : r = s := by
  rcases Int.lt_trichotomy r s with h1 | h1 | h1
  · exact absurd h.run (hs.least r h.lo h1)
  · exact h1
  · exact absurd hs.run (h.least s hs.lo h1)

theorem least_of {n s : Int} (h0 : 0 ≤ s) (h1 : s + n ≤ 1048576) (h2 : freeRun pg s n) (h3 : ∀ g, 0 ≤ g → g < s → ¬ freeRun pg g n) : Least pg n s := ⟨h0, h1, h2, h3⟩

set_option maxHeartbeats 1000000 in
theorem awake_any (w : World) : Calls Try.prog 8 #[] w fun e w' => e = .returned (.bool true) ∧ Below w.heap.size w w' := by
  have hnew := new_ok 192 w (by omega) (by omega)
  go_enter Try.func8, Try.ntmps8
  go_wp2_with fail
  refine hnew.mono ?_
  rintro e w1 ⟨rfl, ha1, hb1⟩
  have hsz : w.heap.size ≤ w1.heap.size := hb1.size
  have hge1 : ∀ k, foot (w.heap.size + 1) w.heap.size [] k → w.heap.size ≤ k := fun k hk => by
    rcases hk with rfl | rfl | ⟨p, hp, rfl⟩
    · omega
    · omega
    · simp at hp
  have l1 : Least [] 1 0 := ⟨by omega, by omega, fun j _ _ => rfl, fun g h1 h2 => by omega⟩
  go_wp2_with fail
  refine (grant_ok ha1 1 (by decide)).mono ?_
  rintro e w2 (⟨r, rfl, hl, pg1, hadd, ha2, hs2⟩ | ⟨rfl, hno, nq, rfl⟩)
  rotate_left
  · exact absurd l1.run (hno 0 (by omega) (by omega))
  obtain rfl := least_eq hl l1
  have hlen1 : (pg1.length : Int) = 1 := by have := hadd.len; simpa using this
  have hz : ∀ j, j ≠ 0 → blk pg1 j = none := fun j hj => hadd.old j (by omega)
  have h0s : (blk pg1 0).isSome = true := hadd.new 0 (by omega) (by omega)
  have l2 : Least pg1 2 1 := ⟨by omega, by omega, fun j h1 h2 => hz j (by omega), fun g h1 h2 hf => by
    have := hf 0 (by omega) (by omega)
    rw [this] at h0s
    cases h0s⟩
  have hge2 := hs2.foot_ge hsz hge1
  have hb2 := hb1.trans (hs2.below hsz hge1)
  have hsz2 := Nat.le_trans hsz hs2.size
  have g2 : grantE 192 pg1 2 = 0 := by simp [grantE, isCountB, hlen1]
  have A1 : Aside _ := And.intro hz h0s
  clear hz h0s hlen1
  have X2 : Hid (grantE 192 pg1 2 = 0) := g2
  clear g2
  go_wp2_with fail
  refine (grant_ok ha2 2 X2.out).mono ?_
  rintro e w3 (⟨r, rfl, hl2, pg2, hadd2, ha3, hs3⟩ | ⟨rfl, hno, nq, rfl⟩)
  rotate_left
  · exact absurd l2.run (hno 1 (by omega) (by omega))
  obtain rfl := least_eq hl2 l2
  have hlen2 : (pg2.length : Int) = 3 := by have h1 := hadd2.len; have h2 := hadd.len; simp at h2; omega
  have h1s : (blk pg2 1).isSome = true := hadd2.new 1 (by omega) (by omega)
  have hge3 := hs3.foot_ge hsz2 hge2
  have hb3 := hb2.trans (hs3.below hsz2 hge2)
  have hsz3 := Nat.le_trans hsz2 hs3.size
  have X3 : Hid (grantE 192 pg2 1 = 3) := by simp [grantE, isCountB, hlen2, Hid]
  have X4 : Hid (readE pg2 64 = 0) := by simp [readE, isSpanB, h1s, Hid]
  have X5 : Hid (moveE pg2 65 64 1 = 0) := by
    have e1 : spanIn pg2 65 1 = true := by
      show allIn pg2 1 1 = true
      exact allIn_succ (allIn_zero _ _) h1s
    have e2 : spanIn pg2 64 1 = true := by
      show allIn pg2 1 1 = true
      exact allIn_succ (allIn_zero _ _) h1s
    simp [moveE, isSpanB, e1, e2, Hid]
  have X6 : Hid (readE pg2 65 = 0) := by simp [readE, isSpanB, h1s, Hid]
  clear hlen2 h1s A1
  go_wp2_with fail
  refine (grant_no ha3 1 (by rw [X3.out]; decide)).mono ?_
  rw [X3.out]
  rintro e w4 ⟨rfl, nq, rfl⟩
  have ha4 := ha3.drewN nq
  go_wp2_with fail
  refine (write_ok ha4 64 7 X4.out (by unfold WordOk; decide)).mono ?_
  rintro e w5 ⟨rfl, ha5, hs5⟩
  go_wp2_with fail
  refine (move_ok ha5 65 64 1 X5.out).mono ?_
  rintro e w6 ⟨rfl, ha6, hs6⟩
  have hv : readV pg2 (mv (upd (fun _ => 0) 64 7) 65 64 1) 65 = 7 := by rw [readV, if_pos X6.out]; rfl
  have hrd := read_any ha6 65
  rw [hv, X6.out] at hrd
  clear hv
  go_wp2_with fail
  refine hrd.mono ?_
  rintro e w7 ⟨rfl, rfl⟩
  have hst := ((Step.drewN (w.heap.size + 1) w.heap.size pg2 w3 nq).trans hs5).trans hs6
  have HB : Hid (Below w.heap.size w w6) := hb3.trans (hst.below hsz3 hge3)
  go_wp2
  go_ret
  exact ⟨rfl, HB.out⟩

end Sl
end Go.Proofs.Ytclbaepgodeoiaa
