/-
  The walk of the statements' one-number answer.
-/
import Derived.Test.YtclbaepgodeoiaaTwo
namespace Go.Proofs.Ytclbaepgodeoiaa
open Go.RowKit Go.Maps
namespace Sl
variable {w : World} {bs bm : Nat} {q : Int} {pg : List (Int × Nat)} {W : Int → Int}

theorem Step.of_below {w' : World} (hb : Below w.heap.size w w') : Step bs bm pg pg w w' :=
  ⟨hb.os, hb.tape, hb.output, hb.size, fun k hk _ => hb.block k hk, fun _ hk => Or.inl hk⟩

def opVal (o : Opv) : Value := .agg #[.int .i64 o.d, .int .i64 o.a, .int .i64 o.b, .int .i64 o.n, .int .u64 o.x]

theorem readE_bd (pg : List (Int × Nat)) (a : Int) : 0 ≤ readE pg a ∧ readE pg a ≤ 5 := by
  unfold readE
  split
  · split <;> omega
  · omega
theorem relE_bd (pg : List (Int × Nat)) (p n : Int) : 0 ≤ relE pg p n ∧ relE pg p n ≤ 5 := by
  rcases relE_01 pg p n with h | h | h <;> omega
theorem claimE_bd (q : Int) (pg : List (Int × Nat)) (p : Int) : 0 ≤ claimE q pg p ∧ claimE q pg p ≤ 6 := by
  unfold claimE
  split
  · omega
  · split
    · omega
    · split <;> omega
theorem moveE_bd (pg : List (Int × Nat)) (a b n : Int) : 0 ≤ moveE pg a b n ∧ moveE pg a b n ≤ 5 := by
  unfold moveE
  split
  · split <;> omega
  · omega

set_option maxHeartbeats 2000000 in
set_option maxRecDepth 100000 in
theorem answer_any (h : Arena w bs bm q pg W) (o : Opv) (hok : OpOk o) :
    Calls Try.prog 25 #[.pointer (some ⟨bs, 0, none⟩), .agg #[.int .i64 o.d, .int .i64 o.a, .int .i64 o.b, .int .i64 o.n, .int .u64 o.x]] w fun e w' => ∃ x pg' W', e = .returned (.int .u64 x) ∧ Ans q (seen pg W) o x (seen pg' W') ∧ Arena w' bs bm q pg' W' ∧ Step bs bm pg pg' w w' := by
  have hbel : Below w.heap.size w (w.alloc (opBlk o)) := (Below.refl _ _).alloc (Nat.le_refl _) _
  have hal : Arena (w.alloc (opBlk o)) bs bm q pg W := h.stays fun k hk => hbel.block k (h.foot_lt hk)
  have hst0 : Step bs bm pg pg w (w.alloc (opBlk o)) := Step.of_below hbel
  by_cases h1 : o.d = 1
  · have hd : (o.d == 1) = true := by simp [h1]
    have hg := grant_seen hal o.a
    have H1 : Aside _ := h1
    clear h1
    go_enter Try.func25, Try.ntmps25
    go_wp2_with fail
    refine hg.mono ?_
    rintro e w2 ⟨r, c, pg2, rfl, hr0, hr1, hc0, hc1, hans, ha, hs⟩
    have HA : Aside _ := hans
    clear hans
    go_wp2
    go_ret
    exact ⟨_, pg2, W, rfl, Or.inl ⟨H1.out, HA.out⟩, ha, hst0.trans hs⟩
  have hd1 : (o.d == 1) = false := by simpa using h1
  by_cases h2 : o.d = 2
  · have hd : (o.d == 2) = true := by simp [h2]
    have hg := release_seen hal o.b o.a
    have hbd := relE_bd pg o.b o.a
    have H1 : Aside (o.d ≠ 1 ∧ o.d = 2) := ⟨h1, h2⟩
    clear h1 h2
    go_enter Try.func25, Try.ntmps25
    go_wp2_with fail
    refine hg.mono ?_
    rintro e w2 ⟨pg2, W2, rfl, hsn, ha, hs⟩
    have HA : Aside _ := hsn
    clear hsn
    go_wp2
    go_ret
    refine ⟨_, pg2, W2, rfl, Or.inr ⟨H1.out.1, ?_⟩, ha, hst0.trans hs⟩
    rw [HA.out, ansF, if_pos H1.out.2]
    rfl
  have hd2 : (o.d == 2) = false := by simpa using h2
  by_cases h3 : o.d = 3
  · have hd : (o.d == 3) = true := by simp [h3]
    have hg := read_any hal o.a
    have hbd := readE_bd pg o.a
    have H1 : Aside (o.d ≠ 1 ∧ o.d ≠ 2 ∧ o.d = 3) := ⟨h1, h2, h3⟩
    clear h1 h2 h3
    go_enter Try.func25, Try.ntmps25
    go_wp2_with fail
    refine hg.mono ?_
    rintro e w2 ⟨rfl, rfl⟩
    go_wp2
    go_ret
    refine ⟨_, pg, W, rfl, Or.inr ⟨H1.out.1, ?_⟩, hal, hst0⟩
    rw [ansF, if_neg H1.out.2.1, if_pos H1.out.2.2]
    rfl
  have hd3 : (o.d == 3) = false := by simpa using h3
  by_cases h4 : o.d = 4
  · have hd : (o.d == 4) = true := by simp [h4]
    have hg := write_seen hal o.a o.x hok.x
    have hbd := readE_bd pg o.a
    have H1 : Aside (o.d ≠ 1 ∧ o.d ≠ 2 ∧ o.d ≠ 3 ∧ o.d = 4) := ⟨h1, h2, h3, h4⟩
    clear h1 h2 h3 h4
    go_enter Try.func25, Try.ntmps25
    go_wp2_with fail
    refine hg.mono ?_
    rintro e w2 ⟨W2, rfl, hsn, ha, hs⟩
    have HA : Aside _ := hsn
    clear hsn
    go_wp2
    go_ret
    refine ⟨_, pg, W2, rfl, Or.inr ⟨H1.out.1, ?_⟩, ha, hst0.trans hs⟩
    rw [HA.out, ansF, if_neg H1.out.2.1, if_neg H1.out.2.2.1, if_pos H1.out.2.2.2]
    rfl
  have hd4 : (o.d == 4) = false := by simpa using h4
  by_cases h6 : o.d = 6
  · have hd : (o.d == 6) = true := by simp [h6]
    have hg := claim_seen hal o.a hok.a
    have hbd := claimE_bd q pg o.a
    have H1 : Aside (o.d ≠ 1 ∧ o.d ≠ 2 ∧ o.d ≠ 3 ∧ o.d ≠ 4 ∧ o.d = 6) := ⟨h1, h2, h3, h4, h6⟩
    clear h1 h2 h3 h4 h6
    go_enter Try.func25, Try.ntmps25
    go_wp2_with fail
    refine hg.mono ?_
    rintro e w2 ⟨pg2, rfl, hsn, ha, hs⟩
    have HA : Aside _ := hsn
    clear hsn
    go_wp2
    go_ret
    refine ⟨_, pg2, W, rfl, Or.inr ⟨H1.out.1, ?_⟩, ha, hst0.trans hs⟩
    rw [HA.out, ansF, if_neg H1.out.2.1, if_neg H1.out.2.2.1, if_neg H1.out.2.2.2.1, if_pos H1.out.2.2.2.2]
    rfl
  have hd6 : (o.d == 6) = false := by simpa using h6
  have hg := move_seen hal o.a o.b (o.n.tmod 300)
  have hbd := moveE_bd pg o.a o.b (o.n.tmod 300)
  have hnb := Go.bounds_i64 hok.n
  have H1 : Aside (o.d ≠ 1 ∧ o.d ≠ 2 ∧ o.d ≠ 3 ∧ o.d ≠ 4 ∧ o.d ≠ 6) := ⟨h1, h2, h3, h4, h6⟩
  clear h1 h2 h3 h4 h6
  go_enter Try.func25, Try.ntmps25
  go_wp2_with fail
  refine hg.mono ?_
  rintro e w2 ⟨W2, rfl, hsn, ha, hs⟩
  have HA : Aside _ := hsn
  clear hsn
  go_wp2
  go_ret
  refine ⟨_, pg, W2, rfl, Or.inr ⟨H1.out.1, ?_⟩, ha, hst0.trans hs⟩
  rw [HA.out, ansF, if_neg H1.out.2.1, if_neg H1.out.2.2.1, if_neg H1.out.2.2.2.1, if_neg H1.out.2.2.2.2]
  rfl

end Sl
end Go.Proofs.Ytclbaepgodeoiaa
