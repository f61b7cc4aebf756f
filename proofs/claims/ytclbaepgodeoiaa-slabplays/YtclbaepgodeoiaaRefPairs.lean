/-
  The pairs of calls: Release, Write, Move, Claim, and Grant by itself.
-/
import Derived.Test.YtclbaepgodeoiaaRefMix
namespace Go.Proofs.Ytclbaepgodeoiaa
open Go.RowKit Go.Maps
namespace Sl
variable {w : World} {bs bm br : Nat} {q : Int} {pg : List (Int × Nat)} {a : Option Addr} {cap : Nat} {K : List Int} {W V : Int → Int} {ob : Nat} {o : Opv}

theorem allK_nums {p n : Int} (hn : 0 ≤ n) : allK (nums pg) p n ↔ allIn pg p n.toNat = true := by
  rw [allIn_iff]
  constructor
  · intro h i hi
    exact mem_nums.1 (h (p + i) (by omega) (by omega))
  · intro h x h1 h2
    have := h (x - p).toNat (by omega)
    rw [show p + ((x - p).toNat : Int) = x from by omega] at this
    exact mem_nums.2 this

theorem pair_rel (p n : Int) (hp : (Lit.int .i64 p).wf = true) : Pairs bs bm br q ob o pg W 20 27 #[.pointer (some ⟨bs, 0, none⟩), .int .i64 p, .int .i64 n] #[.pointer (some ⟨br, 0, none⟩), .int .i64 p, .int .i64 n] (.int .i64 (relE pg p n))
    (fun x => (blk pg x).isSome = true ∧ ¬ (relE pg p n = 0 ∧ p ≤ x ∧ x < p + n)) (if relE pg p n = 0 then zr W p n else W) := by
  refine ⟨fun w a cap K V h => ?_, fun w a cap pg' W' h => ?_⟩
  · by_cases he : relE pg p n = 0
    · refine (release_ok h.mix.ar p n he).mono ?_
      rintro e w' ⟨rfl, pg', hg, ha, hs⟩
      refine ⟨by rw [he], pg', fun x => ?_, by rw [if_pos he]; exact h.slab ha hs, PStep.of_step hs⟩
      by_cases hx : p ≤ x ∧ x < p + n
      · rw [hg.gone x hx.1 hx.2]
        simp [he, hx]
      · rw [hg.old x (by omega)]
        simp only [he, true_and]
        exact ⟨fun h1 => ⟨h1, hx⟩, fun h1 => h1.1⟩
    · refine (release_no h.mix.ar p n he).mono ?_
      rintro e w' ⟨rfl, rfl⟩
      exact ⟨rfl, pg, fun x => ⟨fun h1 => ⟨h1, fun h2 => he h2.1⟩, fun h1 => h1.1⟩, by rw [if_neg he]; exact h, PStep.of_step (Step.refl _ _ _ _)⟩
  · by_cases hok : isPageB p = true ∧ isCountB n = true ∧ isPageB (p + n - 1) = true
    · have hn : 1 ≤ n ∧ n ≤ 4096 := by simpa [isCountB] using hok.2.1
      refine (rRel_any h.mix.rf p n hok ((nums pg).filter (keepP p n)) (h.mix.rf.rise.sublist List.filter_sublist) (fun x => ?_) (Nat.le_trans (List.length_filter_le _ _) h.mix.rf.len)).mono ?_
      · rw [List.mem_filter]
        simp [keepP]
        intro _
        omega
      rintro e w' (⟨rfl, hno, hb⟩ | ⟨rfl, hyes, a', cap', hr, hs, hown⟩)
      · have he : relE pg p n = 5 := by
          unfold relE
          rw [if_pos hok, if_neg]
          exact fun h1 => hno ((allK_nums (by omega)).2 h1)
        have hne : ¬ relE pg p n = 0 := by omega
        refine ⟨by rw [he], a, cap, nums pg, fun x => ?_, by rw [if_neg hne]; exact h.below hb, PStep.of_below hb⟩
        rw [mem_nums]
        exact ⟨fun h1 => ⟨h1, fun h2 => hne h2.1⟩, fun h1 => h1.1⟩
      · have he : relE pg p n = 0 := by
          unfold relE
          rw [if_pos hok, if_pos ((allK_nums (by omega)).1 hyes)]
        refine ⟨by rw [he], a', cap', _, fun x => ?_, by rw [if_pos he]; exact h.ref hr hs (fun k hk => Or.inl (hown k hk)), PStep.of_ref hs⟩
        rw [List.mem_filter, mem_nums]
        simp [keepP, he]
        intro _
        omega
    · have he : relE pg p n = 2 := by
        unfold relE
        rw [if_neg hok]
      have hne : ¬ relE pg p n = 0 := by omega
      refine (rRel_arg h.mix.rf p n hp hok).mono ?_
      rintro e w' ⟨rfl, rfl⟩
      refine ⟨by rw [he], a, cap, nums pg, fun x => ?_, by rw [if_neg hne]; exact h, PStep.of_below (Below.refl _ _)⟩
      rw [mem_nums]
      exact ⟨fun h1 => ⟨h1, fun h2 => hne h2.1⟩, fun h1 => h1.1⟩

theorem pair_write (x v : Int) (hv : WordOk v) : Pairs bs bm br q ob o pg W 21 29 #[.pointer (some ⟨bs, 0, none⟩), .int .i64 x, .int .u64 v] #[.pointer (some ⟨br, 0, none⟩), .int .i64 x, .int .u64 v] (.int .i64 (readE pg x))
    (fun y => (blk pg y).isSome = true) (if readE pg x = 0 then upd W x v else W) := by
  refine ⟨fun w a cap K V h => ?_, fun w a cap pg' W' h => ?_⟩
  · by_cases he : readE pg x = 0
    · refine (write_ok h.mix.ar x v he hv).mono ?_
      rintro e w' ⟨rfl, ha, hs⟩
      exact ⟨by rw [he], pg, fun _ => Iff.rfl, by rw [if_pos he]; exact h.slab ha hs, PStep.of_step hs⟩
    · refine (write_no h.mix.ar x v he).mono ?_
      rintro e w' ⟨rfl, rfl⟩
      exact ⟨rfl, pg, fun _ => Iff.rfl, by rw [if_neg he]; exact h, PStep.of_step (Step.refl _ _ _ _)⟩
  · by_cases he : readE pg x = 0
    · refine (rWrite_ok h.mix.rf x v (by rw [rdE_nums]; exact he)).mono ?_
      rintro e w' ⟨rfl, a', cap', hr, hs, hown⟩
      exact ⟨by rw [he], a', cap', _, fun _ => mem_nums, by rw [if_pos he]; exact h.ref hr hs (fun k hk => Or.inl (hown k hk)), PStep.of_ref hs⟩
    · refine (rWrite_no h.mix.rf x v (by rw [rdE_nums]; exact he)).mono ?_
      rintro e w' ⟨rfl, hb⟩
      exact ⟨by rw [rdE_nums], a, cap, _, fun _ => mem_nums, by rw [if_neg he]; exact h.below hb, PStep.of_below hb⟩

theorem claim_mem {p : Int} {c : Nat} (hs : Rising pg) (hb : blk pg p = none) (x : Int) : (blk (ins p c pg) x).isSome = true ↔ (blk pg x).isSome = true ∨ x = p := by
  rw [blk_ins hs hb]
  by_cases e : x = p
  · simp [e]
  · simp [e]

theorem claimE_room {p : Int} (he : claimE q pg p = 0) : 64 * ((pg.length : Int) + 1) ≤ q := by
  have h := claimE_zero he
  by_cases hq : 64 * ((pg.length : Int) + 1) ≤ q
  · exact hq
  · simp [claimE, h.1, h.2, hq] at he

theorem pair_claim {w0 : World} (h0 : Arena w0 bs bm q pg W) (p : Int) (hp : (Lit.int .i64 p).wf = true) : Pairs bs bm br q ob o pg W 23 31 #[.pointer (some ⟨bs, 0, none⟩), .int .i64 p] #[.pointer (some ⟨br, 0, none⟩), .int .i64 p] (.int .i64 (claimE q pg p))
    (fun x => (blk pg x).isSome = true ∨ (claimE q pg p = 0 ∧ x = p)) W := by
  refine ⟨fun w a cap K V h => ?_, fun w a cap pg' W' h => ?_⟩
  · by_cases he : claimE q pg p = 0
    · refine (claim_ok h.mix.ar p he).mono ?_
      rintro e w' ⟨rfl, b, ha, hs⟩
      refine ⟨by rw [he], _, fun x => ?_, h.slab ha hs, PStep.of_step hs⟩
      rw [claim_mem h.mix.ar.rise (claimE_zero he).2]
      simp [he]
    · refine (claim_no h.mix.ar p hp he).mono ?_
      rintro e w' ⟨rfl, k, rfl⟩
      exact ⟨rfl, pg, fun x => by simp [he], h.slab (h.mix.ar.drewN k) (Step.drewN _ _ _ _ _), PStep.of_step (Step.drewN _ _ _ _ _)⟩
  · by_cases he : claimE q pg p = 0
    · have hz := claimE_zero he
      have hroom := claimE_room he
      have hq := h0.q1
      refine (rClaim_ok h.mix.rf p (by rw [rcE_nums]; exact he) (fun j hj => h0.z _ (by rw [show (64 * p + (j : Int)) / 64 = p from by omega]; exact hz.2)) (nums (ins p 0 pg)) (nums_rise (ins_rising h0.rise hz.2)) (fun x => by rw [mem_nums, mem_nums, claim_mem h0.rise hz.2]) (by rw [nums_length, ins_length]; omega)).mono ?_
      rintro e w' ⟨rfl, a', cap', hr, hs, hown⟩
      refine ⟨by rw [he], a', cap', _, fun x => ?_, h.ref hr hs (fun k hk => Or.inl (hown k hk)), PStep.of_ref hs⟩
      rw [mem_nums, claim_mem h0.rise hz.2]
      simp [he]
    · refine (rClaim_no h.mix.rf p (by rw [rcE_nums]; exact he)).mono ?_
      rintro e w' ⟨rfl, hb⟩
      exact ⟨by rw [rcE_nums], a, cap, _, fun x => by rw [mem_nums]; simp [he], h.below hb, PStep.of_below hb⟩

theorem span_iff {x n : Int} (hs : isSpanB x n = true) : spanIn pg x n = true ↔ ∀ j : Int, 0 ≤ j → j < n → readE pg (x + j) = 0 := by
  have b : 0 ≤ x ∧ x < 67108864 ∧ 0 ≤ n ∧ n ≤ 262144 ∧ x + n ≤ 67108864 := by simpa [isSpanB] using hs
  have one : ∀ j : Int, 0 ≤ j → j < n → isSpanB (x + j) 1 = true := fun j h1 h2 => by simp [isSpanB]; omega
  constructor
  · intro h j h1 h2
    have := span_all hs h j.toNat (by omega)
    rw [show x + ((j.toNat : Nat) : Int) = x + j from by omega] at this
    unfold readE
    rw [if_pos (one j h1 h2), if_pos this]
  · intro h
    unfold spanIn
    by_cases h0 : n = 0
    · rw [if_pos h0]
    · rw [if_neg h0, allIn_iff]
      intro i hi
      by_cases hi0 : i = 0
      · have h1 := h 0 (by omega) (by omega)
        obtain ⟨_, c, hc⟩ := readE_zero h1
        rw [hi0, show x / 64 + ((0 : Nat) : Int) = (x + 0) / 64 from by simp, hc]
        rfl
      · have h1 := h (64 * (x / 64 + i) - x) (by omega) (by omega)
        obtain ⟨_, c, hc⟩ := readE_zero h1
        rw [show x / 64 + (i : Int) = (x + (64 * (x / 64 + i) - x)) / 64 from by omega, hc]
        rfl

theorem pair_move (to fr n : Int) : Pairs bs bm br q ob o pg W 22 30 #[.pointer (some ⟨bs, 0, none⟩), .int .i64 to, .int .i64 fr, .int .i64 n] #[.pointer (some ⟨br, 0, none⟩), .int .i64 to, .int .i64 fr, .int .i64 n] (.int .i64 (moveE pg to fr n))
    (fun y => (blk pg y).isSome = true) (if moveE pg to fr n = 0 then mv W to fr n else W) := by
  refine ⟨fun w a cap K V h => ?_, fun w a cap pg' W' h => ?_⟩
  · by_cases he : moveE pg to fr n = 0
    · refine (move_ok h.mix.ar to fr n he).mono ?_
      rintro e w' ⟨rfl, ha, hs⟩
      exact ⟨by rw [he], pg, fun _ => Iff.rfl, by rw [if_pos he]; exact h.slab ha hs, PStep.of_step hs⟩
    · refine (move_no h.mix.ar to fr n he).mono ?_
      rintro e w' ⟨rfl, rfl⟩
      exact ⟨rfl, pg, fun _ => Iff.rfl, by rw [if_neg he]; exact h, PStep.of_step (Step.refl _ _ _ _)⟩
  · by_cases hok : isSpanB to n = true ∧ isSpanB fr n = true
    · refine (rMove_any h.mix.rf to fr n hok.1 hok.2).mono ?_
      rintro e w' (⟨rfl, ⟨j, h1, h2, h3⟩, hb⟩ | ⟨rfl, hall, a', cap', hr, hs, hown⟩)
      · have he : moveE pg to fr n = 5 := by
          unfold moveE
          rw [if_pos hok, if_neg]
          rintro ⟨k1, k2⟩
          rw [rdE_nums, rdE_nums] at h3
          rcases h3 with h3 | h3
          · exact h3 ((span_iff hok.2).1 k2 j h1 h2)
          · exact h3 ((span_iff hok.1).1 k1 j h1 h2)
        have hne : ¬ moveE pg to fr n = 0 := by omega
        exact ⟨by rw [he], a, cap, _, fun _ => mem_nums, by rw [if_neg hne]; exact h.below hb, PStep.of_below hb⟩
      · have he : moveE pg to fr n = 0 := by
          unfold moveE
          rw [if_pos hok, if_pos]
          simp only [rdE_nums] at hall
          exact ⟨(span_iff hok.1).2 fun j h1 h2 => (hall j h1 h2).2, (span_iff hok.2).2 fun j h1 h2 => (hall j h1 h2).1⟩
        exact ⟨by rw [he], a', cap', _, fun _ => mem_nums, by rw [if_pos he]; exact h.ref hr hs hown, PStep.of_ref hs⟩
    · have he : moveE pg to fr n = 2 := by
        unfold moveE
        rw [if_neg hok]
      have hne : ¬ moveE pg to fr n = 0 := by omega
      refine (rMove_arg to fr n w hok _).mono ?_
      rintro e w' ⟨rfl, rfl⟩
      exact ⟨by rw [he], a, cap, _, fun _ => mem_nums, by rw [if_neg hne]; exact h, PStep.of_below (Below.refl _ _)⟩

/-- Behind a grant on the one. -/
def GPost (bs bm br : Nat) (q : Int) (ob : Nat) (o : Opv) (pg : List (Int × Nat)) (W : Int → Int) (a : Option Addr) (cap : Nat) (n r c : Int) (w w' : World) : Prop :=
  ∃ pg', MixO w' bs bm br q ob o pg' W a cap (nums pg) W ∧ PStep bs bm br pg pg' w w' ∧ (∀ x, blk pg (x / 64) = none → W x = 0) ∧ ((c = grantE q pg n ∧ grantE q pg n ≠ 0 ∧ r = 0 ∧ pg' = pg) ∨ (c = 0 ∧ grantE q pg n = 0 ∧ Least pg n r ∧ Added pg pg' r n))

theorem grant_s (h : MixO w bs bm br q ob o pg W a cap (nums pg) W) (hq : q ≤ 2000) (n : Int) :
    Calls Try.prog 19 #[.pointer (some ⟨bs, 0, none⟩), .int .i64 n] w fun e w' => ∃ r c, e = .returned (.tuple #[.int .i64 r, .int .i64 c]) ∧ GPost bs bm br q ob o pg W a cap n r c w w' ∧ OpAt w' ob 0 o := by
  by_cases he : grantE q pg n = 0
  · have hn := grantE_0 he
    have hroom := hn.2.2
    refine (grant_ok h.mix.ar n he).mono ?_
    rintro e w' (⟨r, rfl, hl, pg2, hadd, ha, hs⟩ | ⟨rfl, hno, k, rfl⟩)
    · have h2 := h.slab ha hs
      exact ⟨r, 0, rfl, ⟨pg2, h2, PStep.of_step hs, h.mix.ar.z, Or.inr ⟨rfl, he, hl, hadd⟩⟩, op_cells h2.blk⟩
    · refine absurd hno (not_nowhere hn.1 ?_)
      have h1 : n ≤ 31 := by omega
      have h2 : (pg.length : Int) + 1 ≤ 32 := by omega
      have h3 : n * ((pg.length : Int) + 1) ≤ 31 * ((pg.length : Int) + 1) := Int.mul_le_mul_of_nonneg_right h1 (by omega)
      omega
  · refine (grant_no h.mix.ar n he).mono ?_
    rintro e w' ⟨rfl, k, rfl⟩
    have h2 := h.slab (h.mix.ar.drewN k) (Step.drewN _ _ _ _ _)
    exact ⟨0, grantE q pg n, rfl, ⟨pg, h2, PStep.of_step (Step.drewN _ _ _ _ _), h.mix.ar.z, Or.inl ⟨rfl, he, rfl, rfl⟩⟩, op_cells h2.blk⟩

theorem grant_r {n r c : Int} {w' : World} (h : GPost bs bm br q ob o pg W a cap n r c w w') :
    Calls Try.prog 26 #[.pointer (some ⟨br, 0, none⟩), .int .i64 n] w' fun e w'' => e = .returned (.tuple #[.int .i64 r, .int .i64 c]) ∧ Fin bs bm br q pg w w'' := by
  obtain ⟨pg', hm, hp, hz, hc⟩ := h
  rcases hc with ⟨rfl, hne, rfl, rfl⟩ | ⟨rfl, he, hl, hadd⟩
  · refine (rGrant_no hm.mix.rf n (by rw [rgE_nums]; exact hne)).mono ?_
    rintro e w'' ⟨rfl, hb⟩
    exact ⟨by rw [rgE_nums], pg', W, a, cap, (hm.below hb).mix, hp.trans (PStep.of_below hb)⟩
  · have hn := grantE_0 he
    have hroom := hn.2.2
    have hq1 := hm.mix.ar.q1
    have h1 := hl.lo
    have h2 := hl.hi
    have hlen := hadd.len
    refine (rGrant_ok hm.mix.rf n r hn.1 hn.2.1 (by rw [nums_length]; omega) (by rw [nums_length]; omega) h1 (by omega) ((free_nums r n).2 hl.run) (fun f k1 k2 k3 => hl.least f k1 k2 ((free_nums f n).1 k3))
      (fun N j k1 k2 k3 => hz _ (by rw [show (64 * N + (j : Int)) / 64 = N from by omega]; exact hl.run N k1 k2)) (nums pg') (nums_rise hm.mix.ar.rise) (fun x => ?_) (by rw [nums_length]; omega)).mono ?_
    · rw [mem_nums, mem_nums]
      by_cases hx : r ≤ x ∧ x < r + n
      · simp [hadd.new x hx.1 hx.2, hx]
      · rw [hadd.old x (by omega)]
        exact ⟨Or.inl, fun h3 => h3.resolve_right hx⟩
    · rintro e w'' ⟨rfl, a', cap', hr, hs, hown⟩
      exact ⟨rfl, pg', W, a', cap', (hm.ref hr hs (fun k hk => Or.inl (hown k hk))).mix, hp.trans (PStep.of_ref hs)⟩

end Sl
end Go.Proofs.Ytclbaepgodeoiaa
