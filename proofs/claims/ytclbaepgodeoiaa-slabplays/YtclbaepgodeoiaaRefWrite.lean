/-
  The walk of the reference's Write.
-/
import Derived.Test.YtclbaepgodeoiaaRefRel
namespace Go.Proofs.Ytclbaepgodeoiaa
open Go.RowKit Go.Maps
namespace Sl
variable {w : World} {br : Nat} {q : Int} {a : Option Addr} {cap : Nat} {K : List Int} {W : Int → Int}

theorem rise_get {i j : Nat} {N : Int} (hs : K.Pairwise (fun x y => x < y)) (hi : K[i]? = some N) (hj : K[j]? = some N) : i = j := by
  have h1 := (List.getElem?_eq_some_iff.1 hi).1
  have h2 := (List.getElem?_eq_some_iff.1 hj).1
  have e1 := (List.getElem?_eq_some_iff.1 hi).2
  have e2 := (List.getElem?_eq_some_iff.1 hj).2
  rw [List.pairwise_iff_getElem] at hs
  rcases Nat.lt_trichotomy i j with h | h | h
  · have := hs i j h1 h2 h
    omega
  · exact h
  · have := hs j i h2 h1 h
    omega

theorem flat_set (hs : K.Pairwise (fun x y => x < y)) {i j : Nat} {N x : Int} (hi : K[i]? = some N) (hj : j < 64) : (flat W K).set (i * 65 + 1 + j) (.int .u64 x) = flat (upd W (64 * N + j) x) K := by
  have hil := (List.getElem?_eq_some_iff.1 hi).1
  apply List.ext_getElem?
  intro m
  rw [List.getElem?_set]
  by_cases hm : m < K.length * 65
  · obtain ⟨M, hM⟩ := get_lt (K := K) (i := m / 65) (by omega)
    have hmm : m = m / 65 * 65 + m % 65 := by omega
    have hr : (flat (upd W (64 * N + j) x) K)[m]? = (pageArr (upd W (64 * N + j) x) M)[m % 65]? := by
      have := flat_get (upd W (64 * N + j) x) K (m / 65) M (m % 65) hM (by omega)
      rw [← hmm] at this
      exact this
    have hl : (flat W K)[m]? = (pageArr W M)[m % 65]? := by
      have := flat_get W K (m / 65) M (m % 65) hM (by omega)
      rw [← hmm] at this
      exact this
    by_cases e : i * 65 + 1 + j = m
    · have e1 : m / 65 = i := by omega
      have e2 : m % 65 = 1 + j := by omega
      rw [e1, hi] at hM
      cases hM
      rw [if_pos e, if_pos (by rw [flat_length]; omega), hr, e2, pageArr_word _ _ _ hj]
      simp [upd]
    · rw [if_neg e, hl, hr]
      by_cases h0 : m % 65 = 0
      · rw [h0, pageArr_zero, pageArr_zero]
      · obtain ⟨t, ht⟩ : ∃ t, m % 65 = 1 + t := ⟨m % 65 - 1, by omega⟩
        rw [ht, pageArr_word _ _ _ (by omega), pageArr_word _ _ _ (by omega)]
        simp only [upd]
        rw [if_neg]
        intro e3
        have hNM : N = M := by omega
        subst hNM
        have := rise_get hs hi hM
        omega
  · have n1 : (flat W K)[m]? = none := List.getElem?_eq_none (by rw [flat_length]; omega)
    have n2 : (flat (upd W (64 * N + j) x) K)[m]? = none := List.getElem?_eq_none (by rw [flat_length]; omega)
    rw [n1, n2, if_neg (by omega)]

/-- A word of the reference's row is written. -/
theorem Ref.word (h : Ref w br q a cap K W) {g i j : Nat} {N : Int} (ha : a = some ⟨g, 0, none⟩) (hi : K[i]? = some N) (hj : j < 64) (hne : g ≠ br) (x : Int) : Ref (w.setCell ⟨g, i * 65 + 1 + j, none⟩ (.int .u64 x)) br q a cap K (upd W (64 * N + j) x) := by
  have hil := (List.getElem?_eq_some_iff.1 hi).1
  refine ⟨by rw [Below.heap_setCell _ _ _ _ (Ne.symm hne)]; exact h.s0, ⟨by rw [flat_length], ?_⟩, h.len, h.rise⟩
  rcases h.row.2 with ⟨hv, h0⟩ | ⟨g', c, cur, hv, hg, hh, h1, h2, h3, h4⟩
  · omega
  · rw [ha] at hv
    simp at hv
    obtain ⟨rfl, rfl⟩ := hv
    refine Or.inr ⟨g, cap, cur.setIfInBounds (i * 65 + 1 + j) (.int .u64 x), by rw [ha], Nat.zero_le _, heap_setCell_same hh _, h1, h2, by simpa using h3, ?_⟩
    rw [Array.toList_setIfInBounds, List.take_set, h4]
    exact flat_set h.rise hi hj

theorem Ref.spot (h : Ref w br q a cap K W) {g m : Nat} (ha : a = some ⟨g, 0, none⟩) : w.frozen? ⟨g, m, none⟩ = false := by
  rcases h.row.2 with ⟨hv, h0⟩ | ⟨g', c, cur, hv, hg, hh, h1, h2, h3, h4⟩
  · rw [ha] at hv
    cases hv
  · rw [ha] at hv
    simp at hv
    obtain ⟨rfl, rfl⟩ := hv
    simp [World.frozen?, hh]

/-- What the reference's At tells of a page that is there, with what is then known of the page's word. -/
theorem Ref.at (h : Ref w br q a cap K W) {g : Nat} (ha : a = some ⟨g, 0, none⟩) (x : Int) (hm : x / 64 ∈ K) (w' : World) (hw : Below w.heap.size w w') :
    Calls Try.prog 17 #[.agg #[.int .i64 q, .slice a K.length cap], .int .i64 (x / 64)] w' fun e w'' => ∃ i : Nat, e = .returned (.int .i64 i) ∧ Aside (K[i]? = some (x / 64)) ∧ Below w.heap.size w w'' ∧ w''.cell? ⟨br, 1, none⟩ = some (.slice a K.length cap) ∧ (∀ w', (Instr.indexAt 28 (.slice a K.length cap) (.int .i64 (i : Int))).run Try.prog w' = .ok (.pointer (some ⟨g, i * 65, none⟩)) w') ∧ w''.cell? ⟨g, i * 65 + 1 + (x % 64).toNat, none⟩ = some (.int .u64 (W x)) ∧ w''.frozen? ⟨g, i * 65 + 1 + (x % 64).toNat, none⟩ = false := by
  have h' : Ref w' br q a cap K W := h.below hw
  obtain ⟨g', hrow, hform⟩ := ref_form h'
  have hg : g' = g := by
    rcases hform with e | ⟨e, _⟩
    · rw [ha] at e
      simp at e
      exact e.symm
    · rw [ha] at e
      cases e
  subst hg
  refine (rAt_any hrow q (x / 64) h'.len).mono ?_
  rintro e w2 ⟨(⟨i, rfl, hi⟩ | ⟨rfl, hno⟩), rfl⟩
  · have hb : Below w'.heap.size w' (w'.alloc (.cells #[.int .i64 q, .slice a K.length cap] 30)) := (Below.refl _ _).alloc (Nat.le_refl _) _
    have h2 := h'.below hb
    have hlt := (List.getElem?_eq_some_iff.1 hi).1
    have hc := (hrow.stays hb hrow.lt).word i _ (x % 64).toNat hi (by omega)
    rw [show 64 * (x / 64) + ((x % 64).toNat : Int) = x from by omega] at hc
    exact ⟨i, rfl, hi, hw.trans (hb.mono hw.size), h2.c1, hrow.ix i hlt, hc, h2.spot ha⟩
  · exact absurd hm hno

theorem src_all (h : w.ownsRow 0 49 65 (.slice a K.length cap) K.length (flat W K)) {g : Nat} (ha : a = some ⟨g, 0, none⟩ ∨ (a = none ∧ K.length = 0 ∧ cap = 0)) : SrcRow w a K.length (flat W K) := by
  have := src_lo h ha K.length (Nat.le_refl _)
  rw [List.take_of_length_le (Nat.le_refl _)] at this
  exact this

theorem RStep.word {w1 : World} (h : RStep br w w1) {g : Nat} (hg : w.heap.size ≤ g) (i : Nat) (v : Value) : RStep br w (w1.setCell ⟨g, i, none⟩ v) :=
  ⟨h.os, h.tape, h.output, by simp; exact h.size, fun k hk hne => (Below.heap_setCell _ _ _ _ (by show k ≠ g; omega)).trans (h.kept k hk hne)⟩

theorem rWrite_no (h : Ref w br q a cap K W) (x v : Int) (hne : rdE K x ≠ 0) :
    Calls Try.prog 29 #[.pointer (some ⟨br, 0, none⟩), .int .i64 x, .int .u64 v] w fun e w' => e = .returned (.int .i64 (rdE K x)) ∧ Below w.heap.size w w' := by
  have c0 := h.c0
  have c1 := h.c1
  obtain ⟨g, hrow, _⟩ := ref_form h
  have hrd := rRead_any hrow q x h.len
  have hd : (rdE K x != 0) = true := by simpa using hne
  clear hne
  go_enter Try.func29, Try.ntmps29
  go_wp2_with (go_at_call 28; refine hrd.mono ?_; rintro e w' ⟨rfl, hb⟩)
  go_ret
  exact ⟨rfl, hb⟩

set_option maxHeartbeats 1500000 in
set_option maxRecDepth 100000 in
theorem rWrite_ok (h : Ref w br q a cap K W) (x v : Int) (he : rdE K x = 0) :
    Calls Try.prog 29 #[.pointer (some ⟨br, 0, none⟩), .int .i64 x, .int .u64 v] w fun e w' => e = .returned (.int .i64 0) ∧ ∃ a' cap', Ref w' br q a' cap' K (upd W x v) ∧ RStep br w w' ∧ ∀ k, (Value.slice a' K.length cap').ownBlock = some k → w.heap.size ≤ k := by
  have hsp : isSpanB x 1 = true := by
    cases hs : isSpanB x 1 with
    | true => rfl
    | false => simp [rdE, hs] at he
  have hm : x / 64 ∈ K := by
    by_cases hm : x / 64 ∈ K
    · exact hm
    · simp [rdE, hsp, hm] at he
  have hx : 0 ≤ x ∧ x < 67108864 := by
    simp [isSpanB] at hsp
    omega
  have c0 := h.c0
  have c1 := h.c1
  have hl := h.len
  obtain ⟨g, hrow, hform⟩ := ref_form h
  have hrd := rRead_any hrow q x hl
  rw [he] at hrd
  have HR : Aside (Ref w br q a cap K W) := h
  have HM : Aside _ := hm
  clear he hm hsp h
  go_enter Try.func29, Try.ntmps29
  go_wp2_with fail
  refine hrd.mono ?_
  rintro e w2 ⟨rfl, hb2⟩
  have hR2 := HR.out.below hb2
  have d1 := hR2.c1
  have hbr2 := hR2.lt
  have hb3 := hb2.alloc hb2.size (.cells #[] 49)
  have HS : Aside (SrcRow (w2.alloc (.cells #[] 49)) a K.length (flat W K)) := src_all (HR.out.below hb3).row hform
  have HL : Aside ((flat W K).length = K.length * 65) := flat_length W K
  have hsz2 := hb2.size
  clear c0 c1 hrd hrow hR2
  go_wp2_with (at_builtin; refine wpList_append_pages _ rfl _ _ rfl w.heap.size _ 0 [] rfl (World.ownsRow_made w2 #[] 0 hsz2 (by unfold maxLen; omega) rfl) rfl a K.length cap (flat W K) rfl HL.out HS.out (flat_oneCell _ _) (by omega) (by simp; omega) ?_; intro v3 w3 hown3 hgrow3 hloc3; obtain ⟨a3, cap3, hv3⟩ := row_form hown3; rw [hv3] at hown3 ⊢; clear hloc3 hv3; have hb4 : Below w.heap.size w w3 := hb3.grown hgrow3 hb3.size (fun j hj => by cases hj; exact hsz2); have c4 := (HR.out.below hb4).c1; have f4 := (HR.out.below hb4).fz)
  have hrow' : w3.ownsRow w.heap.size 49 65 (.slice a3 K.length cap3) K.length (flat W K) := by
    simpa using hown3
  have hfr : ∀ k, (Value.slice a3 K.length cap3).ownBlock = some k → w.heap.size ≤ k := fun k hk => (hrow'.lt k hk).1
  obtain ⟨a', cap', hv', hRef, hRS⟩ := HR.out.store hb4 hrow' hfr hl HR.out.rise
  cases hv'
  clear hrow' hown3 hgrow3 hb3 hb2 c4 f4 d1 HS
  generalize hw4 : w3.setCell ⟨br, 1, none⟩ (.slice a3 K.length cap3) = w4 at hRef hRS ⊢
  clear hw4 hb4 w3 v3
  have hK0 : 0 < K.length := List.length_pos_of_mem HM.out
  have hbr := HR.out.lt
  obtain ⟨g4, _, hform4⟩ := ref_form hRef
  have ha3 : a3 = some ⟨g4, 0, none⟩ := by
    rcases hform4 with e | ⟨_, e, _⟩
    · exact e
    · omega
  have hne : g4 ≠ br := by
    have := hfr g4 (by rw [ha3]; rfl)
    omega
  subst ha3
  have hat := hRef.at rfl x HM.out
  have e0 := hRef.c0
  have e1 := hRef.c1
  have HRF : Aside _ := hRef
  have HQ : Hid (IntKind.i64.wrap (x.tdiv 64) = x / 64) := by
    show IntKind.i64.wrap (x.tdiv 64) = x / 64
    rw [Int.tdiv_eq_ediv_of_nonneg (by omega), IntWalk.i64_in _ (by omega)]
  have HT : Hid (x.tmod 64 = x % 64) := Int.tmod_eq_emod_of_nonneg (by omega)
  clear hRef hform hform4
  go_region_with (go_at_call 17; rw [HQ.out, HT.out]; refine (hat _ ?_).mono ?_; (first | exact Below.refl _ _ | exact (Below.refl _ _).drew | exact (Below.refl _ _).drew.drew); rintro e w5 ⟨i, rfl, HI, hb5, k1, k2, k3, k4⟩)
  all_goals
    go_wp2
    go_ret
    have h6 := (HRF.out.below hb5).word rfl HI.out (j := (x % 64).toNat) (by omega) hne v
    rw [show 64 * (x / 64) + ((x % 64).toNat : Int) = x from by omega] at h6
    exact ⟨rfl, _, _, h6, (hRS.trans (RStep.of_below hb5)).word (hfr g4 rfl) _ _, hfr⟩

end Sl
end Go.Proofs.Ytclbaepgodeoiaa
