/-
  The walk of the reference's Claim.
-/
import Derived.Test.YtclbaepgodeoiaaRefGrant
namespace Go.Proofs.Ytclbaepgodeoiaa
open Go.RowKit Go.Maps
namespace Sl
variable {w : World} {br : Nat} {q : Int} {a : Option Addr} {cap : Nat} {K : List Int} {W : Int → Int}

def rcE (q : Int) (K : List Int) (p : Int) : Int := if isPageB p = false then 2 else if p ∈ K then 6 else if 64 * ((K.length : Int) + 1) ≤ q then 0 else 3

set_option maxHeartbeats 1000000 in
set_option maxRecDepth 100000 in
theorem rClaim_no (h : Ref w br q a cap K W) (p : Int) (hne : rcE q K p ≠ 0) :
    Calls Try.prog 31 #[.pointer (some ⟨br, 0, none⟩), .int .i64 p] w fun e w' => e = .returned (.int .i64 (rcE q K p)) ∧ Below w.heap.size w w' := by
  have hl := h.len
  have c0 := h.c0
  have c1 := h.c1
  have hbr := h.lt
  cases hc : isPageB p with
  | false =>
    have HE : Hid (rcE q K p = 2) := by simp [rcE, hc, Hid]
    simp [isPageB] at hc
    clear hne
    by_cases h1 : p < 0
    · go_enter Try.func31, Try.ntmps31
      go_wp2
      go_ret
      exact ⟨by rw [HE.out]; rfl, Below.refl _ _⟩
    · have h2 : 1048576 ≤ p := by omega
      go_enter Try.func31, Try.ntmps31
      go_wp2
      go_ret
      exact ⟨by rw [HE.out]; rfl, Below.refl _ _⟩
  | true =>
    have hb : 0 ≤ p ∧ p ≤ 1048575 := by simpa [isPageB] using hc
    obtain ⟨g, hrow, hform⟩ := ref_form h
    have hat := rAt_any hrow q p hl
    by_cases hm : p ∈ K
    · have HE : Hid (rcE q K p = 6) := by simp [rcE, hc, hm, Hid]
      have HM : Aside _ := hm
      clear hne hc hm
      go_enter Try.func31, Try.ntmps31
      go_wp2_with fail
      refine hat.mono ?_
      rintro e w2 ⟨(⟨i, rfl, hi⟩ | ⟨rfl, hno⟩), rfl⟩
      · clear hi
        go_wp2
        go_ret
        exact ⟨by rw [HE.out]; rfl, (Below.refl _ _).alloc (Nat.le_refl _) _⟩
      · exact absurd HM.out hno
    · have hq : ¬ 64 * ((K.length : Int) + 1) ≤ q := fun hq => hne (by simp [rcE, hc, hm, hq])
      have HE : Hid (rcE q K p = 3) := by simp [rcE, hc, hm, hq, Hid]
      have HM : Aside _ := hm
      have hq2 : q < 64 * ((K.length : Int) + 1) := by omega
      clear hne hc hm hq
      go_enter Try.func31, Try.ntmps31
      go_wp2_with fail
      refine hat.mono ?_
      rintro e w2 ⟨(⟨i, rfl, hi⟩ | ⟨rfl, hno⟩), rfl⟩
      · exact absurd (List.mem_of_getElem? hi) HM.out
      · clear hno
        have hbA : Below w.heap.size w (w.alloc (.cells #[.int .i64 q, .slice a K.length cap] 30)) := (Below.refl _ _).alloc (Nat.le_refl _) _
        have hR2 := h.below hbA
        have d0 := hR2.c0
        have d1 := hR2.c1
        generalize w.alloc (.cells #[.int .i64 q, .slice a K.length cap] 30) = w2 at *
        go_wp2
        go_quiet (fail)
        go_wp2
        go_ret
        exact ⟨by rw [HE.out]; rfl, hbA.trans ⟨rfl, rfl, rfl, Nat.le_refl _, fun _ _ => rfl⟩⟩

set_option maxHeartbeats 1500000 in
set_option maxRecDepth 100000 in
theorem rClaim_ok (h : Ref w br q a cap K W) (p : Int) (he : rcE q K p = 0) (hz : ∀ j : Nat, j < 64 → W (64 * p + j) = 0) (K' : List Int) (hK' : K'.Pairwise (fun x y => x < y)) (hmem : ∀ x, x ∈ K' ↔ x ∈ K ∨ x = p) (hl' : K'.length ≤ 4096) :
    Calls Try.prog 31 #[.pointer (some ⟨br, 0, none⟩), .int .i64 p] w fun e w' => e = .returned (.int .i64 0) ∧ ∃ a' cap', Ref w' br q a' cap' K' W ∧ RStep br w w' ∧ ∀ k, (Value.slice a' K'.length cap').ownBlock = some k → w.heap.size ≤ k := by
  have hc : isPageB p = true := by
    cases hc : isPageB p with
    | true => rfl
    | false => simp [rcE, hc] at he
  have hm : p ∉ K := fun hm => by simp [rcE, hc, hm] at he
  have hq : 64 * ((K.length : Int) + 1) ≤ q := by
    by_cases hq : 64 * ((K.length : Int) + 1) ≤ q
    · exact hq
    · simp [rcE, hc, hm, hq] at he
  have hb : 0 ≤ p ∧ p ≤ 1048575 := by simpa [isPageB] using hc
  have c0 := h.c0
  have c1 := h.c1
  have hl := h.len
  have hbr := h.lt
  obtain ⟨g0, hrow0, hform0⟩ := ref_form h
  have hat := rAt_any hrow0 q p hl
  have HR : Aside (Ref w br q a cap K W) := h
  have HM : Aside (p ∉ K ∧ ∀ j : Nat, j < 64 → W (64 * p + j) = 0) := ⟨hm, hz⟩
  have HK : Aside (K'.Pairwise (fun x y => x < y) ∧ (∀ x, x ∈ K' ↔ x ∈ K ∨ x = p) ∧ K'.length ≤ 4096) := ⟨hK', hmem, hl'⟩
  clear h hm hz hK' hmem hl' he hc hrow0 hform0
  go_enter Try.func31, Try.ntmps31
  go_wp2_with fail
  refine hat.mono ?_
  rintro e w2 ⟨(⟨i, rfl, hi⟩ | ⟨rfl, hno⟩), rfl⟩
  · exact absurd (List.mem_of_getElem? hi) HM.out.1
  have hbA : Below w.heap.size w (w.alloc (.cells #[.int .i64 q, .slice a K.length cap] 30)) := (Below.refl _ _).alloc (Nat.le_refl _) _
  have hRA := HR.out.below hbA
  have d0 := hRA.c0
  have d1 := hRA.c1
  clear hno hat c0 c1
  generalize w.alloc (.cells #[.int .i64 q, .slice a K.length cap] 30) = w2 at *
  go_wp2
  go_quiet (fail)
  go_wp2
  clear d0 d1 hRA
  go_loopg [5] K.length (fun gh t wx => ∃ k : Nat, k + gh = K.length ∧ t = .int .i64 k ∧ Aside (∀ x ∈ K.take k, x < p) ∧ Below w.heap.size w wx)
  case atStart => exact ⟨0, by omega, rfl, fun x hx => by simp at hx, hbA.trans ⟨rfl, rfl, rfl, Nat.le_refl _, fun _ _ => rfl⟩⟩
  case round =>
    obtain ⟨k, hkg, rfl, HT, hbel3⟩ := hrel
    clear hbA
    have hR3 := HR.out.below hbel3
    have c1 := hR3.c1
    obtain ⟨g, hrow, hform⟩ := ref_form hR3
    by_cases hstop : ∃ N, K[k]? = some N ∧ N < p
    · obtain ⟨N, hN, hNf⟩ := hstop
      have hkl : k < K.length := (List.getElem?_eq_some_iff.1 hN).1
      have hix := hrow.ix k hkl
      have hc := hrow.num k N hN
      have HN : Aside _ := hN
      clear hN
      go_wp2
      go_roundg (K.length - (k + 1))
      case measure => omega
      case rel =>
        refine ⟨k + 1, by omega, by go_num, fun x hx => ?_, hbel3⟩
        rcases (mem_take_succ HN.out).1 hx with h1 | h1
        · exact HT.out x h1
        · omega
    · have HC : Aside (Cut K p k) := cut_of HR.out.rise (by omega) HT.out (fun N hN => by
        by_cases e : N < p
        · exact absurd ⟨N, hN, e⟩ hstop
        · omega)
      have hcap := hR3.cap_le
      have hsz := hbel3.size
      have hcl := run_cut_lo a g K.length cap k hform (by omega) hcap
      obtain ⟨oa, hch, hoa⟩ := run_cut_hi a g K.length cap k hform (by omega) hcap
      have hbel4 := hbel3.alloc hbel3.size (.cells #[] 49)
      have hR4 := HR.out.below hbel4
      have HL0 : Aside ((flat W (K.take k)).length = k * 65) := by
        show _ = _
        rw [flat_length, List.length_take, Nat.min_eq_left (by omega)]
      have HO : Aside _ := hoa
      have HSRC : Aside (SrcRow (wr.alloc (.cells #[] 49)) a k (flat W (K.take k))) := src_lo hR4.row hform k (by omega)
      clear hoa hR4
      have hkle : k ≤ K.length := by omega
      have hbrx := hR3.lt
      have tok1 : True := trivial
      have tok2 : True := trivial
      have HPZ : Aside (pageArr (fun _ => 0) p = pageArr W p) := page_zero HM.out.2
      have HL2 : Aside ((flat W (K.drop k)).length = (K.length - k) * 65) := by
        show _ = _
        rw [flat_length, List.length_drop]
      by_cases hkl : k < K.length
      all_goals
        try (
          obtain ⟨N, hN⟩ := get_lt hkl
          have hNf : p ≤ N := by
            by_cases e : N < p
            · exact absurd ⟨N, hN, e⟩ hstop
            · omega
          have hix := hrow.ix k hkl
          have hc := hrow.num k N hN
          clear hN)
        clear hstop HT hrow
        go_wp2_with (first
          | (at_builtin; have _t := tok1; refine wpList_append_pages _ rfl _ _ rfl w.heap.size _ 0 [] rfl (World.ownsRow_made wr #[] 0 hsz (by unfold maxLen; omega) rfl) rfl a k cap (flat W (K.take k)) rfl HL0.out HSRC.out (flat_oneCell _ _) (by omega) (by simp; omega) ?_; intro v1 w3 hown1 hgrow1 hloc1; clear tok1 _t; have hb3 : Below w.heap.size w w3 := hbel4.grown hgrow1 hbel4.size (fun j hj => by cases hj; exact hsz); have hv1 : v1.ownBlock.isSome = true := by { rcases hloc1 with e | e <;> rw [e] <;> rfl }; have hsz3 := hb3.size; clear hgrow1 hloc1)
          | ((with_reducible refine wpList_build_page p ?_ ?_); · rfl)
          | ((with_reducible refine wpList_one_page (pageArr (fun _ => 0) p) (pageArr_size _ _) ?_ ?_); · rfl)
          | (at_builtin; have _t := tok2; refine wpList_append_pages _ rfl _ _ rfl w.heap.size _ _ _ rfl (hown1.alloc _) hv1 (some ⟨w3.heap.size, 0, none⟩) 1 1 (pageArr (fun _ => 0) p).toList rfl (page_len _ _) (src_page _ _) (page_one _ _) (by omega) (by simp; omega) ?_; intro v2 w4 hown2 hgrow2 hloc2; clear tok2 _t; have hb4 : Below w.heap.size w w4 := (hb3.alloc hsz3 _).grown hgrow2 (by simp; omega) (fun j hj => (hown1.lt j hj).1); have hv2 : v2.ownBlock.isSome = true := by { rcases hloc2 with e | e <;> rw [e]; exact hv1; rfl }; have hsz4 := hb4.size; have hR4 := HR.out.below hb4; have c4 := hR4.c1; have hbr4 := hR4.lt; have HS2 : Aside _ := src_hi hR4.row hform k hkle HO.out; clear hgrow2 hloc2 hR4)
          | (at_builtin; refine wpList_append_pages _ rfl _ _ rfl w.heap.size _ _ _ rfl hown2 hv2 oa (K.length - k) (cap - k) (flat W (K.drop k)) rfl HL2.out HS2.out (flat_oneCell _ _) (by omega) hsz4 ?_; intro v3 w5 hown3 hgrow3 hloc3; obtain ⟨a2, cap2, hv3⟩ := row_form hown3; rw [hv3] at hown3 ⊢; clear hloc3 hv3; have hb5 : Below w.heap.size w w5 := hb4.grown hgrow3 hsz4 (fun j hj => (hown2.lt j hj).1); have c5 := (HR.out.below hb5).c1; have f5 := (HR.out.below hb5).fz))
        have hf : freeK K p ((1 : Nat) : Int) := fun N hN h3 => HM.out.1 (by rw [show p = N from by omega]; exact hN)
        have hKK : K.take k ++ run p 1 ++ K.drop k = K' := rise_ext (cut_rise HR.out.rise HC.out hf) HK.out.1 (fun x => by rw [cut_mem, HK.out.2.1 x]; constructor <;> (rintro (h1 | h1); exact Or.inl h1; exact Or.inr (by omega)))
        have e : 0 + k + 1 + (K.length - k) = K'.length := by
          rw [← hKK, List.length_append, List.length_append, run_length, List.length_take, List.length_drop, Nat.min_eq_left hkle]
          omega
        have e2 : k + 1 + (K.length - k) = K'.length := by omega
        have hrow' : w5.ownsRow w.heap.size 49 65 (.slice a2 K'.length cap2) K'.length (flat W K') := by
          rw [e] at hown3
          rw [← hKK, flat_append, flat_append, hKK, show run p 1 = [p] from by simp [run], flat_one, ← HPZ.out]
          exact hown3
        obtain ⟨a', cap', hv', hRef, hRS⟩ := HR.out.store hb5 hrow' (fun j hj => (hrow'.lt j hj).1) HK.out.2.2 HK.out.1
        go_ret
        first | rw [e] | rw [e2]
        exact ⟨rfl, a', cap', hRef, hRS, fun j hj => by rw [← hv'] at hj; exact (hrow'.lt j hj).1⟩

end Sl
end Go.Proofs.Ytclbaepgodeoiaa
