/-
  Proved below: the place that a small block leaves is the next one's of its class.
-/
import Derived.Test.YtlpdgomoepinjabDoorHLeastG
namespace Go.Proofs.YtlpdgomoepinjabDoor
open Go.RowKit
attribute [local go_sem ↓] Go.wp_at_zero Go.wp_at_succ
namespace Hp
variable {w0 w w' : World} {bh bs bm : Nat} {q : Int} {pg pg' : List (Int × Nat)} {W W' : Int → Int} {L L' : List Pg} {v : Value} {xs : List Int}

theorem Rr.cell {g n cap : Nat} (h : Rr w0 w bh bs bm q pg W L (.slice (some ⟨g, 0, none⟩) n cap) xs) {i : Nat} {a : Int} (ha : xs[i]? = some a) : w.cell? ⟨g, i, none⟩ = some (.int .i64 a) := by
  obtain ⟨hi, e⟩ := List.getElem?_eq_some_iff.1 ha
  obtain ⟨g2, cap2, e2, hc⟩ := h.at hi
  cases e2
  rw [hc, e]

set_option maxRecDepth 100000 in
set_option maxHeartbeats 2000000 in
theorem least_main (x o : Int) (M f : Nat) (hx : 1 ≤ x ∧ x ≤ 4000) (hs : Cl.smaI x = true) (ho : 1 ≤ o ∧ o ≤ 4000) (hso : Cl.smaI o = true) (hcd : Cl.clsI x ≠ Cl.clsI o) (m0 : 1 ≤ M) (m1 : M ≤ 40) (f1 : f < M) (w : World) (hT : Bt.Tab w) :
    Calls Tryd.prog 3 #[.int .i64 x, .int .i64 M, .int .i64 f, .int .i64 o] w fun e w' => e = .returned (.bool true) ∧ K w w' := by
  have hAL : Aside (∀ L, allocL 262144 L x = allocC L (Cl.clsI x)) := fun L => allocC_eq hx hs L
  have hAO : Aside (∀ L, allocL 262144 L o = allocC L (Cl.clsI o)) := fun L => allocC_eq ho hso L
  obtain ⟨c0, c1, _⟩ := cls_in hx hs
  obtain ⟨d0, d1, _⟩ := cls_in ho hso
  have co := Cl.of_any x w
  have cp := fun w => Cl.of_any o w
  rw [hs, Cl.errW_in hx] at co
  simp only [hso, Cl.errW_in ho] at cp
  clear hs hso hx ho
  generalize Cl.clsI x = c at *
  generalize Cl.clsI o = d at *
  have e1 : (c == d) = false := by simpa using hcd
  have hi : (Tryd.prog.info? 3).map (fun i => (i.zero, i.size, i.bytes)) = some (some (.int .i64 0), 1, 8) := by kernel_rfl
  obtain ⟨i0, hi1, hz0, hz1, hz2⟩ := info_parts hi
  have HI : Aside (Tryd.prog.info? 3 = some i0 ∧ i0.zero = some (.int .i64 0) ∧ i0.size = 1 ∧ i0.bytes = 8) := ⟨hi1, hz0, hz1, hz2⟩
  have HF : Aside (∀ a, (runC c M).2[f]? = some a → _) := fun a ha => afterM c0 c1 d0 d1 hcd m0 m1 f1 ha
  have HR : Aside (∀ n, n < 40 → _) := fun n hn => runs c0 c1 (n := n) hn
  clear hi hi1 hz0 hz1 hz2 hcd c0 c1 d0 d1
  go_enter Tryd.func3, Tryd.ntmps3
  go_wp2_with fail
  refine co.mono ?_
  rintro e w1 ⟨rfl, k1⟩
  have k1' := K.cl k1
  clear co k1
  go_wp2_with fail
  refine (cp _).mono ?_
  rintro e w2 ⟨rfl, k2⟩
  have k2' := k1'.trans (K.cl k2)
  clear cp k2 k1'
  have hT2 := hT.keep k2'.toBt
  have md := made_ok 262144 w2 hT2 (by omega) (by omega)
  go_wp2_with fail
  refine md.mono ?_
  rintro e w3 ⟨bh, bs, bm, rfl, r3, _⟩
  have R0 := Rr.first r3 (lt0 hT2)
  clear md r3
  go_wp2
  go_loopg [18, 19] M (fun gh t18 t19 wx => ∃ i : Nat, i + gh = M ∧ t19 = .int .i64 i ∧ ∃ pg W, Rr w2 wx bh bs bm 262144 pg W (runC c i).1 t18 (runC c i).2)
  case atStart => exact ⟨0, by omega, rfl, _, _, R0⟩
  case round =>
    obtain ⟨i, hig, rfl, pg, W, hr⟩ := hrel
    by_cases hlt : i < M
    · obtain ⟨a, ha⟩ : ∃ a, a = (allocC (runC c i).1 c).1 := ⟨_, rfl⟩
      have hal := HR.out i (by omega)
      rw [← ha] at hal
      have ca := hr.alloc x _ _ _ ((hAL.out _).trans hal)
      have HA : Aside ((runC c (i + 1)).2 = (runC c i).2 ++ [a]) := by
        rw [ha]
        rfl
      have HLn : Aside _ := runC_len c i
      obtain ⟨L1, HL1⟩ : ∃ L1, Aside (L1 = (runC c (i + 1)).1) := ⟨_, rfl⟩
      rw [← HL1.out] at ca
      clear ha hal hr
      generalize (runC c i).1 = L0 at *
      generalize (runC c i).2 = X0 at *
      obtain ⟨hi1, hz0, hz1, hz2⟩ := HI.out
      go_wp2_with fail
      refine ca.mono ?_
      rintro e w4 ⟨rfl, pg4, W4, r4⟩
      have hrow := r4.row
      have hsz := r4.rn.k.size
      rw [HLn.out] at hrow
      clear ca
      go_wp2_with (at_builtin; refine wpList_append_own_at _ rfl _ _ 30 rfl w2.heap.size 3 i0 (.int .i64 0) 1 8 Tryd.underlying30 hi1 hz0 hz1 hz2 rfl (by decide) _ _ _ rfl (hrow.alloc _) ⟨w4.heap.size, 0, none⟩ 1 1 [.int .i64 a] rfl rfl (cell_one_new _ _ _) (ints_oneCell .i64 [a]) (by unfold maxLen; omega) (by omega) (by simp; omega) ?_; intro v' w5 hown' hgrow hnil hat)
      go_roundg (M - (i + 1))
      case measure => omega
      case rel =>
        refine ⟨i + 1, by omega, by go_num, pg4, W4, ?_⟩
        rw [HA.out, ← HL1.out]
        rw [← HLn.out] at hown'
        exact r4.app hown' hgrow hat
    · obtain rfl : i = M := by omega
      have hl := runC_len c i
      obtain ⟨a, ha⟩ : ∃ a, (runC c i).2[f]? = some a := ⟨_, List.getElem?_eq_getElem (by omega)⟩
      obtain ⟨g, cap, rfl, hz⟩ := hr.at (i := f) (by omega)
      clear hz
      rw [hl] at hr ⊢
      obtain ⟨hIn, p, s, hfd, x1, y1, L2, L3, hx1, hy1, hq1, hq2⟩ := HF.out a ha
      have hc := hr.cell ha
      have cf := hr.free a hIn p s _ hfd rfl
      have HX : Aside _ := (hAO.out _).trans hx1
      have HY : Aside _ := (hAL.out _).trans hy1
      have HQ1 : Aside _ := hq1
      have HQ2 : Aside _ := hq2
      have HA : Aside _ := ha
      clear hr hx1 hy1 hq1 hq2 hfd ha hl
      generalize (runC c i).2 = X0 at *
      generalize (runC c i).1 = L0 at *
      go_wp2_with fail
      refine cf.mono ?_
      rintro e w5 ⟨rfl, pg5, W5, r5⟩
      have ca := r5.alloc o _ _ _ HX.out
      clear cf hc
      go_wp2_with fail
      refine ca.mono ?_
      rintro e w6 ⟨rfl, pg6, W6, r6⟩
      have cb := r6.alloc x _ _ _ HY.out
      clear ca r5
      go_wp2_with fail
      refine cb.mono ?_
      rintro e w7 ⟨rfl, pg7, W7, r7⟩
      have hc := r7.cell HA.out
      have aw := awake_any w7 r7.rn.st.hw.tab
      have kk := k2'.trans r7.rn.k
      clear cb r6 r7
      by_cases h1 : i = 1
      · have h2 : (x1 != y1) = true := by simp only [bne, HQ1.out h1]; rfl
        subst h1
        go_wp2_with (go_at_call 5; refine aw.mono ?_; rintro e w8 ⟨rfl, k8⟩)
        go_ret
        exact ⟨rfl, kk.trans k8⟩
      · have h0 : ((i : Int) == 1) = false := by rw [beq_eq_false_iff_ne]; omega
        have hw : wrap64 ((i : Int) - 1) = (i : Int) - 1 := by unfold wrap64; omega
        by_cases h3 : f + 1 = i
        · have h4 : ((f : Int) == (i : Int) - 1) = true := by rw [beq_iff_eq]; omega
          go_wp2_with (go_at_call 5; refine aw.mono ?_; rintro e w8 ⟨rfl, k8⟩)
          go_ret
          exact ⟨rfl, kk.trans k8⟩
        · obtain ⟨h5, h6⟩ := HQ2.out h1 h3
          subst h6
          have h7 : (x1 != y1) = true := by simp only [bne, h5]; rfl
          have h4 : ((f : Int) == (i : Int) - 1) = false := by rw [beq_eq_false_iff_ne]; omega
          go_wp2_with (go_at_call 5; refine aw.mono ?_; rintro e w8 ⟨rfl, k8⟩)
          go_ret
          exact ⟨rfl, kk.trans k8⟩

set_option maxRecDepth 100000 in
set_option maxHeartbeats 2000000 in
theorem least_out (x m f o : Int) (hno : ¬ ((1 ≤ x ∧ x ≤ 4000) ∧ (1 ≤ o ∧ o ≤ 4000) ∧ Cl.smaI x = true ∧ Cl.smaI o = true ∧ Cl.clsI x ≠ Cl.clsI o ∧ 1 ≤ m ∧ m ≤ 40 ∧ 0 ≤ f ∧ f < m)) (w : World) (hT : Bt.Tab w) :
    Calls Tryd.prog 3 #[.int .i64 x, .int .i64 m, .int .i64 f, .int .i64 o] w fun e w' => e = .returned (.bool true) ∧ K w w' := by
  have hN : Aside ¬ ((Cl.errW x = 0) ∧ (Cl.errW o = 0) ∧ Cl.smaI x = true ∧ Cl.smaI o = true ∧ Cl.clsI x ≠ Cl.clsI o ∧ 1 ≤ m ∧ m ≤ 40 ∧ 0 ≤ f ∧ f < m) := by
    intro ⟨h1, h2, h3⟩
    refine hno ⟨?_, ?_, h3⟩
    · by_cases h : 1 ≤ x ∧ x ≤ 4000
      · exact h
      · rw [show Cl.errW x = 2 from if_neg h] at h1; cases h1
    · by_cases h : 1 ≤ o ∧ o ≤ 4000
      · exact h
      · rw [show Cl.errW o = 2 from if_neg h] at h2; cases h2
  clear hno
  have co := Cl.of_any x w
  have cp := fun w => Cl.of_any o w
  have aw : ∀ w1, K w w1 → Calls Tryd.prog 5 #[] w1 fun e w' => e = .returned (.bool true) ∧ K w w' := fun w1 k1 => (awake_any w1 (hT.keep k1.toBt)).mono fun _ _ r => ⟨r.1, k1.trans r.2⟩
  generalize Cl.clsI x = c at *
  generalize Cl.clsI o = d at *
  generalize Cl.smaI x = b1 at *
  generalize Cl.smaI o = b2 at *
  generalize Cl.errW x = e1 at *
  generalize Cl.errW o = e2 at *
  go_enter Tryd.func3, Tryd.ntmps3
  go_wp2_with fail
  refine co.mono ?_
  rintro e w1 ⟨rfl, k1⟩
  have k1' := K.cl k1
  clear co k1
  go_wp2_with fail
  refine (cp _).mono ?_
  rintro e w2 ⟨rfl, k2⟩
  have k2' := k1'.trans (K.cl k2)
  clear cp k2 k1'
  have aw2 := aw w2 k2'
  by_cases h1 : e1 = 0
  · subst h1
    by_cases h2 : e2 = 0
    · subst h2
      cases b1 with
      | false =>
        go_wp2_with (go_at_call 5; refine aw2.mono ?_; rintro e w8 ⟨rfl, k8⟩)
        go_ret
        exact ⟨rfl, k8⟩
      | true =>
        cases b2 with
        | false =>
          go_wp2_with (go_at_call 5; refine aw2.mono ?_; rintro e w8 ⟨rfl, k8⟩)
          go_ret
          exact ⟨rfl, k8⟩
        | true =>
          by_cases h3 : c = d
          · subst h3
            go_wp2_with (go_at_call 5; refine aw2.mono ?_; rintro e w8 ⟨rfl, k8⟩)
            go_ret
            exact ⟨rfl, k8⟩
          · have h3' : (c == d) = false := by simpa using h3
            have hN2 : ¬ (1 ≤ m ∧ m ≤ 40 ∧ 0 ≤ f ∧ f < m) := fun h => hN.out ⟨rfl, rfl, rfl, rfl, h3, h⟩
            by_cases h4 : m < 1
            · go_wp2_with (go_at_call 5; refine aw2.mono ?_; rintro e w8 ⟨rfl, k8⟩)
              go_ret
              exact ⟨rfl, k8⟩
            · by_cases h5 : 40 < m
              · go_wp2_with (go_at_call 5; refine aw2.mono ?_; rintro e w8 ⟨rfl, k8⟩)
                go_ret
                exact ⟨rfl, k8⟩
              · by_cases h6 : f < 0
                · go_wp2_with (go_at_call 5; refine aw2.mono ?_; rintro e w8 ⟨rfl, k8⟩)
                  go_ret
                  exact ⟨rfl, k8⟩
                · have h7 : m ≤ f := by omega
                  clear hN2
                  go_wp2_with (go_at_call 5; refine aw2.mono ?_; rintro e w8 ⟨rfl, k8⟩)
                  go_ret
                  exact ⟨rfl, k8⟩
    · have h3 : (e2 == 0) = false := by simpa using h2
      go_wp2_with (go_at_call 5; refine aw2.mono ?_; rintro e w8 ⟨rfl, k8⟩)
      go_ret
      exact ⟨rfl, k8⟩
  · have h2 : (e1 == 0) = false := by simpa using h1
    go_wp2_with (go_at_call 5; refine aw2.mono ?_; rintro e w8 ⟨rfl, k8⟩)
    go_ret
    exact ⟨rfl, k8⟩

theorem least_walk (x m f o : Int) (_ : In64 x) (_ : In64 m) (_ : In64 f) (_ : In64 o) (w : World) (hT : Bt.Tab w) : Calls Tryd.prog 3 #[.int .i64 x, .int .i64 m, .int .i64 f, .int .i64 o] w fun e w' => e = .returned (.bool true) ∧ K w w' := by
  by_cases h : (1 ≤ x ∧ x ≤ 4000) ∧ (1 ≤ o ∧ o ≤ 4000) ∧ Cl.smaI x = true ∧ Cl.smaI o = true ∧ Cl.clsI x ≠ Cl.clsI o ∧ 1 ≤ m ∧ m ≤ 40 ∧ 0 ≤ f ∧ f < m
  · obtain ⟨hx, ho, hs, hso, hcd, m0, m1, f0, f1⟩ := h
    obtain ⟨M, rfl⟩ := Int.eq_ofNat_of_zero_le (show 0 ≤ m by omega)
    obtain ⟨F, rfl⟩ := Int.eq_ofNat_of_zero_le f0
    exact least_main x o M F hx hs ho hso hcd (by omega) (by omega) (by omega) w hT
  · exact least_out x m f o h w hT

end Hp
end Go.Proofs.YtlpdgomoepinjabDoor
