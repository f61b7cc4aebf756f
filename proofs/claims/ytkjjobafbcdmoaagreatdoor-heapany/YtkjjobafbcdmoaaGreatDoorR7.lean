/-
  The reference's Slide: a small block, where a slot of its class is free.
-/
import Derived.Test.YtkjjobafbcdmoaaGreatDoorR6
namespace Go.Proofs.YtkjjobafbcdmoaaGreatDoor
open Go.RowKit Go.Maps
namespace Hp
variable {w w' : World} {br : Nat} {q : Int} {a : Option Addr} {cap : Nat} {E E' : List Re}

theorem updR {L : List Pg} (l : Wl L) {p p' : Pg} (hp : p ∈ L) (hn : p'.n = p.n) (hs : p'.span = p.span) (he : Ent p') : Wl (updL L p.n p') := by
  refine ⟨fun r hr => ?_, ?_, fun r hr => ?_⟩
  · rcases mem_upd hr with rfl | ⟨h3, _⟩
    · exact he
    · exact l.ent r h3
  · unfold Srt updL
    rw [List.pairwise_map]
    refine List.Pairwise.imp_of_mem (fun {a b} ha hb hab => ?_) l.srt
    have e : ∀ x ∈ L, (if x.n = p.n then p' else x).n = x.n ∧ (if x.n = p.n then p' else x).span = x.span := fun x hx => by
      split
      · rename_i hx2
        have := l.inj hx hp hx2
        subst this
        exact ⟨hn, hs⟩
      · exact ⟨rfl, rfl⟩
    rw [(e a ha).1, (e a ha).2, (e b hb).1]
    exact hab
  · rcases mem_upd hr with rfl | ⟨h3, _⟩
    · rw [hn]; exact l.n0 p hp
    · exact l.n0 r h3
theorem Eo.setT (hE : Eo E) {i : Nat} {p : Pg} {j t : Int} (he : E[i]? = some (p, j)) (hp : Ent (withT p t)) : Eo (E.set i (withT p t, j)) ∧ entsR (E.set i (withT p t, j)) = updL (entsR E) p.n (withT p t) := by
  have hu := entsR_upd (e' := (withT p t, j)) hE he
  have hm : p ∈ entsR E := List.mem_map.2 ⟨(p, j), List.mem_of_getElem? he, rfl⟩
  refine ⟨⟨?_, by rw [List.length_set]; exact hE.len, fun e hx => ?_⟩, hu⟩
  · rw [hu]
    exact updR hE.wl hm rfl rfl hp
  · rcases List.mem_or_eq_of_mem_set hx with h | rfl
    · exact hE.n1 e h
    · exact hE.n1 (p, j) (List.mem_of_getElem? he)
/-- What stands at the block's own entry when a slot has been taken. -/
theorem turn_at (hE : Eo E) {i i2 : Nat} {p p2 : Pg} {j j2 t : Int} (he : E[i]? = some (p, j)) (he2 : E[i2]? = some (p2, j2)) : ∃ j', (E.set i2 (withT p2 t, j2))[i]? = some (if p.n = p2.n then withT p2 t else p, j') := by
  have hm : p ∈ entsR E := List.mem_map.2 ⟨(p, j), List.mem_of_getElem? he, rfl⟩
  have hm2 : p2 ∈ entsR E := List.mem_map.2 ⟨(p2, j2), List.mem_of_getElem? he2, rfl⟩
  by_cases hi : i = i2
  · subst hi
    rw [he] at he2
    injection he2 with e
    injection e with e1 e2
    subst e1 e2
    exact ⟨j, by rw [if_pos rfl, List.getElem?_set_self (List.getElem?_eq_some_iff.1 he).1]⟩
  · refine ⟨j, ?_⟩
    rw [List.getElem?_set_ne (fun e => hi e.symm), he, if_neg]
    intro hn
    have h1 : (entsR E)[i]? = some p := by simp [entsR, he]
    have h2 : (entsR E)[i2]? = some p2 := by simp [entsR, he2]
    obtain ⟨i1, i2'⟩ := List.getElem?_eq_some_iff.1 h1
    obtain ⟨j1, j2'⟩ := List.getElem?_eq_some_iff.1 h2
    have hs1 := (hE.spans _ hm).1
    have hs2 := (hE.spans _ hm2).1
    have hp := List.pairwise_iff_getElem.1 hE.wl.srt
    by_cases hlt : i < i2
    · have := hp i i2 i1 j1 hlt
      rw [i2', j2'] at this
      omega
    · have := hp i2 i j1 i1 (by omega)
      rw [i2', j2'] at this
      omega

set_option maxRecDepth 100000 in
set_option maxHeartbeats 4000000 in
theorem rSlide_some (h : Rf w br q a cap E) (hE : Eo E) (x : Int) {p : Pg} {s : Int} (hf : findB (entsR E) x = some (p, s)) (h1 : p.kind = 1) {p2 : Pg} {s2 : Int} (hfb : freeB (entsR E) p.cls = some (p2, s2)) : Calls Tryz.prog 34 #[.pointer (some ⟨br, 0, none⟩), .int .i64 x] w fun e w' => (x < addrI p2 s2 ∧ e = .returned (.tuple #[.int .i64 x, .int .i64 0]) ∧ RPost w br q E w') ∨ (¬ x < addrI p2 s2 ∧ e = .returned (.tuple #[.int .i64 (addrI p2 s2), .int .i64 0]) ∧ ∃ E', entsR E' = slideS (entsR E) p s p2 s2 ∧ RPost w br q E' w') := by
  obtain ⟨g, hrow, hform, hcap⟩ := h.form
  have cf := rFind_any (q := q) hrow hE x
  have c0 := h.c0
  have c1 := h.c1
  have s0 := h.s0
  have hbr := h.lt
  have HROW : Aside _ := hrow
  have HR : Aside _ := h
  have HE : Aside _ := hE
  have C1 : Aside (∀ wx, K w wx → wx.cell? ⟨br, 1, none⟩ = some (.slice a E.length cap)) := fun wx k => (h.keep k).c1
  have HL0 : Aside ((reVals E).length = E.length * 36) := reVals_len E
  have HL : Aside (E.length ≤ 64) := hE.len
  have HSRC : Aside (∀ wx, K w wx → SrcR wx a E.length (reVals E)) := fun wx k => by
    have := src_lo (hrow.keep k) hform E.length (Nat.le_refl _)
    rw [List.take_length] at this
    exact this
  have RZ : Aside (∀ wx, K w wx → (wx.alloc (.cells #[] 94)).ownsRow w.heap.size 94 36 (.slice (some ⟨wx.heap.size, 0, none⟩) 0 0) 0 []) := fun wx kx => World.ownsRow_lit (base := w.heap.size) (e := 94) (size := 36) wx #[] 0 (Kept.size kx) (by simp [maxLen]) rfl
  obtain ⟨hpm2, h12, hc2, s20, s21, hbit⟩ := freeB_some hfb
  obtain ⟨k2, rfl⟩ : ∃ k2 : Nat, s2 = (k2 : Int) := ⟨s2.toNat, by omega⟩
  have hp2 : Ent p2 := hE.wl.ent _ hpm2
  have hp2e : Ent (withT p2 (Bt.setI p2.taken k2)) := ent_setR hp2 h12 s20 (by rw [hc2]; exact s21)
  have hn2 : (k2 : Int) < nslI p2 := by
    unfold nslI
    rw [if_neg (by omega), hc2]
    exact s21
  have hr2 := nsl_range hp2
  have k31 : k2 < 31 := by omega
  have hset : ∀ j, (reList (p2, j)).set (5 + k2) (.bool true) = reList (withT p2 (Bt.setI p2.taken k2), j) := fun j => reList_turn h12 k31 fun m hm => by
    rw [has_set ⟨by omega, by omega⟩ ⟨by omega, by omega⟩]
    by_cases e : m = k2
    · subst e
      simp
    · have : ¬ ((m : Int) = (k2 : Int)) := by omega
      simp [this, e]
  have HSET : Aside _ := hset
  have HP2 : Aside (Ent p2 ∧ Ent (withT p2 (Bt.setI p2.taken k2)) ∧ (k2 : Int) < nslI p2) := ⟨hp2, hp2e, hn2⟩
  have hn20 : 0 ≤ p2.n := hE.wl.n0 _ hpm2
  have hn21 : p2.n ≤ 4096 := by
    obtain ⟨e, he, rfl⟩ := List.mem_map.1 hpm2
    exact hE.n1 e he
  clear h hE hrow hform hcap hp2 hp2e hn2 hset hpm2 hc2 s20 s21 hbit hr2
  go_enter Tryz.func34, Tryz.ntmps34
  go_wp2_with fail
  refine cf.mono ?_
  rintro e w1 ⟨(⟨i, k, rfl, hh⟩ | ⟨rfl, hn⟩), k1⟩
  · obtain ⟨⟨p', j⟩, he', hk, ht, hf2⟩ := hit_find HE.out hh
    rw [hf] at hf2
    obtain ⟨rfl, rfl⟩ : p = p' ∧ s = (k : Int) := by injection hf2 with e; injection e with e1 e2; exact ⟨e1, e2⟩
    have he : E[i]? = some (p, j) := he'
    have hi : i < E.length := (List.getElem?_eq_some_iff.1 he).1
    have HKN : Aside ((k : Int) < nslI p) := hk
    have HEI : Aside _ := he
    have hix := HROW.out.ix i hi
    have c11 := k1.cell c1
    have c01 := k1.cell c0
    have hl : lgB p = false := by simp [lgB, h1]
    have d4 : w1.cell? ⟨g, i * 36 + 4, none⟩ = some (.bool false) := by rw [← hl]; exact ((HROW.out.keep k1).at he).2.2.2.2
    have d2 : w1.cell? ⟨g, i * 36 + 2, none⟩ = some (.int .i64 p.cls) := ((HROW.out.keep k1).at he).2.2.1
    have CSS : Aside (∀ wx, K w1 wx → Calls Tryz.prog 54 #[.agg #[.int .i64 q, .slice a E.length cap], .int .i64 p.cls] wx fun e w' => (∃ (i2 : Nat) (j2 : Int), e = .returned (.tuple #[.int .i64 i2, .int .i64 k2]) ∧ E[i2]? = some (p2, j2)) ∧ K wx w') := fun wx kx => (rspot_any (q := q) (HROW.out.keep (k1.trans kx)) HE.out p.cls).mono fun e w' ⟨h2, h3⟩ => by
      rcases h2 with ⟨i2, kk, pp, j2, h4, h5, h6⟩ | ⟨_, h4⟩
      · rw [hfb] at h6
        injection h6 with h6
        injection h6 with h6 h7
        subst h6
        rw [← h7] at h4
        exact ⟨⟨i2, j2, h4, h5⟩, h3⟩
      · rw [hfb] at h4
        cases h4
    have cpl := fun j2 w => rPlace_any p2 j2 k2 HP2.out.1 hn20 (by omega) HP2.out.2.2 w
    have HCP : Aside _ := cpl
    clear hf hf2 he' hh ht hk cf hfb c0 c1 s0 he hl cpl
    go_wp2
    by_cases hlt : x < addrI p2 k2
    · have hlt2 : ¬ addrI p2 k2 ≤ x := by omega
      go_region_with (go_at_call 54; refine (CSS.out _ (by first | exact K.refl _ | exact (K.refl _).drewN _ | exact (K.refl _).drew)).mono ?_; rintro e w3 ⟨⟨i2, j2, rfl, he2⟩, k3⟩; have k4 : K w1 w3 := (by first | exact k3 | exact ((K.refl _).drewN _).trans k3 | exact ((K.refl _).drew).trans k3))
      all_goals
        have hi2 : i2 < E.length := (List.getElem?_eq_some_iff.1 he2).1
        have hix2 := HROW.out.ix i2 hi2
        have c14 := C1.out _ (k1.trans k4)
        have HRG : Aside _ := (HROW.out.keep (k1.trans k4)).range he2
        clear he2
        go_wp2_with (first
          | ((with_reducible refine wpList_load_reG g (i2 * 36) (p2, j2) ?_ ?_ ?_ ?_); (· first | rfl | simp [Region.wanted, yielded]); (· exact HRG.out); (· rfl))
          | (go_at_call 51; refine (HCP.out j2 _).mono ?_; rintro e w5 ⟨rfl, k5⟩))
      all_goals
        go_ret2
        first
          | exact .inl ⟨rfl, a, cap, HR.out.keep ((k1.trans k4).trans k5), RSt.ofK ((k1.trans k4).trans k5)⟩
          | exact .inl ⟨hlt, rfl, a, cap, HR.out.keep ((k1.trans k4).trans k5), RSt.ofK ((k1.trans k4).trans k5)⟩
    · have hlt2 : addrI p2 k2 ≤ x := by omega
      go_region_with (go_at_call 54; refine (CSS.out _ (by first | exact K.refl _ | exact (K.refl _).drewN _ | exact (K.refl _).drew)).mono ?_; rintro e w3 ⟨⟨i2, j2, rfl, he2⟩, k3⟩; have k4 : K w1 w3 := (by first | exact k3 | exact ((K.refl _).drewN _).trans k3 | exact ((K.refl _).drew).trans k3))
      all_goals
        have hi2 : i2 < E.length := (List.getElem?_eq_some_iff.1 he2).1
        have hix2 := HROW.out.ix i2 hi2
        have c14 := C1.out _ (k1.trans k4)
        have HRG : Aside _ := (HROW.out.keep (k1.trans k4)).range he2
        have HE2 : Aside _ := he2
        clear he2
        go_wp2_with (first
          | ((with_reducible refine wpList_load_reG g (i2 * 36) (p2, j2) ?_ ?_ ?_ ?_); (· first | rfl | simp [Region.wanted, yielded]); (· exact HRG.out); (· rfl))
          | (go_at_call 51; refine (HCP.out j2 _).mono ?_; rintro e w5 ⟨rfl, k5⟩; have c15 := C1.out _ ((k1.trans k4).trans k5); have hb5 : br < w5.heap.size := (by have := Kept.size ((k1.trans k4).trans k5); omega))
          | (at_builtin; apply wrapd))
        unfold Wrapd
        have k6 := (k1.trans k4).trans k5
        have hsz5 := Kept.size k6
        have KZ : K w (w5.alloc (.cells #[] 94)) := k6.alloc _
        refine wpList_append_res _ rfl _ _ rfl w.heap.size _ 0 [] rfl (RZ.out _ k6) rfl a E.length cap (reVals E) rfl HL0.out (HSRC.out _ KZ) (reVals_one _) (by have := HL.out; omega) (by simp; omega) ?_
        intro v1 w7 hown1 hgrow1 hloc1
        rw [Nat.zero_add, List.nil_append] at hown1
        have k7 : K w w7 := K.grownR KZ hgrow1 (fun j hj => by cases hj; exact hsz5)
        have hne1 : ∀ kk, v1.ownBlock = some kk → w.heap.size ≤ kk := fun kk hkk => by
          rcases hloc1 with e | e
          · rw [e] at hkk
            cases hkk
            exact hsz5
          · rw [e] at hkk
            have := Option.some.inj hkk
            have := Kept.size KZ
            omega
        obtain ⟨a2, cap2, rfl, R2, KB2⟩ := HR.out.store k7 hown1 hne1
        have HFZ := (HR.out.keep k7).fz
        have c7 := C1.out _ k7
        obtain ⟨g2, rfl, hgne, hrow2⟩ := R2.addr hi2
        have hg0 : w.heap.size ≤ g2 := hne1 g2 rfl
        have hix3 := hrow2.ix i2 hi2
        have hixT := run_ixT g2 (i2 * 36 + 5) k2 k31
        obtain ⟨hct0, hcf0⟩ := R2.cellT HE2.out k31
        have hct : w7.cell? ⟨g2, i2 * 36 + 5 + k2, none⟩ = some (.bool (tkB p2 k2)) := (World.cell?_of_block (a := ⟨g2, i2 * 36 + 5 + k2, none⟩) (Below.heap_setCell w7 ⟨br, 1, none⟩ _ g2 hgne)).symm.trans hct0
        have hcf : w7.frozen? ⟨g2, i2 * 36 + 5 + k2, none⟩ = false := (World.frozen?_of_block (a := ⟨g2, i2 * 36 + 5 + k2, none⟩) (Below.heap_setCell w7 ⟨br, 1, none⟩ _ g2 hgne)).symm.trans hcf0
        have R3 := R2.turn (k := 5 + k2) HE2.out (by omega) (HSET.out j2)
        rw [← Nat.add_assoc] at R3
        have HKB3 : Aside _ := Kept.setCell KB2 (p := ⟨g2, i2 * 36 + 5 + k2, none⟩) (.bool true) (.inr hg0)
        have he3 : (E.set i2 (withT p2 (Bt.setI p2.taken k2), j2))[i2]? = some (withT p2 (Bt.setI p2.taken k2), j2) := by rw [List.getElem?_set_self hi2]
        obtain ⟨g3, hg3, _, hrow3⟩ := R3.addr (i := i2) (by rw [List.length_set]; exact hi2)
        obtain rfl : g2 = g3 := by injection hg3 with e; injection e
        have HRG3 : Aside _ := hrow3.range he3
        have HR3 : Aside _ := R3
        have hb3 := R3.lt
        have HEO : Aside _ := HE.out.setT HE2.out HP2.out.2.1
        have HTA : Aside _ := turn_at (t := Bt.setI p2.taken k2) HE.out HEI.out HE2.out
        have cpl3 := fun w => rPlace_any (withT p2 (Bt.setI p2.taken k2)) j2 k2 HP2.out.2.1 hn20 (show p2.n ≤ 8192 by omega) HP2.out.2.2 w
        clear hown1 hgrow1 hloc1 hne1 hct0 hcf0 R2 KB2 hrow2 hrow3 he3 hg3 R3 KZ k7 c14 c15 hb5 hsz5 hix2 d2 d4 c01 c11
        go_wp2_with (first
          | ((with_reducible refine wpList_load_re g2 (i2 * 36) (withT p2 (Bt.setI p2.taken k2), j2) ?_ ?_ ?_); (· exact HRG3.out); (· rfl))
          | (go_at_call 51; refine (cpl3 _).mono ?_; rintro e w8 ⟨rfl, k8⟩)
          | fail)
      all_goals
        obtain ⟨j', htat0⟩ := HTA.out
        have htat : (E.set i2 (withT p2 (Bt.setI p2.taken k2), j2))[i]? = some (turnP p p2 k2, j') := htat0
        have hpt : Ent (turnP p p2 k2) := HEO.out.1.wl.ent _ (List.mem_map.2 ⟨(turnP p p2 k2, j'), List.mem_of_getElem? htat, rfl⟩)
        have hkt : (k : Int) < nslI (turnP p p2 k2) := by
          unfold turnP
          split
          · rename_i hn
            have hpp : p = p2 := HE.out.wl.inj (List.mem_map.2 ⟨(p, j), List.mem_of_getElem? HEI.out, rfl⟩) (List.mem_map.2 ⟨(p2, j2), List.mem_of_getElem? HE2.out, rfl⟩) hn
            have h3 := HKN.out
            rw [hpp] at h3
            exact h3
          · exact HKN.out
        have HSL : Aside (entsR (leaveE (E.set i2 (withT p2 (Bt.setI p2.taken k2), j2)) i (turnP p p2 k2) j' k) = slideS (entsR E) p k p2 k2) := by
          have h3 := entsR_leave HEO.out.1 htat k
          rw [HEO.out.2] at h3
          exact h3
        have clv := rleave_any (HR3.out.keep k8) (by rw [List.length_set]; exact HL.out) htat hpt k hkt
        clear htat htat0 hpt hkt
        refine clv.mono ?_
        rintro e w9 ⟨⟨v, rfl⟩, a9, cap9, R9, K9⟩
        clear clv
        go_wp2
        go_ret2
        first
          | exact .inr ⟨hlt2, rfl, _, HSL.out, a9, cap9, R9, (HKB3.out.trans (RSt.ofK k8)).trans K9⟩
          | exact .inr ⟨rfl, _, HSL.out, a9, cap9, R9, (HKB3.out.trans (RSt.ofK k8)).trans K9⟩
          | exact ⟨rfl, _, HSL.out, a9, cap9, R9, (HKB3.out.trans (RSt.ofK k8)).trans K9⟩
  · have := nohit_find HE.out hn
    rw [hf] at this
    cases this

end Hp
end Go.Proofs.YtkjjobafbcdmoaaGreatDoor

/-
  The reference's Slide, as the heap's list says it; Spare.
-/
namespace Go.Proofs.YtkjjobafbcdmoaaGreatDoor
open Go.RowKit Go.Maps
namespace Hp
variable {w w' : World} {br : Nat} {q : Int} {a : Option Addr} {cap : Nat} {E E' : List Re}

theorem rSlide_call (h : Rf w br q a cap E) (hE : Eo E) (x : Int) : Calls Tryz.prog 34 #[.pointer (some ⟨br, 0, none⟩), .int .i64 x] w fun e w' => e = .returned (.tuple #[.int .i64 (slideL (entsR E) x).1, .int .i64 (slideL (entsR E) x).2.1]) ∧ ∃ E', entsR E' = (slideL (entsR E) x).2.2 ∧ RPost w br q E' w' := by
  unfold slideL
  cases hf : findB (entsR E) x with
  | none => exact (rSlide_none h hE x hf).mono fun e w' ⟨h1, h2⟩ => ⟨h1, E, rfl, h2⟩
  | some ps =>
    obtain ⟨p, s⟩ := ps
    have hm := (findB_some hf).1
    rcases (hE.wl.ent _ hm).kind with h1 | h2
    · simp only [if_neg (show ¬ p.kind = 2 by omega)]
      cases hfb : freeB (entsR E) p.cls with
      | none => exact (rSlide_stay h hE x hf h1 hfb).mono fun e w' ⟨h1, h2⟩ => ⟨h1, E, rfl, h2⟩
      | some ps2 =>
        obtain ⟨p2, s2⟩ := ps2
        refine (rSlide_some h hE x hf h1 hfb).mono fun e w' hh => ?_
        rcases hh with ⟨hlt, h3, h4⟩ | ⟨hlt, h3, E', h4, h5⟩
        · simp only [if_pos hlt]
          exact ⟨h3, E, rfl, h4⟩
        · simp only [if_neg hlt]
          exact ⟨h3, E', h4, h5⟩
    · simp only [if_pos h2]
      exact rSlide_large h hE x hf h2

end Hp
end Go.Proofs.YtkjjobafbcdmoaaGreatDoor
