/-
  The reference's Slide.
-/
import Derived.Test.YtkjjobafbcdmoaaGreatDoorR5
import Derived.Test.YtkjjobafbcdmoaaGreatDoorH5
namespace Go.Proofs.YtkjjobafbcdmoaaGreatDoor
open Go.RowKit Go.Maps
namespace Hp
variable {w w' : World} {br : Nat} {q : Int} {a : Option Addr} {cap : Nat} {E E' : List Re}

/-- The entries but one. -/
def butE (E : List Re) (i : Nat) : List Re := E.take i ++ E.drop (i + 1)
theorem mem_but {i : Nat} {e : Re} : e ∈ butE E i ↔ ∃ j, j ≠ i ∧ E[j]? = some e := by
  unfold butE
  rw [List.mem_append]
  constructor
  · rintro (h | h)
    · obtain ⟨j, hj⟩ := List.getElem?_of_mem h
      have h1 := (List.getElem?_eq_some_iff.1 hj).1
      rw [List.length_take] at h1
      exact ⟨j, by omega, by rw [← hj, List.getElem?_take_of_lt (by omega)]⟩
    · obtain ⟨j, hj⟩ := List.getElem?_of_mem h
      rw [List.getElem?_drop] at hj
      exact ⟨i + 1 + j, by omega, hj⟩
  · rintro ⟨j, hj, he⟩
    by_cases h : j < i
    · exact .inl (List.mem_of_getElem? (i := j) (by rw [List.getElem?_take_of_lt h]; exact he))
    · exact .inr (List.mem_of_getElem? (i := j - (i + 1)) (by rw [List.getElem?_drop, show i + 1 + (j - (i + 1)) = j from by omega]; exact he))
theorem frB_but {i : Nat} {f m : Int} : frB E f m i ↔ frB (butE E i) f m (-1) := by
  constructor
  · intro h j e he _
    obtain ⟨j', hj, he'⟩ := mem_but.1 (List.mem_of_getElem? he)
    exact h j' e he' (by omega)
  · intro h j e he hj
    obtain ⟨j', hj'⟩ := List.getElem?_of_mem ((mem_but (i := i)).2 ⟨j, by omega, he⟩)
    exact h j' e hj' (by omega)
theorem Eo.but (hE : Eo E) {i : Nat} {e : Re} (he : E[i]? = some e) : Eo (butE E i) ∧ entsR (butE E i) = delL (entsR E) e.1.n := by
  have hd := entsR_del hE he
  refine ⟨⟨?_, ?_, fun r hr => ?_⟩, hd⟩
  · rw [show butE E i = E.take i ++ E.drop (i + 1) from rfl, hd]
    exact ⟨fun r hr => hE.wl.ent r (mem_delL.1 hr).1, hE.wl.srt.sublist List.filter_sublist, fun r hr => hE.wl.n0 r (mem_delL.1 hr).1⟩
  · have := hE.len
    unfold butE
    rw [List.length_append, List.length_take, List.length_drop]
    omega
  · obtain ⟨j, _, hj⟩ := mem_but.1 hr
    exact hE.n1 r (List.mem_of_getElem? hj)
/-- Its own pages are free for it. -/
theorem Eo.own (hE : Eo E) {i : Nat} {e : Re} (he : E[i]? = some e) : frB (butE E i) e.1.n e.1.span (-1) := by
  intro j r hr _
  obtain ⟨j', hj, hr'⟩ := mem_but.1 (List.mem_of_getElem? hr)
  have h1 : (entsR E)[i]? = some e.1 := by simp [entsR, he]
  have h2 : (entsR E)[j']? = some r.1 := by simp [entsR, hr']
  have hs1 := (hE.spans _ (List.mem_of_getElem? h1)).1
  have hs2 := (hE.spans _ (List.mem_of_getElem? h2)).1
  have hp := List.pairwise_iff_getElem.1 hE.wl.srt
  obtain ⟨i1, i2⟩ := List.getElem?_eq_some_iff.1 h1
  obtain ⟨j1, j2⟩ := List.getElem?_eq_some_iff.1 h2
  cases hh : hitsB e.1.n e.1.span r.1 with
  | false => rfl
  | true =>
    simp [hitsB] at hh
    by_cases hlt : i < j'
    · have := hp i j' i1 j1 hlt
      rw [i2, j2] at this
      omega
    · have := hp j' i j1 i1 (by omega)
      rw [i2, j2] at this
      omega
theorem Eo.fitBut (hE : Eo E) {i : Nat} {e : Re} (he : E[i]? = some e) : 0 ≤ fit e.1.span 0 (delL (entsR E) e.1.n) ∧ fit e.1.span 0 (delL (entsR E) e.1.n) ≤ e.1.n ∧ frB E (fit e.1.span 0 (delL (entsR E) e.1.n)) e.1.span i ∧ (∀ g, 0 ≤ g → g < fit e.1.span 0 (delL (entsR E) e.1.n) → ¬ frB E g e.1.span i) ∧ frB (butE E i) (fit e.1.span 0 (delL (entsR E) e.1.n)) e.1.span (-1) := by
  obtain ⟨hb, hd⟩ := hE.but he
  obtain ⟨_, n0, _, s0, s1⟩ := hE.at he
  obtain ⟨f0, _, f2, f3⟩ := hb.fitOk s0
  rw [hd] at f0 f2 f3
  refine ⟨f0, ?_, frB_but.2 f2, fun g g0 g1 h => f3 g g0 g1 (frB_but.1 h), f2⟩
  by_cases h : fit e.1.span 0 (delL (entsR E) e.1.n) ≤ e.1.n
  · exact h
  · exact absurd (hE.own he) (f3 e.1.n n0 (by omega))
/-- It goes, and comes back to where it was. -/
theorem ins_back (hE : Eo E) {i : Nat} {e : Re} (he : E[i]? = some e) : insL e.1 (delL (entsR E) e.1.n) = entsR E := by
  obtain ⟨_, hd⟩ := hE.but he
  have hi : i < E.length := (List.getElem?_eq_some_iff.1 he).1
  have hs := split_at he
  have hsrt := hE.wl.srt
  have hsp := hE.spans
  have e1 : entsR E = entsR (E.take i) ++ e.1 :: entsR (E.drop (i + 1)) := by
    conv => lhs; rw [hs, entsR_app]
    rfl
  rw [e1] at hsrt hsp
  obtain ⟨_, h2, h3⟩ := List.pairwise_append.1 hsrt
  have hes := (hsp e.1 (by simp)).1
  have et : (butE E i).take i = E.take i := by
    unfold butE
    rw [List.take_append_of_le_length (by rw [List.length_take]; omega), List.take_take, Nat.min_self]
  have ed : (butE E i).drop i = E.drop (i + 1) := by
    unfold butE
    rw [List.drop_append_of_le_length (by rw [List.length_take]; omega), List.drop_eq_nil_of_le (by rw [List.length_take]; omega), List.nil_append]
  have := entsR_ins (e := e) (E := butE E i) (k := i) (fun x hx => by
      rw [et] at hx
      have h4 := h3 x.1 (List.mem_map.2 ⟨x, hx, rfl⟩) e.1 (by simp)
      have h5 := (hsp x.1 (List.mem_append.2 (.inl (List.mem_map.2 ⟨x, hx, rfl⟩)))).1
      omega) (fun x hx => by
      have h6 : E[i + 1]? = some x := by
        have : (butE E i)[i]? = ((butE E i).drop i)[0]? := by rw [List.getElem?_drop]; rfl
        rw [this, ed, List.getElem?_drop] at hx
        exact hx
      have h4 := (List.pairwise_cons.1 h2).1 x.1 (List.mem_map.2 ⟨x, List.mem_of_getElem? (i := 0) (by rw [List.getElem?_drop]; exact h6), rfl⟩)
      omega) (by unfold butE; rw [List.length_append, List.length_take]; omega)
  rw [et, ed, hd, ← hs] at this
  exact this.symm

end Hp
end Go.Proofs.YtkjjobafbcdmoaaGreatDoor

/-
  The reference's Slide: no block; a large block.
-/
namespace Go.Proofs.YtkjjobafbcdmoaaGreatDoor
open Go.RowKit Go.Maps
namespace Hp
variable {w w' : World} {br : Nat} {q : Int} {a : Option Addr} {cap : Nat} {E E' : List Re}

theorem set_n (p : Pg) (j f : Int) : (reList (p, j)).set 0 (.int .i64 f) = reList (atN p f, j) := rfl
theorem rangeAt_blk {w : World} {b : Nat} {e : Re} {fz : Nat × Nat} (h : w.heap[b]? = some (.cells (reList e).toArray 94 fz)) : w.rangeAt b 0 (reList e) := fun j u hu => by
  simp [World.cell?, h, hu]

set_option maxRecDepth 100000 in
set_option maxHeartbeats 4000000 in
theorem rSlide_none (h : Rf w br q a cap E) (hE : Eo E) (x : Int) (hf : findB (entsR E) x = none) : Calls Tryz.prog 34 #[.pointer (some ⟨br, 0, none⟩), .int .i64 x] w fun e w' => e = .returned (.tuple #[.int .i64 0, .int .i64 5]) ∧ RPost w br q E w' := by
  obtain ⟨g, hrow, hform, hcap⟩ := h.form
  have cf := rFind_any (q := q) hrow hE x
  have c0 := h.c0
  have c1 := h.c1
  have s0 := h.s0
  have HR : Aside _ := h
  have HE : Aside _ := hE
  clear h hE hrow hform hcap
  go_enter Tryz.func34, Tryz.ntmps34
  go_wp2_with fail
  refine cf.mono ?_
  rintro e w1 ⟨(⟨i, k, rfl, hh⟩ | ⟨rfl, hn⟩), k1⟩
  · obtain ⟨_, _, _, _, hf2⟩ := hit_find HE.out hh
    rw [hf] at hf2
    cases hf2
  · clear hn cf c0 c1 s0
    go_wp2
    go_ret2
    exact ⟨rfl, a, cap, HR.out.keep k1, RSt.ofK k1⟩

set_option maxRecDepth 100000 in
set_option maxHeartbeats 4000000 in
theorem rSlide_large (h : Rf w br q a cap E) (hE : Eo E) (x : Int) {p : Pg} {s : Int} (hf : findB (entsR E) x = some (p, s)) (h2 : p.kind = 2) : Calls Tryz.prog 34 #[.pointer (some ⟨br, 0, none⟩), .int .i64 x] w fun e w' => e = .returned (.tuple #[.int .i64 (addrI (atN p (fit p.span 0 (delL (entsR E) p.n))) 0), .int .i64 0]) ∧ ∃ E', entsR E' = insL (atN p (fit p.span 0 (delL (entsR E) p.n))) (delL (entsR E) p.n) ∧ RPost w br q E' w' := by
  obtain ⟨g, hrow, hform, hcap⟩ := h.form
  have cf := rFind_any (q := q) hrow hE x
  have c0 := h.c0
  have c1 := h.c1
  have s0 := h.s0
  have hbr := h.lt
  have HROW : Aside _ := hrow
  have HR : Aside _ := h
  have HE : Aside _ := hE
  clear h hE hrow hform hcap
  go_enter Tryz.func34, Tryz.ntmps34
  go_wp2_with fail
  refine cf.mono ?_
  rintro e w1 ⟨(⟨i, k, rfl, hh⟩ | ⟨rfl, hn⟩), k1⟩
  · obtain ⟨⟨p', j⟩, he', hk, ht, hf2⟩ := hit_find HE.out hh
    rw [hf] at hf2
    obtain ⟨rfl, rfl⟩ : p = p' ∧ s = (k : Int) := by injection hf2 with e; injection e with e1 e2; exact ⟨e1, e2⟩
    have he : E[i]? = some (p, j) := he'
    obtain ⟨hp0, n00, n10, sp00, sp10⟩ := HE.out.at he
    have hp : Ent p := hp0
    have n0 : 0 ≤ p.n := n00
    have n1 : p.n ≤ 4096 := n10
    have sp0 : 1 ≤ p.span := sp00
    have sp1 : p.span ≤ 63 := sp10
    have hi : i < E.length := (List.getElem?_eq_some_iff.1 he).1
    have hn1 : nslI p = 1 := if_pos h2
    obtain rfl : k = 0 := by have hk' : (k : Int) < nslI p := hk; omega
    have hx : x = addrI p 0 := by obtain ⟨_, _, _, hk2⟩ := hh; exact (findB_some hf).2.2.symm
    obtain ⟨f0, f1, f2, f3, f4⟩ := HE.out.fitBut he
    have f1 : fit p.span 0 (delL (entsR E) p.n) ≤ p.n := f1
    have f0 : 0 ≤ fit p.span 0 (delL (entsR E) p.n) := f0
    have HB : Aside (insL p (delL (entsR E) p.n) = entsR E) := ins_back HE.out he
    have hbr1 : br < w1.heap.size := by have := Kept.size k1; omega
    obtain ⟨eb, hd⟩ := HE.out.but he
    have hix := HROW.out.ix i hi
    have c11 := k1.cell c1
    have c01 := k1.cell c0
    have d0 := ((HROW.out.keep k1).at he).1
    have hl : lgB p = true := by simp [lgB, h2]
    have d4 : w1.cell? ⟨g, i * 36 + 4, none⟩ = some (.bool true) := by rw [← hl]; exact ((HROW.out.keep k1).at he).2.2.2.2
    have HRG : Aside _ := (HROW.out.keep k1).range he
    have CL : Aside (∀ wx, K w1 wx → Calls Tryz.prog 56 #[.agg #[.int .i64 q, .slice a E.length cap], .int .i64 p.span, .int .i64 (i : Int)] wx fun e w' => e = .returned (.int .i64 (fit p.span 0 (delL (entsR E) p.n))) ∧ K wx w') := fun wx kx => rLowest_any (HROW.out.keep (k1.trans kx)) HE.out p.span i _ f0 (by omega) sp0 sp1 f2 f3
    have CQ : Aside (∀ wx, K w1 wx → wx.cell? ⟨br, 0, none⟩ = some (.int .i64 q) ∧ wx.cell? ⟨br, 1, none⟩ = some (.slice a E.length cap) ∧ wx.cell? ⟨g, i * 36, none⟩ = some (.int .i64 p.n)) := fun wx kx => ⟨(HR.out.keep (k1.trans kx)).c0, (HR.out.keep (k1.trans kx)).c1, ((HROW.out.keep (k1.trans kx)).at he).1⟩
    clear hf hf2 he' hh ht hk cf hp0 n00 n10 sp00 sp10 f2 f3
    generalize hFE : fit p.span 0 (delL (entsR E) p.n) = f at *
    have HFE : Aside (fit p.span 0 (delL (entsR E) p.n) = f) := hFE
    clear hFE
    go_wp2_with (first
      | ((with_reducible refine wpList_load_re g (i * 36) (p, j) ?_ ?_ ?_); (· exact HRG.out); (· rfl))
      | with_reducible refine wpList_alloc_re ?_
      | ((with_reducible refine wpList_store_re _ ?_ (p, j) ?_ ?_ ?_); (· rfl); (· rfl); (· rfl)))
    have KW2 : K w1 (w1.alloc (.cells (reList (p, j)).toArray 94)) := (K.refl _).alloc _
    have hb2 : (w1.alloc (.cells (reList (p, j)).toArray 94)).heap[w1.heap.size]? = some (.cells (reList (p, j)).toArray 94) := (MapKept.heap_alloc w1 _).1
    have hgw : g < w1.heap.size := World.block_lt_of_cell? w1 _ d0
    have RB : Aside (∀ wx : World, wx.heap[w1.heap.size]? = some (.cells (reList (p, j)).toArray 94) → wx.cell? ⟨w1.heap.size, 0, none⟩ = some (.int .i64 p.n) ∧ wx.cell? ⟨w1.heap.size, 1, none⟩ = some (.int .i64 p.span) ∧ wx.frozen? ⟨w1.heap.size, 0, none⟩ = false) := fun wx hw => by
      have r := rangeAt_blk hw
      exact ⟨by simpa using r 0 _ rfl, by simpa using r 1 _ rfl, by simp [World.frozen?, hw]⟩
    have HWB : Aside (∀ wx, K w1 wx → ∀ v, K w1 (wx.setCell ⟨w1.heap.size, 0, none⟩ v)) := fun wx kx v => kx.setCell v (Nat.le_refl _)
    have hbw : br ≠ w1.heap.size := by omega
    have hgb : g ≠ w1.heap.size := by omega
    have hs2 : (w1.alloc (.cells (reList (p, j)).toArray 94)).heap.size = w1.heap.size + 1 := by simp
    generalize w1.alloc (.cells (reList (p, j)).toArray 94) = W2 at *
    generalize w1.heap.size = wb at *
    obtain ⟨b0, b1, bf⟩ := RB.out _ hb2
    obtain ⟨e0, e1, e2⟩ := CQ.out _ KW2
    clear c11 c01 d0 d4 c0 c1 s0
    go_region_with (go_at_call 56; refine (CL.out _ (by first | exact KW2 | exact KW2.drewN _ | exact KW2.drew)).mono ?_; rintro e w3 ⟨rfl, k3⟩; have k4 : K w1 w3 := (by first | exact KW2.trans k3 | exact (KW2.drewN _).trans k3 | exact KW2.drew.trans k3); have hb3 : w3.heap[wb]? = some (.cells (reList (p, j)).toArray 94) := k3.block hb2; obtain ⟨b03, b13, bf3⟩ := RB.out _ hb3)
    all_goals
      have k5 := HWB.out _ k4 (.int .i64 f)
      have hb5 : (w3.setCell ⟨wb, 0, none⟩ (.int .i64 f)).heap[wb]? = some (.cells (reList (atN p f, j)).toArray 94) := by
        rw [heap_setCell_same w3 wb 0 _ _ _ hb3, ← set_n p j f]
        simp
      have b05 : (w3.setCell ⟨wb, 0, none⟩ (.int .i64 f)).cell? ⟨wb, 0, none⟩ = some (.int .i64 f) := by
        have r := rangeAt_blk hb5 0 (.int .i64 f) rfl
        simpa using r
      have HK5 : Aside _ := k5
      have HB5 : Aside _ := hb5
      clear b0 b1 bf b03 b13 bf3 e0 e1 e2 hb3 hb2 k3 KW2 hb5 hs2 RB HWB CL k4
      generalize w3.setCell ⟨wb, 0, none⟩ (.int .i64 f) = W5 at *
      obtain ⟨e0, e1, e2⟩ := CQ.out _ k5
      clear k5
      by_cases hlt : f < p.n
      · go_wp2
        go_quiet (fail)
        have k6 := HK5.out.drewN nq
        have hb6 : (W5.drewN nq).heap[wb]? = some (.cells (reList (atN p f, j)).toArray 94) := HB5.out
        clear e0 e1 e2 b05
        generalize W5.drewN nq = W6 at *
        have hw6 : wb < W6.heap.size := (Array.getElem?_eq_some_iff.1 hb6).1
        have cdr := rdrop_any (HR.out.keep (k1.trans k6)) HE.out.len i hi
        have cpl := fun w => rPlace_any (atN p f) j 0 (show Ent (atN p f) from hp) f0 (show f ≤ 8192 by omega) (show ((0 : Nat) : Int) < nslI p by omega) w
        go_wp2_with fail
        refine cdr.mono ?_
        rintro e w7 ⟨⟨v, rfl⟩, a7, cap7, R7, K7⟩
        have hb7 : w7.heap[wb]? = some (.cells (reList (atN p f, j)).toArray 94) := (Kept.same K7 wb hw6 (fun e => hbw e.symm)).trans hb6
        have hw7 : wb < w7.heap.size := (Array.getElem?_eq_some_iff.1 hb7).1
        have RG7 : Aside _ := rangeAt_blk hb7
        have cput := rput_any (E := butE E i) R7 eb.len (atN p f, j)
        clear cdr
        go_wp2_with (first
          | ((with_reducible refine wpList_load_re wb 0 (atN p f, j) ?_ ?_ ?_); (· first | exact RG8.out | exact RG7.out); (· rfl))
          | (go_at_call 57; refine cput.mono ?_; rintro e w8 ⟨⟨v8, rfl⟩, kk, hk1, hk2, hk3, a8, cap8, R8, K8⟩; have hb8 : w8.heap[wb]? = some (.cells (reList (atN p f, j)).toArray 94) := (Kept.same K8 wb hw7 (fun e => hbw e.symm)).trans hb7; have RG8 : Aside _ := rangeAt_blk hb8; clear RG7)
          | (go_at_call 51; refine (cpl _).mono ?_; rintro e w9 ⟨rfl, k9⟩))
        go_ret2
        refine ⟨by rw [HFE.out]; rfl, (butE E i).take kk ++ (atN p f, j) :: (butE E i).drop kk, ?_, a8, cap8, R8.keep k9, (((RSt.ofK (k1.trans k6)).trans K7).trans K8).trans (RSt.ofK k9)⟩
        have hd' : entsR (butE E i) = delL (entsR E) p.n := hd
        rw [HFE.out, ← hd']
        refine entsR_ins (e := (atN p f, j)) hk2 (fun y hy => ?_) hk1
        have h1 : f ≤ y.1.n := hk3 y hy
        have h3 : hitsB f p.span y.1 = false := f4 kk y hy (by omega)
        have h4 := (eb.spans y.1 (List.mem_map.2 ⟨y, List.mem_of_getElem? hy, rfl⟩)).1
        show f < y.1.n
        simp [hitsB] at h3
        omega
      · have hfe : f = p.n := by omega
        go_wp2
        go_quiet (fail)
        go_wp2
        go_ret2
        have HFP : Aside (fit p.span 0 (delL (entsR E) p.n) = p.n) := HFE.out.trans hfe
        refine ⟨by rw [HFP.out]; rfl, E, ?_, a, cap, HR.out.keep (k1.trans (HK5.out.drewN _)), RSt.ofK (k1.trans (HK5.out.drewN _))⟩
        rw [HFP.out]
        exact HB.out.symm
  · have := nohit_find HE.out hn
    rw [hf] at this
    cases this

end Hp
end Go.Proofs.YtkjjobafbcdmoaaGreatDoor

/-
  The reference's Slide: a small block.
-/
namespace Go.Proofs.YtkjjobafbcdmoaaGreatDoor
open Go.RowKit Go.Maps
namespace Hp
variable {w w' : World} {br : Nat} {q : Int} {a : Option Addr} {cap : Nat} {E E' : List Re}

set_option maxRecDepth 100000 in
set_option maxHeartbeats 4000000 in
theorem rSlide_stay (h : Rf w br q a cap E) (hE : Eo E) (x : Int) {p : Pg} {s : Int} (hf : findB (entsR E) x = some (p, s)) (h1 : p.kind = 1) (hfb : freeB (entsR E) p.cls = none) : Calls Tryz.prog 34 #[.pointer (some ⟨br, 0, none⟩), .int .i64 x] w fun e w' => e = .returned (.tuple #[.int .i64 x, .int .i64 0]) ∧ RPost w br q E w' := by
  obtain ⟨g, hrow, hform, hcap⟩ := h.form
  have cf := rFind_any (q := q) hrow hE x
  have c0 := h.c0
  have c1 := h.c1
  have s0 := h.s0
  have hbr := h.lt
  have HROW : Aside _ := hrow
  have HR : Aside _ := h
  have HE : Aside _ := hE
  clear h hE hrow hform hcap
  go_enter Tryz.func34, Tryz.ntmps34
  go_wp2_with fail
  refine cf.mono ?_
  rintro e w1 ⟨(⟨i, k, rfl, hh⟩ | ⟨rfl, hn⟩), k1⟩
  · obtain ⟨⟨p', j⟩, he', hk, ht, hf2⟩ := hit_find HE.out hh
    rw [hf] at hf2
    obtain ⟨rfl, rfl⟩ : p = p' ∧ s = (k : Int) := by injection hf2 with e; injection e with e1 e2; exact ⟨e1, e2⟩
    have he : E[i]? = some (p, j) := he'
    have hi : i < E.length := (List.getElem?_eq_some_iff.1 he).1
    have hix := HROW.out.ix i hi
    have c11 := k1.cell c1
    have c01 := k1.cell c0
    have hl : lgB p = false := by simp [lgB, h1]
    have d4 : w1.cell? ⟨g, i * 36 + 4, none⟩ = some (.bool false) := by rw [← hl]; exact ((HROW.out.keep k1).at he).2.2.2.2
    have d2 : w1.cell? ⟨g, i * 36 + 2, none⟩ = some (.int .i64 p.cls) := ((HROW.out.keep k1).at he).2.2.1
    have CSN : Aside (∀ wx, K w1 wx → Calls Tryz.prog 54 #[.agg #[.int .i64 q, .slice a E.length cap], .int .i64 p.cls] wx fun e w' => e = .returned (.tuple #[.int .i64 (-1), .int .i64 0]) ∧ K wx w') := fun wx kx => (rspot_any (q := q) (HROW.out.keep (k1.trans kx)) HE.out p.cls).mono fun e w' ⟨h2, h3⟩ => by
      rcases h2 with ⟨_, _, _, _, _, _, h4⟩ | ⟨h4, _⟩
      · rw [hfb] at h4
        cases h4
      · exact ⟨h4, h3⟩
    clear hf hf2 he' hh ht hk cf hfb c0 c1 s0
    go_wp2
    go_region_with (go_at_call 54; refine (CSN.out _ (by first | exact K.refl _ | exact (K.refl _).drewN _ | exact (K.refl _).drew)).mono ?_; rintro e w3 ⟨rfl, k3⟩; have k4 : K w1 w3 := (by first | exact k3 | exact ((K.refl _).drewN _).trans k3 | exact ((K.refl _).drew).trans k3))
    all_goals
      go_wp2
      go_ret2
      exact ⟨rfl, a, cap, HR.out.keep (k1.trans k4), RSt.ofK (k1.trans k4)⟩
  · have := nohit_find HE.out hn
    rw [hf] at this
    cases this

end Hp
end Go.Proofs.YtkjjobafbcdmoaaGreatDoor
