/-
  A new entry of the reference's: its steps.
-/
import Derived.Test.YtlmfojkhfipdnaaGreatDoorQ1
import Derived.Test.YtlmfojkhfipdnaaGreatDoorH5
namespace Go.Proofs.YtlmfojkhfipdnaaGreatDoor
open Go.RowKit Go.Maps
namespace Hp
variable {w w' : World}

theorem setCells_new (w : World) (ty : TypeId) : ∀ (l : List Value) (o : Nat) (c : Array Value), (w.alloc (.cells c ty)).setCells w.heap.size o l = w.alloc (.cells ((l.zipIdx o).foldl (fun cs p => cs.setIfInBounds p.2 p.1) c) ty)
  | [], o, c => rfl
  | v :: l, o, c => by
    rw [World.setCells, World.setCell_alloc_new, setCells_new w ty l (o + 1)]
    rfl
theorem fold_all (c : Array Value) (l : List Value) (h : c.size = l.length) : (l.zipIdx 0).foldl (fun cs p => cs.setIfInBounds p.2 p.1) c = l.toArray := by
  obtain ⟨h1, h2⟩ := fold_set l 0 c (by omega)
  apply Array.ext_getElem?
  intro i
  rw [h2 i]
  by_cases hi : i < l.length
  · rw [if_pos (by omega)]
    simp
  · rw [if_neg (by omega), Array.getElem?_eq_none (by omega), Array.getElem?_eq_none (by simp; omega)]

def rawRe (n s c x : Int) (b : Bool) : List Value := [Value.int .i64 n, .int .i64 s, .int .i64 c, .int .i64 x, .bool b] ++ (List.range 31).map fun _ => Value.bool false
theorem wpList_build_re {ops : Array Oper} {rest : List Oper} {ac : Act} {w : World} {Q : Exit → Act → World → Prop} {d : Option Tmp} {ty : TypeId} {ps : String} {af : Array Edge} {x0 x1 x2 x3 x4 : Operand} (n s c x : Int) (b : Bool) (e : Re) (he : rawRe n s c x b = reList e)
    (h0 : ac.eval x0 = .int .i64 n) (h1 : ac.eval x1 = .int .i64 s) (h2 : ac.eval x2 = .int .i64 c) (h3 : ac.eval x3 = .int .i64 x) (h4 : ac.eval x4 = .bool b)
    (h : wpList Tryz.prog ops Q rest (ac.put d (.agg (reList e).toArray)) w) : wpList Tryz.prog ops Q ({ dst := d, op := Op.build 176 #[(0, x0), (1, x1), (2, x2), (3, x3), (4, x4)], type := ty, pos := ps, after := af, guard := none } :: rest) ac w := by
  refine wpList_plain rfl fun K hK => ?_
  unfold Oper.wp
  have hr := run_build_re n s c x b w
  rw [show ([Value.int .i64 n, .int .i64 s, .int .i64 c, .int .i64 x, .bool b] ++ (List.range 31).map fun _ => Value.bool false) = reList e from he] at hr
  simp only [execOp, List.map_toArray, List.map_cons, List.map_nil, h0, h1, h2, h3, h4, hr, Sem.run_bind, Result.andThen_ok]
  exact hK _ _ h

theorem run_alloc_re (w : World) : (Instr.alloc 176 true (.tuple #[])).run Tryz.prog w = .ok (.pointer (some ⟨w.heap.size, 0, none⟩)) (w.alloc (.cells (rawRe 0 0 0 0 false).toArray 176)) := by kernel_rfl
theorem wpList_alloc_re {ops : Array Oper} {rest : List Oper} {a : Act} {w : World} {Q : Exit → Act → World → Prop} {d : Option Tmp} {ty : TypeId} {ps : String} {af : Array Edge}
    (h : wpList Tryz.prog ops Q rest (a.put d (.pointer (some ⟨w.heap.size, 0, none⟩))) (w.alloc (.cells (rawRe 0 0 0 0 false).toArray 176))) : wpList Tryz.prog ops Q ({ dst := d, op := Op.alloc 176, type := ty, pos := ps, after := af, guard := none } :: rest) a w := by
  refine wpList_plain rfl fun K hK => ?_
  unfold Oper.wp
  simp only [execOp, run_alloc_re, Sem.run_bind, Result.andThen_ok]
  exact hK _ _ h

theorem there_new (w : World) (c : Array Value) (ty : TypeId) : (w.alloc (.cells c ty)).there w.heap.size 0 c.size := fun j hj => ⟨by rw [World.cell?_alloc_new]; simp; omega, World.frozen?_alloc_new w c ty _⟩

theorem wpList_store_re {ops : Array Oper} {rest : List Oper} {ac : Act} {w : World} {Q : Exit → Act → World → Prop} {ty : TypeId} {ps : String} {af : Array Edge} {x y : Operand} (c : Array Value) (hc : c.size = 36) (e : Re) (hx : ac.eval x = .pointer (some ⟨w.heap.size, 0, none⟩)) (hy : ac.eval y = .agg (reList e).toArray)
    (h : wpList Tryz.prog ops Q rest (ac.put none undef) (w.alloc (.cells (reList e).toArray 176))) : wpList Tryz.prog ops Q ({ dst := none, op := Op.store 176 x y, type := ty, pos := ps, after := af, guard := none } :: rest) ac (w.alloc (.cells c 176)) := by
  have hs : (reList e).toArray.size = c.size := by rw [arr_size, hc]
  refine wpList_store_mid rfl 176 x y rfl w.heap.size 0 (reList e).toArray hx hy (by rw [hs]; exact there_new w c 176) (by rw [arr_size]; kernel_rfl) (all_oneCell_toArray (reList_one e)) ?_
  rw [setCells_new, fold_all _ _ (by rw [hc, List.toList_toArray, reList_len])]
  simpa using h

theorem run_store_tk (w : World) (b o : Nat) (v : Bool) {old : Value} (hc : w.cell? ⟨b, o, none⟩ = some old) (hf : w.frozen? ⟨b, o, none⟩ = false) : (Instr.storeAt 4 (.pointer (some ⟨b, o, none⟩)) (.bool v)).run Tryz.prog w = .ok () (w.setCell ⟨b, o, none⟩ (.bool v)) := by
  have hs : (sizeOf 4).run Tryz.prog w = .ok 1 w := by kernel_rfl
  have hr := run_store_bool (P := Tryz.prog) (w := w) (a := ⟨b, o, none⟩) (m := .plain) v
  simp only [stored, hc, hf] at hr
  have ha : (⟨b, o, none⟩ : Addr).add 0 = ⟨b, o, none⟩ := by rw [Go.WideShapes.add_plain, Nat.add_zero]
  simp [Instr.storeAt, Instr.sureAddr, storeVar, hs, Value.cells, storeCells, ha, hr]
theorem wpList_store_tk {ops : Array Oper} {rest : List Oper} {ac : Act} {w : World} {Q : Exit → Act → World → Prop} {ps : String} {af : Array Edge} {ty : TypeId} {x : Operand} {v : Bool} (e e' : Re) (he : (reList e).set (5 + 0) (.bool v) = reList e') (hx : ac.eval x = .pointer (some ⟨w.heap.size, 5, none⟩))
    (h : wpList Tryz.prog ops Q rest (ac.put none undef) (w.alloc (.cells (reList e').toArray 176))) : wpList Tryz.prog ops Q ({ dst := none, op := Op.store 4 x (.const (.bool v)), type := ty, pos := ps, after := af, guard := none } :: rest) ac (w.alloc (.cells (reList e).toArray 176)) := by
  refine wpList_plain rfl fun K hK => ?_
  have hr := run_store_tk (w.alloc (.cells (reList e).toArray 176)) w.heap.size 5 v (old := .bool (tkB e.1 0)) (by rw [World.cell?_alloc_new, List.getElem?_toArray]; exact reList_tk (k := 0) (by omega)) (World.frozen?_alloc_new w _ _ _)
  have e1 : ((reList e).toArray).setIfInBounds 5 (.bool v) = (reList e').toArray := by
    rw [← he]
    simp
  rw [World.setCell_alloc_new, e1] at hr
  unfold Oper.wp
  have hv : ac.eval (.const (.bool v)) = .bool v := rfl
  simp only [execOp, hx, hv, hr, Sem.run_bind, Result.andThen_ok]
  exact hK _ _ h

end Hp
end Go.Proofs.YtlmfojkhfipdnaaGreatDoor

/-
  The reference's Alloc.
-/
namespace Go.Proofs.YtlmfojkhfipdnaaGreatDoor
open Go.RowKit Go.Maps
namespace Hp
variable {X : Fr} {w w' : World} {br : Nat} {q : Int} {a : Option Addr} {cap : Nat} {E E' : List Re}

theorem rangeAt_new (w : World) (e : Re) : (w.alloc (.cells (reList e).toArray 176)).rangeAt w.heap.size 0 (reList e) := fun j u hu => by
  rw [Nat.zero_add, World.cell?_alloc_new]
  simpa using hu
theorem rangeAt_post {w w' : World} {e : Re} {E' : List Re} {br : Nat} {q : Int} (h : RPost X (w.alloc (.cells (reList e).toArray 176)) br q E' w') (hb : br ≠ w.heap.size) : w'.rangeAt w.heap.size 0 (reList e) := by
  obtain ⟨_, _, _, k⟩ := h
  have hs : w'.heap[w.heap.size]? = (w.alloc (.cells (reList e).toArray 176)).heap[w.heap.size]? := Kept.same k _ (by simp) (fun e => hb e.symm)
  intro j u hu
  rw [World.cell?_of_block (a := ⟨w.heap.size, 0 + j, none⟩) hs]
  exact rangeAt_new w e j u hu

set_option maxRecDepth 100000 in
set_option maxHeartbeats 4000000 in
theorem rAlloc_call (h : Rf X w br q a cap E) (hE : Eo E) (x : Int) : Calls Tryz.prog 54 #[.pointer (some ⟨br, 0, none⟩), .int .i64 x] w fun e w' => e = .returned (.tuple #[.int .i64 (allocL q (entsR E) x).1, .int .i64 (allocL q (entsR E) x).2.1]) ∧ ∃ E', entsR E' = (allocL q (entsR E) x).2.2 ∧ RPost X w br q E' w' := by
  have co := fun w => Cl.rOf_any x w
  have cp := fun w => Cl.rPages_any x w
  have HR : Aside _ := h
  have HE : Aside _ := hE
  have hbr := h.lt
  by_cases hx : 1 ≤ x ∧ x ≤ 4000
  · have he : Cl.errW x = 0 := Cl.errW_in hx
    rw [he] at co cp
    have C1 : Aside (∀ wx, K w wx → wx.cell? ⟨br, 1, none⟩ = some (.slice a E.length cap)) := fun wx k => (h.keep k).c1
    obtain ⟨g0, hrow, hform, hcap⟩ := h.form
    have HL0 : Aside ((reVals E).length = E.length * 36) := reVals_len E
    have HL : Aside (E.length ≤ 64) := hE.len
    have HSRC : Aside (∀ wx, K w wx → SrcR wx a E.length (reVals E)) := fun wx k => by
      have := src_lo (hrow.keep k) hform E.length (Nat.le_refl _)
      rw [List.take_length] at this
      exact this
    have RZ : Aside (∀ wx, K w wx → (wx.alloc (.cells #[] 176)).ownsRow w.heap.size 176 36 (.slice (some ⟨wx.heap.size, 0, none⟩) 0 0) 0 []) := fun wx kx => World.ownsRow_lit (base := w.heap.size) (e := 176) (size := 36) wx #[] 0 (Kept.size kx) (by simp [maxLen]) rfl
    clear h hE hrow hform hcap he
    go_enter Tryz.func54, Tryz.ntmps54
    go_wp2_with (first
      | (go_at_call 97; refine (co _).mono ?_; rintro e w1 ⟨rfl, kc1⟩; have k1 : K w w1 := K.of_below kc1.bel)
      | (go_at_call 98; refine (cp _).mono ?_; rintro e w2 ⟨rfl, kc2⟩; have k2 : K w w2 := k1.trans (K.of_below kc2.bel); have hb2 : br < w2.heap.size := (by have := Kept.size k2; omega); have c2 := C1.out _ k2; have KZ : Aside (K w (w2.alloc (.cells #[] 176))) := k2.alloc _)
      | (at_builtin; apply wrapd))
    unfold Wrapd
    have hsz2 := Kept.size k2
    refine wpList_append_res _ rfl _ _ rfl w.heap.size _ 0 [] rfl (RZ.out _ k2) rfl a E.length cap (reVals E) rfl HL0.out (HSRC.out _ KZ.out) (reVals_one _) (by have := HL.out; omega) (by simp; omega) ?_
    intro v1 w3 hown1 hgrow1 hloc1
    rw [Nat.zero_add, List.nil_append] at hown1
    have k3 : K w w3 := K.grownR KZ.out hgrow1 (fun j hj => by cases hj; exact hsz2)
    have hne1 : ∀ kk, v1.ownBlock = some kk → w.heap.size ≤ kk := fun kk hkk => by
      rcases hloc1 with e | e
      · rw [e] at hkk
        cases hkk
        exact hsz2
      · rw [e] at hkk
        have := Option.some.inj hkk
        have := Kept.size KZ.out
        omega
    obtain ⟨a2, cap2, rfl, R2, KB2⟩ := HR.out.store k3 hown1 hne1
    have HFZ := (HR.out.keep k3).fz
    have c3 := C1.out _ k3
    have hfr : Aside (∀ g, a2 = some ⟨g, 0, none⟩ → w.heap.size ≤ g) := fun g e => hne1 g (by rw [e]; rfl)
    clear hown1 hgrow1 hloc1 hne1 hsz2 RZ HSRC KZ k1 k2 kc1 kc2 c2 hb2
    have c30 := (HR.out.keep k3).c0
    have HR2 : Aside _ := R2
    have HKB2 : Aside _ := KB2
    have hbW := R2.lt
    obtain ⟨g1, hrow, hform, hcap⟩ := R2.form
    have HROW : Aside _ := hrow
    have csp := rspot_any (q := q) hrow HE.out (Cl.clsI x)
    clear R2 KB2 hrow hform hcap
    cases hs : Cl.smaI x with
    | true =>
      go_wp2_with fail
      clear HFZ c3 k3 C1 c30
      generalize w3.setCell ⟨br, 1, none⟩ (.slice a2 E.length cap2) = W at *
      refine csp.mono ?_
      rintro e w5 ⟨(⟨i, k, p, j, rfl, he, hf⟩ | ⟨rfl, hf⟩), k5⟩
      · obtain ⟨hpm, h1, hc, s0', s1', hbit⟩ := freeB_some hf
        obtain ⟨hp0, n0', n1', _, _⟩ := HE.out.at he
        have hp : Ent p := hp0
        have n0 : 0 ≤ p.n := n0'
        have n1 : p.n ≤ 4096 := n1'
        have hi : i < E.length := (List.getElem?_eq_some_iff.1 he).1
        obtain ⟨c0', c1', _⟩ := hp.small h1
        have hsz := sz_range c0' c1'
        have k31 : k < 31 := by rw [← hc] at s1'; omega
        have R5 := HR2.out.keep k5
        obtain ⟨g, rfl, hgne, hrow5⟩ := R5.addr hi
        have hg0 := hfr.out g rfl
        have hix := hrow5.ix i hi
        have hixT := run_ixT g (i * 36 + 5) k k31
        obtain ⟨hct, hcf⟩ := R5.cellT he k31
        have hsN : (k : Int) < nslI (withT p (Bt.setI p.taken k)) := by
          show (k : Int) < nslI p
          unfold nslI
          rw [if_neg (by omega), hc]
          exact s1'
        have hset : (reList (p, j)).set (5 + k) (.bool true) = reList (withT p (Bt.setI p.taken k), j) := reList_turn h1 k31 fun m hm => by
          rw [has_set ⟨by omega, by omega⟩ ⟨by omega, by omega⟩]
          by_cases e : m = k
          · subst e
            simp
          · have : ¬ ((m : Int) = (k : Int)) := by omega
            simp [this, e]
        have R6 := R5.turn (k := 5 + k) he (by omega) hset
        rw [← Nat.add_assoc] at R6
        have he6 : (E.set i (withT p (Bt.setI p.taken k), j))[i]? = some (withT p (Bt.setI p.taken k), j) := by rw [List.getElem?_set_self hi]
        obtain ⟨g', hg', _, hrow6⟩ := R6.addr (i := i) (by rw [List.length_set]; exact hi)
        obtain rfl : g = g' := by injection hg' with e; injection e
        have HRG : Aside _ := hrow6.range he6
        have HR6 : Aside _ := R6
        have KB6 : Aside (RSt br w (w5.setCell ⟨g, i * 36 + 5 + k, none⟩ (.bool true))) := Kept.setCell (HKB2.out.trans (RSt.ofK k5)) (.bool true) (.inr hg0)
        have cpl := fun w => rPlace_any (withT p (Bt.setI p.taken k)) j k (ent_setR hp h1 (by omega) (by rw [hc]; exact s1')) n0 (by show p.n ≤ 8192; omega) hsN w
        have HA : Hid (allocL q (entsR E) x = (addrI p k, 0, updL (entsR E) p.n (withT p (Bt.setI p.taken k)))) := by
          show allocL q (entsR E) x = _
          unfold allocL
          rw [if_pos hx, if_pos hs, hf]
        have HUP : Aside _ := entsR_upd (e' := (withT p (Bt.setI p.taken k), j)) HE.out he
        have c1 := R5.c1
        have hb5 := R5.lt
        have HPA : Hid (addrI (withT p (Bt.setI p.taken k)) (k : Int) = addrI p k) := by show _ = _; rfl
        clear he he6 hrow6 hg' hpm hf hp0 n0' n1' hp R5 R6 hrow5 csp HROW hx hs hset hbit hsN HL0
        go_wp2_with (first
          | ((with_reducible refine wpList_load_re g (i * 36) (withT p (Bt.setI p.taken k), j) ?_ ?_ ?_); (· exact HRG.out); (· rfl))
          | (go_at_call 100; refine (cpl _).mono ?_; rintro e w7 ⟨rfl, k7⟩))
        go_ret2
        exact ⟨by rw [HA.out]; rfl, _, by rw [HA.out]; exact HUP.out, _, _, HR6.out.keep k7, KB6.out.trans (RSt.ofK k7)⟩
      · clear csp
        go_wp2_with fail
        have kW : K W w5 := k5
        obtain ⟨hG0, hG1⟩ := HE.out.grantedOk
        obtain ⟨m0, m1⟩ := pag_range hx.1 hx.2
        obtain ⟨hf0, hf1, hfr1, hfr2⟩ := HE.out.fitOk m0
        have NO : Aside (NewOk E x (newP E x) (newT x)) := new_ok hx
        have HA : Aside _ := alloc_new (E := E) (q := q) hx (fun _ => hf)
        have RAW : Aside (rawRe (fit (Cl.pagI x) 0 (entsR E)) (Cl.pagI x) (Cl.clsI x) x false = reList (withT (newP E x) (newT x), x)) := by
          have e := list_built (j := x) NO.out.built
          change [Value.int .i64 (newP E x).n, .int .i64 (newP E x).span, .int .i64 (newP E x).cls, .int .i64 (wdI (newP E x) x), .bool (lgB (newP E x))] ++ _ = _ at e
          rw [NO.out.n, NO.out.span, NO.out.cls, NO.out.wd, NO.out.lg, hs] at e
          exact e
        have HNE : Aside (∀ e ∈ E, e.1.n ≠ (newP E x).n) := fun e he hn => by
          obtain ⟨i, hi⟩ := List.getElem?_of_mem he
          have h1 := hfr1 i e hi (by omega)
          have h2 := (HE.out.spans e.1 (List.mem_map.2 ⟨e, he, rfl⟩)).1
          rw [NO.out.n] at hn
          simp [hitsB] at h1
          omega
        have CPL : Aside (∀ w, Calls Tryz.prog 100 #[.agg (reList (newP E x, x)).toArray, .int .i64 0] w fun e w' => e = .returned (.int .i64 (addrI (newP E x) 0)) ∧ K w w') := fun w => rPlace_any (newP E x) x 0 NO.out.ent (by rw [NO.out.n]; omega) (by rw [NO.out.n]; omega) NO.out.nsl w
        have CG : Aside (∀ wx, K W wx → Calls Tryz.prog 101 #[.agg #[.int .i64 q, .slice a2 E.length cap2]] wx fun e w' => e = .returned (.int .i64 (granted (entsR E))) ∧ K wx w') := fun wx kx => rGranted_any (HROW.out.keep kx) HE.out
        have CL : Aside (∀ wx, K W wx → Calls Tryz.prog 102 #[.agg #[.int .i64 q, .slice a2 E.length cap2], .int .i64 (Cl.pagI x), .int .i64 (-1)] wx fun e w' => e = .returned (.int .i64 (fit (Cl.pagI x) 0 (entsR E))) ∧ K wx w') := fun wx kx => rLowest_any (HROW.out.keep kx) HE.out (Cl.pagI x) (-1) _ hf0 (by omega) m0 m1 hfr1 hfr2
        have CQ : Aside (∀ wx, K W wx → wx.cell? ⟨br, 0, none⟩ = some (.int .i64 q) ∧ wx.cell? ⟨br, 1, none⟩ = some (.slice a2 E.length cap2)) := fun wx kx => ⟨(HR2.out.keep kx).c0, (HR2.out.keep kx).c1⟩
        have HPUT : Aside (∀ wx, K W wx → Calls Tryz.prog 103 #[.pointer (some ⟨br, 0, none⟩), .agg (reList (newP E x, x)).toArray] wx fun ed w' => (∃ v, ed = .returned v) ∧ ∃ k, k ≤ E.length ∧ (∀ y ∈ E.take k, y.1.n < (newP E x).n) ∧ (∀ y, E[k]? = some y → (newP E x).n ≤ y.1.n) ∧ RPost X wx br q (E.take k ++ (newP E x, x) :: E.drop k) w') := fun wx kx => rput_any (HR2.out.keep kx) HL.out (newP E x, x)
        clear hx hs hf hfr1 hfr2 co cp HL0 HROW
        generalize granted (entsR E) = G at *
        generalize fit (Cl.pagI x) 0 (entsR E) = f at *
        generalize Cl.pagI x = m at *
        obtain ⟨c0, c1⟩ := CQ.out _ kW
        by_cases hqq : (G + m) * 64 ≤ q
        · have hq2 : IntKind.i64.wrap (64 * IntKind.i64.wrap (G + m)) ≤ q := by
            rw [wrap_i64 (x := G + m) (by omega) (by omega), wrap_i64 (by omega) (by omega)]
            omega
          have hyq : Hid ((G + m) * 64 ≤ q) := hqq
          clear hqq
          go_region_with (go_at_call 101; refine (CG.out _ (by first | exact kW | exact kW.drewN _ | exact kW.drew)).mono ?_; rintro e w6 ⟨rfl, k6⟩; have k7 : K W w6 := (by first | exact kW.trans k6 | exact (kW.drewN _).trans k6 | exact kW.drew.trans k6); have c06 := (CQ.out _ k7).1)
          all_goals
            clear CG
            have c16 := (CQ.out _ k7).2
            go_wp2_with fail
          all_goals
            refine (CL.out _ k7).mono ?_
            rintro e w8 ⟨rfl, k8⟩
            have k9 := k7.trans k8
            clear k8 k7 c06 c16 c0 c1 hq2
            have hbw : br ≠ w8.heap.size := by have := Kept.size k9; omega
            go_wp2_with (first
              | ((with_reducible refine wpList_build_re f m (Cl.clsI x) x false (withT (newP E x) (newT x), x) RAW.out ?_ ?_ ?_ ?_ ?_ ?_); (· rfl); (· rfl); (· rfl); (· rfl); (· rfl))
              | with_reducible refine wpList_alloc_re ?_
              | ((with_reducible refine wpList_store_re _ ?_ (withT (newP E x) (newT x), x) ?_ ?_ ?_); (· rfl); (· rfl); (· rfl))
              | ((with_reducible refine wpList_store_tk (withT (newP E x) (newT x), x) (newP E x, x) NO.out.turn ?_ ?_); (· rfl))
              | ((with_reducible refine wpList_load_re w8.heap.size 0 (newP E x, x) ?_ ?_ ?_); (· first | exact rangeAt_new _ _ | exact hrg); (· rfl))
              | (go_at_call 103; refine (HPUT.out _ (k9.alloc _)).mono ?_; rintro e w10 ⟨⟨v, rfl⟩, kk, hk1, hk2, hk3, P10⟩; have hrg := rangeAt_post P10 hbw; have HP10 : Aside _ := P10; have HK123 : Aside (kk ≤ E.length ∧ (∀ y ∈ E.take kk, y.1.n < (newP E x).n) ∧ (∀ y, E[kk]? = some y → (newP E x).n ≤ y.1.n)) := ⟨hk1, hk2, hk3⟩; clear P10 hk1 hk2 hk3)
              | (go_at_call 100; refine (CPL.out _).mono ?_; rintro e w11 ⟨rfl, k11⟩))
          all_goals
            go_ret2
            obtain ⟨a10, cap10, R10, K10⟩ := HP10.out
            have HA2 : allocL q (entsR E) x = (addrI (newP E x) 0, 0, insL (newP E x) (entsR E)) := by rw [HA.out, if_pos hyq.out]
            refine ⟨by rw [HA2]; rfl, E.take kk ++ (newP E x, x) :: E.drop kk, ?_, a10, cap10, R10.keep k11, HKB2.out.trans (((RSt.ofK (k9.alloc _)).trans K10).trans (RSt.ofK k11))⟩
            rw [HA2]
            exact entsR_ins HK123.out.2.1 (fun y hy => by have h1 := HK123.out.2.2 y hy; have h2 := HNE.out y (List.mem_of_getElem? hy); show (newP E x).n < _; omega) HK123.out.1
        · have hq2 : q < IntKind.i64.wrap (64 * IntKind.i64.wrap (G + m)) := by
            rw [wrap_i64 (x := G + m) (by omega) (by omega), wrap_i64 (by omega) (by omega)]
            omega
          have HA2 : Aside (allocL q (entsR E) x = (0, 3, entsR E)) := by
            show allocL q (entsR E) x = _
            rw [HA.out, if_neg (by omega)]
          clear hqq
          go_region_with (go_at_call 101; refine (CG.out _ (by first | exact kW | exact kW.drewN _ | exact kW.drew)).mono ?_; rintro e w6 ⟨rfl, k6⟩; have k7 : K W w6 := (by first | exact kW.trans k6 | exact (kW.drewN _).trans k6 | exact kW.drew.trans k6); have c06 := (CQ.out _ k7).1)
          all_goals
            go_wp2
            go_ret2
            exact ⟨by rw [HA2.out]; rfl, E, by rw [HA2.out], _, _, HR2.out.keep k7, HKB2.out.trans (RSt.ofK k7)⟩
    | false =>
      clear csp
      go_wp2_with fail
      clear HFZ c3 k3 C1 c30
      generalize w3.setCell ⟨br, 1, none⟩ (.slice a2 E.length cap2) = W at *
      have kW : K W W := K.refl W
      obtain ⟨hG0, hG1⟩ := HE.out.grantedOk
      obtain ⟨m0, m1⟩ := pag_range hx.1 hx.2
      obtain ⟨hf0, hf1, hfr1, hfr2⟩ := HE.out.fitOk m0
      have NO : Aside (NewOk E x (newP E x) (newT x)) := new_ok hx
      have HA : Aside _ := alloc_new (E := E) (q := q) hx (by rw [hs]; intro h; cases h)
      have RAW : Aside (rawRe (fit (Cl.pagI x) 0 (entsR E)) (Cl.pagI x) (Cl.clsI x) x true = reList (withT (newP E x) (newT x), x)) := by
        have e := list_built (j := x) NO.out.built
        change [Value.int .i64 (newP E x).n, .int .i64 (newP E x).span, .int .i64 (newP E x).cls, .int .i64 (wdI (newP E x) x), .bool (lgB (newP E x))] ++ _ = _ at e
        rw [NO.out.n, NO.out.span, NO.out.cls, NO.out.wd, NO.out.lg, hs] at e
        exact e
      have HNE : Aside (∀ e ∈ E, e.1.n ≠ (newP E x).n) := fun e he hn => by
        obtain ⟨i, hi⟩ := List.getElem?_of_mem he
        have h1 := hfr1 i e hi (by omega)
        have h2 := (HE.out.spans e.1 (List.mem_map.2 ⟨e, he, rfl⟩)).1
        rw [NO.out.n] at hn
        simp [hitsB] at h1
        omega
      have CPL : Aside (∀ w, Calls Tryz.prog 100 #[.agg (reList (newP E x, x)).toArray, .int .i64 0] w fun e w' => e = .returned (.int .i64 (addrI (newP E x) 0)) ∧ K w w') := fun w => rPlace_any (newP E x) x 0 NO.out.ent (by rw [NO.out.n]; omega) (by rw [NO.out.n]; omega) NO.out.nsl w
      have CG : Aside (∀ wx, K W wx → Calls Tryz.prog 101 #[.agg #[.int .i64 q, .slice a2 E.length cap2]] wx fun e w' => e = .returned (.int .i64 (granted (entsR E))) ∧ K wx w') := fun wx kx => rGranted_any (HROW.out.keep kx) HE.out
      have CL : Aside (∀ wx, K W wx → Calls Tryz.prog 102 #[.agg #[.int .i64 q, .slice a2 E.length cap2], .int .i64 (Cl.pagI x), .int .i64 (-1)] wx fun e w' => e = .returned (.int .i64 (fit (Cl.pagI x) 0 (entsR E))) ∧ K wx w') := fun wx kx => rLowest_any (HROW.out.keep kx) HE.out (Cl.pagI x) (-1) _ hf0 (by omega) m0 m1 hfr1 hfr2
      have CQ : Aside (∀ wx, K W wx → wx.cell? ⟨br, 0, none⟩ = some (.int .i64 q) ∧ wx.cell? ⟨br, 1, none⟩ = some (.slice a2 E.length cap2)) := fun wx kx => ⟨(HR2.out.keep kx).c0, (HR2.out.keep kx).c1⟩
      have HPUT : Aside (∀ wx, K W wx → Calls Tryz.prog 103 #[.pointer (some ⟨br, 0, none⟩), .agg (reList (newP E x, x)).toArray] wx fun ed w' => (∃ v, ed = .returned v) ∧ ∃ k, k ≤ E.length ∧ (∀ y ∈ E.take k, y.1.n < (newP E x).n) ∧ (∀ y, E[k]? = some y → (newP E x).n ≤ y.1.n) ∧ RPost X wx br q (E.take k ++ (newP E x, x) :: E.drop k) w') := fun wx kx => rput_any (HR2.out.keep kx) HL.out (newP E x, x)
      clear hx hs hfr1 hfr2 co cp HL0 HROW
      generalize granted (entsR E) = G at *
      generalize fit (Cl.pagI x) 0 (entsR E) = f at *
      generalize Cl.pagI x = m at *
      obtain ⟨c0, c1⟩ := CQ.out _ kW
      by_cases hqq : (G + m) * 64 ≤ q
      · have hq2 : IntKind.i64.wrap (64 * IntKind.i64.wrap (G + m)) ≤ q := by
          rw [wrap_i64 (x := G + m) (by omega) (by omega), wrap_i64 (by omega) (by omega)]
          omega
        have hyq : Hid ((G + m) * 64 ≤ q) := hqq
        clear hqq
        go_region_with (go_at_call 101; refine (CG.out _ (by first | exact kW | exact kW.drewN _ | exact kW.drew)).mono ?_; rintro e w6 ⟨rfl, k6⟩; have k7 : K W w6 := (by first | exact kW.trans k6 | exact (kW.drewN _).trans k6 | exact kW.drew.trans k6); have c06 := (CQ.out _ k7).1)
        all_goals
          clear CG
          have c16 := (CQ.out _ k7).2
          go_wp2_with fail
        all_goals
          refine (CL.out _ k7).mono ?_
          rintro e w8 ⟨rfl, k8⟩
          have k9 := k7.trans k8
          clear k8 k7 c06 c16 c0 c1 hq2
          have hbw : br ≠ w8.heap.size := by have := Kept.size k9; omega
          go_wp2_with (first
            | ((with_reducible refine wpList_build_re f m (Cl.clsI x) x true (withT (newP E x) (newT x), x) RAW.out ?_ ?_ ?_ ?_ ?_ ?_); (· rfl); (· rfl); (· rfl); (· rfl); (· rfl))
            | with_reducible refine wpList_alloc_re ?_
            | ((with_reducible refine wpList_store_re _ ?_ (withT (newP E x) (newT x), x) ?_ ?_ ?_); (· rfl); (· rfl); (· rfl))
            | ((with_reducible refine wpList_store_tk (withT (newP E x) (newT x), x) (newP E x, x) NO.out.turn ?_ ?_); (· rfl))
            | ((with_reducible refine wpList_load_re w8.heap.size 0 (newP E x, x) ?_ ?_ ?_); (· first | exact rangeAt_new _ _ | exact hrg); (· rfl))
            | (go_at_call 103; refine (HPUT.out _ (k9.alloc _)).mono ?_; rintro e w10 ⟨⟨v, rfl⟩, kk, hk1, hk2, hk3, P10⟩; have hrg := rangeAt_post P10 hbw; have HP10 : Aside _ := P10; have HK123 : Aside (kk ≤ E.length ∧ (∀ y ∈ E.take kk, y.1.n < (newP E x).n) ∧ (∀ y, E[kk]? = some y → (newP E x).n ≤ y.1.n)) := ⟨hk1, hk2, hk3⟩; clear P10 hk1 hk2 hk3)
            | (go_at_call 100; refine (CPL.out _).mono ?_; rintro e w11 ⟨rfl, k11⟩))
        all_goals
          go_ret2
          obtain ⟨a10, cap10, R10, K10⟩ := HP10.out
          have HA2 : allocL q (entsR E) x = (addrI (newP E x) 0, 0, insL (newP E x) (entsR E)) := by rw [HA.out, if_pos hyq.out]
          refine ⟨by rw [HA2]; rfl, E.take kk ++ (newP E x, x) :: E.drop kk, ?_, a10, cap10, R10.keep k11, HKB2.out.trans (((RSt.ofK (k9.alloc _)).trans K10).trans (RSt.ofK k11))⟩
          rw [HA2]
          exact entsR_ins HK123.out.2.1 (fun y hy => by have h1 := HK123.out.2.2 y hy; have h2 := HNE.out y (List.mem_of_getElem? hy); show (newP E x).n < _; omega) HK123.out.1
      · have hq2 : q < IntKind.i64.wrap (64 * IntKind.i64.wrap (G + m)) := by
          rw [wrap_i64 (x := G + m) (by omega) (by omega), wrap_i64 (by omega) (by omega)]
          omega
        have HA2 : Aside (allocL q (entsR E) x = (0, 3, entsR E)) := by
          show allocL q (entsR E) x = _
          rw [HA.out, if_neg (by omega)]
        clear hqq
        go_region_with (go_at_call 101; refine (CG.out _ (by first | exact kW | exact kW.drewN _ | exact kW.drew)).mono ?_; rintro e w6 ⟨rfl, k6⟩; have k7 : K W w6 := (by first | exact kW.trans k6 | exact (kW.drewN _).trans k6 | exact kW.drew.trans k6); have c06 := (CQ.out _ k7).1)
        all_goals
          go_wp2
          go_ret2
          exact ⟨by rw [HA2.out]; rfl, E, by rw [HA2.out], _, _, HR2.out.keep k7, HKB2.out.trans (RSt.ofK k7)⟩
  · have he : Cl.errW x = 2 := Cl.errW_out hx
    have HA : Hid (allocL q (entsR E) x = (0, 2, entsR E)) := by
      show allocL q (entsR E) x = _
      unfold allocL
      rw [if_neg hx]
    rw [he] at co
    clear h hE he hx
    go_enter Tryz.func54, Tryz.ntmps54
    go_wp2_with (first
      | (go_at_call 97; refine (co _).mono ?_; rintro e w1 ⟨rfl, kc1⟩; have k1 : K w w1 := K.of_below kc1.bel))
    go_ret2
    exact ⟨by rw [HA.out]; rfl, E, by rw [HA.out], a, cap, HR.out.keep k1, RSt.ofK k1⟩

end Hp
end Go.Proofs.YtlmfojkhfipdnaaGreatDoor

/-
  The reference's Slide.
-/
namespace Go.Proofs.YtlmfojkhfipdnaaGreatDoor
open Go.RowKit Go.Maps
namespace Hp
variable {X : Fr} {w w' : World} {br : Nat} {q : Int} {a : Option Addr} {cap : Nat} {E E' : List Re}

/-- The entries but one. -/
def butE (E : List Re) (i : Nat) : List Re := E.take i ++ E.drop (i + 1)
theorem mem_but {i : Nat} {e : Re} : e ∈ butE E i ↔ ∃ j, j ≠ i ∧ E[j]? = some e := by
  unfold butE
  rw [List.mem_append]
  constructor
  · rintro (h | h)
    · obtain ⟨j, hj⟩ := List.getElem?_of_mem h
      have h1 := (List.getElem?_eq_some_iff.1 hj).1
      rw [List.length_take] at h1
      exact ⟨j, by omega, by rw [← hj, List.getElem?_take_of_lt (by omega)]⟩
    · obtain ⟨j, hj⟩ := List.getElem?_of_mem h
      rw [List.getElem?_drop] at hj
      exact ⟨i + 1 + j, by omega, hj⟩
  · rintro ⟨j, hj, he⟩
    by_cases h : j < i
    · exact .inl (List.mem_of_getElem? (i := j) (by rw [List.getElem?_take_of_lt h]; exact he))
    · exact .inr (List.mem_of_getElem? (i := j - (i + 1)) (by rw [List.getElem?_drop, show i + 1 + (j - (i + 1)) = j from by omega]; exact he))
theorem frB_but {i : Nat} {f m : Int} : frB E f m i ↔ frB (butE E i) f m (-1) := by
  constructor
  · intro h j e he _
    obtain ⟨j', hj, he'⟩ := mem_but.1 (List.mem_of_getElem? he)
    exact h j' e he' (by omega)
  · intro h j e he hj
    obtain ⟨j', hj'⟩ := List.getElem?_of_mem ((mem_but (i := i)).2 ⟨j, by omega, he⟩)
    exact h j' e hj' (by omega)
theorem Eo.but (hE : Eo E) {i : Nat} {e : Re} (he : E[i]? = some e) : Eo (butE E i) ∧ entsR (butE E i) = delL (entsR E) e.1.n := by
  have hd := entsR_del hE he
  refine ⟨⟨?_, ?_, fun r hr => ?_⟩, hd⟩
  · rw [show butE E i = E.take i ++ E.drop (i + 1) from rfl, hd]
    exact ⟨fun r hr => hE.wl.ent r (mem_delL.1 hr).1, hE.wl.srt.sublist List.filter_sublist, fun r hr => hE.wl.n0 r (mem_delL.1 hr).1⟩
  · have := hE.len
    unfold butE
    rw [List.length_append, List.length_take, List.length_drop]
    omega
  · obtain ⟨j, _, hj⟩ := mem_but.1 hr
    exact hE.n1 r (List.mem_of_getElem? hj)
/-- Its own pages are free for it. -/
theorem Eo.own (hE : Eo E) {i : Nat} {e : Re} (he : E[i]? = some e) : frB (butE E i) e.1.n e.1.span (-1) := by
  intro j r hr _
  obtain ⟨j', hj, hr'⟩ := mem_but.1 (List.mem_of_getElem? hr)
  have h1 : (entsR E)[i]? = some e.1 := by simp [entsR, he]
  have h2 : (entsR E)[j']? = some r.1 := by simp [entsR, hr']
  have hs1 := (hE.spans _ (List.mem_of_getElem? h1)).1
  have hs2 := (hE.spans _ (List.mem_of_getElem? h2)).1
  have hp := List.pairwise_iff_getElem.1 hE.wl.srt
  obtain ⟨i1, i2⟩ := List.getElem?_eq_some_iff.1 h1
  obtain ⟨j1, j2⟩ := List.getElem?_eq_some_iff.1 h2
  cases hh : hitsB e.1.n e.1.span r.1 with
  | false => rfl
  | true =>
    simp [hitsB] at hh
    by_cases hlt : i < j'
    · have := hp i j' i1 j1 hlt
      rw [i2, j2] at this
      omega
    · have := hp j' i j1 i1 (by omega)
      rw [i2, j2] at this
      omega
theorem Eo.fitBut (hE : Eo E) {i : Nat} {e : Re} (he : E[i]? = some e) : 0 ≤ fit e.1.span 0 (delL (entsR E) e.1.n) ∧ fit e.1.span 0 (delL (entsR E) e.1.n) ≤ e.1.n ∧ frB E (fit e.1.span 0 (delL (entsR E) e.1.n)) e.1.span i ∧ (∀ g, 0 ≤ g → g < fit e.1.span 0 (delL (entsR E) e.1.n) → ¬ frB E g e.1.span i) ∧ frB (butE E i) (fit e.1.span 0 (delL (entsR E) e.1.n)) e.1.span (-1) := by
  obtain ⟨hb, hd⟩ := hE.but he
  obtain ⟨_, n0, _, s0, s1⟩ := hE.at he
  obtain ⟨f0, _, f2, f3⟩ := hb.fitOk s0
  rw [hd] at f0 f2 f3
  refine ⟨f0, ?_, frB_but.2 f2, fun g g0 g1 h => f3 g g0 g1 (frB_but.1 h), f2⟩
  by_cases h : fit e.1.span 0 (delL (entsR E) e.1.n) ≤ e.1.n
  · exact h
  · exact absurd (hE.own he) (f3 e.1.n n0 (by omega))
/-- It goes, and comes back to where it was. -/
theorem ins_back (hE : Eo E) {i : Nat} {e : Re} (he : E[i]? = some e) : insL e.1 (delL (entsR E) e.1.n) = entsR E := by
  obtain ⟨_, hd⟩ := hE.but he
  have hi : i < E.length := (List.getElem?_eq_some_iff.1 he).1
  have hs := split_at he
  have hsrt := hE.wl.srt
  have hsp := hE.spans
  have e1 : entsR E = entsR (E.take i) ++ e.1 :: entsR (E.drop (i + 1)) := by
    conv => lhs; rw [hs, entsR_app]
    rfl
  rw [e1] at hsrt hsp
  obtain ⟨_, h2, h3⟩ := List.pairwise_append.1 hsrt
  have hes := (hsp e.1 (by simp)).1
  have et : (butE E i).take i = E.take i := by
    unfold butE
    rw [List.take_append_of_le_length (by rw [List.length_take]; omega), List.take_take, Nat.min_self]
  have ed : (butE E i).drop i = E.drop (i + 1) := by
    unfold butE
    rw [List.drop_append_of_le_length (by rw [List.length_take]; omega), List.drop_eq_nil_of_le (by rw [List.length_take]; omega), List.nil_append]
  have := entsR_ins (e := e) (E := butE E i) (k := i) (fun x hx => by
      rw [et] at hx
      have h4 := h3 x.1 (List.mem_map.2 ⟨x, hx, rfl⟩) e.1 (by simp)
      have h5 := (hsp x.1 (List.mem_append.2 (.inl (List.mem_map.2 ⟨x, hx, rfl⟩)))).1
      omega) (fun x hx => by
      have h6 : E[i + 1]? = some x := by
        have : (butE E i)[i]? = ((butE E i).drop i)[0]? := by rw [List.getElem?_drop]; rfl
        rw [this, ed, List.getElem?_drop] at hx
        exact hx
      have h4 := (List.pairwise_cons.1 h2).1 x.1 (List.mem_map.2 ⟨x, List.mem_of_getElem? (i := 0) (by rw [List.getElem?_drop]; exact h6), rfl⟩)
      omega) (by unfold butE; rw [List.length_append, List.length_take]; omega)
  rw [et, ed, hd, ← hs] at this
  exact this.symm

end Hp
end Go.Proofs.YtlmfojkhfipdnaaGreatDoor

/-
  The reference's Slide: no block; a large block.
-/
namespace Go.Proofs.YtlmfojkhfipdnaaGreatDoor
open Go.RowKit Go.Maps
namespace Hp
variable {X : Fr} {w w' : World} {br : Nat} {q : Int} {a : Option Addr} {cap : Nat} {E E' : List Re}

theorem set_n (p : Pg) (j f : Int) : (reList (p, j)).set 0 (.int .i64 f) = reList (atN p f, j) := rfl
theorem rangeAt_blk {w : World} {b : Nat} {e : Re} {fz : Nat × Nat} (h : w.heap[b]? = some (.cells (reList e).toArray 176 fz)) : w.rangeAt b 0 (reList e) := fun j u hu => by
  simp [World.cell?, h, hu]

set_option maxRecDepth 100000 in
set_option maxHeartbeats 4000000 in
theorem rSlide_none (h : Rf X w br q a cap E) (hE : Eo E) (x : Int) (hf : findB (entsR E) x = none) : Calls Tryz.prog 61 #[.pointer (some ⟨br, 0, none⟩), .int .i64 x] w fun e w' => e = .returned (.tuple #[.int .i64 0, .int .i64 5]) ∧ RPost X w br q E w' := by
  obtain ⟨g, hrow, hform, hcap⟩ := h.form
  have cf := rFind_any (q := q) hrow hE x
  have c0 := h.c0
  have c1 := h.c1
  have s0 := h.s0
  have HR : Aside _ := h
  have HE : Aside _ := hE
  clear h hE hrow hform hcap
  go_enter Tryz.func61, Tryz.ntmps61
  go_wp2_with fail
  refine cf.mono ?_
  rintro e w1 ⟨(⟨i, k, rfl, hh⟩ | ⟨rfl, hn⟩), k1⟩
  · obtain ⟨_, _, _, _, hf2⟩ := hit_find HE.out hh
    rw [hf] at hf2
    cases hf2
  · clear hn cf c0 c1 s0
    go_wp2
    go_ret2
    exact ⟨rfl, a, cap, HR.out.keep k1, RSt.ofK k1⟩

set_option maxRecDepth 100000 in
set_option maxHeartbeats 4000000 in
theorem rSlide_large (h : Rf X w br q a cap E) (hE : Eo E) (x : Int) {p : Pg} {s : Int} (hf : findB (entsR E) x = some (p, s)) (h2 : p.kind = 2) : Calls Tryz.prog 61 #[.pointer (some ⟨br, 0, none⟩), .int .i64 x] w fun e w' => e = .returned (.tuple #[.int .i64 (addrI (atN p (fit p.span 0 (delL (entsR E) p.n))) 0), .int .i64 0]) ∧ ∃ E', entsR E' = insL (atN p (fit p.span 0 (delL (entsR E) p.n))) (delL (entsR E) p.n) ∧ RPost X w br q E' w' := by
  obtain ⟨g, hrow, hform, hcap⟩ := h.form
  have cf := rFind_any (q := q) hrow hE x
  have c0 := h.c0
  have c1 := h.c1
  have s0 := h.s0
  have hbr := h.lt
  have HROW : Aside _ := hrow
  have HR : Aside _ := h
  have HE : Aside _ := hE
  clear h hE hrow hform hcap
  go_enter Tryz.func61, Tryz.ntmps61
  go_wp2_with fail
  refine cf.mono ?_
  rintro e w1 ⟨(⟨i, k, rfl, hh⟩ | ⟨rfl, hn⟩), k1⟩
  · obtain ⟨⟨p', j⟩, he', hk, ht, hf2⟩ := hit_find HE.out hh
    rw [hf] at hf2
    obtain ⟨rfl, rfl⟩ : p = p' ∧ s = (k : Int) := by injection hf2 with e; injection e with e1 e2; exact ⟨e1, e2⟩
    have he : E[i]? = some (p, j) := he'
    obtain ⟨hp0, n00, n10, sp00, sp10⟩ := HE.out.at he
    have hp : Ent p := hp0
    have n0 : 0 ≤ p.n := n00
    have n1 : p.n ≤ 4096 := n10
    have sp0 : 1 ≤ p.span := sp00
    have sp1 : p.span ≤ 63 := sp10
    have hi : i < E.length := (List.getElem?_eq_some_iff.1 he).1
    have hn1 : nslI p = 1 := if_pos h2
    obtain rfl : k = 0 := by have hk' : (k : Int) < nslI p := hk; omega
    have hx : x = addrI p 0 := by obtain ⟨_, _, _, hk2⟩ := hh; exact (findB_some hf).2.2.symm
    obtain ⟨f0, f1, f2, f3, f4⟩ := HE.out.fitBut he
    have f1 : fit p.span 0 (delL (entsR E) p.n) ≤ p.n := f1
    have f0 : 0 ≤ fit p.span 0 (delL (entsR E) p.n) := f0
    have HB : Aside (insL p (delL (entsR E) p.n) = entsR E) := ins_back HE.out he
    have hbr1 : br < w1.heap.size := by have := Kept.size k1; omega
    obtain ⟨eb, hd⟩ := HE.out.but he
    have hix := HROW.out.ix i hi
    have c11 := k1.cell c1
    have c01 := k1.cell c0
    have d0 := ((HROW.out.keep k1).at he).1
    have hl : lgB p = true := by simp [lgB, h2]
    have d4 : w1.cell? ⟨g, i * 36 + 4, none⟩ = some (.bool true) := by rw [← hl]; exact ((HROW.out.keep k1).at he).2.2.2.2
    have HRG : Aside _ := (HROW.out.keep k1).range he
    have CL : Aside (∀ wx, K w1 wx → Calls Tryz.prog 102 #[.agg #[.int .i64 q, .slice a E.length cap], .int .i64 p.span, .int .i64 (i : Int)] wx fun e w' => e = .returned (.int .i64 (fit p.span 0 (delL (entsR E) p.n))) ∧ K wx w') := fun wx kx => rLowest_any (HROW.out.keep (k1.trans kx)) HE.out p.span i _ f0 (by omega) sp0 sp1 f2 f3
    have CQ : Aside (∀ wx, K w1 wx → wx.cell? ⟨br, 0, none⟩ = some (.int .i64 q) ∧ wx.cell? ⟨br, 1, none⟩ = some (.slice a E.length cap) ∧ wx.cell? ⟨g, i * 36, none⟩ = some (.int .i64 p.n)) := fun wx kx => ⟨(HR.out.keep (k1.trans kx)).c0, (HR.out.keep (k1.trans kx)).c1, ((HROW.out.keep (k1.trans kx)).at he).1⟩
    clear hf hf2 he' hh ht hk cf hp0 n00 n10 sp00 sp10 f2 f3
    generalize hFE : fit p.span 0 (delL (entsR E) p.n) = f at *
    have HFE : Aside (fit p.span 0 (delL (entsR E) p.n) = f) := hFE
    clear hFE
    go_wp2_with (first
      | ((with_reducible refine wpList_load_re g (i * 36) (p, j) ?_ ?_ ?_); (· exact HRG.out); (· rfl))
      | with_reducible refine wpList_alloc_re ?_
      | ((with_reducible refine wpList_store_re _ ?_ (p, j) ?_ ?_ ?_); (· rfl); (· rfl); (· rfl)))
    have KW2 : K w1 (w1.alloc (.cells (reList (p, j)).toArray 176)) := (K.refl _).alloc _
    have hb2 : (w1.alloc (.cells (reList (p, j)).toArray 176)).heap[w1.heap.size]? = some (.cells (reList (p, j)).toArray 176) := (MapKept.heap_alloc w1 _).1
    have hgw : g < w1.heap.size := World.block_lt_of_cell? w1 _ d0
    have RB : Aside (∀ wx : World, wx.heap[w1.heap.size]? = some (.cells (reList (p, j)).toArray 176) → wx.cell? ⟨w1.heap.size, 0, none⟩ = some (.int .i64 p.n) ∧ wx.cell? ⟨w1.heap.size, 1, none⟩ = some (.int .i64 p.span) ∧ wx.frozen? ⟨w1.heap.size, 0, none⟩ = false) := fun wx hw => by
      have r := rangeAt_blk hw
      exact ⟨by simpa using r 0 _ rfl, by simpa using r 1 _ rfl, by simp [World.frozen?, hw]⟩
    have HWB : Aside (∀ wx, K w1 wx → ∀ v, K w1 (wx.setCell ⟨w1.heap.size, 0, none⟩ v)) := fun wx kx v => kx.setCell v (Nat.le_refl _)
    have hbw : br ≠ w1.heap.size := by omega
    have hgb : g ≠ w1.heap.size := by omega
    have hs2 : (w1.alloc (.cells (reList (p, j)).toArray 176)).heap.size = w1.heap.size + 1 := by simp
    generalize w1.alloc (.cells (reList (p, j)).toArray 176) = W2 at *
    generalize w1.heap.size = wb at *
    obtain ⟨b0, b1, bf⟩ := RB.out _ hb2
    obtain ⟨e0, e1, e2⟩ := CQ.out _ KW2
    clear c11 c01 d0 d4 c0 c1 s0
    go_region_with (go_at_call 102; refine (CL.out _ (by first | exact KW2 | exact KW2.drewN _ | exact KW2.drew)).mono ?_; rintro e w3 ⟨rfl, k3⟩; have k4 : K w1 w3 := (by first | exact KW2.trans k3 | exact (KW2.drewN _).trans k3 | exact KW2.drew.trans k3); have hb3 : w3.heap[wb]? = some (.cells (reList (p, j)).toArray 176) := k3.block hb2; obtain ⟨b03, b13, bf3⟩ := RB.out _ hb3)
    all_goals
      have k5 := HWB.out _ k4 (.int .i64 f)
      have hb5 : (w3.setCell ⟨wb, 0, none⟩ (.int .i64 f)).heap[wb]? = some (.cells (reList (atN p f, j)).toArray 176) := by
        rw [heap_setCell_same w3 wb 0 _ _ _ hb3, ← set_n p j f]
        simp
      have b05 : (w3.setCell ⟨wb, 0, none⟩ (.int .i64 f)).cell? ⟨wb, 0, none⟩ = some (.int .i64 f) := by
        have r := rangeAt_blk hb5 0 (.int .i64 f) rfl
        simpa using r
      have HK5 : Aside _ := k5
      have HB5 : Aside _ := hb5
      clear b0 b1 bf b03 b13 bf3 e0 e1 e2 hb3 hb2 k3 KW2 hb5 hs2 RB HWB CL k4
      generalize w3.setCell ⟨wb, 0, none⟩ (.int .i64 f) = W5 at *
      obtain ⟨e0, e1, e2⟩ := CQ.out _ k5
      clear k5
      by_cases hlt : f < p.n
      · go_wp2
        go_quiet (fail)
        have k6 := HK5.out.drewN nq
        have hb6 : (W5.drewN nq).heap[wb]? = some (.cells (reList (atN p f, j)).toArray 176) := HB5.out
        clear e0 e1 e2 b05
        generalize W5.drewN nq = W6 at *
        have hw6 : wb < W6.heap.size := (Array.getElem?_eq_some_iff.1 hb6).1
        have cdr := rdrop_any (HR.out.keep (k1.trans k6)) HE.out.len i hi
        have cpl := fun w => rPlace_any (atN p f) j 0 (show Ent (atN p f) from hp) f0 (show f ≤ 8192 by omega) (show ((0 : Nat) : Int) < nslI p by omega) w
        go_wp2_with fail
        refine cdr.mono ?_
        rintro e w7 ⟨⟨v, rfl⟩, a7, cap7, R7, K7⟩
        have hb7 : w7.heap[wb]? = some (.cells (reList (atN p f, j)).toArray 176) := (Kept.same K7 wb hw6 (fun e => hbw e.symm)).trans hb6
        have hw7 : wb < w7.heap.size := (Array.getElem?_eq_some_iff.1 hb7).1
        have RG7 : Aside _ := rangeAt_blk hb7
        have cput := rput_any (E := butE E i) R7 eb.len (atN p f, j)
        clear cdr
        go_wp2_with (first
          | ((with_reducible refine wpList_load_re wb 0 (atN p f, j) ?_ ?_ ?_); (· first | exact RG8.out | exact RG7.out); (· rfl))
          | (go_at_call 103; refine cput.mono ?_; rintro e w8 ⟨⟨v8, rfl⟩, kk, hk1, hk2, hk3, a8, cap8, R8, K8⟩; have hb8 : w8.heap[wb]? = some (.cells (reList (atN p f, j)).toArray 176) := (Kept.same K8 wb hw7 (fun e => hbw e.symm)).trans hb7; have RG8 : Aside _ := rangeAt_blk hb8; clear RG7)
          | (go_at_call 100; refine (cpl _).mono ?_; rintro e w9 ⟨rfl, k9⟩))
        go_ret2
        refine ⟨by rw [HFE.out]; rfl, (butE E i).take kk ++ (atN p f, j) :: (butE E i).drop kk, ?_, a8, cap8, R8.keep k9, (((RSt.ofK (k1.trans k6)).trans K7).trans K8).trans (RSt.ofK k9)⟩
        have hd' : entsR (butE E i) = delL (entsR E) p.n := hd
        rw [HFE.out, ← hd']
        refine entsR_ins (e := (atN p f, j)) hk2 (fun y hy => ?_) hk1
        have h1 : f ≤ y.1.n := hk3 y hy
        have h3 : hitsB f p.span y.1 = false := f4 kk y hy (by omega)
        have h4 := (eb.spans y.1 (List.mem_map.2 ⟨y, List.mem_of_getElem? hy, rfl⟩)).1
        show f < y.1.n
        simp [hitsB] at h3
        omega
      · have hfe : f = p.n := by omega
        go_wp2
        go_quiet (fail)
        go_wp2
        go_ret2
        have HFP : Aside (fit p.span 0 (delL (entsR E) p.n) = p.n) := HFE.out.trans hfe
        refine ⟨by rw [HFP.out]; rfl, E, ?_, a, cap, HR.out.keep (k1.trans (HK5.out.drewN _)), RSt.ofK (k1.trans (HK5.out.drewN _))⟩
        rw [HFP.out]
        exact HB.out.symm
  · have := nohit_find HE.out hn
    rw [hf] at this
    cases this

end Hp
end Go.Proofs.YtlmfojkhfipdnaaGreatDoor

/-
  The reference's Slide: a small block.
-/
namespace Go.Proofs.YtlmfojkhfipdnaaGreatDoor
open Go.RowKit Go.Maps
namespace Hp
variable {X : Fr} {w w' : World} {br : Nat} {q : Int} {a : Option Addr} {cap : Nat} {E E' : List Re}

set_option maxRecDepth 100000 in
set_option maxHeartbeats 4000000 in
theorem rSlide_stay (h : Rf X w br q a cap E) (hE : Eo E) (x : Int) {p : Pg} {s : Int} (hf : findB (entsR E) x = some (p, s)) (h1 : p.kind = 1) (hfb : freeB (entsR E) p.cls = none) : Calls Tryz.prog 61 #[.pointer (some ⟨br, 0, none⟩), .int .i64 x] w fun e w' => e = .returned (.tuple #[.int .i64 x, .int .i64 0]) ∧ RPost X w br q E w' := by
  obtain ⟨g, hrow, hform, hcap⟩ := h.form
  have cf := rFind_any (q := q) hrow hE x
  have c0 := h.c0
  have c1 := h.c1
  have s0 := h.s0
  have hbr := h.lt
  have HROW : Aside _ := hrow
  have HR : Aside _ := h
  have HE : Aside _ := hE
  clear h hE hrow hform hcap
  go_enter Tryz.func61, Tryz.ntmps61
  go_wp2_with fail
  refine cf.mono ?_
  rintro e w1 ⟨(⟨i, k, rfl, hh⟩ | ⟨rfl, hn⟩), k1⟩
  · obtain ⟨⟨p', j⟩, he', hk, ht, hf2⟩ := hit_find HE.out hh
    rw [hf] at hf2
    obtain ⟨rfl, rfl⟩ : p = p' ∧ s = (k : Int) := by injection hf2 with e; injection e with e1 e2; exact ⟨e1, e2⟩
    have he : E[i]? = some (p, j) := he'
    have hi : i < E.length := (List.getElem?_eq_some_iff.1 he).1
    have hix := HROW.out.ix i hi
    have c11 := k1.cell c1
    have c01 := k1.cell c0
    have hl : lgB p = false := by simp [lgB, h1]
    have d4 : w1.cell? ⟨g, i * 36 + 4, none⟩ = some (.bool false) := by rw [← hl]; exact ((HROW.out.keep k1).at he).2.2.2.2
    have d2 : w1.cell? ⟨g, i * 36 + 2, none⟩ = some (.int .i64 p.cls) := ((HROW.out.keep k1).at he).2.2.1
    have CSN : Aside (∀ wx, K w1 wx → Calls Tryz.prog 99 #[.agg #[.int .i64 q, .slice a E.length cap], .int .i64 p.cls] wx fun e w' => e = .returned (.tuple #[.int .i64 (-1), .int .i64 0]) ∧ K wx w') := fun wx kx => (rspot_any (q := q) (HROW.out.keep (k1.trans kx)) HE.out p.cls).mono fun e w' ⟨h2, h3⟩ => by
      rcases h2 with ⟨_, _, _, _, _, _, h4⟩ | ⟨h4, _⟩
      · rw [hfb] at h4
        cases h4
      · exact ⟨h4, h3⟩
    clear hf hf2 he' hh ht hk cf hfb c0 c1 s0
    go_wp2
    go_region_with (go_at_call 99; refine (CSN.out _ (by first | exact K.refl _ | exact (K.refl _).drewN _ | exact (K.refl _).drew)).mono ?_; rintro e w3 ⟨rfl, k3⟩; have k4 : K w1 w3 := (by first | exact k3 | exact ((K.refl _).drewN _).trans k3 | exact ((K.refl _).drew).trans k3))
    all_goals
      go_wp2
      go_ret2
      exact ⟨rfl, a, cap, HR.out.keep (k1.trans k4), RSt.ofK (k1.trans k4)⟩
  · have := nohit_find HE.out hn
    rw [hf] at this
    cases this

end Hp
end Go.Proofs.YtlmfojkhfipdnaaGreatDoor

/-
  The reference's Slide: a small block, where a slot of its class is free.
-/
namespace Go.Proofs.YtlmfojkhfipdnaaGreatDoor
open Go.RowKit Go.Maps
namespace Hp
variable {X : Fr} {w w' : World} {br : Nat} {q : Int} {a : Option Addr} {cap : Nat} {E E' : List Re}

theorem updR {L : List Pg} (l : Wl L) {p p' : Pg} (hp : p ∈ L) (hn : p'.n = p.n) (hs : p'.span = p.span) (he : Ent p') : Wl (updL L p.n p') := by
  refine ⟨fun r hr => ?_, ?_, fun r hr => ?_⟩
  · rcases mem_upd hr with rfl | ⟨h3, _⟩
    · exact he
    · exact l.ent r h3
  · unfold Srt updL
    rw [List.pairwise_map]
    refine List.Pairwise.imp_of_mem (fun {a b} ha hb hab => ?_) l.srt
    have e : ∀ x ∈ L, (if x.n = p.n then p' else x).n = x.n ∧ (if x.n = p.n then p' else x).span = x.span := fun x hx => by
      split
      · rename_i hx2
        have := l.inj hx hp hx2
        subst this
        exact ⟨hn, hs⟩
      · exact ⟨rfl, rfl⟩
    rw [(e a ha).1, (e a ha).2, (e b hb).1]
    exact hab
  · rcases mem_upd hr with rfl | ⟨h3, _⟩
    · rw [hn]; exact l.n0 p hp
    · exact l.n0 r h3
theorem Eo.setT (hE : Eo E) {i : Nat} {p : Pg} {j t : Int} (he : E[i]? = some (p, j)) (hp : Ent (withT p t)) : Eo (E.set i (withT p t, j)) ∧ entsR (E.set i (withT p t, j)) = updL (entsR E) p.n (withT p t) := by
  have hu := entsR_upd (e' := (withT p t, j)) hE he
  have hm : p ∈ entsR E := List.mem_map.2 ⟨(p, j), List.mem_of_getElem? he, rfl⟩
  refine ⟨⟨?_, by rw [List.length_set]; exact hE.len, fun e hx => ?_⟩, hu⟩
  · rw [hu]
    exact updR hE.wl hm rfl rfl hp
  · rcases List.mem_or_eq_of_mem_set hx with h | rfl
    · exact hE.n1 e h
    · exact hE.n1 (p, j) (List.mem_of_getElem? he)
/-- What stands at the block's own entry when a slot has been taken. -/
theorem turn_at (hE : Eo E) {i i2 : Nat} {p p2 : Pg} {j j2 t : Int} (he : E[i]? = some (p, j)) (he2 : E[i2]? = some (p2, j2)) : ∃ j', (E.set i2 (withT p2 t, j2))[i]? = some (if p.n = p2.n then withT p2 t else p, j') := by
  have hm : p ∈ entsR E := List.mem_map.2 ⟨(p, j), List.mem_of_getElem? he, rfl⟩
  have hm2 : p2 ∈ entsR E := List.mem_map.2 ⟨(p2, j2), List.mem_of_getElem? he2, rfl⟩
  by_cases hi : i = i2
  · subst hi
    rw [he] at he2
    injection he2 with e
    injection e with e1 e2
    subst e1 e2
    exact ⟨j, by rw [if_pos rfl, List.getElem?_set_self (List.getElem?_eq_some_iff.1 he).1]⟩
  · refine ⟨j, ?_⟩
    rw [List.getElem?_set_ne (fun e => hi e.symm), he, if_neg]
    intro hn
    have h1 : (entsR E)[i]? = some p := by simp [entsR, he]
    have h2 : (entsR E)[i2]? = some p2 := by simp [entsR, he2]
    obtain ⟨i1, i2'⟩ := List.getElem?_eq_some_iff.1 h1
    obtain ⟨j1, j2'⟩ := List.getElem?_eq_some_iff.1 h2
    have hs1 := (hE.spans _ hm).1
    have hs2 := (hE.spans _ hm2).1
    have hp := List.pairwise_iff_getElem.1 hE.wl.srt
    by_cases hlt : i < i2
    · have := hp i i2 i1 j1 hlt
      rw [i2', j2'] at this
      omega
    · have := hp i2 i j1 i1 (by omega)
      rw [i2', j2'] at this
      omega

set_option maxRecDepth 100000 in
set_option maxHeartbeats 4000000 in
theorem rSlide_some (h : Rf X w br q a cap E) (hE : Eo E) (x : Int) {p : Pg} {s : Int} (hf : findB (entsR E) x = some (p, s)) (h1 : p.kind = 1) {p2 : Pg} {s2 : Int} (hfb : freeB (entsR E) p.cls = some (p2, s2)) : Calls Tryz.prog 61 #[.pointer (some ⟨br, 0, none⟩), .int .i64 x] w fun e w' => (x < addrI p2 s2 ∧ e = .returned (.tuple #[.int .i64 x, .int .i64 0]) ∧ RPost X w br q E w') ∨ (¬ x < addrI p2 s2 ∧ e = .returned (.tuple #[.int .i64 (addrI p2 s2), .int .i64 0]) ∧ ∃ E', entsR E' = slideS (entsR E) p s p2 s2 ∧ RPost X w br q E' w') := by
  obtain ⟨g, hrow, hform, hcap⟩ := h.form
  have cf := rFind_any (q := q) hrow hE x
  have c0 := h.c0
  have c1 := h.c1
  have s0 := h.s0
  have hbr := h.lt
  have HROW : Aside _ := hrow
  have HR : Aside _ := h
  have HE : Aside _ := hE
  have C1 : Aside (∀ wx, K w wx → wx.cell? ⟨br, 1, none⟩ = some (.slice a E.length cap)) := fun wx k => (h.keep k).c1
  have HL0 : Aside ((reVals E).length = E.length * 36) := reVals_len E
  have HL : Aside (E.length ≤ 64) := hE.len
  have HSRC : Aside (∀ wx, K w wx → SrcR wx a E.length (reVals E)) := fun wx k => by
    have := src_lo (hrow.keep k) hform E.length (Nat.le_refl _)
    rw [List.take_length] at this
    exact this
  have RZ : Aside (∀ wx, K w wx → (wx.alloc (.cells #[] 176)).ownsRow w.heap.size 176 36 (.slice (some ⟨wx.heap.size, 0, none⟩) 0 0) 0 []) := fun wx kx => World.ownsRow_lit (base := w.heap.size) (e := 176) (size := 36) wx #[] 0 (Kept.size kx) (by simp [maxLen]) rfl
  obtain ⟨hpm2, h12, hc2, s20, s21, hbit⟩ := freeB_some hfb
  obtain ⟨k2, rfl⟩ : ∃ k2 : Nat, s2 = (k2 : Int) := ⟨s2.toNat, by omega⟩
  have hp2 : Ent p2 := hE.wl.ent _ hpm2
  have hp2e : Ent (withT p2 (Bt.setI p2.taken k2)) := ent_setR hp2 h12 s20 (by rw [hc2]; exact s21)
  have hn2 : (k2 : Int) < nslI p2 := by
    unfold nslI
    rw [if_neg (by omega), hc2]
    exact s21
  have hr2 := nsl_range hp2
  have k31 : k2 < 31 := by omega
  have hset : ∀ j, (reList (p2, j)).set (5 + k2) (.bool true) = reList (withT p2 (Bt.setI p2.taken k2), j) := fun j => reList_turn h12 k31 fun m hm => by
    rw [has_set ⟨by omega, by omega⟩ ⟨by omega, by omega⟩]
    by_cases e : m = k2
    · subst e
      simp
    · have : ¬ ((m : Int) = (k2 : Int)) := by omega
      simp [this, e]
  have HSET : Aside _ := hset
  have HP2 : Aside (Ent p2 ∧ Ent (withT p2 (Bt.setI p2.taken k2)) ∧ (k2 : Int) < nslI p2) := ⟨hp2, hp2e, hn2⟩
  have hn20 : 0 ≤ p2.n := hE.wl.n0 _ hpm2
  have hn21 : p2.n ≤ 4096 := by
    obtain ⟨e, he, rfl⟩ := List.mem_map.1 hpm2
    exact hE.n1 e he
  clear h hE hrow hform hcap hp2 hp2e hn2 hset hpm2 hc2 s20 s21 hbit hr2
  go_enter Tryz.func61, Tryz.ntmps61
  go_wp2_with fail
  refine cf.mono ?_
  rintro e w1 ⟨(⟨i, k, rfl, hh⟩ | ⟨rfl, hn⟩), k1⟩
  · obtain ⟨⟨p', j⟩, he', hk, ht, hf2⟩ := hit_find HE.out hh
    rw [hf] at hf2
    obtain ⟨rfl, rfl⟩ : p = p' ∧ s = (k : Int) := by injection hf2 with e; injection e with e1 e2; exact ⟨e1, e2⟩
    have he : E[i]? = some (p, j) := he'
    have hi : i < E.length := (List.getElem?_eq_some_iff.1 he).1
    have HKN : Aside ((k : Int) < nslI p) := hk
    have HEI : Aside _ := he
    have hix := HROW.out.ix i hi
    have c11 := k1.cell c1
    have c01 := k1.cell c0
    have hl : lgB p = false := by simp [lgB, h1]
    have d4 : w1.cell? ⟨g, i * 36 + 4, none⟩ = some (.bool false) := by rw [← hl]; exact ((HROW.out.keep k1).at he).2.2.2.2
    have d2 : w1.cell? ⟨g, i * 36 + 2, none⟩ = some (.int .i64 p.cls) := ((HROW.out.keep k1).at he).2.2.1
    have CSS : Aside (∀ wx, K w1 wx → Calls Tryz.prog 99 #[.agg #[.int .i64 q, .slice a E.length cap], .int .i64 p.cls] wx fun e w' => (∃ (i2 : Nat) (j2 : Int), e = .returned (.tuple #[.int .i64 i2, .int .i64 k2]) ∧ E[i2]? = some (p2, j2)) ∧ K wx w') := fun wx kx => (rspot_any (q := q) (HROW.out.keep (k1.trans kx)) HE.out p.cls).mono fun e w' ⟨h2, h3⟩ => by
      rcases h2 with ⟨i2, kk, pp, j2, h4, h5, h6⟩ | ⟨_, h4⟩
      · rw [hfb] at h6
        injection h6 with h6
        injection h6 with h6 h7
        subst h6
        rw [← h7] at h4
        exact ⟨⟨i2, j2, h4, h5⟩, h3⟩
      · rw [hfb] at h4
        cases h4
    have cpl := fun j2 w => rPlace_any p2 j2 k2 HP2.out.1 hn20 (by omega) HP2.out.2.2 w
    have HCP : Aside _ := cpl
    clear hf hf2 he' hh ht hk cf hfb c0 c1 s0 he hl cpl
    go_wp2
    by_cases hlt : x < addrI p2 k2
    · have hlt2 : ¬ addrI p2 k2 ≤ x := by omega
      go_region_with (go_at_call 99; refine (CSS.out _ (by first | exact K.refl _ | exact (K.refl _).drewN _ | exact (K.refl _).drew)).mono ?_; rintro e w3 ⟨⟨i2, j2, rfl, he2⟩, k3⟩; have k4 : K w1 w3 := (by first | exact k3 | exact ((K.refl _).drewN _).trans k3 | exact ((K.refl _).drew).trans k3))
      all_goals
        have hi2 : i2 < E.length := (List.getElem?_eq_some_iff.1 he2).1
        have hix2 := HROW.out.ix i2 hi2
        have c14 := C1.out _ (k1.trans k4)
        have HRG : Aside _ := (HROW.out.keep (k1.trans k4)).range he2
        clear he2
        go_wp2_with (first
          | ((with_reducible refine wpList_load_reG g (i2 * 36) (p2, j2) ?_ ?_ ?_ ?_); (· first | rfl | simp [Region.wanted, yielded]); (· exact HRG.out); (· rfl))
          | (go_at_call 100; refine (HCP.out j2 _).mono ?_; rintro e w5 ⟨rfl, k5⟩))
      all_goals
        go_ret2
        first
          | exact .inl ⟨rfl, a, cap, HR.out.keep ((k1.trans k4).trans k5), RSt.ofK ((k1.trans k4).trans k5)⟩
          | exact .inl ⟨hlt, rfl, a, cap, HR.out.keep ((k1.trans k4).trans k5), RSt.ofK ((k1.trans k4).trans k5)⟩
    · have hlt2 : addrI p2 k2 ≤ x := by omega
      go_region_with (go_at_call 99; refine (CSS.out _ (by first | exact K.refl _ | exact (K.refl _).drewN _ | exact (K.refl _).drew)).mono ?_; rintro e w3 ⟨⟨i2, j2, rfl, he2⟩, k3⟩; have k4 : K w1 w3 := (by first | exact k3 | exact ((K.refl _).drewN _).trans k3 | exact ((K.refl _).drew).trans k3))
      all_goals
        have hi2 : i2 < E.length := (List.getElem?_eq_some_iff.1 he2).1
        have hix2 := HROW.out.ix i2 hi2
        have c14 := C1.out _ (k1.trans k4)
        have HRG : Aside _ := (HROW.out.keep (k1.trans k4)).range he2
        have HE2 : Aside _ := he2
        clear he2
        go_wp2_with (first
          | ((with_reducible refine wpList_load_reG g (i2 * 36) (p2, j2) ?_ ?_ ?_ ?_); (· first | rfl | simp [Region.wanted, yielded]); (· exact HRG.out); (· rfl))
          | (go_at_call 100; refine (HCP.out j2 _).mono ?_; rintro e w5 ⟨rfl, k5⟩; have c15 := C1.out _ ((k1.trans k4).trans k5); have hb5 : br < w5.heap.size := (by have := Kept.size ((k1.trans k4).trans k5); omega))
          | (at_builtin; apply wrapd))
        unfold Wrapd
        have k6 := (k1.trans k4).trans k5
        have hsz5 := Kept.size k6
        have KZ : K w (w5.alloc (.cells #[] 176)) := k6.alloc _
        refine wpList_append_res _ rfl _ _ rfl w.heap.size _ 0 [] rfl (RZ.out _ k6) rfl a E.length cap (reVals E) rfl HL0.out (HSRC.out _ KZ) (reVals_one _) (by have := HL.out; omega) (by simp; omega) ?_
        intro v1 w7 hown1 hgrow1 hloc1
        rw [Nat.zero_add, List.nil_append] at hown1
        have k7 : K w w7 := K.grownR KZ hgrow1 (fun j hj => by cases hj; exact hsz5)
        have hne1 : ∀ kk, v1.ownBlock = some kk → w.heap.size ≤ kk := fun kk hkk => by
          rcases hloc1 with e | e
          · rw [e] at hkk
            cases hkk
            exact hsz5
          · rw [e] at hkk
            have := Option.some.inj hkk
            have := Kept.size KZ
            omega
        obtain ⟨a2, cap2, rfl, R2, KB2⟩ := HR.out.store k7 hown1 hne1
        have HFZ := (HR.out.keep k7).fz
        have c7 := C1.out _ k7
        obtain ⟨g2, rfl, hgne, hrow2⟩ := R2.addr hi2
        have hg0 : w.heap.size ≤ g2 := hne1 g2 rfl
        have hix3 := hrow2.ix i2 hi2
        have hixT := run_ixT g2 (i2 * 36 + 5) k2 k31
        obtain ⟨hct0, hcf0⟩ := R2.cellT HE2.out k31
        have hct : w7.cell? ⟨g2, i2 * 36 + 5 + k2, none⟩ = some (.bool (tkB p2 k2)) := (World.cell?_of_block (a := ⟨g2, i2 * 36 + 5 + k2, none⟩) (Below.heap_setCell w7 ⟨br, 1, none⟩ _ g2 hgne)).symm.trans hct0
        have hcf : w7.frozen? ⟨g2, i2 * 36 + 5 + k2, none⟩ = false := (World.frozen?_of_block (a := ⟨g2, i2 * 36 + 5 + k2, none⟩) (Below.heap_setCell w7 ⟨br, 1, none⟩ _ g2 hgne)).symm.trans hcf0
        have R3 := R2.turn (k := 5 + k2) HE2.out (by omega) (HSET.out j2)
        rw [← Nat.add_assoc] at R3
        have HKB3 : Aside _ := Kept.setCell KB2 (p := ⟨g2, i2 * 36 + 5 + k2, none⟩) (.bool true) (.inr hg0)
        have he3 : (E.set i2 (withT p2 (Bt.setI p2.taken k2), j2))[i2]? = some (withT p2 (Bt.setI p2.taken k2), j2) := by rw [List.getElem?_set_self hi2]
        obtain ⟨g3, hg3, _, hrow3⟩ := R3.addr (i := i2) (by rw [List.length_set]; exact hi2)
        obtain rfl : g2 = g3 := by injection hg3 with e; injection e
        have HRG3 : Aside _ := hrow3.range he3
        have HR3 : Aside _ := R3
        have hb3 := R3.lt
        have HEO : Aside _ := HE.out.setT HE2.out HP2.out.2.1
        have HTA : Aside _ := turn_at (t := Bt.setI p2.taken k2) HE.out HEI.out HE2.out
        have cpl3 := fun w => rPlace_any (withT p2 (Bt.setI p2.taken k2)) j2 k2 HP2.out.2.1 hn20 (show p2.n ≤ 8192 by omega) HP2.out.2.2 w
        clear hown1 hgrow1 hloc1 hne1 hct0 hcf0 R2 KB2 hrow2 hrow3 he3 hg3 R3 KZ k7 c14 c15 hb5 hsz5 hix2 d2 d4 c01 c11
        go_wp2_with (first
          | ((with_reducible refine wpList_load_re g2 (i2 * 36) (withT p2 (Bt.setI p2.taken k2), j2) ?_ ?_ ?_); (· exact HRG3.out); (· rfl))
          | (go_at_call 100; refine (cpl3 _).mono ?_; rintro e w8 ⟨rfl, k8⟩)
          | fail)
      all_goals
        obtain ⟨j', htat0⟩ := HTA.out
        have htat : (E.set i2 (withT p2 (Bt.setI p2.taken k2), j2))[i]? = some (turnP p p2 k2, j') := htat0
        have hpt : Ent (turnP p p2 k2) := HEO.out.1.wl.ent _ (List.mem_map.2 ⟨(turnP p p2 k2, j'), List.mem_of_getElem? htat, rfl⟩)
        have hkt : (k : Int) < nslI (turnP p p2 k2) := by
          unfold turnP
          split
          · rename_i hn
            have hpp : p = p2 := HE.out.wl.inj (List.mem_map.2 ⟨(p, j), List.mem_of_getElem? HEI.out, rfl⟩) (List.mem_map.2 ⟨(p2, j2), List.mem_of_getElem? HE2.out, rfl⟩) hn
            have h3 := HKN.out
            rw [hpp] at h3
            exact h3
          · exact HKN.out
        have HSL : Aside (entsR (leaveE (E.set i2 (withT p2 (Bt.setI p2.taken k2), j2)) i (turnP p p2 k2) j' k) = slideS (entsR E) p k p2 k2) := by
          have h3 := entsR_leave HEO.out.1 htat k
          rw [HEO.out.2] at h3
          exact h3
        have clv := rleave_any (HR3.out.keep k8) (by rw [List.length_set]; exact HL.out) htat hpt k hkt
        clear htat htat0 hpt hkt
        refine clv.mono ?_
        rintro e w9 ⟨⟨v, rfl⟩, a9, cap9, R9, K9⟩
        clear clv
        go_wp2
        go_ret2
        first
          | exact .inr ⟨hlt2, rfl, _, HSL.out, a9, cap9, R9, (HKB3.out.trans (RSt.ofK k8)).trans K9⟩
          | exact .inr ⟨rfl, _, HSL.out, a9, cap9, R9, (HKB3.out.trans (RSt.ofK k8)).trans K9⟩
          | exact ⟨rfl, _, HSL.out, a9, cap9, R9, (HKB3.out.trans (RSt.ofK k8)).trans K9⟩
  · have := nohit_find HE.out hn
    rw [hf] at this
    cases this

end Hp
end Go.Proofs.YtlmfojkhfipdnaaGreatDoor

/-
  The reference's Slide, as the heap's list says it; Spare.
-/
namespace Go.Proofs.YtlmfojkhfipdnaaGreatDoor
open Go.RowKit Go.Maps
namespace Hp
variable {X : Fr} {w w' : World} {br : Nat} {q : Int} {a : Option Addr} {cap : Nat} {E E' : List Re}

theorem rSlide_call (h : Rf X w br q a cap E) (hE : Eo E) (x : Int) : Calls Tryz.prog 61 #[.pointer (some ⟨br, 0, none⟩), .int .i64 x] w fun e w' => e = .returned (.tuple #[.int .i64 (slideL (entsR E) x).1, .int .i64 (slideL (entsR E) x).2.1]) ∧ ∃ E', entsR E' = (slideL (entsR E) x).2.2 ∧ RPost X w br q E' w' := by
  unfold slideL
  cases hf : findB (entsR E) x with
  | none => exact (rSlide_none h hE x hf).mono fun e w' ⟨h1, h2⟩ => ⟨h1, E, rfl, h2⟩
  | some ps =>
    obtain ⟨p, s⟩ := ps
    have hm := (findB_some hf).1
    rcases (hE.wl.ent _ hm).kind with h1 | h2
    · simp only [if_neg (show ¬ p.kind = 2 by omega)]
      cases hfb : freeB (entsR E) p.cls with
      | none => exact (rSlide_stay h hE x hf h1 hfb).mono fun e w' ⟨h1, h2⟩ => ⟨h1, E, rfl, h2⟩
      | some ps2 =>
        obtain ⟨p2, s2⟩ := ps2
        refine (rSlide_some h hE x hf h1 hfb).mono fun e w' hh => ?_
        rcases hh with ⟨hlt, h3, h4⟩ | ⟨hlt, h3, E', h4, h5⟩
        · simp only [if_pos hlt]
          exact ⟨h3, E, rfl, h4⟩
        · simp only [if_neg hlt]
          exact ⟨h3, E', h4, h5⟩
    · simp only [if_pos h2]
      exact rSlide_large h hE x hf h2

end Hp
end Go.Proofs.YtlmfojkhfipdnaaGreatDoor

/-
  What is so of the reference's entries behind each call: small numbers, few entries.
-/
namespace Go.Proofs.YtlmfojkhfipdnaaGreatDoor
open Go.RowKit Go.Maps
namespace Hp
variable {L : List Pg} {E : List Re} {q : Int}

theorem fit_le {m : Int} (hm : 1 ≤ m) : ∀ (L : List Pg) (b : Int), (∀ p ∈ L, 1 ≤ p.span) → fit m b L ≤ b + L.length * (m - 1) + granted L
  | [], b, _ => by simp [fit, granted]
  | p :: L, b, hs => by
    have h1 := hs p (by simp)
    have ih := fit_le hm L (p.n + p.span) fun r hr => hs r (by simp [hr])
    have hg : granted (p :: L) = p.span + granted L := by simp [granted]
    have hg0 : 0 ≤ granted L := by
      have : ∀ L : List Pg, (∀ p ∈ L, 1 ≤ p.span) → 0 ≤ granted L := by
        intro L
        induction L with
        | nil => intro _; simp [granted]
        | cons x l ih =>
          intro h
          have h2 := h x (by simp)
          have h3 := ih fun r hr => h r (by simp [hr])
          have : granted (x :: l) = x.span + granted l := by simp [granted]
          omega
      exact this L fun r hr => hs r (by simp [hr])
    have hmul : 0 ≤ (L.length : Int) * (m - 1) := Int.mul_nonneg (by omega) (by omega)
    unfold fit
    rw [hg, List.length_cons]
    have e : ((L.length + 1 : Nat) : Int) * (m - 1) = L.length * (m - 1) + (m - 1) := by
      rw [Int.natCast_add, Int.add_mul]
      simp
    rw [e]
    split <;> omega

/-- Small numbers. -/
def Nb (L : List Pg) : Prop := ∀ r ∈ L, r.n ≤ 4096
theorem len_granted : ∀ {L : List Pg}, (∀ p ∈ L, 1 ≤ p.span) → (L.length : Int) ≤ granted L
  | [], _ => by simp [granted]
  | p :: L, h => by
    have h1 := h p (by simp)
    have ih := len_granted (L := L) fun r hr => h r (by simp [hr])
    have hg : granted (p :: L) = p.span + granted L := by simp [granted]
    rw [hg, List.length_cons]
    omega
theorem eo_of (hw : Wl L) (hn : Nb L) (hg : granted L * 64 ≤ 4000) (he : entsR E = L) : Eo E := by
  have hl := len_granted fun r hr => (hw.ent r hr).span.1
  have : (entsR E).length = E.length := by simp [entsR]
  rw [he] at this
  exact ⟨by rw [he]; exact hw, by omega, fun e hx => hn e.1 (by rw [← he]; exact List.mem_map.2 ⟨e, hx, rfl⟩)⟩
theorem nb_fit (hw : Wl L) {m : Int} (m0 : 1 ≤ m) (hg : (granted L + m) * 64 ≤ 4000) : fit m 0 L ≤ 4096 := by
  have hs : ∀ r ∈ L, 1 ≤ r.span := fun r hr => (hw.ent r hr).span.1
  have h1 := fit_le m0 L 0 hs
  have h2 := len_granted hs
  have h3 : (L.length : Int) * (m - 1) ≤ 62 * 62 := by
    have ha : (L.length : Int) ≤ 62 := by omega
    have hb : m - 1 ≤ 62 := by omega
    exact Int.mul_le_mul ha hb (by omega) (by omega)
  omega
theorem nb_alloc (hw : Wl L) (hn : Nb L) (hq : q ≤ 4000) (x : Int) : Nb (allocL q L x).2.2 := by
  unfold allocL
  split
  · rename_i hx
    split
    · rename_i hs
      split
      · rename_i p s hf
        intro r hr
        rcases mem_upd hr with rfl | ⟨h, _⟩
        · exact hn p (freeB_some hf).1
        · exact hn r h
      · split
        · rename_i hg
          intro r hr
          rcases mem_insL.1 hr with rfl | h
          · exact nb_fit hw (by omega) (by omega)
          · exact hn r h
        · exact hn
    · split
      · rename_i hg
        intro r hr
        rcases mem_insL.1 hr with rfl | h
        · exact nb_fit hw (pag_range hx.1 hx.2).1 (by omega)
        · exact hn r h
      · exact hn
  · exact hn
theorem nb_del (hn : Nb L) (n : Int) : Nb (delL L n) := fun r hr => hn r (mem_delL.1 hr).1
theorem nb_upd (hn : Nb L) {p p' : Pg} (hp : p ∈ L) (h : p'.n = p.n) : Nb (updL L p.n p') := fun r hr => by
  rcases mem_upd hr with rfl | ⟨h2, _⟩
  · rw [h]; exact hn p hp
  · exact hn r h2
theorem nb_drop (hn : Nb L) {p : Pg} (hp : p ∈ L) (s : Int) : Nb (dropL L p s) := by
  unfold dropL
  split
  · exact nb_del hn _
  · split
    · exact nb_del hn _
    · exact nb_upd hn hp rfl
theorem nb_slide (hE : Eo E) (hn : Nb (entsR E)) (x : Int) : Nb (slideL (entsR E) x).2.2 := by
  unfold slideL
  cases hf : findB (entsR E) x with
  | none => exact hn
  | some ps =>
    obtain ⟨p, s⟩ := ps
    have hm := (findB_some hf).1
    obtain ⟨e, he, hep⟩ := List.mem_map.1 hm
    obtain ⟨i, hi⟩ := List.getElem?_of_mem he
    simp only
    split
    · intro r hr
      rcases mem_insL.1 hr with rfl | h
      · have h1 := (hE.fitBut hi).2.1
        rw [hep] at h1
        have h2 := hn p hm
        show fit p.span 0 (delL (entsR E) p.n) ≤ 4096
        omega
      · exact nb_del hn _ r h
    · split
      · exact hn
      · rename_i p2 s2 hfb
        split
        · exact hn
        · have hm2 := (freeB_some hfb).1
          exact nb_drop (nb_upd (p' := withT p2 (Bt.setI p2.taken s2)) hn hm2 rfl) (mem_turn hm) _

end Hp
end Go.Proofs.YtlmfojkhfipdnaaGreatDoor
