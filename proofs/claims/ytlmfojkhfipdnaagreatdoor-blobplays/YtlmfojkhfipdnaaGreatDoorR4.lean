/-
  loftref06: Put. The operations of region 6, which draws its order, are this seat's (mkput.py).
-/
import Derived.Test.YtlmfojkhfipdnaaGreatDoorR2
namespace Go.Proofs.YtlmfojkhfipdnaaGreatDoor
open Go.RowKit Go.Maps
attribute [local go_sem ↓] Go.wp_at_zero Go.wp_at_succ
namespace Rs
open Hp (Kept K No entsR K.grownR)
open Hd (atL own_set)
variable {u0 : World × Nat} {w w' : World} {br : Nat} {q m z : Int} {E E' : List Hp.Re} {R R' : List Hd.Sl} {C C' : List Rc} {a : Option Addr} {cap : Nat}

set_option maxRecDepth 100000 in
set_option maxHeartbeats 2000000 in
theorem rPut_no (h : Sr u0 w br q m z E R C) (x k y : Int) {y0 er : Int} (hg : gtR C x k = (y0, er)) (hne : er ≠ 0) : Calls Tryz.prog 23 #[rp br, .int .u64 x, .int .i64 k, .int .u64 y] w fun e w' => e = .returned (.int .i64 er) ∧ Sr u0 w' br q m z E R C := by
  have HS : Aside _ := h
  obtain ⟨a1, c1, v2, a3, c3, h1, h2, h3⟩ := h.ex
  obtain ⟨g, hr, _⟩ := row_of h3 h.ws
  have cg := rGet_any (x0 := .int .i64 q) (x1 := .slice a1 E.length c1) (x2 := .int .i64 m) (x3 := .int .u32 z) (x4 := v2) hr h.few x k
  rw [hg] at cg
  obtain ⟨d0, d1, d2, d3, d4, d5⟩ := six h1.s0
  have hbe : (er != 0) = true := by simpa using hne
  have hbe2 : (er == 0) = false := by simpa using hne
  clear h h1 h2 h3 hr hg
  go_enter Tryz.func23, Tryz.ntmps23
  go_wp2_with fail
  refine cg.mono ?_
  rintro e w1 ⟨rfl, k1⟩
  have HK : Aside _ := HS.out.keep k1
  clear cg k1 d0 d1 d2 d3 d4 d5 HS
  go_wp2_with fail
  go_ret
  exact ⟨rfl, HK.out⟩

set_option maxRecDepth 100000 in
set_option maxHeartbeats 8000000 in
theorem rPut_ok (h : Sr u0 w br q m z E R C) (x y : Int) {i kn : Nat} {r : Rc} (hf : fdR C x = (i : Int)) (hri : C[i]? = some r) (hg : gtR C x (kn : Int) = (r.ws.getD kn 0, 0)) (hkn : kn < r.ws.length) (hy : 0 ≤ y ∧ y ≤ 18446744073709551615) (hwl : r.ws.length ≤ 100000) :
    Calls Tryz.prog 23 #[rp br, .int .u64 x, .int .i64 (kn : Int), .int .u64 y] w fun e w' => e = .returned (.int .i64 0) ∧ ∃ v', Sr u0 w' br q m z E R (C.set i ⟨r.h, v', r.ws.set kn y⟩) := by
  have HS : Aside _ := h
  have hi := (List.getElem?_eq_some_iff.1 hri).1
  have few := h.few
  have HRI : Aside _ := hri
  obtain ⟨a1, c1, v2, a3, c3, h1, h2, h3⟩ := h.ex
  obtain ⟨g, hr, _⟩ := row_of h3 h.ws
  have cg := rGet_any (x0 := .int .i64 q) (x1 := .slice a1 E.length c1) (x2 := .int .i64 m) (x3 := .int .u32 z) (x4 := v2) hr few x (kn : Int)
  rw [hg] at cg
  have cf : Aside (∀ w1, K w w1 → Calls Tryz.prog 44 #[.agg (stV (.int .i64 q) (.slice a1 E.length c1) (.int .i64 m) (.int .u32 z) v2 a3 C.length c3), .int .u64 x] w1 fun e w' => e = .returned (.int .i64 (i : Int)) ∧ K w1 w') := fun w1 k => by
    have := rFind_any (x0 := .int .i64 q) (x1 := .slice a1 E.length c1) (x2 := .int .i64 m) (x3 := .int .u32 z) (x4 := v2) (hr.keep k) few x
    rw [hf] at this
    exact this
  have S0 := h1.s0
  have DD : Aside (∀ w1, K w w1 → w1.heap[br]? = some (.cells #[.int .i64 q, .slice a1 E.length c1, .int .i64 m, .int .u32 z, v2, .slice a3 C.length c3] 37)) := fun w1 k => k.block S0
  obtain ⟨d0, d1, d2, d3, d4, d5⟩ := six S0
  obtain ⟨g', hcell, hform, hcap⟩ := row_cells h3
  have SRC : Aside (∀ V, K w V → SrcR V a3 C.length (recVals C)) := fun V k => SrcR.keep (src_all hcell hform) k
  have O0 : Aside (∀ u ∈ recVals C, u.oneCell' = true) := rec_one _ (fun r hr => by
    obtain ⟨j, hj, e⟩ := List.mem_iff_getElem.1 hr
    exact (HS.out.ws j r (by rw [List.getElem?_eq_getElem hj, e])).one)
  have HL0 : Aside ((recVals C).length = C.length * 2) := by show _ = _; rw [rec_len]
  have hbr0 := h1.lt
  have HKN : Aside (kn < r.ws.length) := hkn
  have HWL : Aside (r.ws.length ≤ 100000) := hwl
  have HY : Aside (0 ≤ y ∧ y ≤ 18446744073709551615) := hy
  clear h h1 h2 h3 hr hg hf S0 hcell hform hcap hri
  generalize r.ws.getD kn 0 = y0 at *
  go_enter Tryz.func23, Tryz.ntmps23
  go_wp2_with fail
  refine cg.mono ?_
  rintro e w1 ⟨rfl, k1⟩
  have cx := cf.out w1 k1
  obtain ⟨f0, f1, f2, f3, f4, f5⟩ := six (DD.out w1 k1)
  have K1 : Aside _ := k1
  clear cg k1 d0 d1 d2 d3 d4 d5 cf
  go_wp2_with fail
  refine cx.mono ?_
  rintro e w2 ⟨rfl, k2⟩
  have K2 : Aside (K w w2) := Hp.K.trans K1.out k2
  clear cx f0 f1 f2 f3 f4 f5 k2 K1
  obtain ⟨e0, e1, e2, e3, e4, e5⟩ := six (DD.out w2 K2.out)
  have B2 : Aside _ := DD.out w2 K2.out
  have S2 : Aside _ := HS.out.keep K2.out
  have hbr2 : br < w2.heap.size := (Array.getElem?_eq_some_iff.1 B2.out).1
  have KZ : Aside (K w2 (w2.alloc (.cells #[] 108))) := (K.refl w2).alloc _
  have HSRC : Aside (SrcR (w2.alloc (.cells #[] 108)) a3 C.length (recVals C)) := SRC.out _ (Hp.K.trans K2.out KZ.out)
  have RZ : Aside ((w2.alloc (.cells #[] 108)).ownsRow w2.heap.size 108 2 (.slice (some ⟨w2.heap.size, 0, none⟩) 0 0) 0 []) := World.ownsRow_lit (base := w2.heap.size) (e := 108) (size := 2) w2 #[] 0 (Nat.le_refl _) (by simp [maxLen]) rfl
  have FEW : Aside _ := few
  have HI : Aside _ := hi
  clear SRC DD few
  go_wp2_with (at_builtin; refine wpList_append_rec _ rfl _ _ rfl w2.heap.size _ 0 [] rfl RZ.out rfl a3 C.length c3 (recVals C) rfl HL0.out HSRC.out O0.out (by have := FEW.out; omega) (by simp) ?_; intro v1 w5 hown1 hgrow1 hloc1; rw [Nat.zero_add, List.nil_append] at hown1; have k5 : K w2 w5 := K.grownR KZ.out hgrow1 (fun j hj => by cases hj; exact Nat.le_refl _); obtain ⟨g5, cp5, hv5, hg5, hrc5, hrz5, hrh5⟩ := rform hown1 (by have := HI.out; omega); subst hv5; have b5 := k5.block B2.out; have c5 := (six b5).2.2.2.2.2; have HFZ : w5.frozen? ⟨br, 5, none⟩ = false := (by simp [World.frozen?, b5]); have O1 : Aside _ := hown1; have K5 : Aside _ := k5; have B5 : Aside _ := b5; have G5 : Aside _ := hg5; clear hown1 hgrow1 hloc1 RZ HSRC e0 e1 e2 e3 e4 e5 k5 b5 hg5 hrc5 hrz5 hrh5)
  have H6 : Aside (Hh w2 (w5.setCell ⟨br, 5, none⟩ (.slice (some ⟨g5, 0, none⟩) C.length cp5)) br g5 cp5 C.length (.int .i64 q) (.slice a1 E.length c1) (.int .i64 m) (.int .u32 z) v2) := ⟨by
    rw [heap_setCell_same w5 br 5 _ _ _ B5.out]
    rfl, Kept.setCell (K.kept K5.out _) _ (.inl rfl)⟩
  have O6 : Aside ((w5.setCell ⟨br, 5, none⟩ (.slice (some ⟨g5, 0, none⟩) C.length cp5)).ownsRow w2.heap.size 108 2 (.slice (some ⟨g5, 0, none⟩) C.length cp5) C.length (recVals C)) := ownsRow_setCell_other O1.out (a := ⟨br, 5, none⟩) (by show some g5 ≠ some br; intro e; injection e with e; have := G5.out; omega) _
  clear O1 K5 B5 c5 HFZ
  generalize w5.setCell ⟨br, 5, none⟩ (.slice (some ⟨g5, 0, none⟩) C.length cp5) = w6 at *
  obtain ⟨b, c, g8, cp8, w8, hcell, hrun, k8, hfz, h9, hc9, hu9, hz9, hfin⟩ := put_end S2.out B2.out H6.out O6.out HRI.out HKN.out HWL.out HY.out
  have CELL : Aside _ := hcell
  have HRUN : Aside _ := hrun
  have K8 : Aside _ := k8
  have FZ8 : Aside _ := hfz
  have H9 : Aside _ := h9
  have C9 : Aside _ := hc9
  have U9 : Aside _ := hu9
  have Z9 : Aside _ := hz9
  have SF : Aside _ := hfin
  have KD : Aside (K w6 w6.drew) := (K.refl w6).drew
  have KA : Aside (K w6 ((w6.alloc (.cells #[] 41)).drew)) := ((K.refl w6).alloc _).drew
  have HA : Aside (Hh w2 ((w6.alloc (.cells #[] 41)).drew) br g5 cp5 C.length (.int .i64 q) (.slice a1 E.length c1) (.int .i64 m) (.int .u32 z) v2) := ⟨Hp.K.block KA.out H6.out.1, H6.out.2.trans (K.kept KA.out _)⟩
  have H8 : Aside (Hh w2 w8 br g5 cp5 C.length (.int .i64 q) (.slice a1 E.length c1) (.int .i64 m) (.int .u32 z) v2) := ⟨Hp.K.block K8.out H6.out.1, H6.out.2.trans (K.kept K8.out _)⟩
  have hHeld : Hh w2 w6.drew br g5 cp5 C.length (.int .i64 q) (.slice a1 E.length c1) (.int .i64 m) (.int .u32 z) v2 := ⟨Hp.K.block KD.out H6.out.1, H6.out.2.trans (K.kept KD.out _)⟩
  have ix6 := fun w' => run_ixr g5 C.length cp5 i HI.out w'
  clear hcell hrun k8 hfz h9 hc9 hu9 hz9 hfin hwl hy hkn
  refine wp_region_held_drew (S := fun V => Hh w2 V br g5 cp5 C.length (.int .i64 q) (.slice a1 E.length c1) (.int .i64 m) (.int .u32 z) v2) (by kernel_rfl) hHeld (fun _ => ?_)
  refine wpAnyH_take (i := 0) (oi := { dst := some 38, op := Go.Op.move (Go.Operand.tmp 0), type := 46, pos := "ref.go:98", after := #[], guard := none }) (v := ?_) rfl (by kernel_rfl) (by kernel_rfl) (by kernel_rfl) (fun _ _ _ h => h) (Or.inl ⟨by rfl, ?_⟩) (by assumption) ?_
  rotate_left
  · intro w' hSw
    first | (go_simp; with_reducible rfl) | (go_simp; done)
  try simp only [Act.put, List.setIfInBounds_toArray, List.set_cons_zero, List.set_cons_succ]
  refine wpAnyH_take (i := 1) (oi := { dst := some 39, op := Go.Op.nilCheck (Go.Operand.tmp 38), type := 0, pos := "ref.go:98", after := #[{ on := 0, ground := Go.Ground.data }], guard := none }) (v := ?_) rfl (by kernel_rfl) (by kernel_rfl) (by kernel_rfl) (fun _ _ _ h => h) (Or.inl ⟨by rfl, ?_⟩) (by assumption) ?_
  rotate_left
  · intro w' hSw
    first | (go_simp; with_reducible rfl) | (go_simp; done)
  try simp only [Act.put, List.setIfInBounds_toArray, List.set_cons_zero, List.set_cons_succ]
  refine wpAnyH_take (i := 2) (oi := { dst := some 40, op := Go.Op.fieldAddr 37 (Go.Operand.tmp 39) 2, type := 0, pos := "ref.go:98", after := #[{ on := 1, ground := Go.Ground.data }], guard := none }) (v := ?_) rfl (by kernel_rfl) (by kernel_rfl) (by kernel_rfl) (fun _ _ _ h => h) (Or.inl ⟨by rfl, ?_⟩) (by assumption) ?_
  rotate_left
  · intro w' hSw
    first | (go_simp; with_reducible rfl) | (go_simp; done)
  try simp only [Act.put, List.setIfInBounds_toArray, List.set_cons_zero, List.set_cons_succ]
  refine wpAnyH_take (i := 3) (oi := { dst := some 41, op := Go.Op.load 35 (Go.Operand.tmp 40), type := 35, pos := "ref.go:98", after := #[{ on := 2, ground := Go.Ground.data }], guard := none }) (v := ?_) rfl (by kernel_rfl) (by kernel_rfl) (by kernel_rfl) (fun _ _ _ h => h) (Or.inl ⟨by rfl, ?_⟩) (by assumption) ?_
  rotate_left
  · intro w' hSw
    have h5 := (six hSw.1).2.2.2.2.2
    first | (go_simp; with_reducible rfl) | (go_simp; done)
  try simp only [Act.put, List.setIfInBounds_toArray, List.set_cons_zero, List.set_cons_succ]
  refine wpAnyH_take (i := 4) (oi := { dst := some 42, op := Go.Op.move (Go.Operand.tmp 11), type := 3, pos := "ref.go:98", after := #[], guard := none }) (v := ?_) rfl (by kernel_rfl) (by kernel_rfl) (by kernel_rfl) (fun _ _ _ h => h) (Or.inl ⟨by rfl, ?_⟩) (by assumption) ?_
  rotate_left
  · intro w' hSw
    first | (go_simp; with_reducible rfl) | (go_simp; done)
  try simp only [Act.put, List.setIfInBounds_toArray, List.set_cons_zero, List.set_cons_succ]
  refine wpAnyH_take (i := 6) (oi := { dst := some 44, op := Go.Op.move (Go.Operand.tmp 0), type := 46, pos := "ref.go:98", after := #[], guard := none }) (v := ?_) rfl (by kernel_rfl) (by kernel_rfl) (by kernel_rfl) (fun _ _ _ h => h) (Or.inl ⟨by rfl, ?_⟩) (by assumption) ?_
  rotate_left
  · intro w' hSw
    first | (go_simp; with_reducible rfl) | (go_simp; done)
  try simp only [Act.put, List.setIfInBounds_toArray, List.set_cons_zero, List.set_cons_succ]
  refine wpAnyH_take (i := 7) (oi := { dst := some 45, op := Go.Op.nilCheck (Go.Operand.tmp 44), type := 0, pos := "ref.go:98", after := #[{ on := 6, ground := Go.Ground.data }], guard := none }) (v := ?_) rfl (by kernel_rfl) (by kernel_rfl) (by kernel_rfl) (fun _ _ _ h => h) (Or.inl ⟨by rfl, ?_⟩) (by assumption) ?_
  rotate_left
  · intro w' hSw
    first | (go_simp; with_reducible rfl) | (go_simp; done)
  try simp only [Act.put, List.setIfInBounds_toArray, List.set_cons_zero, List.set_cons_succ]
  refine wpAnyH_take (i := 8) (oi := { dst := some 46, op := Go.Op.fieldAddr 37 (Go.Operand.tmp 45) 2, type := 0, pos := "ref.go:98", after := #[{ on := 7, ground := Go.Ground.data }], guard := none }) (v := ?_) rfl (by kernel_rfl) (by kernel_rfl) (by kernel_rfl) (fun _ _ _ h => h) (Or.inl ⟨by rfl, ?_⟩) (by assumption) ?_
  rotate_left
  · intro w' hSw
    first | (go_simp; with_reducible rfl) | (go_simp; done)
  try simp only [Act.put, List.setIfInBounds_toArray, List.set_cons_zero, List.set_cons_succ]
  refine wpAnyH_take (i := 9) (oi := { dst := some 47, op := Go.Op.load 35 (Go.Operand.tmp 46), type := 35, pos := "ref.go:98", after := #[{ on := 8, ground := Go.Ground.data }], guard := none }) (v := ?_) rfl (by kernel_rfl) (by kernel_rfl) (by kernel_rfl) (fun _ _ _ h => h) (Or.inl ⟨by rfl, ?_⟩) (by assumption) ?_
  rotate_left
  · intro w' hSw
    have h5 := (six hSw.1).2.2.2.2.2
    first | (go_simp; with_reducible rfl) | (go_simp; done)
  try simp only [Act.put, List.setIfInBounds_toArray, List.set_cons_zero, List.set_cons_succ]
  refine wpAnyH_take (i := 10) (oi := { dst := some 48, op := Go.Op.move (Go.Operand.tmp 11), type := 3, pos := "ref.go:98", after := #[], guard := none }) (v := ?_) rfl (by kernel_rfl) (by kernel_rfl) (by kernel_rfl) (fun _ _ _ h => h) (Or.inl ⟨by rfl, ?_⟩) (by assumption) ?_
  rotate_left
  · intro w' hSw
    first | (go_simp; with_reducible rfl) | (go_simp; done)
  try simp only [Act.put, List.setIfInBounds_toArray, List.set_cons_zero, List.set_cons_succ]
  refine wpAnyH_take (i := 11) (oi := { dst := some 49, op := Go.Op.indexAddr 35 (Go.Operand.tmp 47) (Go.Operand.tmp 48), type := 0, pos := "ref.go:98", after := #[{ on := 9, ground := Go.Ground.data }, { on := 10, ground := Go.Ground.data }], guard := none }) (v := ?_) rfl (by kernel_rfl) (by kernel_rfl) (by kernel_rfl) (fun _ _ _ h => h) (Or.inl ⟨by rfl, ?_⟩) (by assumption) ?_
  rotate_left
  · intro w' hSw
    first | (go_simp; with_reducible rfl) | (go_simp; done)
  try simp only [Act.put, List.setIfInBounds_toArray, List.set_cons_zero, List.set_cons_succ]
  refine wpAnyH_take (i := 12) (oi := { dst := some 50, op := Go.Op.fieldAddr 108 (Go.Operand.tmp 49) 1, type := 0, pos := "ref.go:98", after := #[{ on := 11, ground := Go.Ground.data }], guard := none }) (v := ?_) rfl (by kernel_rfl) (by kernel_rfl) (by kernel_rfl) (fun _ _ _ h => h) (Or.inl ⟨by rfl, ?_⟩) (by assumption) ?_
  rotate_left
  · intro w' hSw
    first | (go_simp; with_reducible rfl) | (go_simp; done)
  try simp only [Act.put, List.setIfInBounds_toArray, List.set_cons_zero, List.set_cons_succ]
  refine wpAnyH_ready (rs := [5, 13]) (by kernel_rfl) (by simp) ?_
  refine AllReadyH.cons (o := { dst := some 43, op := Go.Op.buildSlice 87 0 #[], type := 87, pos := "ref.go:98", after := #[], guard := none }) rfl (fun KK hK => ?_) (AllReadyH.cons (o := { dst := some 51, op := Go.Op.load 87 (Go.Operand.tmp 50), type := 87, pos := "ref.go:98", after := #[{ on := 12, ground := Go.Ground.data }], guard := none }) rfl (fun KK hK => ?_) AllReadyH.nil)
  · go_simp
    have kS : Hh w2 ((w6.alloc (.cells #[] 41)).drew) br g5 cp5 C.length (.int .i64 q) (.slice a1 E.length c1) (.int .i64 m) (.int .u32 z) v2 := HA.out
    refine hK.out _ _ kS (fun _ => ?_)
    clear hK KK
    try simp only [Act.put, List.setIfInBounds_toArray, List.set_cons_zero, List.set_cons_succ]
    refine wpAnyH_ready (rs := [13]) (by kernel_rfl) (by simp) ?_
    refine AllReadyH.cons (o := { dst := some 51, op := Go.Op.load 87 (Go.Operand.tmp 50), type := 87, pos := "ref.go:98", after := #[{ on := 12, ground := Go.Ground.data }], guard := none }) rfl (fun KK hK => ?_) AllReadyH.nil
    have hc13 := CELL.out _ KA.out
    go_simp
    refine hK.out _ _ (by assumption) (fun _ => ?_)
    clear hK KK hc13
    try simp only [Act.put, List.setIfInBounds_toArray, List.set_cons_zero, List.set_cons_succ]
    refine wpAnyH_ready (rs := [14]) (by kernel_rfl) (by simp) ?_
    refine AllReadyH.cons (o := { dst := some 52, op := Go.Op.call { callee := Go.Callee.builtin Go.Builtin.append, args := #[Go.Operand.tmp 43, Go.Operand.tmp 51], argTypes := #[87, 87] }, type := 87, pos := "ref.go:98", after := #[{ on := 5, ground := Go.Ground.data }, { on := 13, ground := Go.Ground.data }], guard := none }) rfl (fun KK hK => ?_) AllReadyH.nil
    refine oper_appendW rfl (by rfl) (by rfl) (by rfl) HRUN.out ?_
    have kS := H8.out
    refine hK.out _ _ kS (fun _ => ?_)
    clear hK KK
    try simp only [Act.put, List.setIfInBounds_toArray, List.set_cons_zero, List.set_cons_succ]
    refine wpAnyH_take (i := 15) (oi := { dst := some 53, op := Go.Op.indexAddr 35 (Go.Operand.tmp 41) (Go.Operand.tmp 42), type := 0, pos := "ref.go:98", after := #[{ on := 3, ground := Go.Ground.data }, { on := 4, ground := Go.Ground.data }, { on := 0, ground := Go.Ground.phase }, { on := 1, ground := Go.Ground.phase }, { on := 2, ground := Go.Ground.phase }, { on := 3, ground := Go.Ground.phase }, { on := 4, ground := Go.Ground.phase }, { on := 5, ground := Go.Ground.phase }, { on := 6, ground := Go.Ground.phase }, { on := 7, ground := Go.Ground.phase }, { on := 8, ground := Go.Ground.phase }, { on := 9, ground := Go.Ground.phase }, { on := 10, ground := Go.Ground.phase }, { on := 11, ground := Go.Ground.phase }, { on := 12, ground := Go.Ground.phase }, { on := 13, ground := Go.Ground.phase }, { on := 14, ground := Go.Ground.phase }], guard := none }) (v := ?_) rfl (by kernel_rfl) (by kernel_rfl) (by kernel_rfl) (fun _ _ _ h => h) (Or.inl ⟨by rfl, ?_⟩) (by assumption) ?_
    rotate_left
    · intro w' hSw
      first | (go_simp; with_reducible rfl) | (go_simp; done)
    try simp only [Act.put, List.setIfInBounds_toArray, List.set_cons_zero, List.set_cons_succ]
    refine wpAnyH_take (i := 16) (oi := { dst := some 54, op := Go.Op.fieldAddr 108 (Go.Operand.tmp 53) 1, type := 0, pos := "ref.go:98", after := #[{ on := 15, ground := Go.Ground.data }, { on := 0, ground := Go.Ground.phase }, { on := 1, ground := Go.Ground.phase }, { on := 2, ground := Go.Ground.phase }, { on := 3, ground := Go.Ground.phase }, { on := 4, ground := Go.Ground.phase }, { on := 5, ground := Go.Ground.phase }, { on := 6, ground := Go.Ground.phase }, { on := 7, ground := Go.Ground.phase }, { on := 8, ground := Go.Ground.phase }, { on := 9, ground := Go.Ground.phase }, { on := 10, ground := Go.Ground.phase }, { on := 11, ground := Go.Ground.phase }, { on := 12, ground := Go.Ground.phase }, { on := 13, ground := Go.Ground.phase }, { on := 14, ground := Go.Ground.phase }], guard := none }) (v := ?_) rfl (by kernel_rfl) (by kernel_rfl) (by kernel_rfl) (fun _ _ _ h => h) (Or.inl ⟨by rfl, ?_⟩) (by assumption) ?_
    rotate_left
    · intro w' hSw
      first | (go_simp; with_reducible rfl) | (go_simp; done)
    try simp only [Act.put, List.setIfInBounds_toArray, List.set_cons_zero, List.set_cons_succ]
    refine wpAnyH_ready (rs := [17]) (by kernel_rfl) (by simp) ?_
    refine AllReadyH.cons (o := { dst := none, op := Go.Op.store 87 (Go.Operand.tmp 54) (Go.Operand.tmp 52), type := 0, pos := "ref.go:98", after := #[{ on := 16, ground := Go.Ground.data }, { on := 14, ground := Go.Ground.data }, { on := 14, ground := Go.Ground.chain }, { on := 0, ground := Go.Ground.phase }, { on := 1, ground := Go.Ground.phase }, { on := 2, ground := Go.Ground.phase }, { on := 3, ground := Go.Ground.phase }, { on := 4, ground := Go.Ground.phase }, { on := 5, ground := Go.Ground.phase }, { on := 6, ground := Go.Ground.phase }, { on := 7, ground := Go.Ground.phase }, { on := 8, ground := Go.Ground.phase }, { on := 9, ground := Go.Ground.phase }, { on := 10, ground := Go.Ground.phase }, { on := 11, ground := Go.Ground.phase }, { on := 12, ground := Go.Ground.phase }, { on := 13, ground := Go.Ground.phase }, { on := 14, ground := Go.Ground.phase }], guard := none }) rfl (fun KK hK => ?_) AllReadyH.nil
    have hc17 := CELL.out _ K8.out
    have hz17 := FZ8.out
    go_simp
    have kS := H9.out
    refine hK.out _ _ kS (fun _ => ?_)
    clear hK KK hc17 hz17
    try simp only [Act.put, List.setIfInBounds_toArray, List.set_cons_zero, List.set_cons_succ]
    refine wpAnyH_done (by kernel_rfl) ?_ _
    have g0 := (six H9.out.1).2.2.2.2.2
    have g1 := C9.out
    have ixk := fun w' => Tx.ixW0 g8 r.ws.length cp8 kn HKN.out w'
    obtain ⟨u0, gu⟩ := U9.out
    have gz := Z9.out
    go_wp2_with fail
    go_ret
    exact ⟨rfl, _, SF.out⟩
  · have hc13 := CELL.out _ KD.out
    go_simp
    refine hK.out _ _ (by assumption) (fun _ => ?_)
    clear hK KK hc13
    try simp only [Act.put, List.setIfInBounds_toArray, List.set_cons_zero, List.set_cons_succ]
    refine wpAnyH_ready (rs := [5]) (by kernel_rfl) (by simp) ?_
    refine AllReadyH.cons (o := { dst := some 43, op := Go.Op.buildSlice 87 0 #[], type := 87, pos := "ref.go:98", after := #[], guard := none }) rfl (fun KK hK => ?_) AllReadyH.nil
    go_simp
    have kS : Hh w2 ((w6.alloc (.cells #[] 41)).drew) br g5 cp5 C.length (.int .i64 q) (.slice a1 E.length c1) (.int .i64 m) (.int .u32 z) v2 := HA.out
    refine hK.out _ _ kS (fun _ => ?_)
    clear hK KK
    try simp only [Act.put, List.setIfInBounds_toArray, List.set_cons_zero, List.set_cons_succ]
    refine wpAnyH_ready (rs := [14]) (by kernel_rfl) (by simp) ?_
    refine AllReadyH.cons (o := { dst := some 52, op := Go.Op.call { callee := Go.Callee.builtin Go.Builtin.append, args := #[Go.Operand.tmp 43, Go.Operand.tmp 51], argTypes := #[87, 87] }, type := 87, pos := "ref.go:98", after := #[{ on := 5, ground := Go.Ground.data }, { on := 13, ground := Go.Ground.data }], guard := none }) rfl (fun KK hK => ?_) AllReadyH.nil
    refine oper_appendW rfl (by rfl) (by rfl) (by rfl) HRUN.out ?_
    have kS := H8.out
    refine hK.out _ _ kS (fun _ => ?_)
    clear hK KK
    try simp only [Act.put, List.setIfInBounds_toArray, List.set_cons_zero, List.set_cons_succ]
    refine wpAnyH_take (i := 15) (oi := { dst := some 53, op := Go.Op.indexAddr 35 (Go.Operand.tmp 41) (Go.Operand.tmp 42), type := 0, pos := "ref.go:98", after := #[{ on := 3, ground := Go.Ground.data }, { on := 4, ground := Go.Ground.data }, { on := 0, ground := Go.Ground.phase }, { on := 1, ground := Go.Ground.phase }, { on := 2, ground := Go.Ground.phase }, { on := 3, ground := Go.Ground.phase }, { on := 4, ground := Go.Ground.phase }, { on := 5, ground := Go.Ground.phase }, { on := 6, ground := Go.Ground.phase }, { on := 7, ground := Go.Ground.phase }, { on := 8, ground := Go.Ground.phase }, { on := 9, ground := Go.Ground.phase }, { on := 10, ground := Go.Ground.phase }, { on := 11, ground := Go.Ground.phase }, { on := 12, ground := Go.Ground.phase }, { on := 13, ground := Go.Ground.phase }, { on := 14, ground := Go.Ground.phase }], guard := none }) (v := ?_) rfl (by kernel_rfl) (by kernel_rfl) (by kernel_rfl) (fun _ _ _ h => h) (Or.inl ⟨by rfl, ?_⟩) (by assumption) ?_
    rotate_left
    · intro w' hSw
      first | (go_simp; with_reducible rfl) | (go_simp; done)
    try simp only [Act.put, List.setIfInBounds_toArray, List.set_cons_zero, List.set_cons_succ]
    refine wpAnyH_take (i := 16) (oi := { dst := some 54, op := Go.Op.fieldAddr 108 (Go.Operand.tmp 53) 1, type := 0, pos := "ref.go:98", after := #[{ on := 15, ground := Go.Ground.data }, { on := 0, ground := Go.Ground.phase }, { on := 1, ground := Go.Ground.phase }, { on := 2, ground := Go.Ground.phase }, { on := 3, ground := Go.Ground.phase }, { on := 4, ground := Go.Ground.phase }, { on := 5, ground := Go.Ground.phase }, { on := 6, ground := Go.Ground.phase }, { on := 7, ground := Go.Ground.phase }, { on := 8, ground := Go.Ground.phase }, { on := 9, ground := Go.Ground.phase }, { on := 10, ground := Go.Ground.phase }, { on := 11, ground := Go.Ground.phase }, { on := 12, ground := Go.Ground.phase }, { on := 13, ground := Go.Ground.phase }, { on := 14, ground := Go.Ground.phase }], guard := none }) (v := ?_) rfl (by kernel_rfl) (by kernel_rfl) (by kernel_rfl) (fun _ _ _ h => h) (Or.inl ⟨by rfl, ?_⟩) (by assumption) ?_
    rotate_left
    · intro w' hSw
      first | (go_simp; with_reducible rfl) | (go_simp; done)
    try simp only [Act.put, List.setIfInBounds_toArray, List.set_cons_zero, List.set_cons_succ]
    refine wpAnyH_ready (rs := [17]) (by kernel_rfl) (by simp) ?_
    refine AllReadyH.cons (o := { dst := none, op := Go.Op.store 87 (Go.Operand.tmp 54) (Go.Operand.tmp 52), type := 0, pos := "ref.go:98", after := #[{ on := 16, ground := Go.Ground.data }, { on := 14, ground := Go.Ground.data }, { on := 14, ground := Go.Ground.chain }, { on := 0, ground := Go.Ground.phase }, { on := 1, ground := Go.Ground.phase }, { on := 2, ground := Go.Ground.phase }, { on := 3, ground := Go.Ground.phase }, { on := 4, ground := Go.Ground.phase }, { on := 5, ground := Go.Ground.phase }, { on := 6, ground := Go.Ground.phase }, { on := 7, ground := Go.Ground.phase }, { on := 8, ground := Go.Ground.phase }, { on := 9, ground := Go.Ground.phase }, { on := 10, ground := Go.Ground.phase }, { on := 11, ground := Go.Ground.phase }, { on := 12, ground := Go.Ground.phase }, { on := 13, ground := Go.Ground.phase }, { on := 14, ground := Go.Ground.phase }], guard := none }) rfl (fun KK hK => ?_) AllReadyH.nil
    have hc17 := CELL.out _ K8.out
    have hz17 := FZ8.out
    go_simp
    have kS := H9.out
    refine hK.out _ _ kS (fun _ => ?_)
    clear hK KK hc17 hz17
    try simp only [Act.put, List.setIfInBounds_toArray, List.set_cons_zero, List.set_cons_succ]
    refine wpAnyH_done (by kernel_rfl) ?_ _
    have g0 := (six H9.out.1).2.2.2.2.2
    have g1 := C9.out
    have ixk := fun w' => Tx.ixW0 g8 r.ws.length cp8 kn HKN.out w'
    obtain ⟨u0, gu⟩ := U9.out
    have gz := Z9.out
    go_wp2_with fail
    go_ret
    exact ⟨rfl, _, SF.out⟩

end Rs
end Go.Proofs.YtlmfojkhfipdnaaGreatDoor
