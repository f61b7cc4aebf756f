/-
  The walk of package heap's Spare: how many slots of a class are free.
-/
import Derived.Test.YtpoehbncdjbleaaGreatDoorH6
namespace Go.Proofs.YtpoehbncdjbleaaGreatDoor
open Go.RowKit Go.Shelf
attribute [local go_sem] Oper.semAt_some
namespace Hp
variable {w : World} {bh bs bm : Nat} {q : Int} {pg : List (Int × Nat)} {W : Int → Int}

/-- The free slots of a page, if it is of the class. -/
def spareP (c : Int) (p : Pg) : Int := if (p.kind == 1 && p.cls == c) = true then Cl.sloI p.cls - Bt.cntI p.taken (Cl.sloI p.cls) else 0
/-- The free slots of a class. -/
def spareL (l : List Pg) (c : Int) : Int := (l.map (spareP c)).sum
theorem spareL_snoc (pre : List Pg) (x : Pg) (c : Int) : spareL (pre ++ [x]) c = spareL pre c + spareP c x := by simp [spareL]
theorem cnt_range (a n : Int) : 0 ≤ Bt.cntI a n ∧ Bt.cntI a n ≤ 64 := by
  have h1 := Bt.cnt_le a.toNat (Bt.mN n)
  have h2 : Bt.mN n ≤ 64 := by unfold Bt.mN; omega
  unfold Bt.cntI
  omega
theorem spareP_range (c : Int) (p : Pg) : -64 ≤ spareP c p ∧ spareP c p ≤ 31 := by
  have h1 := slo_range p.cls
  have h2 := cnt_range p.taken (Cl.sloI p.cls)
  unfold spareP
  split <;> omega
theorem spareL_range (l : List Pg) (c : Int) : -64 * (l.length : Int) ≤ spareL l c ∧ spareL l c ≤ 31 * (l.length : Int) := by
  induction l with
  | nil => simp [spareL]
  | cons p r ih =>
    have h1 := spareP_range c p
    have e : spareL (p :: r) c = spareP c p + spareL r c := by simp [spareL]
    rw [e]
    simp only [List.length_cons, Int.natCast_add, Int.cast_ofNat_Int]
    omega
theorem scan_len (f : Int → Pg) (l : List Int) (b : Int) : (scan f l b).length ≤ l.length := by
  induction l generalizing b with
  | nil => simp [scan]
  | cons n r ih =>
    unfold scan
    split
    · have := ih b
      simp
      omega
    · have := ih (n + (f n).span)
      simp
      omega
theorem heads_len (ha : Sl.Arena w bs bm q pg W) : (heads pg W).length ≤ 4096 := by
  have h1 := scan_len (look pg W) (pg.map fun p => p.1) 0
  have h2 := ha.len
  simp at h1
  unfold heads
  omega

/-region-/
abbrev spOps : Array Oper := #[
  { dst := some 16, op := Op.load 3 (Operand.tmp 5), type := 3, pos := "heap.go:99", after := #[], guard := none },
  { dst := some 17, op := Op.load 59 (Operand.tmp 6), type := 59, pos := "heap.go:99", after := #[], guard := none },
  { dst := some 18, op := Op.call { callee := Callee.value (Operand.func 36), args := #[Operand.tmp 17], argTypes := #[59] }, type := 3, pos := "heap.go:99", after := #[{ on := 1, ground := Ground.data }], guard := none },
  { dst := some 19, op := Op.fieldAddr 59 (Operand.tmp 6) 3, type := 0, pos := "heap.go:99", after := #[], guard := none },
  { dst := some 20, op := Op.load 57 (Operand.tmp 19), type := 57, pos := "heap.go:99", after := #[{ on := 3, ground := Ground.data }], guard := none },
  { dst := some 21, op := Op.load 59 (Operand.tmp 6), type := 59, pos := "heap.go:99", after := #[], guard := none },
  { dst := some 22, op := Op.call { callee := Callee.value (Operand.func 36), args := #[Operand.tmp 21], argTypes := #[59] }, type := 3, pos := "heap.go:99", after := #[{ on := 5, ground := Ground.data }, { on := 2, ground := Ground.chain }], guard := none },
  { dst := some 23, op := Op.call { callee := Callee.value (Operand.func 37), args := #[Operand.tmp 20, Operand.tmp 22], argTypes := #[57, 3] }, type := 3, pos := "heap.go:99", after := #[{ on := 4, ground := Ground.data }, { on := 6, ground := Ground.data }, { on := 6, ground := Ground.chain }], guard := none },
  { dst := some 24, op := Op.binOp BinOp.sub 3 (Operand.tmp 18) (Operand.tmp 23) 3, type := 3, pos := "heap.go:99", after := #[{ on := 2, ground := Ground.data }, { on := 7, ground := Ground.data }], guard := none },
  { dst := some 25, op := Op.binOp BinOp.add 3 (Operand.tmp 16) (Operand.tmp 24) 3, type := 3, pos := "heap.go:99", after := #[{ on := 0, ground := Ground.data }, { on := 8, ground := Ground.data }], guard := none },
  { dst := none, op := Op.store 3 (Operand.tmp 5) (Operand.tmp 25), type := 0, pos := "heap.go:99", after := #[{ on := 9, ground := Ground.data }, { on := 7, ground := Ground.chain }, { on := 0, ground := Ground.phase }, { on := 1, ground := Ground.phase }, { on := 2, ground := Ground.phase }, { on := 3, ground := Ground.phase }, { on := 4, ground := Ground.phase }, { on := 5, ground := Ground.phase }, { on := 6, ground := Ground.phase }, { on := 7, ground := Ground.phase }, { on := 8, ground := Ground.phase }, { on := 9, ground := Ground.phase }], guard := none }]
abbrev spAct (bh N D : Nat) (c : Int) (x : Pg) (a0 a1 a2 a3 a4 a5 a6 a7 a8 a9 : Value) : Act := { tmps := #[hp bh, .int .i64 c, undef, .pointer (some ⟨N, 0, none⟩), .int .i64 0, .pointer (some ⟨N + 1, 0, none⟩), .pointer (some ⟨D, 0, none⟩), hp bh, .bool true, .bool false, hp bh, .func (.func 27) #[hp bh] #[], pgV x, pgV x, .int .i64 c, .bool true, a0, a1, a2, a3, a4, a5, a6, a7, a8, a9, undef], defers := [] }

set_option maxRecDepth 100000 in
set_option maxHeartbeats 4000000 in
/-- The region that adds a page's free slots, in whichever order. -/
theorem spare_region {n bh N D : Nat} {c nv sl cn : Int} {x : Pg} {r : Nat} {Q : Exit → Act → World → Prop} {W2 V0 : World} (hx : W2.heap[D]? = some (.cells (cellsP x) 59)) (hd : Boxed W2 (N + 1) 3 (.int .i64 nv)) (hu : Bt.U x.taken) (hsl : Cl.sloI x.cls = sl) (hcn : Bt.cntI x.taken sl = cn)
    (hs : 0 ≤ sl ∧ sl ≤ 31) (hc : 0 ≤ cn ∧ cn ≤ 64) (hnv : -1000000 ≤ nv ∧ nv ≤ 1000000)
    (fin : ∀ V, K W2 V → Q .normal (spAct bh N D c x (.int .i64 nv) (pgV x) (.int .i64 sl) (.pointer (some ⟨D, 3, none⟩)) (.int .u64 x.taken) (pgV x) (.int .i64 sl) (.int .i64 cn) (.int .i64 (sl - cn)) (.int .i64 (nv + (sl - cn)))) (V.setCell ⟨N + 1, 0, none⟩ (.int .i64 (nv + (sl - cn))))) (k0 : K W2 V0) : wpAnyIn (wide (some r)) n Tryz.prog .any spOps Q 11 #[false, false, false, false, false, false, false, false, false, false, false] (spAct bh N D c x undef undef undef undef undef undef undef undef undef undef) V0 := by
  have cs := fun w => pageSlots_any x w
  rw [hsl] at cs
  have cc := fun w => Bt.count_any x.taken sl hu w
  rw [hcn] at cc
  have w8 : IntKind.i64.wrap (sl - cn) = sl - cn := wrap_i64 (by omega) (by omega)
  have w9 : IntKind.i64.wrap (nv + (sl - cn)) = nv + (sl - cn) := wrap_i64 (by omega) (by omega)
  have hN : ∀ V, K W2 V → V.cell? ⟨N + 1, 0, none⟩ = some (.int .i64 nv) ∧ V.frozen? ⟨N + 1, 0, none⟩ = false := fun V k => ⟨(k.boxed hd).cell, (k.boxed hd).frozen⟩
  have s11111111110 : ∀ V, K W2 V → wpAnyIn (wide (some r)) n Tryz.prog .any spOps Q 1 #[true, true, true, true, true, true, true, true, true, true, false] (spAct bh N D c x (.int .i64 nv) (pgV x) (.int .i64 sl) (.pointer (some ⟨D, 3, none⟩)) (.int .u64 x.taken) (pgV x) (.int .i64 sl) (.int .i64 cn) (.int .i64 (sl - cn)) (.int .i64 (nv + (sl - cn)))) V := by
    intro V k
    obtain ⟨bn, bf⟩ := hN V k
    obtain ⟨⟨c0, c1, c2, c3, c4, c5⟩, _⟩ := six (k.block hx)
    unfold spAct
    refine wpAnyIn_ready (rs := [10]) (by kernel_rfl) (by simp) ?_
    refine AllReadyIn.cons rfl (fun KK hK => ?_) (AllReadyIn.nil)
    · go_simp
      exact hK _ _ (wpAnyIn_done (by kernel_rfl) (fin V k) _)
  have s11111111100 : ∀ V, K W2 V → wpAnyIn (wide (some r)) n Tryz.prog .any spOps Q 2 #[true, true, true, true, true, true, true, true, true, false, false] (spAct bh N D c x (.int .i64 nv) (pgV x) (.int .i64 sl) (.pointer (some ⟨D, 3, none⟩)) (.int .u64 x.taken) (pgV x) (.int .i64 sl) (.int .i64 cn) (.int .i64 (sl - cn)) undef) V := by
    intro V k
    obtain ⟨bn, bf⟩ := hN V k
    obtain ⟨⟨c0, c1, c2, c3, c4, c5⟩, _⟩ := six (k.block hx)
    unfold spAct
    refine wpAnyIn_ready (rs := [9]) (by kernel_rfl) (by simp) ?_
    refine AllReadyIn.cons rfl (fun KK hK => ?_) (AllReadyIn.nil)
    · go_simp
      exact hK _ _ (s11111111110 V k)
  have s01111111100 : ∀ V, K W2 V → wpAnyIn (wide (some r)) n Tryz.prog .any spOps Q 3 #[false, true, true, true, true, true, true, true, true, false, false] (spAct bh N D c x undef (pgV x) (.int .i64 sl) (.pointer (some ⟨D, 3, none⟩)) (.int .u64 x.taken) (pgV x) (.int .i64 sl) (.int .i64 cn) (.int .i64 (sl - cn)) undef) V := by
    intro V k
    obtain ⟨bn, bf⟩ := hN V k
    obtain ⟨⟨c0, c1, c2, c3, c4, c5⟩, _⟩ := six (k.block hx)
    unfold spAct
    refine wpAnyIn_ready (rs := [0]) (by kernel_rfl) (by simp) ?_
    refine AllReadyIn.cons rfl (fun KK hK => ?_) (AllReadyIn.nil)
    · go_simp
      exact hK _ _ (s11111111100 V k)
  have s11111111000 : ∀ V, K W2 V → wpAnyIn (wide (some r)) n Tryz.prog .any spOps Q 3 #[true, true, true, true, true, true, true, true, false, false, false] (spAct bh N D c x (.int .i64 nv) (pgV x) (.int .i64 sl) (.pointer (some ⟨D, 3, none⟩)) (.int .u64 x.taken) (pgV x) (.int .i64 sl) (.int .i64 cn) undef undef) V := by
    intro V k
    obtain ⟨bn, bf⟩ := hN V k
    obtain ⟨⟨c0, c1, c2, c3, c4, c5⟩, _⟩ := six (k.block hx)
    unfold spAct
    refine wpAnyIn_ready (rs := [8]) (by kernel_rfl) (by simp) ?_
    refine AllReadyIn.cons rfl (fun KK hK => ?_) (AllReadyIn.nil)
    · go_simp
      exact hK _ _ (s11111111100 V k)
  have s01111111000 : ∀ V, K W2 V → wpAnyIn (wide (some r)) n Tryz.prog .any spOps Q 4 #[false, true, true, true, true, true, true, true, false, false, false] (spAct bh N D c x undef (pgV x) (.int .i64 sl) (.pointer (some ⟨D, 3, none⟩)) (.int .u64 x.taken) (pgV x) (.int .i64 sl) (.int .i64 cn) undef undef) V := by
    intro V k
    obtain ⟨bn, bf⟩ := hN V k
    obtain ⟨⟨c0, c1, c2, c3, c4, c5⟩, _⟩ := six (k.block hx)
    unfold spAct
    refine wpAnyIn_ready (rs := [0, 8]) (by kernel_rfl) (by simp) ?_
    refine AllReadyIn.cons rfl (fun KK hK => ?_) (AllReadyIn.cons rfl (fun KK hK => ?_) (AllReadyIn.nil))
    · go_simp
      exact hK _ _ (s11111111000 V k)
    · go_simp
      exact hK _ _ (s01111111100 V k)
  have s11111110000 : ∀ V, K W2 V → wpAnyIn (wide (some r)) n Tryz.prog .any spOps Q 4 #[true, true, true, true, true, true, true, false, false, false, false] (spAct bh N D c x (.int .i64 nv) (pgV x) (.int .i64 sl) (.pointer (some ⟨D, 3, none⟩)) (.int .u64 x.taken) (pgV x) (.int .i64 sl) undef undef undef) V := by
    intro V k
    obtain ⟨bn, bf⟩ := hN V k
    obtain ⟨⟨c0, c1, c2, c3, c4, c5⟩, _⟩ := six (k.block hx)
    unfold spAct
    refine wpAnyIn_ready (rs := [7]) (by kernel_rfl) (by simp) ?_
    refine AllReadyIn.cons rfl (fun KK hK => ?_) (AllReadyIn.nil)
    · go_simp
      refine ⟨trivial, fun h => (by cases h), ?_⟩
      refine (CallsIn.inRound _ (callsIn_wide.2 (cc _))).mono ?_
      rintro e V2 ⟨rfl, k2⟩
      exact hK _ _ (s11111111000 V2 (k.trans (K.bt k2)))
  have s01111110000 : ∀ V, K W2 V → wpAnyIn (wide (some r)) n Tryz.prog .any spOps Q 5 #[false, true, true, true, true, true, true, false, false, false, false] (spAct bh N D c x undef (pgV x) (.int .i64 sl) (.pointer (some ⟨D, 3, none⟩)) (.int .u64 x.taken) (pgV x) (.int .i64 sl) undef undef undef) V := by
    intro V k
    obtain ⟨bn, bf⟩ := hN V k
    obtain ⟨⟨c0, c1, c2, c3, c4, c5⟩, _⟩ := six (k.block hx)
    unfold spAct
    refine wpAnyIn_ready (rs := [0, 7]) (by kernel_rfl) (by simp) ?_
    refine AllReadyIn.cons rfl (fun KK hK => ?_) (AllReadyIn.cons rfl (fun KK hK => ?_) (AllReadyIn.nil))
    · go_simp
      exact hK _ _ (s11111110000 V k)
    · go_simp
      refine ⟨trivial, fun h => (by cases h), ?_⟩
      refine (CallsIn.inRound _ (callsIn_wide.2 (cc _))).mono ?_
      rintro e V2 ⟨rfl, k2⟩
      exact hK _ _ (s01111111000 V2 (k.trans (K.bt k2)))
  have s11110110000 : ∀ V, K W2 V → wpAnyIn (wide (some r)) n Tryz.prog .any spOps Q 5 #[true, true, true, true, false, true, true, false, false, false, false] (spAct bh N D c x (.int .i64 nv) (pgV x) (.int .i64 sl) (.pointer (some ⟨D, 3, none⟩)) undef (pgV x) (.int .i64 sl) undef undef undef) V := by
    intro V k
    obtain ⟨bn, bf⟩ := hN V k
    obtain ⟨⟨c0, c1, c2, c3, c4, c5⟩, _⟩ := six (k.block hx)
    unfold spAct
    refine wpAnyIn_ready (rs := [4]) (by kernel_rfl) (by simp) ?_
    refine AllReadyIn.cons rfl (fun KK hK => ?_) (AllReadyIn.nil)
    · go_simp
      exact hK _ _ (s11111110000 V k)
  have s11111100000 : ∀ V, K W2 V → wpAnyIn (wide (some r)) n Tryz.prog .any spOps Q 5 #[true, true, true, true, true, true, false, false, false, false, false] (spAct bh N D c x (.int .i64 nv) (pgV x) (.int .i64 sl) (.pointer (some ⟨D, 3, none⟩)) (.int .u64 x.taken) (pgV x) undef undef undef undef) V := by
    intro V k
    obtain ⟨bn, bf⟩ := hN V k
    obtain ⟨⟨c0, c1, c2, c3, c4, c5⟩, _⟩ := six (k.block hx)
    unfold spAct
    refine wpAnyIn_ready (rs := [6]) (by kernel_rfl) (by simp) ?_
    refine AllReadyIn.cons rfl (fun KK hK => ?_) (AllReadyIn.nil)
    · go_simp
      refine ⟨trivial, fun h => (by cases h), ?_⟩
      refine (CallsIn.inRound _ (callsIn_wide.2 (cs _))).mono ?_
      rintro e V2 ⟨rfl, k2⟩
      exact hK _ _ (s11111110000 V2 (k.trans k2))
  have s11011100000 : ∀ V, K W2 V → wpAnyIn (wide (some r)) n Tryz.prog .any spOps Q 6 #[true, true, false, true, true, true, false, false, false, false, false] (spAct bh N D c x (.int .i64 nv) (pgV x) undef (.pointer (some ⟨D, 3, none⟩)) (.int .u64 x.taken) (pgV x) undef undef undef undef) V := by
    intro V k
    obtain ⟨bn, bf⟩ := hN V k
    obtain ⟨⟨c0, c1, c2, c3, c4, c5⟩, _⟩ := six (k.block hx)
    unfold spAct
    refine wpAnyIn_ready (rs := [2]) (by kernel_rfl) (by simp) ?_
    refine AllReadyIn.cons rfl (fun KK hK => ?_) (AllReadyIn.nil)
    · go_simp
      refine ⟨trivial, fun h => (by cases h), ?_⟩
      refine (CallsIn.inRound _ (callsIn_wide.2 (cs _))).mono ?_
      rintro e V2 ⟨rfl, k2⟩
      exact hK _ _ (s11111100000 V2 (k.trans k2))
  have s11100110000 : ∀ V, K W2 V → wpAnyIn (wide (some r)) n Tryz.prog .any spOps Q 6 #[true, true, true, false, false, true, true, false, false, false, false] (spAct bh N D c x (.int .i64 nv) (pgV x) (.int .i64 sl) undef undef (pgV x) (.int .i64 sl) undef undef undef) V := by
    intro V k
    obtain ⟨bn, bf⟩ := hN V k
    obtain ⟨⟨c0, c1, c2, c3, c4, c5⟩, _⟩ := six (k.block hx)
    unfold spAct
    refine wpAnyIn_ready (rs := [3]) (by kernel_rfl) (by simp) ?_
    refine AllReadyIn.cons rfl (fun KK hK => ?_) (AllReadyIn.nil)
    · go_simp
      exact hK _ _ (s11110110000 V k)
  have s11111000000 : ∀ V, K W2 V → wpAnyIn (wide (some r)) n Tryz.prog .any spOps Q 6 #[true, true, true, true, true, false, false, false, false, false, false] (spAct bh N D c x (.int .i64 nv) (pgV x) (.int .i64 sl) (.pointer (some ⟨D, 3, none⟩)) (.int .u64 x.taken) undef undef undef undef undef) V := by
    intro V k
    obtain ⟨bn, bf⟩ := hN V k
    obtain ⟨⟨c0, c1, c2, c3, c4, c5⟩, _⟩ := six (k.block hx)
    unfold spAct
    refine wpAnyIn_ready (rs := [5]) (by kernel_rfl) (by simp) ?_
    refine AllReadyIn.cons rfl (fun KK hK => ?_) (AllReadyIn.nil)
    · go_simp
      exact hK _ _ (s11111100000 V k)
  have s01111100000 : ∀ V, K W2 V → wpAnyIn (wide (some r)) n Tryz.prog .any spOps Q 6 #[false, true, true, true, true, true, false, false, false, false, false] (spAct bh N D c x undef (pgV x) (.int .i64 sl) (.pointer (some ⟨D, 3, none⟩)) (.int .u64 x.taken) (pgV x) undef undef undef undef) V := by
    intro V k
    obtain ⟨bn, bf⟩ := hN V k
    obtain ⟨⟨c0, c1, c2, c3, c4, c5⟩, _⟩ := six (k.block hx)
    unfold spAct
    refine wpAnyIn_ready (rs := [0, 6]) (by kernel_rfl) (by simp) ?_
    refine AllReadyIn.cons rfl (fun KK hK => ?_) (AllReadyIn.cons rfl (fun KK hK => ?_) (AllReadyIn.nil))
    · go_simp
      exact hK _ _ (s11111100000 V k)
    · go_simp
      refine ⟨trivial, fun h => (by cases h), ?_⟩
      refine (CallsIn.inRound _ (callsIn_wide.2 (cs _))).mono ?_
      rintro e V2 ⟨rfl, k2⟩
      exact hK _ _ (s01111110000 V2 (k.trans k2))
  have s01110110000 : ∀ V, K W2 V → wpAnyIn (wide (some r)) n Tryz.prog .any spOps Q 6 #[false, true, true, true, false, true, true, false, false, false, false] (spAct bh N D c x undef (pgV x) (.int .i64 sl) (.pointer (some ⟨D, 3, none⟩)) undef (pgV x) (.int .i64 sl) undef undef undef) V := by
    intro V k
    obtain ⟨bn, bf⟩ := hN V k
    obtain ⟨⟨c0, c1, c2, c3, c4, c5⟩, _⟩ := six (k.block hx)
    unfold spAct
    refine wpAnyIn_ready (rs := [0, 4]) (by kernel_rfl) (by simp) ?_
    refine AllReadyIn.cons rfl (fun KK hK => ?_) (AllReadyIn.cons rfl (fun KK hK => ?_) (AllReadyIn.nil))
    · go_simp
      exact hK _ _ (s11110110000 V k)
    · go_simp
      exact hK _ _ (s01111110000 V k)
  have s11110100000 : ∀ V, K W2 V → wpAnyIn (wide (some r)) n Tryz.prog .any spOps Q 6 #[true, true, true, true, false, true, false, false, false, false, false] (spAct bh N D c x (.int .i64 nv) (pgV x) (.int .i64 sl) (.pointer (some ⟨D, 3, none⟩)) undef (pgV x) undef undef undef undef) V := by
    intro V k
    obtain ⟨bn, bf⟩ := hN V k
    obtain ⟨⟨c0, c1, c2, c3, c4, c5⟩, _⟩ := six (k.block hx)
    unfold spAct
    refine wpAnyIn_ready (rs := [4, 6]) (by kernel_rfl) (by simp) ?_
    refine AllReadyIn.cons rfl (fun KK hK => ?_) (AllReadyIn.cons rfl (fun KK hK => ?_) (AllReadyIn.nil))
    · go_simp
      exact hK _ _ (s11111100000 V k)
    · go_simp
      refine ⟨trivial, fun h => (by cases h), ?_⟩
      refine (CallsIn.inRound _ (callsIn_wide.2 (cs _))).mono ?_
      rintro e V2 ⟨rfl, k2⟩
      exact hK _ _ (s11110110000 V2 (k.trans k2))
  have s10011100000 : ∀ V, K W2 V → wpAnyIn (wide (some r)) n Tryz.prog .any spOps Q 7 #[true, false, false, true, true, true, false, false, false, false, false] (spAct bh N D c x (.int .i64 nv) undef undef (.pointer (some ⟨D, 3, none⟩)) (.int .u64 x.taken) (pgV x) undef undef undef undef) V := by
    intro V k
    obtain ⟨bn, bf⟩ := hN V k
    obtain ⟨⟨c0, c1, c2, c3, c4, c5⟩, _⟩ := six (k.block hx)
    unfold spAct
    refine wpAnyIn_ready (rs := [1]) (by kernel_rfl) (by simp) ?_
    refine AllReadyIn.cons rfl (fun KK hK => ?_) (AllReadyIn.nil)
    · go_simp
      exact hK _ _ (s11011100000 V k)
  have s11010100000 : ∀ V, K W2 V → wpAnyIn (wide (some r)) n Tryz.prog .any spOps Q 7 #[true, true, false, true, false, true, false, false, false, false, false] (spAct bh N D c x (.int .i64 nv) (pgV x) undef (.pointer (some ⟨D, 3, none⟩)) undef (pgV x) undef undef undef undef) V := by
    intro V k
    obtain ⟨bn, bf⟩ := hN V k
    obtain ⟨⟨c0, c1, c2, c3, c4, c5⟩, _⟩ := six (k.block hx)
    unfold spAct
    refine wpAnyIn_ready (rs := [2, 4]) (by kernel_rfl) (by simp) ?_
    refine AllReadyIn.cons rfl (fun KK hK => ?_) (AllReadyIn.cons rfl (fun KK hK => ?_) (AllReadyIn.nil))
    · go_simp
      refine ⟨trivial, fun h => (by cases h), ?_⟩
      refine (CallsIn.inRound _ (callsIn_wide.2 (cs _))).mono ?_
      rintro e V2 ⟨rfl, k2⟩
      exact hK _ _ (s11110100000 V2 (k.trans k2))
    · go_simp
      exact hK _ _ (s11011100000 V k)
  have s01111000000 : ∀ V, K W2 V → wpAnyIn (wide (some r)) n Tryz.prog .any spOps Q 7 #[false, true, true, true, true, false, false, false, false, false, false] (spAct bh N D c x undef (pgV x) (.int .i64 sl) (.pointer (some ⟨D, 3, none⟩)) (.int .u64 x.taken) undef undef undef undef undef) V := by
    intro V k
    obtain ⟨bn, bf⟩ := hN V k
    obtain ⟨⟨c0, c1, c2, c3, c4, c5⟩, _⟩ := six (k.block hx)
    unfold spAct
    refine wpAnyIn_ready (rs := [0, 5]) (by kernel_rfl) (by simp) ?_
    refine AllReadyIn.cons rfl (fun KK hK => ?_) (AllReadyIn.cons rfl (fun KK hK => ?_) (AllReadyIn.nil))
    · go_simp
      exact hK _ _ (s11111000000 V k)
    · go_simp
      exact hK _ _ (s01111100000 V k)
  have s11011000000 : ∀ V, K W2 V → wpAnyIn (wide (some r)) n Tryz.prog .any spOps Q 7 #[true, true, false, true, true, false, false, false, false, false, false] (spAct bh N D c x (.int .i64 nv) (pgV x) undef (.pointer (some ⟨D, 3, none⟩)) (.int .u64 x.taken) undef undef undef undef undef) V := by
    intro V k
    obtain ⟨bn, bf⟩ := hN V k
    obtain ⟨⟨c0, c1, c2, c3, c4, c5⟩, _⟩ := six (k.block hx)
    unfold spAct
    refine wpAnyIn_ready (rs := [2, 5]) (by kernel_rfl) (by simp) ?_
    refine AllReadyIn.cons rfl (fun KK hK => ?_) (AllReadyIn.cons rfl (fun KK hK => ?_) (AllReadyIn.nil))
    · go_simp
      refine ⟨trivial, fun h => (by cases h), ?_⟩
      refine (CallsIn.inRound _ (callsIn_wide.2 (cs _))).mono ?_
      rintro e V2 ⟨rfl, k2⟩
      exact hK _ _ (s11111000000 V2 (k.trans k2))
    · go_simp
      exact hK _ _ (s11011100000 V k)
  have s11100100000 : ∀ V, K W2 V → wpAnyIn (wide (some r)) n Tryz.prog .any spOps Q 7 #[true, true, true, false, false, true, false, false, false, false, false] (spAct bh N D c x (.int .i64 nv) (pgV x) (.int .i64 sl) undef undef (pgV x) undef undef undef undef) V := by
    intro V k
    obtain ⟨bn, bf⟩ := hN V k
    obtain ⟨⟨c0, c1, c2, c3, c4, c5⟩, _⟩ := six (k.block hx)
    unfold spAct
    refine wpAnyIn_ready (rs := [3, 6]) (by kernel_rfl) (by simp) ?_
    refine AllReadyIn.cons rfl (fun KK hK => ?_) (AllReadyIn.cons rfl (fun KK hK => ?_) (AllReadyIn.nil))
    · go_simp
      exact hK _ _ (s11110100000 V k)
    · go_simp
      refine ⟨trivial, fun h => (by cases h), ?_⟩
      refine (CallsIn.inRound _ (callsIn_wide.2 (cs _))).mono ?_
      rintro e V2 ⟨rfl, k2⟩
      exact hK _ _ (s11100110000 V2 (k.trans k2))
  have s01011100000 : ∀ V, K W2 V → wpAnyIn (wide (some r)) n Tryz.prog .any spOps Q 7 #[false, true, false, true, true, true, false, false, false, false, false] (spAct bh N D c x undef (pgV x) undef (.pointer (some ⟨D, 3, none⟩)) (.int .u64 x.taken) (pgV x) undef undef undef undef) V := by
    intro V k
    obtain ⟨bn, bf⟩ := hN V k
    obtain ⟨⟨c0, c1, c2, c3, c4, c5⟩, _⟩ := six (k.block hx)
    unfold spAct
    refine wpAnyIn_ready (rs := [0, 2]) (by kernel_rfl) (by simp) ?_
    refine AllReadyIn.cons rfl (fun KK hK => ?_) (AllReadyIn.cons rfl (fun KK hK => ?_) (AllReadyIn.nil))
    · go_simp
      exact hK _ _ (s11011100000 V k)
    · go_simp
      refine ⟨trivial, fun h => (by cases h), ?_⟩
      refine (CallsIn.inRound _ (callsIn_wide.2 (cs _))).mono ?_
      rintro e V2 ⟨rfl, k2⟩
      exact hK _ _ (s01111100000 V2 (k.trans k2))
  have s01100110000 : ∀ V, K W2 V → wpAnyIn (wide (some r)) n Tryz.prog .any spOps Q 7 #[false, true, true, false, false, true, true, false, false, false, false] (spAct bh N D c x undef (pgV x) (.int .i64 sl) undef undef (pgV x) (.int .i64 sl) undef undef undef) V := by
    intro V k
    obtain ⟨bn, bf⟩ := hN V k
    obtain ⟨⟨c0, c1, c2, c3, c4, c5⟩, _⟩ := six (k.block hx)
    unfold spAct
    refine wpAnyIn_ready (rs := [0, 3]) (by kernel_rfl) (by simp) ?_
    refine AllReadyIn.cons rfl (fun KK hK => ?_) (AllReadyIn.cons rfl (fun KK hK => ?_) (AllReadyIn.nil))
    · go_simp
      exact hK _ _ (s11100110000 V k)
    · go_simp
      exact hK _ _ (s01110110000 V k)
  have s01110100000 : ∀ V, K W2 V → wpAnyIn (wide (some r)) n Tryz.prog .any spOps Q 7 #[false, true, true, true, false, true, false, false, false, false, false] (spAct bh N D c x undef (pgV x) (.int .i64 sl) (.pointer (some ⟨D, 3, none⟩)) undef (pgV x) undef undef undef undef) V := by
    intro V k
    obtain ⟨bn, bf⟩ := hN V k
    obtain ⟨⟨c0, c1, c2, c3, c4, c5⟩, _⟩ := six (k.block hx)
    unfold spAct
    refine wpAnyIn_ready (rs := [0, 4, 6]) (by kernel_rfl) (by simp) ?_
    refine AllReadyIn.cons rfl (fun KK hK => ?_) (AllReadyIn.cons rfl (fun KK hK => ?_) (AllReadyIn.cons rfl (fun KK hK => ?_) (AllReadyIn.nil)))
    · go_simp
      exact hK _ _ (s11110100000 V k)
    · go_simp
      exact hK _ _ (s01111100000 V k)
    · go_simp
      refine ⟨trivial, fun h => (by cases h), ?_⟩
      refine (CallsIn.inRound _ (callsIn_wide.2 (cs _))).mono ?_
      rintro e V2 ⟨rfl, k2⟩
      exact hK _ _ (s01110110000 V2 (k.trans k2))
  have s11110000000 : ∀ V, K W2 V → wpAnyIn (wide (some r)) n Tryz.prog .any spOps Q 7 #[true, true, true, true, false, false, false, false, false, false, false] (spAct bh N D c x (.int .i64 nv) (pgV x) (.int .i64 sl) (.pointer (some ⟨D, 3, none⟩)) undef undef undef undef undef undef) V := by
    intro V k
    obtain ⟨bn, bf⟩ := hN V k
    obtain ⟨⟨c0, c1, c2, c3, c4, c5⟩, _⟩ := six (k.block hx)
    unfold spAct
    refine wpAnyIn_ready (rs := [4, 5]) (by kernel_rfl) (by simp) ?_
    refine AllReadyIn.cons rfl (fun KK hK => ?_) (AllReadyIn.cons rfl (fun KK hK => ?_) (AllReadyIn.nil))
    · go_simp
      exact hK _ _ (s11111000000 V k)
    · go_simp
      exact hK _ _ (s11110100000 V k)
  have s01010100000 : ∀ V, K W2 V → wpAnyIn (wide (some r)) n Tryz.prog .any spOps Q 8 #[false, true, false, true, false, true, false, false, false, false, false] (spAct bh N D c x undef (pgV x) undef (.pointer (some ⟨D, 3, none⟩)) undef (pgV x) undef undef undef undef) V := by
    intro V k
    obtain ⟨bn, bf⟩ := hN V k
    obtain ⟨⟨c0, c1, c2, c3, c4, c5⟩, _⟩ := six (k.block hx)
    unfold spAct
    refine wpAnyIn_ready (rs := [0, 2, 4]) (by kernel_rfl) (by simp) ?_
    refine AllReadyIn.cons rfl (fun KK hK => ?_) (AllReadyIn.cons rfl (fun KK hK => ?_) (AllReadyIn.cons rfl (fun KK hK => ?_) (AllReadyIn.nil)))
    · go_simp
      exact hK _ _ (s11010100000 V k)
    · go_simp
      refine ⟨trivial, fun h => (by cases h), ?_⟩
      refine (CallsIn.inRound _ (callsIn_wide.2 (cs _))).mono ?_
      rintro e V2 ⟨rfl, k2⟩
      exact hK _ _ (s01110100000 V2 (k.trans k2))
    · go_simp
      exact hK _ _ (s01011100000 V k)
  have s10010100000 : ∀ V, K W2 V → wpAnyIn (wide (some r)) n Tryz.prog .any spOps Q 8 #[true, false, false, true, false, true, false, false, false, false, false] (spAct bh N D c x (.int .i64 nv) undef undef (.pointer (some ⟨D, 3, none⟩)) undef (pgV x) undef undef undef undef) V := by
    intro V k
    obtain ⟨bn, bf⟩ := hN V k
    obtain ⟨⟨c0, c1, c2, c3, c4, c5⟩, _⟩ := six (k.block hx)
    unfold spAct
    refine wpAnyIn_ready (rs := [1, 4]) (by kernel_rfl) (by simp) ?_
    refine AllReadyIn.cons rfl (fun KK hK => ?_) (AllReadyIn.cons rfl (fun KK hK => ?_) (AllReadyIn.nil))
    · go_simp
      exact hK _ _ (s11010100000 V k)
    · go_simp
      exact hK _ _ (s10011100000 V k)
  have s00011100000 : ∀ V, K W2 V → wpAnyIn (wide (some r)) n Tryz.prog .any spOps Q 8 #[false, false, false, true, true, true, false, false, false, false, false] (spAct bh N D c x undef undef undef (.pointer (some ⟨D, 3, none⟩)) (.int .u64 x.taken) (pgV x) undef undef undef undef) V := by
    intro V k
    obtain ⟨bn, bf⟩ := hN V k
    obtain ⟨⟨c0, c1, c2, c3, c4, c5⟩, _⟩ := six (k.block hx)
    unfold spAct
    refine wpAnyIn_ready (rs := [0, 1]) (by kernel_rfl) (by simp) ?_
    refine AllReadyIn.cons rfl (fun KK hK => ?_) (AllReadyIn.cons rfl (fun KK hK => ?_) (AllReadyIn.nil))
    · go_simp
      exact hK _ _ (s10011100000 V k)
    · go_simp
      exact hK _ _ (s01011100000 V k)
  have s01110000000 : ∀ V, K W2 V → wpAnyIn (wide (some r)) n Tryz.prog .any spOps Q 8 #[false, true, true, true, false, false, false, false, false, false, false] (spAct bh N D c x undef (pgV x) (.int .i64 sl) (.pointer (some ⟨D, 3, none⟩)) undef undef undef undef undef undef) V := by
    intro V k
    obtain ⟨bn, bf⟩ := hN V k
    obtain ⟨⟨c0, c1, c2, c3, c4, c5⟩, _⟩ := six (k.block hx)
    unfold spAct
    refine wpAnyIn_ready (rs := [0, 4, 5]) (by kernel_rfl) (by simp) ?_
    refine AllReadyIn.cons rfl (fun KK hK => ?_) (AllReadyIn.cons rfl (fun KK hK => ?_) (AllReadyIn.cons rfl (fun KK hK => ?_) (AllReadyIn.nil)))
    · go_simp
      exact hK _ _ (s11110000000 V k)
    · go_simp
      exact hK _ _ (s01111000000 V k)
    · go_simp
      exact hK _ _ (s01110100000 V k)
  have s01011000000 : ∀ V, K W2 V → wpAnyIn (wide (some r)) n Tryz.prog .any spOps Q 8 #[false, true, false, true, true, false, false, false, false, false, false] (spAct bh N D c x undef (pgV x) undef (.pointer (some ⟨D, 3, none⟩)) (.int .u64 x.taken) undef undef undef undef undef) V := by
    intro V k
    obtain ⟨bn, bf⟩ := hN V k
    obtain ⟨⟨c0, c1, c2, c3, c4, c5⟩, _⟩ := six (k.block hx)
    unfold spAct
    refine wpAnyIn_ready (rs := [0, 2, 5]) (by kernel_rfl) (by simp) ?_
    refine AllReadyIn.cons rfl (fun KK hK => ?_) (AllReadyIn.cons rfl (fun KK hK => ?_) (AllReadyIn.cons rfl (fun KK hK => ?_) (AllReadyIn.nil)))
    · go_simp
      exact hK _ _ (s11011000000 V k)
    · go_simp
      refine ⟨trivial, fun h => (by cases h), ?_⟩
      refine (CallsIn.inRound _ (callsIn_wide.2 (cs _))).mono ?_
      rintro e V2 ⟨rfl, k2⟩
      exact hK _ _ (s01111000000 V2 (k.trans k2))
    · go_simp
      exact hK _ _ (s01011100000 V k)
  have s10011000000 : ∀ V, K W2 V → wpAnyIn (wide (some r)) n Tryz.prog .any spOps Q 8 #[true, false, false, true, true, false, false, false, false, false, false] (spAct bh N D c x (.int .i64 nv) undef undef (.pointer (some ⟨D, 3, none⟩)) (.int .u64 x.taken) undef undef undef undef undef) V := by
    intro V k
    obtain ⟨bn, bf⟩ := hN V k
    obtain ⟨⟨c0, c1, c2, c3, c4, c5⟩, _⟩ := six (k.block hx)
    unfold spAct
    refine wpAnyIn_ready (rs := [1, 5]) (by kernel_rfl) (by simp) ?_
    refine AllReadyIn.cons rfl (fun KK hK => ?_) (AllReadyIn.cons rfl (fun KK hK => ?_) (AllReadyIn.nil))
    · go_simp
      exact hK _ _ (s11011000000 V k)
    · go_simp
      exact hK _ _ (s10011100000 V k)
  have s11100000000 : ∀ V, K W2 V → wpAnyIn (wide (some r)) n Tryz.prog .any spOps Q 8 #[true, true, true, false, false, false, false, false, false, false, false] (spAct bh N D c x (.int .i64 nv) (pgV x) (.int .i64 sl) undef undef undef undef undef undef undef) V := by
    intro V k
    obtain ⟨bn, bf⟩ := hN V k
    obtain ⟨⟨c0, c1, c2, c3, c4, c5⟩, _⟩ := six (k.block hx)
    unfold spAct
    refine wpAnyIn_ready (rs := [3, 5]) (by kernel_rfl) (by simp) ?_
    refine AllReadyIn.cons rfl (fun KK hK => ?_) (AllReadyIn.cons rfl (fun KK hK => ?_) (AllReadyIn.nil))
    · go_simp
      exact hK _ _ (s11110000000 V k)
    · go_simp
      exact hK _ _ (s11100100000 V k)
  have s01100100000 : ∀ V, K W2 V → wpAnyIn (wide (some r)) n Tryz.prog .any spOps Q 8 #[false, true, true, false, false, true, false, false, false, false, false] (spAct bh N D c x undef (pgV x) (.int .i64 sl) undef undef (pgV x) undef undef undef undef) V := by
    intro V k
    obtain ⟨bn, bf⟩ := hN V k
    obtain ⟨⟨c0, c1, c2, c3, c4, c5⟩, _⟩ := six (k.block hx)
    unfold spAct
    refine wpAnyIn_ready (rs := [0, 3, 6]) (by kernel_rfl) (by simp) ?_
    refine AllReadyIn.cons rfl (fun KK hK => ?_) (AllReadyIn.cons rfl (fun KK hK => ?_) (AllReadyIn.cons rfl (fun KK hK => ?_) (AllReadyIn.nil)))
    · go_simp
      exact hK _ _ (s11100100000 V k)
    · go_simp
      exact hK _ _ (s01110100000 V k)
    · go_simp
      refine ⟨trivial, fun h => (by cases h), ?_⟩
      refine (CallsIn.inRound _ (callsIn_wide.2 (cs _))).mono ?_
      rintro e V2 ⟨rfl, k2⟩
      exact hK _ _ (s01100110000 V2 (k.trans k2))
  have s11010000000 : ∀ V, K W2 V → wpAnyIn (wide (some r)) n Tryz.prog .any spOps Q 8 #[true, true, false, true, false, false, false, false, false, false, false] (spAct bh N D c x (.int .i64 nv) (pgV x) undef (.pointer (some ⟨D, 3, none⟩)) undef undef undef undef undef undef) V := by
    intro V k
    obtain ⟨bn, bf⟩ := hN V k
    obtain ⟨⟨c0, c1, c2, c3, c4, c5⟩, _⟩ := six (k.block hx)
    unfold spAct
    refine wpAnyIn_ready (rs := [2, 4, 5]) (by kernel_rfl) (by simp) ?_
    refine AllReadyIn.cons rfl (fun KK hK => ?_) (AllReadyIn.cons rfl (fun KK hK => ?_) (AllReadyIn.cons rfl (fun KK hK => ?_) (AllReadyIn.nil)))
    · go_simp
      refine ⟨trivial, fun h => (by cases h), ?_⟩
      refine (CallsIn.inRound _ (callsIn_wide.2 (cs _))).mono ?_
      rintro e V2 ⟨rfl, k2⟩
      exact hK _ _ (s11110000000 V2 (k.trans k2))
    · go_simp
      exact hK _ _ (s11011000000 V k)
    · go_simp
      exact hK _ _ (s11010100000 V k)
  have s11000100000 : ∀ V, K W2 V → wpAnyIn (wide (some r)) n Tryz.prog .any spOps Q 8 #[true, true, false, false, false, true, false, false, false, false, false] (spAct bh N D c x (.int .i64 nv) (pgV x) undef undef undef (pgV x) undef undef undef undef) V := by
    intro V k
    obtain ⟨bn, bf⟩ := hN V k
    obtain ⟨⟨c0, c1, c2, c3, c4, c5⟩, _⟩ := six (k.block hx)
    unfold spAct
    refine wpAnyIn_ready (rs := [2, 3]) (by kernel_rfl) (by simp) ?_
    refine AllReadyIn.cons rfl (fun KK hK => ?_) (AllReadyIn.cons rfl (fun KK hK => ?_) (AllReadyIn.nil))
    · go_simp
      refine ⟨trivial, fun h => (by cases h), ?_⟩
      refine (CallsIn.inRound _ (callsIn_wide.2 (cs _))).mono ?_
      rintro e V2 ⟨rfl, k2⟩
      exact hK _ _ (s11100100000 V2 (k.trans k2))
    · go_simp
      exact hK _ _ (s11010100000 V k)
  have s10000100000 : ∀ V, K W2 V → wpAnyIn (wide (some r)) n Tryz.prog .any spOps Q 9 #[true, false, false, false, false, true, false, false, false, false, false] (spAct bh N D c x (.int .i64 nv) undef undef undef undef (pgV x) undef undef undef undef) V := by
    intro V k
    obtain ⟨bn, bf⟩ := hN V k
    obtain ⟨⟨c0, c1, c2, c3, c4, c5⟩, _⟩ := six (k.block hx)
    unfold spAct
    refine wpAnyIn_ready (rs := [1, 3]) (by kernel_rfl) (by simp) ?_
    refine AllReadyIn.cons rfl (fun KK hK => ?_) (AllReadyIn.cons rfl (fun KK hK => ?_) (AllReadyIn.nil))
    · go_simp
      exact hK _ _ (s11000100000 V k)
    · go_simp
      exact hK _ _ (s10010100000 V k)
  have s00011000000 : ∀ V, K W2 V → wpAnyIn (wide (some r)) n Tryz.prog .any spOps Q 9 #[false, false, false, true, true, false, false, false, false, false, false] (spAct bh N D c x undef undef undef (.pointer (some ⟨D, 3, none⟩)) (.int .u64 x.taken) undef undef undef undef undef) V := by
    intro V k
    obtain ⟨bn, bf⟩ := hN V k
    obtain ⟨⟨c0, c1, c2, c3, c4, c5⟩, _⟩ := six (k.block hx)
    unfold spAct
    refine wpAnyIn_ready (rs := [0, 1, 5]) (by kernel_rfl) (by simp) ?_
    refine AllReadyIn.cons rfl (fun KK hK => ?_) (AllReadyIn.cons rfl (fun KK hK => ?_) (AllReadyIn.cons rfl (fun KK hK => ?_) (AllReadyIn.nil)))
    · go_simp
      exact hK _ _ (s10011000000 V k)
    · go_simp
      exact hK _ _ (s01011000000 V k)
    · go_simp
      exact hK _ _ (s00011100000 V k)
  have s10010000000 : ∀ V, K W2 V → wpAnyIn (wide (some r)) n Tryz.prog .any spOps Q 9 #[true, false, false, true, false, false, false, false, false, false, false] (spAct bh N D c x (.int .i64 nv) undef undef (.pointer (some ⟨D, 3, none⟩)) undef undef undef undef undef undef) V := by
    intro V k
    obtain ⟨bn, bf⟩ := hN V k
    obtain ⟨⟨c0, c1, c2, c3, c4, c5⟩, _⟩ := six (k.block hx)
    unfold spAct
    refine wpAnyIn_ready (rs := [1, 4, 5]) (by kernel_rfl) (by simp) ?_
    refine AllReadyIn.cons rfl (fun KK hK => ?_) (AllReadyIn.cons rfl (fun KK hK => ?_) (AllReadyIn.cons rfl (fun KK hK => ?_) (AllReadyIn.nil)))
    · go_simp
      exact hK _ _ (s11010000000 V k)
    · go_simp
      exact hK _ _ (s10011000000 V k)
    · go_simp
      exact hK _ _ (s10010100000 V k)
  have s00010100000 : ∀ V, K W2 V → wpAnyIn (wide (some r)) n Tryz.prog .any spOps Q 9 #[false, false, false, true, false, true, false, false, false, false, false] (spAct bh N D c x undef undef undef (.pointer (some ⟨D, 3, none⟩)) undef (pgV x) undef undef undef undef) V := by
    intro V k
    obtain ⟨bn, bf⟩ := hN V k
    obtain ⟨⟨c0, c1, c2, c3, c4, c5⟩, _⟩ := six (k.block hx)
    unfold spAct
    refine wpAnyIn_ready (rs := [0, 1, 4]) (by kernel_rfl) (by simp) ?_
    refine AllReadyIn.cons rfl (fun KK hK => ?_) (AllReadyIn.cons rfl (fun KK hK => ?_) (AllReadyIn.cons rfl (fun KK hK => ?_) (AllReadyIn.nil)))
    · go_simp
      exact hK _ _ (s10010100000 V k)
    · go_simp
      exact hK _ _ (s01010100000 V k)
    · go_simp
      exact hK _ _ (s00011100000 V k)
  have s01010000000 : ∀ V, K W2 V → wpAnyIn (wide (some r)) n Tryz.prog .any spOps Q 9 #[false, true, false, true, false, false, false, false, false, false, false] (spAct bh N D c x undef (pgV x) undef (.pointer (some ⟨D, 3, none⟩)) undef undef undef undef undef undef) V := by
    intro V k
    obtain ⟨bn, bf⟩ := hN V k
    obtain ⟨⟨c0, c1, c2, c3, c4, c5⟩, _⟩ := six (k.block hx)
    unfold spAct
    refine wpAnyIn_ready (rs := [0, 2, 4, 5]) (by kernel_rfl) (by simp) ?_
    refine AllReadyIn.cons rfl (fun KK hK => ?_) (AllReadyIn.cons rfl (fun KK hK => ?_) (AllReadyIn.cons rfl (fun KK hK => ?_) (AllReadyIn.cons rfl (fun KK hK => ?_) (AllReadyIn.nil))))
    · go_simp
      exact hK _ _ (s11010000000 V k)
    · go_simp
      refine ⟨trivial, fun h => (by cases h), ?_⟩
      refine (CallsIn.inRound _ (callsIn_wide.2 (cs _))).mono ?_
      rintro e V2 ⟨rfl, k2⟩
      exact hK _ _ (s01110000000 V2 (k.trans k2))
    · go_simp
      exact hK _ _ (s01011000000 V k)
    · go_simp
      exact hK _ _ (s01010100000 V k)
  have s11000000000 : ∀ V, K W2 V → wpAnyIn (wide (some r)) n Tryz.prog .any spOps Q 9 #[true, true, false, false, false, false, false, false, false, false, false] (spAct bh N D c x (.int .i64 nv) (pgV x) undef undef undef undef undef undef undef undef) V := by
    intro V k
    obtain ⟨bn, bf⟩ := hN V k
    obtain ⟨⟨c0, c1, c2, c3, c4, c5⟩, _⟩ := six (k.block hx)
    unfold spAct
    refine wpAnyIn_ready (rs := [2, 3, 5]) (by kernel_rfl) (by simp) ?_
    refine AllReadyIn.cons rfl (fun KK hK => ?_) (AllReadyIn.cons rfl (fun KK hK => ?_) (AllReadyIn.cons rfl (fun KK hK => ?_) (AllReadyIn.nil)))
    · go_simp
      refine ⟨trivial, fun h => (by cases h), ?_⟩
      refine (CallsIn.inRound _ (callsIn_wide.2 (cs _))).mono ?_
      rintro e V2 ⟨rfl, k2⟩
      exact hK _ _ (s11100000000 V2 (k.trans k2))
    · go_simp
      exact hK _ _ (s11010000000 V k)
    · go_simp
      exact hK _ _ (s11000100000 V k)
  have s01000100000 : ∀ V, K W2 V → wpAnyIn (wide (some r)) n Tryz.prog .any spOps Q 9 #[false, true, false, false, false, true, false, false, false, false, false] (spAct bh N D c x undef (pgV x) undef undef undef (pgV x) undef undef undef undef) V := by
    intro V k
    obtain ⟨bn, bf⟩ := hN V k
    obtain ⟨⟨c0, c1, c2, c3, c4, c5⟩, _⟩ := six (k.block hx)
    unfold spAct
    refine wpAnyIn_ready (rs := [0, 2, 3]) (by kernel_rfl) (by simp) ?_
    refine AllReadyIn.cons rfl (fun KK hK => ?_) (AllReadyIn.cons rfl (fun KK hK => ?_) (AllReadyIn.cons rfl (fun KK hK => ?_) (AllReadyIn.nil)))
    · go_simp
      exact hK _ _ (s11000100000 V k)
    · go_simp
      refine ⟨trivial, fun h => (by cases h), ?_⟩
      refine (CallsIn.inRound _ (callsIn_wide.2 (cs _))).mono ?_
      rintro e V2 ⟨rfl, k2⟩
      exact hK _ _ (s01100100000 V2 (k.trans k2))
    · go_simp
      exact hK _ _ (s01010100000 V k)
  have s01100000000 : ∀ V, K W2 V → wpAnyIn (wide (some r)) n Tryz.prog .any spOps Q 9 #[false, true, true, false, false, false, false, false, false, false, false] (spAct bh N D c x undef (pgV x) (.int .i64 sl) undef undef undef undef undef undef undef) V := by
    intro V k
    obtain ⟨bn, bf⟩ := hN V k
    obtain ⟨⟨c0, c1, c2, c3, c4, c5⟩, _⟩ := six (k.block hx)
    unfold spAct
    refine wpAnyIn_ready (rs := [0, 3, 5]) (by kernel_rfl) (by simp) ?_
    refine AllReadyIn.cons rfl (fun KK hK => ?_) (AllReadyIn.cons rfl (fun KK hK => ?_) (AllReadyIn.cons rfl (fun KK hK => ?_) (AllReadyIn.nil)))
    · go_simp
      exact hK _ _ (s11100000000 V k)
    · go_simp
      exact hK _ _ (s01110000000 V k)
    · go_simp
      exact hK _ _ (s01100100000 V k)
  have s01000000000 : ∀ V, K W2 V → wpAnyIn (wide (some r)) n Tryz.prog .any spOps Q 10 #[false, true, false, false, false, false, false, false, false, false, false] (spAct bh N D c x undef (pgV x) undef undef undef undef undef undef undef undef) V := by
    intro V k
    obtain ⟨bn, bf⟩ := hN V k
    obtain ⟨⟨c0, c1, c2, c3, c4, c5⟩, _⟩ := six (k.block hx)
    unfold spAct
    refine wpAnyIn_ready (rs := [0, 2, 3, 5]) (by kernel_rfl) (by simp) ?_
    refine AllReadyIn.cons rfl (fun KK hK => ?_) (AllReadyIn.cons rfl (fun KK hK => ?_) (AllReadyIn.cons rfl (fun KK hK => ?_) (AllReadyIn.cons rfl (fun KK hK => ?_) (AllReadyIn.nil))))
    · go_simp
      exact hK _ _ (s11000000000 V k)
    · go_simp
      refine ⟨trivial, fun h => (by cases h), ?_⟩
      refine (CallsIn.inRound _ (callsIn_wide.2 (cs _))).mono ?_
      rintro e V2 ⟨rfl, k2⟩
      exact hK _ _ (s01100000000 V2 (k.trans k2))
    · go_simp
      exact hK _ _ (s01010000000 V k)
    · go_simp
      exact hK _ _ (s01000100000 V k)
  have s00000100000 : ∀ V, K W2 V → wpAnyIn (wide (some r)) n Tryz.prog .any spOps Q 10 #[false, false, false, false, false, true, false, false, false, false, false] (spAct bh N D c x undef undef undef undef undef (pgV x) undef undef undef undef) V := by
    intro V k
    obtain ⟨bn, bf⟩ := hN V k
    obtain ⟨⟨c0, c1, c2, c3, c4, c5⟩, _⟩ := six (k.block hx)
    unfold spAct
    refine wpAnyIn_ready (rs := [0, 1, 3]) (by kernel_rfl) (by simp) ?_
    refine AllReadyIn.cons rfl (fun KK hK => ?_) (AllReadyIn.cons rfl (fun KK hK => ?_) (AllReadyIn.cons rfl (fun KK hK => ?_) (AllReadyIn.nil)))
    · go_simp
      exact hK _ _ (s10000100000 V k)
    · go_simp
      exact hK _ _ (s01000100000 V k)
    · go_simp
      exact hK _ _ (s00010100000 V k)
  have s00010000000 : ∀ V, K W2 V → wpAnyIn (wide (some r)) n Tryz.prog .any spOps Q 10 #[false, false, false, true, false, false, false, false, false, false, false] (spAct bh N D c x undef undef undef (.pointer (some ⟨D, 3, none⟩)) undef undef undef undef undef undef) V := by
    intro V k
    obtain ⟨bn, bf⟩ := hN V k
    obtain ⟨⟨c0, c1, c2, c3, c4, c5⟩, _⟩ := six (k.block hx)
    unfold spAct
    refine wpAnyIn_ready (rs := [0, 1, 4, 5]) (by kernel_rfl) (by simp) ?_
    refine AllReadyIn.cons rfl (fun KK hK => ?_) (AllReadyIn.cons rfl (fun KK hK => ?_) (AllReadyIn.cons rfl (fun KK hK => ?_) (AllReadyIn.cons rfl (fun KK hK => ?_) (AllReadyIn.nil))))
    · go_simp
      exact hK _ _ (s10010000000 V k)
    · go_simp
      exact hK _ _ (s01010000000 V k)
    · go_simp
      exact hK _ _ (s00011000000 V k)
    · go_simp
      exact hK _ _ (s00010100000 V k)
  have s10000000000 : ∀ V, K W2 V → wpAnyIn (wide (some r)) n Tryz.prog .any spOps Q 10 #[true, false, false, false, false, false, false, false, false, false, false] (spAct bh N D c x (.int .i64 nv) undef undef undef undef undef undef undef undef undef) V := by
    intro V k
    obtain ⟨bn, bf⟩ := hN V k
    obtain ⟨⟨c0, c1, c2, c3, c4, c5⟩, _⟩ := six (k.block hx)
    unfold spAct
    refine wpAnyIn_ready (rs := [1, 3, 5]) (by kernel_rfl) (by simp) ?_
    refine AllReadyIn.cons rfl (fun KK hK => ?_) (AllReadyIn.cons rfl (fun KK hK => ?_) (AllReadyIn.cons rfl (fun KK hK => ?_) (AllReadyIn.nil)))
    · go_simp
      exact hK _ _ (s11000000000 V k)
    · go_simp
      exact hK _ _ (s10010000000 V k)
    · go_simp
      exact hK _ _ (s10000100000 V k)
  have s00000000000 : ∀ V, K W2 V → wpAnyIn (wide (some r)) n Tryz.prog .any spOps Q 11 #[false, false, false, false, false, false, false, false, false, false, false] (spAct bh N D c x undef undef undef undef undef undef undef undef undef undef) V := by
    intro V k
    obtain ⟨bn, bf⟩ := hN V k
    obtain ⟨⟨c0, c1, c2, c3, c4, c5⟩, _⟩ := six (k.block hx)
    unfold spAct
    refine wpAnyIn_ready (rs := [0, 1, 3, 5]) (by kernel_rfl) (by simp) ?_
    refine AllReadyIn.cons rfl (fun KK hK => ?_) (AllReadyIn.cons rfl (fun KK hK => ?_) (AllReadyIn.cons rfl (fun KK hK => ?_) (AllReadyIn.cons rfl (fun KK hK => ?_) (AllReadyIn.nil))))
    · go_simp
      exact hK _ _ (s10000000000 V k)
    · go_simp
      exact hK _ _ (s01000000000 V k)
    · go_simp
      exact hK _ _ (s00010000000 V k)
    · go_simp
      exact hK _ _ (s00000100000 V k)
  exact s00000000000 V0 k0

/-end-/
set_option maxRecDepth 100000 in
set_option maxHeartbeats 1000000 in
theorem spare_in (n : Nat) (h : Hw w bh bs bm q pg W) (c : Int) : CallsIn Fence.wide n Tryz.prog 13 #[hp bh, .int .i64 c] w fun e w' => e = .returned (.int .i64 (spareL (heads pg W) c)) ∧ K w w' := by
  have hm := fun w1 (k : K w w1) => made_yes bh bs w1 (h.keep k).c0
  have hlt : bh < w.heap.size := lt_of_cell h.c0
  have hfl : ∀ k, Sl.foot bs bm pg k → k < w.heap.size := fun k hk => h.ar.foot_lt hk
  have h0 := lt0 h.tab
  refine callsIn_of_wp_marks Tryz.func13 rfl trivial ?_ rfl
  simp only [Tryz.ntmps13, List.size_toArray, List.length_cons, List.length_nil, Nat.reduceAdd, Nat.reduceSub, Array.replicate_succ, Array.replicate_zero, List.push_toArray, List.append_toArray, List.nil_append, List.cons_append]
  gi_wp2
  refine ⟨trivial, fun h => (by cases h), (callsIn_wide.2 (hm _ ((K.refl w).alloc _))).mono ?_⟩
  rintro e w' ⟨rfl, rfl⟩
  gi_wp2
  obtain ⟨w1, hw1⟩ : ∃ w1, w1 = (w.alloc (.cells #[.int .i64 c] 3)).alloc (.cells #[.int .i64 0] 3) := ⟨_, rfl⟩
  have kB : K w w1 := by rw [hw1]; exact ((K.refl w).alloc _).alloc _
  have hB := h.keep kB
  have hsz : w1.heap.size ≤ w.heap.size + 2 ∧ w.heap.size + 2 ≤ w1.heap.size := by rw [hw1]; simp
  obtain ⟨hsz1, hsz2⟩ := hsz
  have b0 : Boxed w1 w.heap.size 3 (.int .i64 c) := by rw [hw1]; exact (Boxed.new _ _ _).alloc _
  have b1 : Boxed w1 (w.heap.size + 1) 3 (.int .i64 0) := by
    rw [hw1]
    have := Boxed.new (w.alloc (.cells #[.int .i64 c] 3)) 3 (.int .i64 0)
    simpa using this
  rw [← hw1]
  clear hw1
  refine range_core (r := none) (w' := w1.alloc (.deferred (some []))) (mark := [{ target := .collected w1.heap.size, args := #[] }]) (gf := 27) (ba := #[hp bh]) rfl (enters_of Tryz.func27 (by kernel_rfl) rfl) (fun fn => outer w1)
    (pages_seq hB (fun k => k = w.heap.size + 1) (fun k hk => ⟨fun hf => by have := hfl _ hf; omega, by omega, by omega⟩)) ((K.refl w1).alloc _) (fun k hk => by simp; omega) (fun _ => rfl)
    (fun pre W' => Boxed W' w.heap.size 3 (.int .i64 c) ∧ Boxed W' (w.heap.size + 1) 3 (.int .i64 (spareL pre c)) ∧ K w W' ∧ W'.heap[w1.heap.size]? = some (.deferred (some [])))
    (fun _ _ _ => False)
    (fun pre x a' W' => (Boxed W' w.heap.size 3 (.int .i64 c) ∧ Boxed W' (w.heap.size + 1) 3 (.int .i64 (spareL pre c)) ∧ K w W' ∧ W'.heap[w1.heap.size]? = some (.deferred (some []))) ∧ ∃ B, w1.heap.size + 1 < B ∧ a' = { tmps := #[hp bh, .int .i64 c, undef, .pointer (some ⟨w.heap.size, 0, none⟩), .int .i64 0, .pointer (some ⟨w.heap.size + 1, 0, none⟩), .pointer (some ⟨B, 0, none⟩), hp bh, .bool true, .bool false, hp bh, .func (.func 27) #[hp bh] #[], pgV x, undef, undef, undef, undef, undef, undef, undef, undef, undef, undef, undef, undef, undef, undef], defers := [] } ∧ W'.heap[B]? = some (.cells (cellsP x) 59))
    ?hI ?hIx ?hAx ?h0 ?hassign ?hbody ?hdone ?hstop
  case hI =>
    rintro s A B ⟨hb, hd, hk, hf⟩ k
    simp only [World.size_alloc] at k
    exact ⟨k.boxed hb (by omega), k.boxed hd (by omega), hk.thenKept k (by omega), k.block hf (by omega)⟩
  case hIx =>
    rintro cd s A B hf k
    exact hf
  case hAx =>
    rintro s x a' A B ⟨⟨hb, hd, hk, hf⟩, D, hD, he, hx⟩ k
    simp only [World.size_alloc] at k
    exact ⟨⟨k.boxed hb (by omega), k.boxed hd (by omega), hk.thenKept k (by omega), k.block hf (by omega)⟩, D, hD, he, k.block hx (by omega)⟩
  case h0 => exact ⟨b0.alloc _, b1.alloc _, kB.alloc _, World.alloc_heap_new _ _⟩
  case hassign =>
    rintro pre x W' _ ⟨hb, hd, hk, hf⟩ hl
    simp only [World.size_alloc] at hl
    gi_wp2
    exact ⟨(Kept.refl _ _).alloc _, ⟨hb.alloc _, hd.alloc _, hk.alloc _, ((K.refl W').alloc _).block hf⟩, _, hl, rfl, World.alloc_heap_new _ _⟩
  case hbody =>
    rintro pre x a' W' hpre _ ⟨⟨hb, hd, hk, hf⟩, D, hD, rfl, hx⟩
    have hok := heads_ok h.ar (mem_of_pre hpre)
    obtain ⟨⟨c0, c1, c2, c3, c4, c5⟩, _⟩ := six hx
    have bc := hb.cell
    have ci := fun w => pageIsOf_any x c w
    have hsn := spareL_snoc pre x c
    unfold spareP at hsn
    cases hof : (x.kind == 1 && x.cls == c) with
    | false =>
      rw [hof] at ci hsn
      simp only [Bool.false_eq_true, if_false] at hsn
      have HS : Hid _ := hsn
      clear hsn
      gi_wp2
      refine ⟨trivial, fun h => (by cases h), (CallsIn.inRound _ (callsIn_wide.2 (ci _))).mono ?_⟩
      rintro e W2 ⟨rfl, k2⟩
      gi_wp2
      refine ⟨k2.kept _, k2.boxed hb, ?_, hk.trans k2, k2.block hf⟩
      rw [HS.out, Int.add_zero]
      exact k2.boxed hd
    | true =>
      rw [hof] at ci hsn
      simp only [if_true] at hsn
      have HS : Hid _ := hsn
      clear hsn
      gi_wp2
      refine ⟨trivial, fun h => (by cases h), (CallsIn.inRound _ (callsIn_wide.2 (ci _))).mono ?_⟩
      rintro e W2 ⟨rfl, k2⟩
      have hx2 := k2.block hx
      have hmix : Tryz.prog.follows .mixedOrders = true := by kernel_rfl
      clear bc c0 c1 c2 c3 c4 c5
      gi_wp2
      refine wpIn_region_any hmix ?_
      change wpAnyIn _ _ _ _ _ _ _ _ _ (World.drew _)
      have hls := heads_len h.ar
      refine spare_region (W2 := W2) (nv := spareL pre c) hx2 (k2.boxed hd) hok.u rfl rfl (slo_range _) (cnt_range _ _) ?_ ?_ (K.drew (K.refl W2))
      · have h1 := spareL_range pre c
        have h2 := hpre.length_le
        simp only [List.length_append, List.length_cons, List.length_nil] at h2
        omega
      · intro V k
        have kv := k2.trans k
        have kp := (kv.kept (fun k => k = w.heap.size + 1)).setCell (p := ⟨w.heap.size + 1, 0, none⟩) (.int .i64 (spareL pre c + (Cl.sloI x.cls - Bt.cntI x.taken (Cl.sloI x.cls)))) (.inl rfl)
        refine ⟨kp, kp.boxed hb (by omega), ?_, Kept.setCell (O := No) (hk.trans kv) _ (.inr (show w.heap.size ≤ w.heap.size + 1 by omega)), kp.block hf (by omega)⟩
        rw [HS.out]
        exact (kv.boxed hd).set _
  case hdone =>
    rintro W' ⟨hb, hd, hk, hf⟩
    have z0 := hd.cell
    gi_wp2
    refine ⟨by simp, .inl ⟨_, _, rfl, run_takeDeferred hf, .int .i64 (spareL (heads pg W) c), ?_, rfl, ?_⟩⟩
    · simp [results, Tryz.f13, go_sem]
    · exact Kept.putObj hk _ (.inr (by omega))
  case hstop =>
    rintro cd pre W' hpre hf
    exact hf.elim

theorem spare_any (h : Hw w bh bs bm q pg W) (c : Int) : Calls Tryz.prog 13 #[hp bh, .int .i64 c] w fun e w' => e = .returned (.int .i64 (spareL (heads pg W) c)) ∧ K w w' := (callsIn_wide (n := 0)).1 (spare_in 0 h c)

end Hp
end Go.Proofs.YtpoehbncdjbleaaGreatDoor
