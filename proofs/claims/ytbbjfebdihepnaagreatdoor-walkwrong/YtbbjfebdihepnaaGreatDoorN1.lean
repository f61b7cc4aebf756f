/-
  Six cells of words, stored over six others, as a step; read again.
-/
import Derived.Test.YtbbjfebdihepnaaGreatDoorL1
import Derived.Deep.MidRow
import Derived.WalkSpells
import Derived.Test.YtbbjfebdihepnaaGreatDoorE1
namespace Go.Proofs.YtbbjfebdihepnaaGreatDoor
open Go.RowKit Go.Maps
attribute [local go_sem ↓] Go.wp_at_zero Go.wp_at_succ
namespace Nd
open Hp (Kept K No)
variable {w w' : World}

def Wrapd (p : Prop) : Prop := p
theorem six {b : Nat} {x0 x1 x2 x3 x4 x5 : Value} {t : TypeId} (h : w.heap[b]? = some (.cells #[x0, x1, x2, x3, x4, x5] t)) : w.cell? ⟨b, 0, none⟩ = some x0 ∧ w.cell? ⟨b, 1, none⟩ = some x1 ∧ w.cell? ⟨b, 2, none⟩ = some x2 ∧ w.cell? ⟨b, 3, none⟩ = some x3 ∧ w.cell? ⟨b, 4, none⟩ = some x4 ∧ w.cell? ⟨b, 5, none⟩ = some x5 :=
  ⟨by simp [World.cell?, h], by simp [World.cell?, h], by simp [World.cell?, h], by simp [World.cell?, h], by simp [World.cell?, h], by simp [World.cell?, h]⟩
theorem frz {g : Nat} {cs : Array Value} {t : TypeId} (h : w.heap[g]? = some (.cells cs t)) (j : Nat) : w.frozen? ⟨g, j, none⟩ = false := by simp [World.frozen?, h]

theorem wpList_store_six {ops : Array Oper} {rest : List Oper} {op : Oper} {a : Act} {w : World} {Q : Exit → Act → World → Prop} (hgd : op.guard = none) (t : TypeId) (x y : Operand) (ho : op.op = .store t x y) (ht : (Tryz.prog.info? t).map (·.size) = some 6)
    (b : Nat) {c0 c1 c2 c3 c4 c5 v0 v1 v2 v3 v4 v5 : Value} (hb : w.heap[b]? = some (.cells #[c0, c1, c2, c3, c4, c5] t)) (hx : a.eval x = .pointer (some ⟨b, 0, none⟩)) (hy : a.eval y = .agg #[v0, v1, v2, v3, v4, v5]) (h1 : (#[v0, v1, v2, v3, v4, v5] : Array Value).all (·.oneCell') = true)
    (h : ∀ w', w'.heap[b]? = some (.cells #[v0, v1, v2, v3, v4, v5] t) → Kept (fun j => j = b) w w' → wpList Tryz.prog ops Q rest (a.put op.dst undef) w') : wpList Tryz.prog ops Q (op :: rest) a w := by
  refine wpList_store_mid hgd t x y ho b 0 #[v0, v1, v2, v3, v4, v5] hx hy ?_ ht h1 ?_
  · intro j hj
    obtain ⟨e0, e1, e2, e3, e4, e5⟩ := six hb
    have hj6 : j < 6 := hj
    refine ⟨?_, frz hb _⟩
    rw [Nat.zero_add]
    rcases (by omega : j = 0 ∨ j = 1 ∨ j = 2 ∨ j = 3 ∨ j = 4 ∨ j = 5) with rfl | rfl | rfl | rfl | rfl | rfl
    · rw [e0]; rfl
    · rw [e1]; rfl
    · rw [e2]; rfl
    · rw [e3]; rfl
    · rw [e4]; rfl
    · rw [e5]; rfl
  · have k0 : Kept (fun j => j = b) w w := Kept.refl _ _
    have b0 := heap_setCell_same w b 0 _ _ v0 hb
    have b1 := heap_setCell_same _ b 1 _ _ v1 b0
    have b2 := heap_setCell_same _ b 2 _ _ v2 b1
    have b3 := heap_setCell_same _ b 3 _ _ v3 b2
    have b4 := heap_setCell_same _ b 4 _ _ v4 b3
    have b5 := heap_setCell_same _ b 5 _ _ v5 b4
    refine h _ (b5.trans (by rfl)) ?_
    exact Kept.setCell (p := ⟨b, 5, none⟩) (Kept.setCell (p := ⟨b, 4, none⟩) (Kept.setCell (p := ⟨b, 3, none⟩) (Kept.setCell (p := ⟨b, 2, none⟩) (Kept.setCell (p := ⟨b, 1, none⟩) (Kept.setCell (p := ⟨b, 0, none⟩) k0 v0 (.inl rfl)) v1 (.inl rfl)) v2 (.inl rfl)) v3 (.inl rfl)) v4 (.inl rfl)) v5 (.inl rfl)

theorem wrapN {P : Program} {ops : Array Oper} {rest : List Oper} {ac : Act} {w : World} {Q : Exit → Act → World → Prop} {ty : TypeId} {ps : String} {af : Array Edge} {x y : Operand} {d : Option Tmp} (h : Wrapd (wpList P ops Q ({ dst := d, op := Op.store 54 x y, type := ty, pos := ps, after := af, guard := none } :: rest) ac w)) : wpList P ops Q ({ dst := d, op := Op.store 54 x y, type := ty, pos := ps, after := af, guard := none } :: rest) ac w := h
theorem wrapF {P : Program} {ops : Array Oper} {rest : List Oper} {ac : Act} {w : World} {Q : Exit → Act → World → Prop} {ty : TypeId} {ps : String} {af : Array Edge} {x y : Operand} {d : Option Tmp} (h : Wrapd (wpList P ops Q ({ dst := d, op := Op.store 94 x y, type := ty, pos := ps, after := af, guard := none } :: rest) ac w)) : wpList P ops Q ({ dst := d, op := Op.store 94 x y, type := ty, pos := ps, after := af, guard := none } :: rest) ac w := h

end Nd
end Go.Proofs.YtbbjfebdihepnaaGreatDoor

/-
  Walks of package node: fieldsOf, node, check.
-/
namespace Go.Proofs.YtbbjfebdihepnaaGreatDoor
open Go.RowKit Go.Maps
attribute [local go_sem ↓] Go.wp_at_zero Go.wp_at_succ
namespace Nd
open Hp (Kept K No Pg BlR Bl Wl)
open Hd (U64 findL)
open Go.Proofs.YtbbjfebdihepnaaGreatDoor.Bb (Ho)
open Go.Proofs.YtbbjfebdihepnaaGreatDoor.So (Ad Sb Sw Rec sp lE lN len_any)
variable {w w' : World} {B : Nat} {A : Ad} {pg : List (Int × Nat)} {W : Int → Int} {L : List Pg} {v : Value} {T : List Hd.Sl}

abbrev zero6 : Array Value := #[.int .u64 0, .int .u64 0, .int .u64 0, .int .u64 0, .int .u64 0, .int .u64 0]
/-- A variable that holds the six, and the result's behind it. -/
theorem two_vars (w : World) (o : Obj) (t : TypeId) : (∀ V, K ((w.alloc o).alloc (.cells zero6 t)) V → V.heap[w.heap.size + 1]? = some (.cells zero6 t)) ∧ ∀ V V', K ((w.alloc o).alloc (.cells zero6 t)) V → Kept (fun j => j = w.heap.size + 1) V V' → K w V' :=
  ⟨fun V k => Hp.K.block k (by simpa using World.alloc_heap_new (w.alloc o) (.cells zero6 t)), fun V V' k st => Hp.K.thenKept (Hp.K.trans (((K.refl w).alloc _).alloc _) k) st (Nat.le_succ _)⟩

set_option maxHeartbeats 400000 in
theorem fieldsOf_any (n : Nv) (w : World) : Calls Tryz.prog 72 #[n.v] w fun e w' => e = .returned n.v ∧ K w w' := by
  obtain ⟨a, b, c, d, x, f⟩ := n
  obtain ⟨bx, ka⟩ := two_vars w (.cells #[encU a, encU b, encU c, encU d, encU x, encU f] 54) 94
  have BX : Aside _ := bx
  have KA : Aside _ := ka
  clear bx ka
  go_enter Tryz.func72, Tryz.ntmps72
  go_wp2_with (with_reducible refine wrapF ?_)
  unfold Wrapd
  refine wpList_store_six (v0 := encU a) (v1 := encU b) (v2 := encU c) (v3 := encU d) (v4 := encU x) (v5 := encU f) rfl 94 (.tmp 2) (.tmp 15) rfl (by kernel_rfl) (w.heap.size + 1) (BX.out _ (K.refl _)) rfl rfl (by simp [Value.oneCell']) ?_
  intro w5 b5 st5
  obtain ⟨d0, d1, d2, d3, d4, d5⟩ := six b5
  have KF : Aside _ := KA.out _ _ (K.refl _) st5
  clear b5 st5
  go_wp2
  refine bodyPost_ret (v := .agg #[encU a, encU b, encU c, encU d, encU x, encU f]) (by simp [results, Tryz.results72, go_sem, d0, d1, d2, d3, d4, d5]; try rfl) rfl ?_
  exact ⟨rfl, KF.out⟩

set_option maxHeartbeats 400000 in
theorem node_any (n : Nv) (w : World) : Calls Tryz.prog 49 #[n.v] w fun e w' => e = .returned n.v ∧ K w w' := by
  obtain ⟨a, b, c, d, x, f⟩ := n
  obtain ⟨bx, ka⟩ := two_vars w (.cells #[encU a, encU b, encU c, encU d, encU x, encU f] 94) 54
  have BX : Aside _ := bx
  have KA : Aside _ := ka
  clear bx ka
  go_enter Tryz.func49, Tryz.ntmps49
  go_wp2_with (with_reducible refine wrapN ?_)
  unfold Wrapd
  refine wpList_store_six (v0 := encU a) (v1 := encU b) (v2 := encU c) (v3 := encU d) (v4 := encU x) (v5 := encU f) rfl 54 (.tmp 2) (.tmp 15) rfl (by kernel_rfl) (w.heap.size + 1) (BX.out _ (K.refl _)) rfl rfl (by simp [Value.oneCell']) ?_
  intro w5 b5 st5
  obtain ⟨d0, d1, d2, d3, d4, d5⟩ := six b5
  have KF : Aside _ := KA.out _ _ (K.refl _) st5
  clear b5 st5
  go_wp2
  refine bodyPost_ret (v := .agg #[encU a, encU b, encU c, encU d, encU x, encU f]) (by simp [results, Tryz.results49, go_sem, d0, d1, d2, d3, d4, d5]; try rfl) rfl ?_
  exact ⟨rfl, KF.out⟩

/-- check. -/
theorem check_any (h : Sw w B A pg W L v T) (x : Int) (hx : U64 x) : Calls Tryz.prog 47 #[sp A.st, .int .u64 x] w fun e w' => e = .returned (.int .i64 (ckE T W x)) ∧ K w w' := by
  have ln := len_any h x hx
  cases hf : findL T x with
  | none =>
    have E : Hid (ckE T W x = 7) := by show ckE T W x = 7; simp [ckE, hf]
    rw [show lE T x = 7 by simp [lE, hf], show lN T W x = 0 by simp [lN, hf]] at ln
    clear h hf
    go_enter Tryz.func47, Tryz.ntmps47
    go_wp2_with (go_at_call 52; refine ln.mono ?_; rintro e w1 ⟨rfl, k1⟩)
    go_ret
    exact ⟨by rw [E.out]; rfl, k1⟩
  | some i =>
    rw [show lE T x = 0 by simp [lE, hf]] at ln
    by_cases h6 : lN T W x = 6
    · have E : Hid (ckE T W x = 0) := by show ckE T W x = 0; simp [ckE, hf, h6]
      rw [h6] at ln
      clear h hf h6
      go_enter Tryz.func47, Tryz.ntmps47
      go_wp2_with (go_at_call 52; refine ln.mono ?_; rintro e w1 ⟨rfl, k1⟩)
      go_ret
      exact ⟨by rw [E.out]; rfl, k1⟩
    · have E : Hid (ckE T W x = 8) := by show ckE T W x = 8; simp [ckE, hf, h6]
      have hne : (lN T W x != 6) = true := by simpa using h6
      clear h hf h6
      generalize lN T W x = n at *
      go_enter Tryz.func47, Tryz.ntmps47
      go_wp2_with (go_at_call 52; refine ln.mono ?_; rintro e w1 ⟨rfl, k1⟩)
      go_ret
      exact ⟨by rw [E.out]; rfl, k1⟩

end Nd
end Go.Proofs.YtbbjfebdihepnaaGreatDoor
