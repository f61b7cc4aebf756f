/-
  loftref06: a store just made.
-/
import Derived.Test.YtlmfojkhfipdnaaGreatDoorR3
import Derived.Test.YtlmfojkhfipdnaaGreatDoorU1
import Derived.Deep.MidRow
namespace Go.Proofs.YtlmfojkhfipdnaaGreatDoor
open Go.RowKit Go.Maps
attribute [local go_sem ↓] Go.wp_at_zero Go.wp_at_succ
namespace Rs
open Hp (Kept K No)
variable {u0 : World × Nat} {w w' : World} {br : Nat} {q m z : Int}

/-- A store just made: nothing is in it. -/
theorem Sr.new (w : World) (m0 : 1 ≤ m) (m1 : m ≤ 65536) (z0 : 1 ≤ z) (z1 : z ≤ 4294967295) (hu : u0.2 ≤ w.heap.size) (f : Tn u0 (w.alloc (.cells #[.int .i64 q, .slice none 0 0, .int .i64 m, .int .u32 z, .slice none 0 0, .slice none 0 0] 37))) : Sr u0 (w.alloc (.cells #[.int .i64 q, .slice none 0 0, .int .i64 m, .int .u32 z, .slice none 0 0, .slice none 0 0] 37)) w.heap.size q m z [] [] [] := by
  have hb := World.alloc_heap_new w (.cells #[.int .i64 q, .slice none 0 0, .int .i64 m, .int .u32 z, .slice none 0 0, .slice none 0 0] 37)
  refine ⟨⟨none, 0, .slice none 0 0, none, 0, ⟨hb, World.ownsRow_nil _ _ _ _⟩, ⟨hb, World.ownsRow_nil _ _ _ _, ?_, ⟨m0, m1, z0, z1, by simp [Hd.cls]; omega, fun s hs => by simp [Hd.cls] at hs⟩, hu⟩, World.ownsRow_nil _ _ _ _⟩, fun i r hr => by simp at hr, ?_, by simp, f⟩
  · intro e
    cases e
  · refine ⟨⟨?_, List.Pairwise.nil, ?_⟩, Nat.zero_le _, ?_⟩
    all_goals (intro p hp; exact absurd hp List.not_mem_nil)

end Rs
end Go.Proofs.YtlmfojkhfipdnaaGreatDoor

/-
  loftref06: New.
-/
namespace Go.Proofs.YtlmfojkhfipdnaaGreatDoor
open Go.RowKit Go.Maps
attribute [local go_sem ↓] Go.wp_at_zero Go.wp_at_succ
namespace Rs
open Hp (Kept K No)
variable {u0 : World × Nat} {w w' : World} {br : Nat} {q m z : Int}

/-- A struct of six cells, stored over another. -/
theorem wpList_store_six {ops : Array Oper} {rest : List Oper} {op : Oper} {a : Act} {w : World} {Q : Exit → Act → World → Prop} (hgd : op.guard = none) (x y : Operand) (ho : op.op = .store 37 x y)
    (b : Nat) {c0 c1 c2 c3 c4 c5 v0 v1 v2 v3 v4 v5 : Value} (hb : w.heap[b]? = some (.cells #[c0, c1, c2, c3, c4, c5] 37)) (hx : a.eval x = .pointer (some ⟨b, 0, none⟩)) (hy : a.eval y = .agg #[v0, v1, v2, v3, v4, v5]) (h1 : (#[v0, v1, v2, v3, v4, v5] : Array Value).all (·.oneCell') = true)
    (h : ∀ w', w'.heap[b]? = some (.cells #[v0, v1, v2, v3, v4, v5] 37) → Kept (fun j => j = b) w w' → wpList Tryz.prog ops Q rest (a.put op.dst undef) w') : wpList Tryz.prog ops Q (op :: rest) a w := by
  refine wpList_store_mid hgd 37 x y ho b 0 #[v0, v1, v2, v3, v4, v5] hx hy ?_ (by kernel_rfl) h1 ?_
  · intro j hj
    obtain ⟨e0, e1, e2, e3, e4, e5⟩ := six hb
    have hj6 : j < 6 := hj
    refine ⟨?_, frz hb _⟩
    rw [Nat.zero_add]
    rcases (by omega : j = 0 ∨ j = 1 ∨ j = 2 ∨ j = 3 ∨ j = 4 ∨ j = 5) with rfl | rfl | rfl | rfl | rfl | rfl
    · rw [e0]; rfl
    · rw [e1]; rfl
    · rw [e2]; rfl
    · rw [e3]; rfl
    · rw [e4]; rfl
    · rw [e5]; rfl
  · have k0 : Kept (fun j => j = b) w w := Kept.refl _ _
    have b0 := heap_setCell_same w b 0 _ _ v0 hb
    have b1 := heap_setCell_same _ b 1 _ _ v1 b0
    have b2 := heap_setCell_same _ b 2 _ _ v2 b1
    have b3 := heap_setCell_same _ b 3 _ _ v3 b2
    have b4 := heap_setCell_same _ b 4 _ _ v4 b3
    have b5 := heap_setCell_same _ b 5 _ _ v5 b4
    refine h _ (b5.trans (by rfl)) ?_
    exact Kept.setCell (p := ⟨b, 5, none⟩) (Kept.setCell (p := ⟨b, 4, none⟩) (Kept.setCell (p := ⟨b, 3, none⟩) (Kept.setCell (p := ⟨b, 2, none⟩) (Kept.setCell (p := ⟨b, 1, none⟩) (Kept.setCell (p := ⟨b, 0, none⟩) k0 v0 (.inl rfl)) v1 (.inl rfl)) v2 (.inl rfl)) v3 (.inl rfl)) v4 (.inl rfl)) v5 (.inl rfl)

theorem wrapS {P : Program} {ops : Array Oper} {rest : List Oper} {ac : Act} {w : World} {Q : Exit → Act → World → Prop} {ty : TypeId} {ps : String} {af : Array Edge} {x y : Operand} {d : Option Tmp} (h : Wrapd (wpList P ops Q ({ dst := d, op := Op.store 37 x y, type := ty, pos := ps, after := af, guard := none } :: rest) ac w)) : wpList P ops Q ({ dst := d, op := Op.store 37 x y, type := ty, pos := ps, after := af, guard := none } :: rest) ac w := h

set_option maxHeartbeats 400000 in
theorem rNew_ok (w : World) (q0 : 0 ≤ q) (q1 : q ≤ 262144) (m0 : 1 ≤ m) (m1 : m ≤ 65536) (z0 : 1 ≤ z) (z1 : z ≤ 4294967295) : Calls Tryz.prog 6 #[.int .i64 q, .int .i64 m, .int .u32 z] w fun e w' => e = .returned (.tuple #[.agg #[.int .i64 q, .slice none 0 0, .int .i64 m, .int .u32 z, .slice none 0 0, .slice none 0 0], .int .i64 0]) ∧ K w w' := by
  have cn : Aside (∀ w1, Calls Tryz.prog 14 #[.int .i64 m, .int .u32 z] w1 fun e w' => e = .returned (.tuple #[.agg #[.int .i64 m, .int .u32 z, .slice none 0 0], .int .i64 0]) ∧ K w1 w') := fun w1 => Hd.rNew_ok m z w1 m0 m1 z0 z1
  have h1 : decide (q < 0) = false := decide_eq_false (by omega)
  have h2 : decide (262144 < q) = false := decide_eq_false (by omega)
  have BX : (w.alloc (.cells #[.int .i64 0, .slice none 0 0, .int .i64 0, .int .u32 0, .slice none 0 0, .slice none 0 0] 37)).heap[w.heap.size]? = some (.cells #[.int .i64 0, .slice none 0 0, .int .i64 0, .int .u32 0, .slice none 0 0, .slice none 0 0] 37) := World.alloc_heap_new _ _
  have BXA : Aside _ := BX
  clear m0 m1 z0 z1 BX q0 q1
  go_enter Tryz.func6, Tryz.ntmps6
  go_wp2_with fail
  refine (cn.out _).mono ?_
  rintro e w1 ⟨rfl, k1⟩
  have K1 : Aside _ := k1
  have b1 : Aside _ := Hp.K.block k1 BXA.out
  have hlt : w.heap.size < w1.heap.size := (Array.getElem?_eq_some_iff.1 b1.out).1
  have HB : Aside (∀ V W, K w1 V → Kept (fun j => j = w.heap.size) V W → K w W) := fun V W k st => Hp.K.thenKept (Hp.K.trans ((K.refl w).alloc _) (Hp.K.trans K1.out k)) st (Nat.le_refl _)
  have BV : Aside (∀ V, K w1 V → V.heap[w.heap.size]? = some (.cells #[.int .i64 0, .slice none 0 0, .int .i64 0, .int .u32 0, .slice none 0 0, .slice none 0 0] 37)) := fun V k => Hp.K.block k b1.out
  clear k1 cn BXA K1 b1
  generalize w.heap.size = b at *
  go_wp2_with (with_reducible refine wrapS ?_)
  unfold Wrapd
  refine wpList_store_six (v0 := .int .i64 q) (v1 := .slice none 0 0) (v2 := .int .i64 m) (v3 := .int .u32 z) (v4 := .slice none 0 0) (v5 := .slice none 0 0) rfl (.tmp 6) (.tmp 30) rfl b (BV.out _ ((K.refl w1).alloc _)) rfl rfl (by simp [Value.oneCell']) ?_
  intro w5 b5 st5
  obtain ⟨d0, d1, d2, d3, d4, d5⟩ := six b5
  have KF : Aside _ := HB.out _ _ ((K.refl w1).alloc _) st5
  clear b5 st5
  go_wp2
  refine bodyPost_ret (v := .tuple #[.agg #[.int .i64 q, .slice none 0 0, .int .i64 m, .int .u32 z, .slice none 0 0, .slice none 0 0], .int .i64 0]) (by simp [results, Tryz.results6, go_sem, d0, d1, d2, d3, d4, d5]; try rfl) rfl ?_
  exact ⟨rfl, KF.out⟩

end Rs
end Go.Proofs.YtlmfojkhfipdnaaGreatDoor
