/-
  What is so within Run: the store, its own variables; how rounds turn them.
-/
import Derived.Test.YtlalmdckdejggaaGreatDoorG4
import Derived.Test.YtlalmdckdejggaaGreatDoorG3
import Derived.OrdersIn
namespace Go.Proofs.YtlalmdckdejggaaGreatDoor
open Go.RowKit Go.Maps
namespace Co
open Hp (Kept K No Pg BlR Bl Wl Grows lt_of_cell)
open Go.Proofs.YtlalmdckdejggaaGreatDoor.So (Ad Sb Sw Rec sp Stp Bx foot)
variable {w w4 V V' V1 V2 : World} {B c g : Nat} {A : Ad} {pg0 pg pg2 : List (Int × Nat)} {W0 W W2 : Int → Int} {v0 v v2 : Value} {T0 : List Hd.Sl} {z : S}

/-- Where things lie. -/
structure Fx (w w4 : World) (A : Ad) (c g : Nat) : Prop where
  bh : A.bh < w.heap.size
  st : A.st < w.heap.size
  z0 : 0 < w.heap.size
  c : c < w.heap.size
  g0 : w.heap.size + 2 < g
  g1 : g < w4.heap.size

/-- Behind those that came. -/
structure Rz (w w4 : World) (B : Nat) (A : Ad) (c : Nat) (pg0 : List (Int × Nat)) (v0 : Value) (W0 : Int → Int) (T0 : List Hd.Sl) (g : Nat) (pg : List (Int × Nat)) (W : Int → Int) (v : Value) (z : S) (V : World) : Prop where
  sw : Sw V B A pg W z.L v z.T
  wk : Wk T0 W0 z.T W
  st : Stp A pg0 pg v0 v w V
  own : ∀ k, w.heap.size ≤ k → k < w4.heap.size → ¬ foot A pg v k ∧ (k ≠ w.heap.size + 2 → k ≠ g → V.heap[k]? = w4.heap[k]?)
  n : V.heap[w.heap.size + 2]? = some (.cells #[.int .i64 z.n] 3)
  k : V.heap[g]? = some (.cells (kRow z.k) 4)
  sz : w4.heap.size ≤ V.heap.size
  cb : Bx A pg v V c 108 (sp A.st)
/-- The blocks that rounds turn. -/
def Mz (w : World) (A : Ad) (g : Nat) (pg : List (Int × Nat)) (v : Value) : Nat → Prop := fun k => foot A pg v k ∨ k = w.heap.size + 2 ∨ k = g

theorem stp_off (s : Stp A pg0 pg v0 v w V) {O : Nat → Prop} (k : Kept O V V') (hO : ∀ j, O j → w.heap.size ≤ j) : Stp A pg0 pg v0 v w V' :=
  ⟨⟨k.os.trans s.k.os, k.tape.trans s.k.tape, k.output.trans s.k.output, Nat.le_trans s.k.size k.size, fun j hj hn => (k.same j (Nat.lt_of_lt_of_le hj s.k.size) (fun h => by have := hO j h; omega)).trans (s.k.same j hj hn)⟩, s.inn⟩

theorem Rz.kept (f : Fx w w4 A c g) (h : Rz w w4 B A c pg0 v0 W0 T0 g pg W v z V) {O : Nat → Prop} (k : Kept O V V') (hO : ∀ j, O j → w4.heap.size ≤ j ∧ ¬ foot A pg v j) : Rz w w4 B A c pg0 v0 W0 T0 g pg W v z V' := by
  have h0 := f.bh; have h1 := f.st; have h2 := f.z0; have h3 := f.c; have h4 := f.g0; have h5 := f.g1
  refine ⟨⟨h.sw.b.kept k (fun j hj => ⟨(hO j hj).2, ?_, ?_, ?_⟩), h.sw.r⟩, h.wk, stp_off h.st k (fun j hj => ?_), fun j j0 j1 => ⟨(h.own j j0 j1).1, fun a b => (k.same j ?_ ?_).trans ((h.own j j0 j1).2 a b)⟩, k.block h.n ?_, k.block h.k ?_, Nat.le_trans h.sz k.size, ⟨k.block h.cb.hb ?_, h.cb.off⟩⟩
  · have := (hO j hj).1; omega
  · have := (hO j hj).1; omega
  · have := (hO j hj).1; omega
  · have := (hO j hj).1; omega
  · have := h.sz; omega
  · intro hj; have := (hO j hj).1; omega
  · intro hj; have := (hO _ hj).1; omega
  · intro hj; have := (hO _ hj).1; omega
  · intro hj; have := (hO _ hj).1; omega
theorem Rz.off (f : Fx w w4 A c g) (h : Rz w w4 B A c pg0 v0 W0 T0 g pg W v z V) (k : Kept (Off w4.heap.size (Mz w A g pg v)) V V') : Rz w w4 B A c pg0 v0 W0 T0 g pg W v z V' :=
  h.kept f k fun _ hj => ⟨hj.1, fun hf => hj.2 (.inl hf)⟩
theorem Rz.keep (f : Fx w w4 A c g) (h : Rz w w4 B A c pg0 v0 W0 T0 g pg W v z V) (k : K V V') : Rz w w4 B A c pg0 v0 W0 T0 g pg W v z V' :=
  h.kept f k fun _ hj => hj.elim
theorem Rz.rd (h : Rz w w4 B A c pg0 v0 W0 T0 g pg W v z V) : Rd B A c T0 W0 V := ⟨pg, W, z.L, v, z.T, h.sw, h.wk, h.cb.cell⟩
theorem Rz.box (h : Rz w w4 B A c pg0 v0 W0 T0 g pg W v z V) {j : Nat} {o : Obj} (hb : w4.heap[j]? = some o) (h0 : w.heap.size ≤ j) (h1 : j ≠ w.heap.size + 2) (h2 : j ≠ g) : V.heap[j]? = some o :=
  ((h.own j h0 (Array.getElem?_eq_some_iff.1 hb).1).2 h1 h2).trans hb

/-- A record slid. -/
theorem Rz.slide (f : Fx w w4 A c g) (h : Rz w w4 B A c pg0 v0 W0 T0 g pg W v z V) (k : K V V1) {L2 : List Pg} {T2 : List Hd.Sl} (sw : Sw V2 B A pg2 W2 L2 v T2) (wk : Wk T0 W0 T2 W2) (st : Stp A pg pg2 v v V1 V2) :
    Rz w w4 B A c pg0 v0 W0 T0 g pg2 W2 v ⟨L2, T2, z.n, z.k⟩ V2 ∧ Kept (Mz w A g pg v) V V2 ∧ Grows (Mz w A g pg v) (Mz w A g pg2 v) V := by
  have h4 := f.g0; have h5 := f.g1
  have hs := k.size
  have hz := h.sz
  have s2 : Stp A pg pg2 v v V V2 := (Stp.ofK k).trans st
  refine ⟨⟨sw, wk, h.st.trans s2, fun j j0 j1 => ⟨s2.off (by omega) (h.own j j0 j1).1, fun a b => (s2.k.same j (by omega) (h.own j j0 j1).1).trans ((h.own j j0 j1).2 a b)⟩, s2.block h.n (h.own _ (by omega) (by omega)).1, s2.block h.k (h.own _ (by omega) (by omega)).1, Nat.le_trans hz s2.k.size, h.cb.step s2⟩, s2.k.mono (fun _ _ hj => .inl hj), fun j hj => ?_⟩
  rcases hj with hj | hj
  · rcases s2.inn j hj with h | h
    · exact .inl (.inl h)
    · exact .inr h
  · exact .inl (.inr hj)

theorem Rz.setN (f : Fx w w4 A c g) (h : Rz w w4 B A c pg0 v0 W0 T0 g pg W v z V) (x : Int) :
    Rz w w4 B A c pg0 v0 W0 T0 g pg W v ⟨z.L, z.T, x, z.k⟩ (V.setCell ⟨w.heap.size + 2, 0, none⟩ (.int .i64 x)) ∧ Kept (Mz w A g pg v) V (V.setCell ⟨w.heap.size + 2, 0, none⟩ (.int .i64 x)) := by
  have h0 := f.bh; have h1 := f.st; have h2 := f.z0; have h3 := f.c; have h4 := f.g0; have h5 := f.g1
  have hz := h.sz
  have k : Kept (fun j => j = w.heap.size + 2) V (V.setCell ⟨w.heap.size + 2, 0, none⟩ (.int .i64 x)) := (Kept.refl _ _).setCell _ (.inl rfl)
  have hn := Sl.heap_setCell_same (i := 0) h.n (.int .i64 x)
  refine ⟨⟨⟨h.sw.b.kept k (fun j hj => ⟨?_, ?_, ?_, ?_⟩), h.sw.r⟩, h.wk, stp_off h.st k (fun j hj => ?_), fun j j0 j1 => ⟨(h.own j j0 j1).1, fun a b => (k.same j ?_ ?_).trans ((h.own j j0 j1).2 a b)⟩, by simpa using hn, k.block h.k ?_, Nat.le_trans h.sz k.size, ⟨k.block h.cb.hb ?_, h.cb.off⟩⟩, k.mono (fun _ _ hj => .inr (.inl hj))⟩
  · subst hj; exact (h.own _ (by omega) (by omega)).1
  · omega
  · omega
  · omega
  · omega
  · omega
  · exact a
  · omega
  · omega

theorem Rz.setK (f : Fx w w4 A c g) (h : Rz w w4 B A c pg0 v0 W0 T0 g pg W v z V) {d : Int} (d0 : 0 ≤ d) (d1 : d ≤ 7) :
    Rz w w4 B A c pg0 v0 W0 T0 g pg W v ⟨z.L, z.T, z.n, fun e => if e = d then true else z.k e⟩ (V.setCell ⟨g, d.toNat, none⟩ (.bool true)) ∧ Kept (Mz w A g pg v) V (V.setCell ⟨g, d.toNat, none⟩ (.bool true)) := by
  have h0 := f.bh; have h1 := f.st; have h2 := f.z0; have h3 := f.c; have h4 := f.g0; have h5 := f.g1
  have hz := h.sz
  have k : Kept (fun j => j = g) V (V.setCell ⟨g, d.toNat, none⟩ (.bool true)) := (Kept.refl _ _).setCell _ (.inl rfl)
  have hk := Sl.heap_setCell_same (i := d.toNat) h.k (.bool true)
  rw [kRow_set z.k d0 d1] at hk
  refine ⟨⟨⟨h.sw.b.kept k (fun j hj => ⟨?_, ?_, ?_, ?_⟩), h.sw.r⟩, h.wk, stp_off h.st k (fun j hj => ?_), fun j j0 j1 => ⟨(h.own j j0 j1).1, fun a b => (k.same j ?_ ?_).trans ((h.own j j0 j1).2 a b)⟩, k.block h.n ?_, hk, Nat.le_trans h.sz k.size, ⟨k.block h.cb.hb ?_, h.cb.off⟩⟩, k.mono (fun _ _ hj => .inr (.inr hj))⟩
  · subst hj; exact (h.own _ (by omega) (by omega)).1
  · omega
  · omega
  · omega
  · omega
  · omega
  · exact b
  · omega
  · omega

theorem Rz.fin (f : Fx w w4 A c g) (h : Rz w w4 B A c pg0 v0 W0 T0 g pg W v z V) {d : Nat} (k : Kept (fun j => j = d) V V') (d0 : w.heap.size ≤ d) (d1 : d < w4.heap.size) : Sw V' B A pg W z.L v z.T ∧ Wk T0 W0 z.T W ∧ Stp A pg0 pg v0 v w V' := by
  have h0 := f.bh; have h1 := f.st; have h2 := f.z0
  refine ⟨⟨h.sw.b.kept k (fun j hj => ?_), h.sw.r⟩, h.wk, stp_off h.st k (fun j hj => by omega)⟩
  subst hj
  exact ⟨(h.own _ d0 d1).1, by omega, by omega, by omega⟩

section
variable {bu : Int} {x : X}
theorem proc_skip (hn : z.n ≠ bu) (hs : x.s = true) (hk : z.k x.c = true) : proc bu z x = z := by
  unfold proc
  rw [if_neg hn, if_pos ⟨hs, hk⟩]
theorem proc_moved (hn : z.n ≠ bu) (hk : ¬ (x.s = true ∧ z.k x.c = true)) (e : (Hp.slideL z.L x.a).1 ≠ x.a) : proc bu z x = ⟨(tryX z x).L, (tryX z x).T, z.n + 1, z.k⟩ := by
  unfold proc
  rw [if_neg hn, if_neg hk]
  unfold tryX
  rw [if_neg e]
theorem proc_stuck (hn : z.n ≠ bu) (hk : ¬ (x.s = true ∧ z.k x.c = true)) (hs : x.s = true) (e : (Hp.slideL z.L x.a).1 = x.a) : proc bu z x = ⟨(tryX z x).L, (tryX z x).T, z.n, fun d => if d = x.c then true else z.k d⟩ := by
  unfold proc
  rw [if_neg hn, if_neg hk]
  unfold tryX
  rw [if_pos e, if_pos hs]
theorem proc_large (hn : z.n ≠ bu) (hs : x.s = false) (e : (Hp.slideL z.L x.a).1 = x.a) : proc bu z x = ⟨(tryX z x).L, (tryX z x).T, z.n, z.k⟩ := by
  unfold proc
  rw [if_neg hn, if_neg (by rw [hs]; rintro ⟨h, _⟩; cases h)]
  unfold tryX
  rw [if_pos e, hs]
  rfl
end

end Co
end Go.Proofs.YtlalmdckdejggaaGreatDoor

/-
  The region of package compact's Run in which a record slides: it draws its order, in a round. Printed by mkrun.py.
-/
namespace Go.Proofs.YtlalmdckdejggaaGreatDoor
open Go.RowKit Go.Maps
attribute [local go_sem] Oper.semAt_some
namespace Co
open Hp (Kept K No wide)
open Go.Proofs.YtlalmdckdejggaaGreatDoor.So (sp)

abbrev ruOps : Array Oper := #[
  { dst := some 35, op := Op.load 60 (Operand.tmp 2), type := 60, pos := "compact.go:51", after := #[], guard := none },
  { dst := some 36, op := Op.nilCheck (Operand.tmp 35), type := 0, pos := "compact.go:51", after := #[{ on := 0, ground := Ground.data }], guard := none },
  { dst := some 37, op := Op.fieldAddr 108 (Operand.tmp 36) 0, type := 0, pos := "compact.go:51", after := #[{ on := 1, ground := Ground.data }], guard := none },
  { dst := some 38, op := Op.load 24 (Operand.tmp 37), type := 24, pos := "compact.go:51", after := #[{ on := 2, ground := Ground.data }], guard := none },
  { dst := some 39, op := Op.fieldAddr 112 (Operand.tmp 9) 0, type := 0, pos := "compact.go:51", after := #[], guard := none },
  { dst := some 40, op := Op.load 45 (Operand.tmp 39), type := 45, pos := "compact.go:51", after := #[{ on := 4, ground := Ground.data }], guard := none },
  { dst := some 41, op := Op.call { callee := Callee.value (Operand.func 33), args := #[Operand.tmp 38, Operand.tmp 40], argTypes := #[24, 45] }, type := 90, pos := "compact.go:51", after := #[{ on := 3, ground := Ground.data }, { on := 5, ground := Ground.data }], guard := none },
  { dst := some 34, op := Op.move (Operand.tmp 41), type := 90, pos := "compact.go:51", after := #[{ on := 6, ground := Ground.data }], guard := none },
  { dst := some 42, op := Op.extract (Operand.tmp 34) 0, type := 4, pos := "compact.go:51", after := #[{ on := 7, ground := Ground.data }], guard := none },
  { dst := some 43, op := Op.extract (Operand.tmp 34) 1, type := 25, pos := "compact.go:51", after := #[{ on := 7, ground := Ground.data }, { on := 10, ground := Ground.gcOnly Departure.lateStores }], guard := none },
  { dst := some 10, op := Op.assign (Operand.tmp 42), type := 4, pos := "compact.go:51", after := #[{ on := 8, ground := Ground.data }, { on := 6, ground := Ground.chain }, { on := 0, ground := Ground.phase }, { on := 1, ground := Ground.phase }, { on := 2, ground := Ground.phase }, { on := 3, ground := Ground.phase }, { on := 4, ground := Ground.phase }, { on := 5, ground := Ground.phase }, { on := 6, ground := Ground.phase }, { on := 7, ground := Ground.phase }, { on := 8, ground := Ground.phase }, { on := 9, ground := Ground.textOnly Departure.lateStores }], guard := none },
  { dst := some 11, op := Op.assign (Operand.tmp 43), type := 25, pos := "compact.go:51", after := #[{ on := 9, ground := Ground.data }, { on := 10, ground := Ground.chain }, { on := 0, ground := Ground.phase }, { on := 1, ground := Ground.phase }, { on := 2, ground := Ground.phase }, { on := 3, ground := Ground.phase }, { on := 4, ground := Ground.phase }, { on := 5, ground := Ground.phase }, { on := 6, ground := Ground.phase }, { on := 7, ground := Ground.phase }, { on := 8, ground := Ground.phase }, { on := 9, ground := Ground.phase }, { on := 10, ground := Ground.phase }], guard := none }]
abbrev ruAct (c g N sb D : Nat) (bu : Int) (xv b16 b22 b23 b24 b25 b26 b27 b28 b29 b30 b31 b32 b33 a10 a11 a34 a35 a36 a37 a38 a39 a40 a41 a42 a43 : Value) : Act := { tmps := #[cp c, .int .i64 bu, .pointer (some ⟨N, 0, none⟩), .pointer (some ⟨N + 1, 0, none⟩), .int .i64 0, .bool false, .int .i64 0, .pointer (some ⟨N + 2, 0, none⟩), .pointer (some ⟨sb, 0, none⟩), .pointer (some ⟨D, 0, none⟩), a10, a11, cp c, .bool true, .bool false, .int .i64 bu, b16, .int .i64 8, .slice (some ⟨g, 0, none⟩) 8 8, cp c, .func (.func 47) #[cp c] #[], xv, b22, b23, b24, b25, b26, b27, b28, b29, b30, b31, b32, b33, a34, a35, a36, a37, a38, a39, a40, a41, a42, a43, undef, undef, undef, undef, undef, undef, undef, undef, undef, undef, undef, undef, undef], defers := [] }

set_option maxRecDepth 100000 in
set_option maxHeartbeats 4000000 in
theorem run_region {n c g N sb D st : Nat} {bu xh : Int} {xv b16 b22 b23 b24 b25 b26 b27 b28 b29 b30 b31 b32 b33 : Value} {mv : Bool} {r : Nat} {Q : Exit → Act → World → Prop} {Po : World → Prop} {W2 V0 : World}
    (hb : ∀ V, K W2 V → V.cell? ⟨N, 0, none⟩ = some (cp c) ∧ V.cell? ⟨c, 0, none⟩ = some (sp st) ∧ V.cell? ⟨D, 0, none⟩ = some (.int .u64 xh))
    (sl : ∀ V, K W2 V → Calls Tryz.prog 33 #[sp st, .int .u64 xh] V fun e w' => e = .returned (.tuple #[.bool mv, .int .i64 0]) ∧ Po w')
    (fin : ∀ V, Po V → Q .normal (ruAct c g N sb D bu xv b16 b22 b23 b24 b25 b26 b27 b28 b29 b30 b31 b32 b33 (.bool mv) (.int .i64 0) (.tuple #[.bool mv, .int .i64 0]) (cp c) (cp c) (cp c) (sp st) (.pointer (some ⟨D, 0, none⟩)) (.int .u64 xh) (.tuple #[.bool mv, .int .i64 0]) (.bool mv) (.int .i64 0)) V) (k0 : K W2 V0) : wpAnyIn (wide (some r)) n Tryz.prog .any ruOps Q 12 #[false, false, false, false, false, false, false, false, false, false, false, false] (ruAct c g N sb D bu xv b16 b22 b23 b24 b25 b26 b27 b28 b29 b30 b31 b32 b33 undef undef undef undef undef undef undef undef undef undef undef undef) V0 := by
  have s111111111110 : ∀ V, Po V → wpAnyIn (wide (some r)) n Tryz.prog .any ruOps Q 1 #[true, true, true, true, true, true, true, true, true, true, true, false] (ruAct c g N sb D bu xv b16 b22 b23 b24 b25 b26 b27 b28 b29 b30 b31 b32 b33 (.bool mv) undef (.tuple #[.bool mv, .int .i64 0]) (cp c) (cp c) (cp c) (sp st) (.pointer (some ⟨D, 0, none⟩)) (.int .u64 xh) (.tuple #[.bool mv, .int .i64 0]) (.bool mv) (.int .i64 0)) V := by
    intro V k
    unfold ruAct
    refine wpAnyIn_ready (rs := [11]) (by kernel_rfl) (by simp) ?_
    refine AllReadyIn.cons rfl (fun KK hK => ?_) (AllReadyIn.nil)
    · go_simp
      exact hK _ _ (wpAnyIn_done (by kernel_rfl) (fin V k) _)
  have s111111111010 : ∀ V, Po V → wpAnyIn (wide (some r)) n Tryz.prog .any ruOps Q 2 #[true, true, true, true, true, true, true, true, true, false, true, false] (ruAct c g N sb D bu xv b16 b22 b23 b24 b25 b26 b27 b28 b29 b30 b31 b32 b33 (.bool mv) undef (.tuple #[.bool mv, .int .i64 0]) (cp c) (cp c) (cp c) (sp st) (.pointer (some ⟨D, 0, none⟩)) (.int .u64 xh) (.tuple #[.bool mv, .int .i64 0]) (.bool mv) undef) V := by
    intro V k
    unfold ruAct
    refine wpAnyIn_ready (rs := [9]) (by kernel_rfl) (by simp) ?_
    refine AllReadyIn.cons rfl (fun KK hK => ?_) (AllReadyIn.nil)
    · go_simp
      exact hK _ _ (s111111111110 V k)
  have s111111111100 : ∀ V, Po V → wpAnyIn (wide (some r)) n Tryz.prog .any ruOps Q 2 #[true, true, true, true, true, true, true, true, true, true, false, false] (ruAct c g N sb D bu xv b16 b22 b23 b24 b25 b26 b27 b28 b29 b30 b31 b32 b33 undef undef (.tuple #[.bool mv, .int .i64 0]) (cp c) (cp c) (cp c) (sp st) (.pointer (some ⟨D, 0, none⟩)) (.int .u64 xh) (.tuple #[.bool mv, .int .i64 0]) (.bool mv) (.int .i64 0)) V := by
    intro V k
    unfold ruAct
    refine wpAnyIn_ready (rs := [10]) (by kernel_rfl) (by simp) ?_
    refine AllReadyIn.cons rfl (fun KK hK => ?_) (AllReadyIn.nil)
    · go_simp
      exact hK _ _ (s111111111110 V k)
  have s111111111000 : ∀ V, Po V → wpAnyIn (wide (some r)) n Tryz.prog .any ruOps Q 3 #[true, true, true, true, true, true, true, true, true, false, false, false] (ruAct c g N sb D bu xv b16 b22 b23 b24 b25 b26 b27 b28 b29 b30 b31 b32 b33 undef undef (.tuple #[.bool mv, .int .i64 0]) (cp c) (cp c) (cp c) (sp st) (.pointer (some ⟨D, 0, none⟩)) (.int .u64 xh) (.tuple #[.bool mv, .int .i64 0]) (.bool mv) undef) V := by
    intro V k
    unfold ruAct
    refine wpAnyIn_ready (rs := [9, 10]) (by kernel_rfl) (by simp) ?_
    refine AllReadyIn.cons rfl (fun KK hK => ?_) (AllReadyIn.cons rfl (fun KK hK => ?_) (AllReadyIn.nil))
    · go_simp
      exact hK _ _ (s111111111100 V k)
    · go_simp
      exact hK _ _ (s111111111010 V k)
  have s111111110100 : ∀ V, Po V → wpAnyIn (wide (some r)) n Tryz.prog .any ruOps Q 3 #[true, true, true, true, true, true, true, true, false, true, false, false] (ruAct c g N sb D bu xv b16 b22 b23 b24 b25 b26 b27 b28 b29 b30 b31 b32 b33 undef undef (.tuple #[.bool mv, .int .i64 0]) (cp c) (cp c) (cp c) (sp st) (.pointer (some ⟨D, 0, none⟩)) (.int .u64 xh) (.tuple #[.bool mv, .int .i64 0]) undef (.int .i64 0)) V := by
    intro V k
    unfold ruAct
    refine wpAnyIn_ready (rs := [8]) (by kernel_rfl) (by simp) ?_
    refine AllReadyIn.cons rfl (fun KK hK => ?_) (AllReadyIn.nil)
    · go_simp
      exact hK _ _ (s111111111100 V k)
  have s111111110000 : ∀ V, Po V → wpAnyIn (wide (some r)) n Tryz.prog .any ruOps Q 4 #[true, true, true, true, true, true, true, true, false, false, false, false] (ruAct c g N sb D bu xv b16 b22 b23 b24 b25 b26 b27 b28 b29 b30 b31 b32 b33 undef undef (.tuple #[.bool mv, .int .i64 0]) (cp c) (cp c) (cp c) (sp st) (.pointer (some ⟨D, 0, none⟩)) (.int .u64 xh) (.tuple #[.bool mv, .int .i64 0]) undef undef) V := by
    intro V k
    unfold ruAct
    refine wpAnyIn_ready (rs := [8, 9]) (by kernel_rfl) (by simp) ?_
    refine AllReadyIn.cons rfl (fun KK hK => ?_) (AllReadyIn.cons rfl (fun KK hK => ?_) (AllReadyIn.nil))
    · go_simp
      exact hK _ _ (s111111111000 V k)
    · go_simp
      exact hK _ _ (s111111110100 V k)
  have s111111100000 : ∀ V, Po V → wpAnyIn (wide (some r)) n Tryz.prog .any ruOps Q 5 #[true, true, true, true, true, true, true, false, false, false, false, false] (ruAct c g N sb D bu xv b16 b22 b23 b24 b25 b26 b27 b28 b29 b30 b31 b32 b33 undef undef undef (cp c) (cp c) (cp c) (sp st) (.pointer (some ⟨D, 0, none⟩)) (.int .u64 xh) (.tuple #[.bool mv, .int .i64 0]) undef undef) V := by
    intro V k
    unfold ruAct
    refine wpAnyIn_ready (rs := [7]) (by kernel_rfl) (by simp) ?_
    refine AllReadyIn.cons rfl (fun KK hK => ?_) (AllReadyIn.nil)
    · go_simp
      exact hK _ _ (s111111110000 V k)
  have s111111000000 : ∀ V, K W2 V → wpAnyIn (wide (some r)) n Tryz.prog .any ruOps Q 6 #[true, true, true, true, true, true, false, false, false, false, false, false] (ruAct c g N sb D bu xv b16 b22 b23 b24 b25 b26 b27 b28 b29 b30 b31 b32 b33 undef undef undef (cp c) (cp c) (cp c) (sp st) (.pointer (some ⟨D, 0, none⟩)) (.int .u64 xh) undef undef undef) V := by
    intro V k
    obtain ⟨c0, c1, c2⟩ := hb V k
    unfold ruAct
    refine wpAnyIn_ready (rs := [6]) (by kernel_rfl) (by simp) ?_
    refine AllReadyIn.cons rfl (fun KK hK => ?_) (AllReadyIn.nil)
    · go_simp
      refine ⟨trivial, fun h => (by cases h), ?_⟩
      refine (CallsIn.inRound _ (callsIn_wide.2 (sl _ k))).mono ?_
      rintro e V2 ⟨rfl, k2⟩
      exact hK _ _ (s111111100000 V2 k2)
  have s111110000000 : ∀ V, K W2 V → wpAnyIn (wide (some r)) n Tryz.prog .any ruOps Q 7 #[true, true, true, true, true, false, false, false, false, false, false, false] (ruAct c g N sb D bu xv b16 b22 b23 b24 b25 b26 b27 b28 b29 b30 b31 b32 b33 undef undef undef (cp c) (cp c) (cp c) (sp st) (.pointer (some ⟨D, 0, none⟩)) undef undef undef undef) V := by
    intro V k
    obtain ⟨c0, c1, c2⟩ := hb V k
    unfold ruAct
    refine wpAnyIn_ready (rs := [5]) (by kernel_rfl) (by simp) ?_
    refine AllReadyIn.cons rfl (fun KK hK => ?_) (AllReadyIn.nil)
    · go_simp
      exact hK _ _ (s111111000000 V k)
  have s111011000000 : ∀ V, K W2 V → wpAnyIn (wide (some r)) n Tryz.prog .any ruOps Q 7 #[true, true, true, false, true, true, false, false, false, false, false, false] (ruAct c g N sb D bu xv b16 b22 b23 b24 b25 b26 b27 b28 b29 b30 b31 b32 b33 undef undef undef (cp c) (cp c) (cp c) undef (.pointer (some ⟨D, 0, none⟩)) (.int .u64 xh) undef undef undef) V := by
    intro V k
    obtain ⟨c0, c1, c2⟩ := hb V k
    unfold ruAct
    refine wpAnyIn_ready (rs := [3]) (by kernel_rfl) (by simp) ?_
    refine AllReadyIn.cons rfl (fun KK hK => ?_) (AllReadyIn.nil)
    · go_simp
      exact hK _ _ (s111111000000 V k)
  have s110011000000 : ∀ V, K W2 V → wpAnyIn (wide (some r)) n Tryz.prog .any ruOps Q 8 #[true, true, false, false, true, true, false, false, false, false, false, false] (ruAct c g N sb D bu xv b16 b22 b23 b24 b25 b26 b27 b28 b29 b30 b31 b32 b33 undef undef undef (cp c) (cp c) undef undef (.pointer (some ⟨D, 0, none⟩)) (.int .u64 xh) undef undef undef) V := by
    intro V k
    obtain ⟨c0, c1, c2⟩ := hb V k
    unfold ruAct
    refine wpAnyIn_ready (rs := [2]) (by kernel_rfl) (by simp) ?_
    refine AllReadyIn.cons rfl (fun KK hK => ?_) (AllReadyIn.nil)
    · go_simp
      exact hK _ _ (s111011000000 V k)
  have s111100000000 : ∀ V, K W2 V → wpAnyIn (wide (some r)) n Tryz.prog .any ruOps Q 8 #[true, true, true, true, false, false, false, false, false, false, false, false] (ruAct c g N sb D bu xv b16 b22 b23 b24 b25 b26 b27 b28 b29 b30 b31 b32 b33 undef undef undef (cp c) (cp c) (cp c) (sp st) undef undef undef undef undef) V := by
    intro V k
    obtain ⟨c0, c1, c2⟩ := hb V k
    unfold ruAct
    refine wpAnyIn_ready (rs := [4]) (by kernel_rfl) (by simp) ?_
    refine AllReadyIn.cons rfl (fun KK hK => ?_) (AllReadyIn.nil)
    · go_simp
      exact hK _ _ (s111110000000 V k)
  have s111010000000 : ∀ V, K W2 V → wpAnyIn (wide (some r)) n Tryz.prog .any ruOps Q 8 #[true, true, true, false, true, false, false, false, false, false, false, false] (ruAct c g N sb D bu xv b16 b22 b23 b24 b25 b26 b27 b28 b29 b30 b31 b32 b33 undef undef undef (cp c) (cp c) (cp c) undef (.pointer (some ⟨D, 0, none⟩)) undef undef undef undef) V := by
    intro V k
    obtain ⟨c0, c1, c2⟩ := hb V k
    unfold ruAct
    refine wpAnyIn_ready (rs := [3, 5]) (by kernel_rfl) (by simp) ?_
    refine AllReadyIn.cons rfl (fun KK hK => ?_) (AllReadyIn.cons rfl (fun KK hK => ?_) (AllReadyIn.nil))
    · go_simp
      exact hK _ _ (s111110000000 V k)
    · go_simp
      exact hK _ _ (s111011000000 V k)
  have s100011000000 : ∀ V, K W2 V → wpAnyIn (wide (some r)) n Tryz.prog .any ruOps Q 9 #[true, false, false, false, true, true, false, false, false, false, false, false] (ruAct c g N sb D bu xv b16 b22 b23 b24 b25 b26 b27 b28 b29 b30 b31 b32 b33 undef undef undef (cp c) undef undef undef (.pointer (some ⟨D, 0, none⟩)) (.int .u64 xh) undef undef undef) V := by
    intro V k
    obtain ⟨c0, c1, c2⟩ := hb V k
    unfold ruAct
    refine wpAnyIn_ready (rs := [1]) (by kernel_rfl) (by simp) ?_
    refine AllReadyIn.cons rfl (fun KK hK => ?_) (AllReadyIn.nil)
    · go_simp
      exact hK _ _ (s110011000000 V k)
  have s111000000000 : ∀ V, K W2 V → wpAnyIn (wide (some r)) n Tryz.prog .any ruOps Q 9 #[true, true, true, false, false, false, false, false, false, false, false, false] (ruAct c g N sb D bu xv b16 b22 b23 b24 b25 b26 b27 b28 b29 b30 b31 b32 b33 undef undef undef (cp c) (cp c) (cp c) undef undef undef undef undef undef) V := by
    intro V k
    obtain ⟨c0, c1, c2⟩ := hb V k
    unfold ruAct
    refine wpAnyIn_ready (rs := [3, 4]) (by kernel_rfl) (by simp) ?_
    refine AllReadyIn.cons rfl (fun KK hK => ?_) (AllReadyIn.cons rfl (fun KK hK => ?_) (AllReadyIn.nil))
    · go_simp
      exact hK _ _ (s111100000000 V k)
    · go_simp
      exact hK _ _ (s111010000000 V k)
  have s110010000000 : ∀ V, K W2 V → wpAnyIn (wide (some r)) n Tryz.prog .any ruOps Q 9 #[true, true, false, false, true, false, false, false, false, false, false, false] (ruAct c g N sb D bu xv b16 b22 b23 b24 b25 b26 b27 b28 b29 b30 b31 b32 b33 undef undef undef (cp c) (cp c) undef undef (.pointer (some ⟨D, 0, none⟩)) undef undef undef undef) V := by
    intro V k
    obtain ⟨c0, c1, c2⟩ := hb V k
    unfold ruAct
    refine wpAnyIn_ready (rs := [2, 5]) (by kernel_rfl) (by simp) ?_
    refine AllReadyIn.cons rfl (fun KK hK => ?_) (AllReadyIn.cons rfl (fun KK hK => ?_) (AllReadyIn.nil))
    · go_simp
      exact hK _ _ (s111010000000 V k)
    · go_simp
      exact hK _ _ (s110011000000 V k)
  have s000011000000 : ∀ V, K W2 V → wpAnyIn (wide (some r)) n Tryz.prog .any ruOps Q 10 #[false, false, false, false, true, true, false, false, false, false, false, false] (ruAct c g N sb D bu xv b16 b22 b23 b24 b25 b26 b27 b28 b29 b30 b31 b32 b33 undef undef undef undef undef undef undef (.pointer (some ⟨D, 0, none⟩)) (.int .u64 xh) undef undef undef) V := by
    intro V k
    obtain ⟨c0, c1, c2⟩ := hb V k
    unfold ruAct
    refine wpAnyIn_ready (rs := [0]) (by kernel_rfl) (by simp) ?_
    refine AllReadyIn.cons rfl (fun KK hK => ?_) (AllReadyIn.nil)
    · go_simp
      exact hK _ _ (s100011000000 V k)
  have s100010000000 : ∀ V, K W2 V → wpAnyIn (wide (some r)) n Tryz.prog .any ruOps Q 10 #[true, false, false, false, true, false, false, false, false, false, false, false] (ruAct c g N sb D bu xv b16 b22 b23 b24 b25 b26 b27 b28 b29 b30 b31 b32 b33 undef undef undef (cp c) undef undef undef (.pointer (some ⟨D, 0, none⟩)) undef undef undef undef) V := by
    intro V k
    obtain ⟨c0, c1, c2⟩ := hb V k
    unfold ruAct
    refine wpAnyIn_ready (rs := [1, 5]) (by kernel_rfl) (by simp) ?_
    refine AllReadyIn.cons rfl (fun KK hK => ?_) (AllReadyIn.cons rfl (fun KK hK => ?_) (AllReadyIn.nil))
    · go_simp
      exact hK _ _ (s110010000000 V k)
    · go_simp
      exact hK _ _ (s100011000000 V k)
  have s110000000000 : ∀ V, K W2 V → wpAnyIn (wide (some r)) n Tryz.prog .any ruOps Q 10 #[true, true, false, false, false, false, false, false, false, false, false, false] (ruAct c g N sb D bu xv b16 b22 b23 b24 b25 b26 b27 b28 b29 b30 b31 b32 b33 undef undef undef (cp c) (cp c) undef undef undef undef undef undef undef) V := by
    intro V k
    obtain ⟨c0, c1, c2⟩ := hb V k
    unfold ruAct
    refine wpAnyIn_ready (rs := [2, 4]) (by kernel_rfl) (by simp) ?_
    refine AllReadyIn.cons rfl (fun KK hK => ?_) (AllReadyIn.cons rfl (fun KK hK => ?_) (AllReadyIn.nil))
    · go_simp
      exact hK _ _ (s111000000000 V k)
    · go_simp
      exact hK _ _ (s110010000000 V k)
  have s000010000000 : ∀ V, K W2 V → wpAnyIn (wide (some r)) n Tryz.prog .any ruOps Q 11 #[false, false, false, false, true, false, false, false, false, false, false, false] (ruAct c g N sb D bu xv b16 b22 b23 b24 b25 b26 b27 b28 b29 b30 b31 b32 b33 undef undef undef undef undef undef undef (.pointer (some ⟨D, 0, none⟩)) undef undef undef undef) V := by
    intro V k
    obtain ⟨c0, c1, c2⟩ := hb V k
    unfold ruAct
    refine wpAnyIn_ready (rs := [0, 5]) (by kernel_rfl) (by simp) ?_
    refine AllReadyIn.cons rfl (fun KK hK => ?_) (AllReadyIn.cons rfl (fun KK hK => ?_) (AllReadyIn.nil))
    · go_simp
      exact hK _ _ (s100010000000 V k)
    · go_simp
      exact hK _ _ (s000011000000 V k)
  have s100000000000 : ∀ V, K W2 V → wpAnyIn (wide (some r)) n Tryz.prog .any ruOps Q 11 #[true, false, false, false, false, false, false, false, false, false, false, false] (ruAct c g N sb D bu xv b16 b22 b23 b24 b25 b26 b27 b28 b29 b30 b31 b32 b33 undef undef undef (cp c) undef undef undef undef undef undef undef undef) V := by
    intro V k
    obtain ⟨c0, c1, c2⟩ := hb V k
    unfold ruAct
    refine wpAnyIn_ready (rs := [1, 4]) (by kernel_rfl) (by simp) ?_
    refine AllReadyIn.cons rfl (fun KK hK => ?_) (AllReadyIn.cons rfl (fun KK hK => ?_) (AllReadyIn.nil))
    · go_simp
      exact hK _ _ (s110000000000 V k)
    · go_simp
      exact hK _ _ (s100010000000 V k)
  have s000000000000 : ∀ V, K W2 V → wpAnyIn (wide (some r)) n Tryz.prog .any ruOps Q 12 #[false, false, false, false, false, false, false, false, false, false, false, false] (ruAct c g N sb D bu xv b16 b22 b23 b24 b25 b26 b27 b28 b29 b30 b31 b32 b33 undef undef undef undef undef undef undef undef undef undef undef undef) V := by
    intro V k
    obtain ⟨c0, c1, c2⟩ := hb V k
    unfold ruAct
    refine wpAnyIn_ready (rs := [0, 4]) (by kernel_rfl) (by simp) ?_
    refine AllReadyIn.cons rfl (fun KK hK => ?_) (AllReadyIn.cons rfl (fun KK hK => ?_) (AllReadyIn.nil))
    · go_simp
      exact hK _ _ (s100000000000 V k)
    · go_simp
      exact hK _ _ (s000010000000 V k)
  exact s000000000000 V0 k0

end Co
end Go.Proofs.YtlalmdckdejggaaGreatDoor
