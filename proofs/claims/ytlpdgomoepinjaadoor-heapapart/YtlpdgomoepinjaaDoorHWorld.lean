/-
  A heap in memory: its arena, its one field, math/bits' table; and what stays.
-/
import Derived.Test.YtlpdgomoepinjaaDoorHPlain
import Derived.Test.YtlpdgomoepinjaaDoorHRange
import Derived.Test.YtlpdgomoepinjaaDoorSMv
import Derived.Test.YtlpdgomoepinjaaDoorSPages
import Derived.Test.YtlpdgomoepinjaaDoorBCode
import Derived.Test.YtlpdgomoepinjaaDoorCCode
namespace Go.Proofs.YtlpdgomoepinjaaDoor
open Go.RowKit
namespace Hp

theorem K.cl {w w' : World} (h : Cl.K w w') : K w w' := K.of_below h.bel
theorem K.bt {w w' : World} (h : Bt.K w w') : K w w' := K.of_below h.bel
theorem K.toBt {w w' : World} (h : K w w') : Bt.K w w' := ⟨h.below⟩

abbrev hp (bh : Nat) : Value := .pointer (some ⟨bh, 0, none⟩)

/-- A heap at block bh on the arena at bs. -/
structure Hw (w : World) (bh bs bm : Nat) (q : Int) (pg : List (Int × Nat)) (W : Int → Int) : Prop where
  ar : Sl.Arena w bs bm q pg W
  hd : w.heap[bh]? = some (.cells #[.pointer (some ⟨bs, 0, none⟩)] 62)
  tab : Bt.Tab w
  nf0 : ¬ Sl.foot bs bm pg 0
  nfh : ¬ Sl.foot bs bm pg bh

section
variable {w w' : World} {bh bs bm : Nat} {q : Int} {pg pg' : List (Int × Nat)} {W W' : Int → Int}

theorem Hw.c0 (h : Hw w bh bs bm q pg W) : w.cell? ⟨bh, 0, none⟩ = some (.pointer (some ⟨bs, 0, none⟩)) := by simp [World.cell?, h.hd]

theorem Hw.keep (h : Hw w bh bs bm q pg W) (k : K w w') : Hw w' bh bs bm q pg W :=
  ⟨h.ar.stays fun j hj => k.same j (h.ar.foot_lt hj) (fun x => x), k.block h.hd, h.tab.keep k.toBt, h.nf0, h.nfh⟩

theorem Hw.kept (h : Hw w bh bs bm q pg W) {O : Nat → Prop} (k : Kept O w w') (hO : ∀ k, O k → ¬ Sl.foot bs bm pg k ∧ k ≠ bh ∧ k ≠ 0) : Hw w' bh bs bm q pg W :=
  ⟨h.ar.stays fun j hj => k.same j (h.ar.foot_lt hj) (fun x => (hO j x).1 hj), k.block h.hd (fun x => (hO _ x).2.1 rfl), fun j hj => k.cell (h.tab j hj) (fun x => (hO _ x).2.2 rfl), h.nf0, h.nfh⟩

theorem lt0 (T : Bt.Tab w) : 0 < w.heap.size := lt_of_cell (T 0 (by decide))

/-- Behind a call on the arena. -/
theorem Hw.step (h : Hw w bh bs bm q pg W) (ha : Sl.Arena w' bs bm q pg' W') (s : Sl.Step bs bm pg pg' w w') : Hw w' bh bs bm q pg' W' := by
  have hb : bh < w.heap.size := (Array.getElem?_eq_some_iff.1 h.hd).1
  have h0 := lt0 h.tab
  refine ⟨ha, (s.kept bh hb h.nfh).trans h.hd, fun j hj => ?_, fun hf => ?_, fun hf => ?_⟩
  · rw [World.cell?_of_block (a := ⟨0, j, none⟩) (s.kept 0 h0 h.nf0)]
    exact h.tab j hj
  · rcases s.inn 0 hf with h2 | h2
    · exact h.nf0 h2
    · omega
  · rcases s.inn bh hf with h2 | h2
    · exact h.nfh h2
    · omega

theorem K.step (bs bm : Nat) (pg : List (Int × Nat)) (k : K w w') : Sl.Step bs bm pg pg w w' :=
  ⟨k.os, k.tape, k.output, k.size, fun j hj _ => k.same j hj (fun x => x), fun _ hj => Or.inl hj⟩
end

theorem made_nil (w : World) : Calls Tryd.prog 15 #[.pointer none] w fun e w' => e = .returned (.bool false) ∧ w = w' := by
  go_enter Tryd.func15, Tryd.ntmps15
  go_wp2
  go_ret
  exact ⟨rfl, rfl⟩

theorem made_zero (b : Nat) (w : World) (c0 : w.cell? ⟨b, 0, none⟩ = some (.pointer none)) : Calls Tryd.prog 15 #[hp b] w fun e w' => e = .returned (.bool false) ∧ w = w' := by
  go_enter Tryd.func15, Tryd.ntmps15
  go_wp2
  go_ret
  exact ⟨rfl, rfl⟩

theorem made_yes (b bs : Nat) (w : World) (c0 : w.cell? ⟨b, 0, none⟩ = some (.pointer (some ⟨bs, 0, none⟩))) : Calls Tryd.prog 15 #[hp b] w fun e w' => e = .returned (.bool true) ∧ w = w' := by
  go_enter Tryd.func15, Tryd.ntmps15
  go_wp2
  go_ret
  exact ⟨rfl, rfl⟩

/-- A head's value. -/
abbrev hdV (m h : Int) : Value := .agg #[.int .u64 m, .int .u64 h]

theorem wrap_u64 {x : Int} (h0 : 0 ≤ x) (h1 : x ≤ 18446744073709551615) : IntKind.u64.wrap x = x := by simp [IntKind.wrap, IntKind.signed, IntKind.bits]; omega

theorem smallHead_any (c t : Int) (h0 : 0 ≤ c) (h1 : c ≤ 1000) (w : World) : Calls Tryd.prog 43 #[.int .i64 c, .int .u64 t] w fun e w' => e = .returned (hdV (1 + 256 * c) t) ∧ K w w' := by
  have e1 : IntKind.u64.wrap c = c := wrap_u64 h0 (by omega)
  have e2 : IntKind.u64.wrap (256 * c) = 256 * c := wrap_u64 (by omega) (by omega)
  have e3 : IntKind.u64.wrap (1 + 256 * c) = 1 + 256 * c := wrap_u64 (by omega) (by omega)
  go_enter Tryd.func43, Tryd.ntmps43
  go_wp2
  exact bodyPost_ret (v := hdV (1 + 256 * c) t) (by simp [results, Tryd.results43, go_sem]) rfl ⟨rfl, (K.refl w).alloc _⟩

theorem largeHead_any (n p : Int) (n0 : 0 ≤ n) (n1 : n ≤ 100000) (h0 : 0 ≤ p) (h1 : p ≤ 1000) (w : World) : Calls Tryd.prog 35 #[.int .i64 n, .int .i64 p] w fun e w' => e = .returned (hdV (2 + 256 * p) n) ∧ K w w' := by
  have e0 : IntKind.u64.wrap n = n := wrap_u64 n0 (by omega)
  have e1 : IntKind.u64.wrap p = p := wrap_u64 h0 (by omega)
  have e2 : IntKind.u64.wrap (256 * p) = 256 * p := wrap_u64 (by omega) (by omega)
  have e3 : IntKind.u64.wrap (2 + 256 * p) = 2 + 256 * p := wrap_u64 (by omega) (by omega)
  go_enter Tryd.func35, Tryd.ntmps35
  go_wp2
  exact bodyPost_ret (v := hdV (2 + 256 * p) n) (by simp [results, Tryd.results35, go_sem]) rfl ⟨rfl, (K.refl w).alloc _⟩

section
variable {w : World} {bh bs bm : Nat} {q : Int} {pg : List (Int × Nat)} {W : Int → Int}

/-- Of a granted page a word is read. -/
theorem readE_in {k : Int} (h0 : 0 ≤ k) (h1 : k ≤ 1048575) (hb : (Sl.blk pg k).isSome = true) (i : Int) (i0 : 0 ≤ i) (i1 : i < 64) : Sl.readE pg (64 * k + i) = 0 := by
  have e : (64 * k + i) / 64 = k := by omega
  have hs : Sl.isSpanB (64 * k + i) 1 = true := by simp [Sl.isSpanB]; omega
  unfold Sl.readE
  rw [if_pos hs, e, if_pos hb]
theorem readV_in {k : Int} (h0 : 0 ≤ k) (h1 : k ≤ 1048575) (hb : (Sl.blk pg k).isSome = true) (i : Int) (i0 : 0 ≤ i) (i1 : i < 64) : Sl.readV pg W (64 * k + i) = W (64 * k + i) := by
  unfold Sl.readV
  rw [readE_in h0 h1 hb i i0 i1]
  rfl

theorem headOf_any (h : Hw w bh bs bm q pg W) (k : Int) (h0 : 0 ≤ k) (h1 : k ≤ 1048575) (hb : (Sl.blk pg k).isSome = true) :
    Calls Tryd.prog 42 #[hp bh, .int .i64 k] w fun e w' => e = .returned (hdV (W (64 * k)) (W (64 * k + 1))) ∧ K w w' := by
  have c0 := h.c0
  have k1 : K w (w.alloc (.cells #[.int .u64 0, .int .u64 0] 77)) := (K.refl w).alloc _
  have r1 := Sl.read_any (h.keep k1).ar (64 * k + 0)
  have r2 := Sl.read_any (h.keep k1).ar (64 * k + 1)
  rw [readV_in h0 h1 hb 0 (by omega) (by omega), readE_in h0 h1 hb 0 (by omega) (by omega)] at r1
  rw [readV_in h0 h1 hb 1 (by omega) (by omega), readE_in h0 h1 hb 1 (by omega) (by omega)] at r2
  rw [show 64 * k + 0 = k * 64 from by omega] at r1
  rw [show (64 * k + 1 : Int) = k * 64 + 1 from by omega] at r2 ⊢
  rw [show (64 * k : Int) = k * 64 from by omega]
  have hlt := lt_of_cell c0
  go_enter Tryd.func42, Tryd.ntmps42
  go_wp2_with fail
  refine r1.mono ?_
  rintro e w' ⟨rfl, rfl⟩
  go_wp2_with fail
  refine r2.mono ?_
  rintro e w' ⟨rfl, rfl⟩
  go_wp2
  exact bodyPost_ret (v := hdV (W (k * 64)) (W (k * 64 + 1))) (by simp [results, Tryd.results42, go_sem]) rfl ⟨rfl, (K.refl w).alloc _⟩
end

end Hp
end Go.Proofs.YtlpdgomoepinjaaDoor
