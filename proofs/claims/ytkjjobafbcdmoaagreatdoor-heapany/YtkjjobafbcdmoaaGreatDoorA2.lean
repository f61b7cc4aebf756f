/-
  A script of heap's statements that came in, read cell by cell.
-/
import Derived.Test.YtkjjobafbcdmoaaGreatDoorH5
import Derived.Deep.Slices
import Derived.ProofKit
import Derived.OpenShut
import Derived.ChangeOld
import Derived.Below
namespace Go.Proofs.YtkjjobafbcdmoaaGreatDoor
open Go.RowKit Go.Maps Go.Deep
namespace Hp

/-- A call of a script. -/
structure Opv where
  d : Int
  n : Int
structure OpOk (o : Opv) : Prop where
  d : In64 o.d
  n : In64 o.n
structure OpAt (w : World) (b off : Nat) (o : Opv) : Prop where
  c0 : w.cell? ⟨b, off, none⟩ = some (.int .i64 o.d)
  c1 : w.cell? ⟨b, off + 1, none⟩ = some (.int .i64 o.n)

structure Script (w : World) (a : Option Addr) (b off len cap : Nat) (z : Nat → Opv) : Prop where
  ix : ∀ i : Nat, i < len → ∀ w', (Instr.indexAt 24 (.slice a len cap) (.int .i64 (i : Int))).run Tryz.prog w' = .ok (.pointer (some ⟨b, off + i * 2, none⟩)) w'
  lt : 0 < len → b < w.heap.size
  cell : ∀ j, j < len → OpAt w b (off + j * 2) (z j)
  ok : ∀ j, OpOk (z j)

theorem OpAt.keep {w w' : World} {b off : Nat} {o : Opv} (h : OpAt w b off o) (k : K w w') : OpAt w' b off o := ⟨k.cell h.c0, k.cell h.c1⟩

theorem run_ixo (b off len cap : Nat) (i : Nat) (hi : i < len) (w' : World) : (Instr.indexAt 24 (.slice (some ⟨b, off, none⟩) len cap) (.int .i64 (i : Int))).run Tryz.prog w' = .ok (.pointer (some ⟨b, off + i * 2, none⟩)) w' := by
  have hel : Tryz.prog.elem 24 = 50 := by kernel_rfl
  have hsz : (sizeOf 50).run Tryz.prog w' = .ok 2 w' := by kernel_rfl
  have hu : Tryz.prog.underlying 24 = some (.slice (Tryz.prog.elem 24)) := by kernel_rfl
  rw [run_indexAt_slice w' 24 _ len cap .i64 i hu, if_pos (by omega), hel, hsz]
  simp only [Result.andThen_ok, Int.toNat_natCast]
  rw [Go.WideShapes.add_plain]

theorem two {α : Type} {l : List α} (h : l.length = 2) : ∃ a b, l = [a, b] := by
  obtain _ | ⟨a, l⟩ := l
  · cases h
  obtain _ | ⟨b, l⟩ := l
  · cases h
  obtain _ | ⟨c, l⟩ := l
  · exact ⟨a, b, rfl⟩
  · simp at h

theorem field_at {H : Type} {enc : TypeId × Value → H} {W : World} {base : Nat} {sp : Nat → Bool} {held : Bool} {fs : Array Field} {cs : List Value} {xs : List (DataW H × List MemPlace)} {k : Nat}
    (hf : ∀ (i : Nat) (f : Field), fs[i]? = some f → DataW.trod enc Tryz.prog W base sp held k f.type ((cs.drop f.offset).take (Tryz.prog.cellsOf f.type)) = xs[i]?) (i : Nat) (t : TypeId) (o : Nat) (h : (fs[i]?).map (fun f => (f.type, f.offset)) = some (t, o)) (hc : Tryz.prog.cellsOf t = 1) (hi : i < xs.length) :
    DataW.trod enc Tryz.prog W base sp held k t ((cs.drop o).take 1) = some xs[i] := by
  obtain ⟨f, h1, h2⟩ := Option.map_eq_some_iff.1 h
  have := hf i f h1
  cases h2
  rw [hc, List.getElem?_eq_getElem hi] at this
  exact this

theorem op_of {H : Type} {enc : TypeId × Value → H} {W : World} {base : Nat} {sp : Nat → Bool} {held : Bool} {a : Addr} {cs : List Value} {n : Nat} {x : DataW H × List MemPlace} (hc : W.cells? base a 2 = some cs) (h : DataW.trod enc Tryz.prog W base sp held n 50 cs = some x) :
    ∃ (b off : Nat) (o : Opv), a = ⟨b, off, none⟩ ∧ OpAt W b off o ∧ OpOk o := by
  obtain ⟨_, hlen, hcell⟩ := World.cells?_some hc
  obtain ⟨xs, k, _, _, _, hxl, hf⟩ := DataW.trod_struct Tryz.underlying50 h
  have c3 : Tryz.prog.cellsOf 3 = 1 := by kernel_rfl
  have hxl : xs.length = 2 := by simpa using hxl
  obtain ⟨v0, v1, rfl⟩ := two hlen
  have g0 := field_at hf 0 3 0 rfl c3 (by omega)
  have g1 := field_at hf 1 3 1 rfl c3 (by omega)
  obtain ⟨z0, e0, _, k0⟩ := DataW.trod_int Tryz.underlying3 g0
  obtain ⟨z1, e1, _, k1⟩ := DataW.trod_int Tryz.underlying3 g1
  simp at e0 e1
  subst e0 e1
  have r0 := hcell 0 (by omega)
  have r1 := hcell 1 (by omega)
  obtain ⟨b, off, spot⟩ := a
  have hspot : spot = none := by simpa [Addr.add] using World.cell?_spot r0
  subst hspot
  rw [Go.WideShapes.add_plain] at r0 r1
  exact ⟨b, off, ⟨z0, z1⟩, rfl, ⟨by simpa using r0, by simpa using r1⟩, ⟨In64.of_wf k0, In64.of_wf k1⟩⟩

theorem opOk_zero : OpOk ⟨0, 0⟩ := ⟨⟨by decide, by decide⟩, ⟨by decide, by decide⟩⟩

theorem script_of {H : Type} {enc : TypeId × Value → H} {W : World} {base : Nat} {sp : Nat → Bool} {held : Bool} {fuel : Nat} {a : Option Addr} {len cap : Nat} {x : DataW H × List MemPlace} (h : DataW.trod enc Tryz.prog W base sp held fuel 24 [.slice a len cap] = some x) :
    len ≤ maxLen ∧ ∃ b off z, Script W a b off len cap z := by
  have ce : Tryz.prog.cellsOf 50 = 2 := by kernel_rfl
  rcases open_slice Tryz.underlying24 h with ⟨hcs, _⟩ | ⟨ad, l, c, m, n, D, Pl, hcs, _, hl, hm, hmm, _, hx⟩
  · simp at hcs
    obtain ⟨rfl, rfl, rfl⟩ := hcs
    exact ⟨Nat.zero_le _, 0, 0, fun _ => ⟨0, 0⟩, fun i hi => by omega, fun h => by omega, fun j hj => by omega, fun _ => opOk_zero⟩
  · simp at hcs
    obtain ⟨rfl, rfl, rfl⟩ := hcs
    refine ⟨Nat.le_trans hl hm, ?_⟩
    have hlm : len ≤ m := by rw [hmm]; split <;> omega
    by_cases h0 : len = 0
    · subst h0
      exact ⟨0, 0, fun _ => ⟨0, 0⟩, fun i hi => by omega, fun h => by omega, fun j hj => by omega, fun _ => opOk_zero⟩
    · rw [ce] at hx
      have each : ∀ i, i < m → ∃ (b off : Nat) (o : Opv), ad.add (i * 2) = ⟨b, off, none⟩ ∧ OpAt W b off o ∧ OpOk o := fun i hi => by
        obtain ⟨cs', h1, h2⟩ := hx i hi
        exact op_of h1 h2
      obtain ⟨b0, off0, o0, e0, p0, _⟩ := each 0 (by omega)
      have had : ad = ⟨b0, off0, none⟩ := by simpa [Addr.add] using e0
      subst had
      have each2 : ∀ i, i < m → ∃ o : Opv, OpAt W b0 (off0 + i * 2) o ∧ OpOk o := fun i hi => by
        obtain ⟨b, off, o, e, p, k⟩ := each i hi
        rw [Go.WideShapes.add_plain] at e
        cases e
        exact ⟨o, p, k⟩
      have hI : Inhabited Opv := ⟨⟨0, 0⟩⟩
      obtain ⟨z, hz⟩ := choose_lt each2
      refine ⟨b0, off0, fun i => if i < m then z i else ⟨0, 0⟩, fun i hi w' => run_ixo b0 off0 len cap i hi w', fun _ => World.block_lt_of_cell? _ _ p0.c0, fun j hj => ?_, fun j => ?_⟩
      · rw [if_pos (by omega)]
        exact (hz j (by omega)).1
      · by_cases hj : j < m
        · rw [if_pos hj]
          exact (hz j hj).2
        · rw [if_neg hj]
          exact opOk_zero

end Hp
end Go.Proofs.YtkjjobafbcdmoaaGreatDoor

/-
  Arguments that came in: rows of numbers, rows of words to be written.
-/
namespace Go.Proofs.YtkjjobafbcdmoaaGreatDoor
open Go.RowKit Go.Maps Go.Deep Go.ChangeShapes Go.WideShapes Go.ChangeAt
namespace Hp

/-- A slice that came in, its elements of m cells. -/
theorem rows_of {α : Type} {H : Type} {enc : TypeId × Value → H} {W : World} {base : Nat} {sp : Nat → Bool} {held : Bool} {fuel : Nat} {a : Option Addr} {len cap m : Nat} {t e : TypeId} {x : DataW H × List MemPlace} (hu : Tryz.prog.underlying t = some (.slice e)) (ce : Tryz.prog.cellsOf e = m) (At : Nat → Nat → α → Prop) (Q : α → Prop) (d : α) (hd : Q d)
    (el : ∀ (ad : Addr) (cs : List Value) (n : Nat) (y : DataW H × List MemPlace), W.cells? base ad m = some cs → DataW.trod enc Tryz.prog W base sp held n e cs = some y → ∃ b off o, ad = ⟨b, off, none⟩ ∧ At b off o ∧ Q o)
    (h : DataW.trod enc Tryz.prog W base sp held fuel t [.slice a len cap] = some x) : len ≤ maxLen ∧ ∃ (b off : Nat) (z : Nat → α), (0 < len → a = some ⟨b, off, none⟩) ∧ (∀ j, j < len → At b (off + j * m) (z j)) ∧ ∀ j, Q (z j) := by
  rcases open_slice hu h with ⟨hcs, _⟩ | ⟨ad, l, c, k, n, D, Pl, hcs, _, hl, hm, hmm, _, hx⟩
  · simp at hcs
    obtain ⟨rfl, rfl, rfl⟩ := hcs
    exact ⟨Nat.zero_le _, 0, 0, fun _ => d, fun h => by omega, fun j hj => by omega, fun _ => hd⟩
  · simp at hcs
    obtain ⟨rfl, rfl, rfl⟩ := hcs
    refine ⟨Nat.le_trans hl hm, ?_⟩
    have hlm : len ≤ k := by rw [hmm]; split <;> omega
    by_cases h0 : len = 0
    · subst h0
      exact ⟨0, 0, fun _ => d, fun h => by omega, fun j hj => by omega, fun _ => hd⟩
    · rw [ce] at hx
      have each : ∀ i, i < k → ∃ (b off : Nat) (o : α), ad.add (i * m) = ⟨b, off, none⟩ ∧ At b off o ∧ Q o := fun i hi => by
        obtain ⟨cs', h1, h2⟩ := hx i hi
        exact el _ _ _ _ h1 h2
      obtain ⟨b0, off0, o0, e0, p0, _⟩ := each 0 (by omega)
      have had : ad = ⟨b0, off0, none⟩ := by simpa [Addr.add] using e0
      subst had
      have each2 : ∀ i, i < k → ∃ o : α, At b0 (off0 + i * m) o ∧ Q o := fun i hi => by
        obtain ⟨b, off, o, e, p, k⟩ := each i hi
        rw [Go.WideShapes.add_plain] at e
        cases e
        exact ⟨o, p, k⟩
      have hI : Inhabited α := ⟨d⟩
      obtain ⟨z, hz⟩ := choose_lt each2
      refine ⟨b0, off0, fun i => if i < k then z i else d, fun _ => rfl, fun j hj => ?_, fun j => ?_⟩
      · show At b0 (off0 + j * m) (if j < k then z j else d)
        rw [if_pos (by omega)]
        exact (hz j (by omega)).1
      · show Q (if j < k then z j else d)
        by_cases hj : j < k
        · rw [if_pos hj]
          exact (hz j hj).2
        · rw [if_neg hj]
          exact hd

theorem run_ixg {t e : TypeId} {m : Nat} (hu : Tryz.prog.underlying t = some (.slice e)) (hel : Tryz.prog.elem t = e) (hsz : ∀ w, (sizeOf e).run Tryz.prog w = .ok m w) (b off len cap : Nat) (i : Nat) (hi : i < len) (w' : World) : (Instr.indexAt t (.slice (some ⟨b, off, none⟩) len cap) (.int .i64 (i : Int))).run Tryz.prog w' = .ok (.pointer (some ⟨b, off + i * m, none⟩)) w' := by
  rw [run_indexAt_slice w' t _ len cap .i64 i (by rw [hel]; exact hu), if_pos (by omega), hel, hsz]
  simp only [Result.andThen_ok, Int.toNat_natCast]
  rw [Go.WideShapes.add_plain]

/-- A row of ints. -/
structure Nums (w : World) (a : Option Addr) (b off len cap : Nat) (z : Nat → Int) : Prop where
  ix : ∀ i : Nat, i < len → ∀ w', (Instr.indexAt 22 (.slice a len cap) (.int .i64 (i : Int))).run Tryz.prog w' = .ok (.pointer (some ⟨b, off + i, none⟩)) w'
  cell : ∀ j, j < len → w.cell? ⟨b, off + j, none⟩ = some (.int .i64 (z j))
  ok : ∀ j, In64 (z j)

theorem nums_of {H : Type} {enc : TypeId × Value → H} {W : World} {base : Nat} {sp : Nat → Bool} {held : Bool} {fuel : Nat} {a : Option Addr} {len cap : Nat} {x : DataW H × List MemPlace} (h : DataW.trod enc Tryz.prog W base sp held fuel 22 [.slice a len cap] = some x) :
    len ≤ maxLen ∧ ∃ b off z, Nums W a b off len cap z := by
  have el : ∀ (ad : Addr) (cs : List Value) (n : Nat) (y : DataW H × List MemPlace), W.cells? base ad 1 = some cs → DataW.trod enc Tryz.prog W base sp held n 3 cs = some y → ∃ b off o, ad = ⟨b, off, none⟩ ∧ W.cell? ⟨b, off, none⟩ = some (.int .i64 o) ∧ In64 o := fun ad cs n y hc ht => by
    obtain ⟨_, hlen, hcell⟩ := World.cells?_some hc
    obtain ⟨z0, e0, _, k0⟩ := DataW.trod_int Tryz.underlying3 ht
    subst e0
    have r0 := hcell 0 (by omega)
    obtain ⟨b, off, spot⟩ := ad
    have hspot : spot = none := by simpa [Addr.add] using World.cell?_spot r0
    subst hspot
    rw [Go.WideShapes.add_plain] at r0
    exact ⟨b, off, z0, rfl, by simpa using r0, In64.of_wf k0⟩
  obtain ⟨hm, b, off, z, h1, h2, h3⟩ := rows_of Tryz.underlying22 (m := 1) (by kernel_rfl) (fun b off o => W.cell? ⟨b, off, none⟩ = some (.int .i64 o)) In64 0 ⟨by decide, by decide⟩ el h
  refine ⟨hm, b, off, z, fun i hi w' => ?_, fun j hj => by simpa using h2 j hj, h3⟩
  rw [h1 (by omega)]
  have := run_ixg Tryz.underlying22 (m := 1) (by kernel_rfl) (fun w => by kernel_rfl) b off len cap i hi w'
  rw [Nat.mul_one] at this
  exact this

/-- A word to be written: a page, a place, what. -/
structure Wv where
  p : Int
  a : Int
  x : Int
structure WvOk (o : Wv) : Prop where
  p : In64 o.p
  a : In64 o.a
  x : (Lit.int .u64 o.x).wf = true
structure WvAt (w : World) (b off : Nat) (o : Wv) : Prop where
  c0 : w.cell? ⟨b, off, none⟩ = some (.int .i64 o.p)
  c1 : w.cell? ⟨b, off + 1, none⟩ = some (.int .i64 o.a)
  c2 : w.cell? ⟨b, off + 2, none⟩ = some (.int .u64 o.x)
structure Wds (w : World) (a : Option Addr) (b off len cap : Nat) (z : Nat → Wv) : Prop where
  ix : ∀ i : Nat, i < len → ∀ w', (Instr.indexAt 23 (.slice a len cap) (.int .i64 (i : Int))).run Tryz.prog w' = .ok (.pointer (some ⟨b, off + i * 3, none⟩)) w'
  cell : ∀ j, j < len → WvAt w b (off + j * 3) (z j)
  ok : ∀ j, WvOk (z j)

theorem three {α : Type} {l : List α} (h : l.length = 3) : ∃ a b c, l = [a, b, c] := by
  obtain _ | ⟨a, l⟩ := l
  · cases h
  obtain _ | ⟨b, l⟩ := l
  · cases h
  obtain _ | ⟨c, l⟩ := l
  · cases h
  obtain _ | ⟨d, l⟩ := l
  · exact ⟨a, b, c, rfl⟩
  · simp at h

theorem wv_of {H : Type} {enc : TypeId × Value → H} {W : World} {base : Nat} {sp : Nat → Bool} {held : Bool} {a : Addr} {cs : List Value} {n : Nat} {x : DataW H × List MemPlace} (hc : W.cells? base a 3 = some cs) (h : DataW.trod enc Tryz.prog W base sp held n 33 cs = some x) :
    ∃ (b off : Nat) (o : Wv), a = ⟨b, off, none⟩ ∧ WvAt W b off o ∧ WvOk o := by
  obtain ⟨_, hlen, hcell⟩ := World.cells?_some hc
  obtain ⟨xs, k, _, _, _, hxl, hf⟩ := DataW.trod_struct Tryz.underlying33 h
  have c3 : Tryz.prog.cellsOf 3 = 1 := by kernel_rfl
  have c4 : Tryz.prog.cellsOf 31 = 1 := by kernel_rfl
  have hxl : xs.length = 3 := by simpa using hxl
  obtain ⟨v0, v1, v2, rfl⟩ := three hlen
  have g0 := field_at hf 0 3 0 rfl c3 (by omega)
  have g1 := field_at hf 1 3 1 rfl c3 (by omega)
  have g2 := field_at hf 2 31 2 rfl c4 (by omega)
  obtain ⟨z0, e0, _, k0⟩ := DataW.trod_int Tryz.underlying3 g0
  obtain ⟨z1, e1, _, k1⟩ := DataW.trod_int Tryz.underlying3 g1
  obtain ⟨z2, e2, _, k2⟩ := DataW.trod_int Tryz.underlying31 g2
  simp at e0 e1 e2
  subst e0 e1 e2
  have r0 := hcell 0 (by omega)
  have r1 := hcell 1 (by omega)
  have r2 := hcell 2 (by omega)
  obtain ⟨b, off, spot⟩ := a
  have hspot : spot = none := by simpa [Addr.add] using World.cell?_spot r0
  subst hspot
  rw [Go.WideShapes.add_plain] at r0 r1 r2
  exact ⟨b, off, ⟨z0, z1, z2⟩, rfl, ⟨by simpa using r0, by simpa using r1, by simpa using r2⟩, ⟨In64.of_wf k0, In64.of_wf k1, k2⟩⟩

theorem wds_of {H : Type} {enc : TypeId × Value → H} {W : World} {base : Nat} {sp : Nat → Bool} {held : Bool} {fuel : Nat} {a : Option Addr} {len cap : Nat} {x : DataW H × List MemPlace} (h : DataW.trod enc Tryz.prog W base sp held fuel 23 [.slice a len cap] = some x) :
    len ≤ maxLen ∧ ∃ b off z, Wds W a b off len cap z := by
  obtain ⟨hm, b, off, z, h1, h2, h3⟩ := rows_of Tryz.underlying23 (m := 3) (by kernel_rfl) (fun b off o => WvAt W b off o) WvOk ⟨0, 0, 0⟩ ⟨⟨by decide, by decide⟩, ⟨by decide, by decide⟩, by decide⟩ (fun ad cs n y hc ht => wv_of hc ht) h
  refine ⟨hm, b, off, z, fun i hi w' => ?_, h2, h3⟩
  rw [h1 (by omega)]
  exact run_ixg Tryz.underlying23 (m := 3) (by kernel_rfl) (fun w => by kernel_rfl) b off len cap i hi w'

end Hp
end Go.Proofs.YtkjjobafbcdmoaaGreatDoor
