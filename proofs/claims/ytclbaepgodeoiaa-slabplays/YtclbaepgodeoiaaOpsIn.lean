/-
  A script that came in, read cell by cell.
-/
import Derived.Test.YtclbaepgodeoiaaOps
import Derived.Deep.Slices
import Derived.ProofKit
namespace Go.Proofs.Ytclbaepgodeoiaa
open Go.RowKit Go.Maps Go.Deep
namespace Sl

theorem run_ixo (b off len cap : Nat) (i : Nat) (hi : i < len) (w' : World) : (Instr.indexAt 22 (.slice (some ⟨b, off, none⟩) len cap) (.int .i64 (i : Int))).run Try.prog w' = .ok (.pointer (some ⟨b, off + i * 5, none⟩)) w' := by
  have hel : Try.prog.elem 22 = 37 := by kernel_rfl
  have hsz : (sizeOf 37).run Try.prog w' = .ok 5 w' := by kernel_rfl
  have hu : Try.prog.underlying 22 = some (.slice (Try.prog.elem 22)) := by kernel_rfl
  rw [run_indexAt_slice w' 22 _ len cap .i64 i hu, if_pos (by omega), hel, hsz]
  simp only [Result.andThen_ok, Int.toNat_natCast]
  rw [Go.WideShapes.add_plain]

theorem five {α : Type} {l : List α} (h : l.length = 5) : ∃ a b c d e, l = [a, b, c, d, e] := by
  obtain _ | ⟨a, l⟩ := l
  · cases h
  obtain _ | ⟨b, l⟩ := l
  · cases h
  obtain _ | ⟨c, l⟩ := l
  · cases h
  obtain _ | ⟨d, l⟩ := l
  · cases h
  obtain _ | ⟨e, l⟩ := l
  · cases h
  obtain _ | ⟨f, l⟩ := l
  · exact ⟨a, b, c, d, e, rfl⟩
  · simp at h

theorem field_at {H : Type} {enc : TypeId × Value → H} {W : World} {base : Nat} {sp : Nat → Bool} {held : Bool} {fs : Array Field} {cs : List Value} {xs : List (DataW H × List MemPlace)} {k : Nat}
    (hf : ∀ (i : Nat) (f : Field), fs[i]? = some f → DataW.trod enc Try.prog W base sp held k f.type ((cs.drop f.offset).take (Try.prog.cellsOf f.type)) = xs[i]?) (i : Nat) (t : TypeId) (o : Nat) (h : (fs[i]?).map (fun f => (f.type, f.offset)) = some (t, o)) (hc : Try.prog.cellsOf t = 1) (hi : i < xs.length) :
    DataW.trod enc Try.prog W base sp held k t ((cs.drop o).take 1) = some xs[i] := by
  obtain ⟨f, h1, h2⟩ := Option.map_eq_some_iff.1 h
  have := hf i f h1
  cases h2
  rw [hc, List.getElem?_eq_getElem hi] at this
  exact this

theorem op_of {H : Type} {enc : TypeId × Value → H} {W : World} {base : Nat} {sp : Nat → Bool} {held : Bool} {a : Addr} {cs : List Value} {n : Nat} {x : DataW H × List MemPlace} (hc : W.cells? base a 5 = some cs) (h : DataW.trod enc Try.prog W base sp held n 37 cs = some x) :
    ∃ (b off : Nat) (o : Opv), a = ⟨b, off, none⟩ ∧ OpAt W b off o ∧ OpOk o := by
  obtain ⟨_, hlen, hcell⟩ := World.cells?_some hc
  obtain ⟨xs, k, _, _, _, hxl, hf⟩ := DataW.trod_struct Try.underlying37 h
  have c3 : Try.prog.cellsOf 3 = 1 := by kernel_rfl
  have c35 : Try.prog.cellsOf 35 = 1 := by kernel_rfl
  have hxl : xs.length = 5 := by simpa using hxl
  obtain ⟨v0, v1, v2, v3, v4, rfl⟩ := five hlen
  have g0 := field_at hf 0 3 0 rfl c3 (by omega)
  have g1 := field_at hf 1 3 1 rfl c3 (by omega)
  have g2 := field_at hf 2 3 2 rfl c3 (by omega)
  have g3 := field_at hf 3 3 3 rfl c3 (by omega)
  have g4 := field_at hf 4 35 4 rfl c35 (by omega)
  obtain ⟨z0, e0, _, k0⟩ := DataW.trod_int Try.underlying3 g0
  obtain ⟨z1, e1, _, k1⟩ := DataW.trod_int Try.underlying3 g1
  obtain ⟨z2, e2, _, k2⟩ := DataW.trod_int Try.underlying3 g2
  obtain ⟨z3, e3, _, k3⟩ := DataW.trod_int Try.underlying3 g3
  obtain ⟨z4, e4, _, k4⟩ := DataW.trod_int Try.underlying35 g4
  simp at e0 e1 e2 e3 e4
  subst e0 e1 e2 e3 e4
  have r0 := hcell 0 (by omega)
  have r1 := hcell 1 (by omega)
  have r2 := hcell 2 (by omega)
  have r3 := hcell 3 (by omega)
  have r4 := hcell 4 (by omega)
  obtain ⟨b, off, spot⟩ := a
  have hspot : spot = none := by simpa [Addr.add] using World.cell?_spot r0
  subst hspot
  rw [Go.WideShapes.add_plain] at r0 r1 r2 r3 r4
  exact ⟨b, off, ⟨z0, z1, z2, z3, z4⟩, rfl, ⟨by simpa using r0, by simpa using r1, by simpa using r2, by simpa using r3, by simpa using r4⟩, ⟨k0, k1, k2, k3, k4⟩⟩

theorem opOk_zero : OpOk ⟨0, 0, 0, 0, 0⟩ := ⟨by decide, by decide, by decide, by decide, by decide⟩

theorem script_of {H : Type} {enc : TypeId × Value → H} {W : World} {base : Nat} {sp : Nat → Bool} {held : Bool} {fuel : Nat} {a : Option Addr} {len cap : Nat} {x : DataW H × List MemPlace} (h : DataW.trod enc Try.prog W base sp held fuel 22 [.slice a len cap] = some x) :
    len ≤ maxLen ∧ ∃ b off z, Script W a b off len cap z := by
  have ce : Try.prog.cellsOf 37 = 5 := by kernel_rfl
  rcases open_slice Try.underlying22 h with ⟨hcs, _⟩ | ⟨ad, l, c, m, n, D, Pl, hcs, _, hl, hm, hmm, _, hx⟩
  · simp at hcs
    obtain ⟨rfl, rfl, rfl⟩ := hcs
    exact ⟨Nat.zero_le _, 0, 0, fun _ => ⟨0, 0, 0, 0, 0⟩, fun i hi => by omega, fun h => by omega, fun j hj => by omega, fun _ => opOk_zero⟩
  · simp at hcs
    obtain ⟨rfl, rfl, rfl⟩ := hcs
    refine ⟨Nat.le_trans hl hm, ?_⟩
    have hlm : len ≤ m := by rw [hmm]; split <;> omega
    by_cases h0 : len = 0
    · subst h0
      exact ⟨0, 0, fun _ => ⟨0, 0, 0, 0, 0⟩, fun i hi => by omega, fun h => by omega, fun j hj => by omega, fun _ => opOk_zero⟩
    · rw [ce] at hx
      have each : ∀ i, i < m → ∃ (b off : Nat) (o : Opv), ad.add (i * 5) = ⟨b, off, none⟩ ∧ OpAt W b off o ∧ OpOk o := fun i hi => by
        obtain ⟨cs', h1, h2⟩ := hx i hi
        exact op_of h1 h2
      obtain ⟨b0, off0, o0, e0, p0, _⟩ := each 0 (by omega)
      have had : ad = ⟨b0, off0, none⟩ := by simpa [Addr.add] using e0
      subst had
      have each2 : ∀ i, i < m → ∃ o : Opv, OpAt W b0 (off0 + i * 5) o ∧ OpOk o := fun i hi => by
        obtain ⟨b, off, o, e, p, k⟩ := each i hi
        rw [Go.WideShapes.add_plain] at e
        cases e
        exact ⟨o, p, k⟩
      have hI : Inhabited Opv := ⟨⟨0, 0, 0, 0, 0⟩⟩
      obtain ⟨z, hz⟩ := choose_lt each2
      refine ⟨b0, off0, fun i => if i < m then z i else ⟨0, 0, 0, 0, 0⟩, fun i hi w' => run_ixo b0 off0 len cap i hi w', fun _ => World.block_lt_of_cell? _ _ p0.c0, fun j hj => ?_, fun j => ?_⟩
      · rw [if_pos (by omega)]
        exact (hz j (by omega)).1
      · by_cases hj : j < m
        · rw [if_pos hj]
          exact (hz j hj).2
        · rw [if_neg hj]
          exact opOk_zero

end Sl
end Go.Proofs.Ytclbaepgodeoiaa
