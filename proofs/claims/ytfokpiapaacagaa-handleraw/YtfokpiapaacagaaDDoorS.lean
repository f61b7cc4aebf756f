/-
  A row of slots that came in.
-/
import Derived.Test.YtfokpiapaacagaaDDoor
import Derived.Test.YtfokpiapaacagaaDOf
namespace Go.Proofs.Ytfokpiapaacagaa
open Go.RowKit Go.Maps Go.Deep Go.ChangeShapes Go.WideShapes Go.ChangeAt
namespace Hd
open Hp (Kept K No)

structure SlotAt (w : World) (b off : Nat) (s : Sl) : Prop where
  c0 : w.cell? ⟨b, off, none⟩ = some (.bool s.o)
  c1 : w.cell? ⟨b, off + 1, none⟩ = some (.int .u32 s.g)
  c2 : w.cell? ⟨b, off + 2, none⟩ = some (.int .i64 s.a)

structure Slots (w : World) (a : Option Addr) (b off len cap : Nat) (z : List Sl) : Prop where
  src : Src w a b off len cap z
  ok : ∀ s ∈ z, 0 ≤ s.g ∧ s.a ≤ 9223372036854775807

theorem three {α : Type} {l : List α} (h : l.length = 3) : ∃ a b c, l = [a, b, c] := by
  obtain _ | ⟨a, l⟩ := l
  · cases h
  obtain _ | ⟨b, l⟩ := l
  · cases h
  obtain _ | ⟨c, l⟩ := l
  · cases h
  obtain _ | ⟨d, l⟩ := l
  · exact ⟨a, b, c, rfl⟩
  · simp at h

theorem slot_of {H : Type} {enc : TypeId × Value → H} {W : World} {base : Nat} {sp : Nat → Bool} {held : Bool} {a : Addr} {cs : List Value} {n : Nat} {x : DataW H × List MemPlace} (hc : W.cells? base a 3 = some cs) (h : DataW.trod enc Try.prog W base sp held n 62 cs = some x) :
    ∃ (b off : Nat) (o : Sl), a = ⟨b, off, none⟩ ∧ SlotAt W b off o ∧ (0 ≤ o.g ∧ o.a ≤ 9223372036854775807) := by
  obtain ⟨_, hlen, hcell⟩ := World.cells?_some hc
  obtain ⟨xs, k, _, _, _, hxl, hf⟩ := DataW.trod_struct Try.underlying62 h
  have c0 : Try.prog.cellsOf 4 = 1 := by kernel_rfl
  have c1 : Try.prog.cellsOf 22 = 1 := by kernel_rfl
  have c2 : Try.prog.cellsOf 3 = 1 := by kernel_rfl
  have hxl : xs.length = 3 := by simpa using hxl
  obtain ⟨v0, v1, v2, rfl⟩ := three hlen
  have g0 := field_at hf 0 4 0 rfl c0 (by omega)
  have g1 := field_at hf 1 22 1 rfl c1 (by omega)
  have g2 := field_at hf 2 3 2 rfl c2 (by omega)
  obtain ⟨z0, e0, _⟩ := DataW.trod_bool Try.underlying4 g0
  obtain ⟨z1, e1, _, k1⟩ := DataW.trod_int Try.underlying22 g1
  obtain ⟨z2, e2, _, k2⟩ := DataW.trod_int Try.underlying3 g2
  simp at e0 e1 e2
  subst e0 e1 e2
  have r0 := hcell 0 (by omega)
  have r1 := hcell 1 (by omega)
  have r2 := hcell 2 (by omega)
  obtain ⟨b, off, spot⟩ := a
  have hspot : spot = none := by simpa [Addr.add] using World.cell?_spot r0
  subst hspot
  rw [Go.WideShapes.add_plain] at r0 r1 r2
  exact ⟨b, off, ⟨z0, z1, z2⟩, rfl, ⟨by simpa using r0, by simpa using r1, by simpa using r2⟩, (u32_of_wf k1).1, (In64.of_wf k2).2⟩

theorem slots_of {H : Type} {enc : TypeId × Value → H} {W : World} {base : Nat} {sp : Nat → Bool} {held : Bool} {fuel : Nat} {a : Option Addr} {len cap : Nat} {x : DataW H × List MemPlace} (h : DataW.trod enc Try.prog W base sp held fuel 47 [.slice a len cap] = some x) :
    len ≤ maxLen ∧ ∃ b off z, Slots W a b off len cap z := by
  obtain ⟨hm, b, off, z, h1, h2, h3⟩ := rows_of Try.underlying47 (m := 3) (by kernel_rfl) (SlotAt W) (fun o => 0 ≤ o.g ∧ o.a ≤ 9223372036854775807) ⟨false, 0, 0⟩ ⟨by decide, by decide⟩ (fun ad cs n y hc ht => slot_of hc ht) h
  refine ⟨hm, b, off, (List.range len).map z, ⟨by simp, fun i hi w' => ?_, fun j u hu => ?_, h1⟩, fun s hs => ?_⟩
  · rw [h1 (by omega)]
    exact run_ixg Try.underlying47 (by kernel_rfl) (fun w => by kernel_rfl) b off len cap i hi w'
  · have hj := (List.getElem?_eq_some_iff.1 hu).1
    rw [row_len, List.length_map, List.length_range] at hj
    obtain ⟨i, r, rfl, hr⟩ : ∃ i r, j = i * 3 + r ∧ r < 3 := ⟨j / 3, j % 3, by omega, by omega⟩
    have hi : i < len := by omega
    have hg : ((List.range len).map z)[i]? = some (z i) := by simp [hi]
    obtain ⟨q0, q1, q2⟩ := row_at hg
    obtain ⟨p0, p1, p2⟩ := h2 i hi
    obtain rfl | rfl | rfl : r = 0 ∨ r = 1 ∨ r = 2 := by omega
    · rw [Nat.add_zero] at hu ⊢
      rw [q0] at hu
      cases hu
      exact p0
    · rw [q1] at hu
      cases hu
      rw [← Nat.add_assoc]
      exact p1
    · rw [q2] at hu
      cases hu
      rw [← Nat.add_assoc]
      exact p2
  · obtain ⟨i, _, rfl⟩ := List.mem_map.1 hs
    exact h3 i

end Hd
end Go.Proofs.Ytfokpiapaacagaa
