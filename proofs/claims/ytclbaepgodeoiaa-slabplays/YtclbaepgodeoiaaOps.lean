/-
  A script of calls that came in, cell by cell; the walk of the statements' search for a free run.
-/
import Derived.Test.YtclbaepgodeoiaaClaims
namespace Go.Proofs.Ytclbaepgodeoiaa
open Go.RowKit Go.Maps
namespace Sl
variable {w : World} {bs bm : Nat} {q : Int} {pg : List (Int × Nat)} {W : Int → Int}

/-- A call of a script. -/
structure Opv where
  d : Int
  a : Int
  b : Int
  n : Int
  x : Int

structure OpOk (o : Opv) : Prop where
  d : (Lit.int .i64 o.d).wf = true
  a : (Lit.int .i64 o.a).wf = true
  b : (Lit.int .i64 o.b).wf = true
  n : (Lit.int .i64 o.n).wf = true
  x : (Lit.int .u64 o.x).wf = true

/-- The five cells of a call. -/
structure OpAt (w : World) (b off : Nat) (o : Opv) : Prop where
  c0 : w.cell? ⟨b, off, none⟩ = some (.int .i64 o.d)
  c1 : w.cell? ⟨b, off + 1, none⟩ = some (.int .i64 o.a)
  c2 : w.cell? ⟨b, off + 2, none⟩ = some (.int .i64 o.b)
  c3 : w.cell? ⟨b, off + 3, none⟩ = some (.int .i64 o.n)
  c4 : w.cell? ⟨b, off + 4, none⟩ = some (.int .u64 o.x)

structure Script (w : World) (a : Option Addr) (b off len cap : Nat) (z : Nat → Opv) : Prop where
  ix : ∀ i : Nat, i < len → ∀ w', (Instr.indexAt 22 (.slice a len cap) (.int .i64 (i : Int))).run Try.prog w' = .ok (.pointer (some ⟨b, off + i * 5, none⟩)) w'
  lt : 0 < len → b < w.heap.size
  cell : ∀ j, j < len → OpAt w b (off + j * 5) (z j)
  ok : ∀ j, OpOk (z j)

theorem OpAt.stays {w w' : World} {b off : Nat} {o : Opv} (h : OpAt w b off o) {B : Nat} (hb : Below B w w') (hlt : b < B) : OpAt w' b off o :=
  ⟨(hb.cell (p := ⟨b, off, none⟩) hlt).trans h.c0, (hb.cell (p := ⟨b, off + 1, none⟩) hlt).trans h.c1, (hb.cell (p := ⟨b, off + 2, none⟩) hlt).trans h.c2, (hb.cell (p := ⟨b, off + 3, none⟩) hlt).trans h.c3, (hb.cell (p := ⟨b, off + 4, none⟩) hlt).trans h.c4⟩

/-- The least page from which on n (at most 4096) are not granted, wherever it lies. -/
structure FreeAt (pg : List (Int × Nat)) (n f : Int) : Prop where
  lo : 0 ≤ f
  run : freeRun pg f n
  least : ∀ g, 0 ≤ g → g < f → ¬ freeRun pg g n

theorem free_unique {n f g : Int} (h : FreeAt pg n f) (k : FreeAt pg n g) : f = g := by
  rcases Int.lt_trichotomy f g with h1 | h1 | h1
  · exact absurd h.run (k.least f h.lo h1)
  · exact h1
  · exact absurd k.run (h.least g k.lo h1)

set_option maxHeartbeats 1000000 in
theorem free_any (h : Arena w bs bm q pg W) (n : Int) (hw : (Lit.int .i64 n).wf = true) :
    Calls Try.prog 24 #[.pointer (some ⟨bs, 0, none⟩), .int .i64 n] w fun e w' => ∃ f, e = .returned (.int .i64 f) ∧ (1 ≤ n → n ≤ 4096 → FreeAt pg n f) ∧ w = w' := by
  have hb := Go.bounds_i64 hw
  clear hw
  go_enter Try.func24, Try.ntmps24
  go_wp2
  go_loopg [5, 6] (1048577 * 5000) (fun g t5 t6 wx => ∃ f k : Int, w = wx ∧ t5 = .int .i64 f ∧ t6 = .int .i64 k ∧ 0 ≤ f ∧ f ≤ 1048576 ∧ 0 ≤ k ∧ k ≤ 4096 ∧ (1048576 - f) * 5000 + (4097 - k) < g ∧ Aside ((0 < n → k ≤ n) ∧ (∀ j, 0 ≤ j → j < k → blk pg (f + j) = none) ∧ (1 ≤ n → n ≤ 4096 → ∀ g, 0 ≤ g → g < f → ¬ freeRun pg g n)))
  case atStart => exact ⟨0, 0, rfl, rfl, rfl, by omega, by omega, by omega, by omega, by omega, fun _ => by omega, fun j h1 h2 => by omega, fun _ _ g h1 h2 => by omega⟩
  case round =>
    obtain ⟨f, k, rfl, rfl, rfl, hf0, hf1, hk0, hk1, hgk, HA⟩ := hrel
    by_cases hkn : k < n
    · by_cases hk4 : k < 4096
      · have hi := is_any h (f + k) (wf64 (by omega))
        cases hs : (blk pg (f + k)).isSome with
        | true =>
          have hpr : 0 ≤ f + k ∧ f + k ≤ 1048575 := by
            obtain ⟨b, hbb⟩ := Option.isSome_iff_exists.1 hs
            exact h.rng _ (blk_mem hbb)
          have HS : Aside _ := hs
          rw [hs] at hi
          clear hs
          go_wp2_with (go_at_call 16; refine hi.mono ?_; rintro e w' ⟨rfl, rfl⟩)
          go_roundg ((1048576 - (f + k + 1)) * 5000 + 4098).toNat
          case measure => omega
          case rel =>
            obtain ⟨a1, a2, a3⟩ := HA.out
            refine ⟨f + k + 1, 0, rfl, rfl, rfl, by omega, by omega, by omega, by omega, by omega, fun _ => by omega, fun j h1 h2 => by omega, fun hn1 hn2 x hx hxf => ?_⟩
            by_cases hxx : x < f
            · exact a3 hn1 hn2 x hx hxx
            · exact not_run (pg := pg) hkn HS.out (by omega) hxf
        | false =>
          have HS : Aside _ := hs
          rw [hs] at hi
          clear hs
          go_wp2_with (go_at_call 16; refine hi.mono ?_; rintro e w' ⟨rfl, rfl⟩)
          go_roundg ((1048576 - f) * 5000 + (4097 - (k + 1)) + 1).toNat
          case measure => omega
          case rel =>
            obtain ⟨a1, a2, a3⟩ := HA.out
            refine ⟨f, k + 1, rfl, rfl, by go_num, by omega, by omega, by omega, by omega, by omega, fun _ => by omega, fun j h1 h2 => ?_, a3⟩
            by_cases hjk : j = k
            · rw [hjk]; simpa using HS.out
            · exact a2 j h1 (by omega)
      · go_wp2
        go_ret
        obtain ⟨a1, a2, a3⟩ := HA.out
        exact ⟨f, rfl, fun h1 h2 => by omega, rfl⟩
    · go_wp2
      go_ret
      obtain ⟨a1, a2, a3⟩ := HA.out
      refine ⟨f, rfl, fun h1 h2 => ⟨hf0, fun j hj hjn => ?_, a3 h1 h2⟩, rfl⟩
      have hkk := a1 (by omega)
      have := a2 (j - f) (by omega) (by omega)
      rw [show f + (j - f) = j from by omega] at this
      exact this

end Sl
end Go.Proofs.Ytclbaepgodeoiaa
