/-
  Walks of the reference's New, Numbers and Same.
-/
import Derived.Test.YtclbaepgodeoiaaRefReads
namespace Go.Proofs.Ytclbaepgodeoiaa
open Go.RowKit Go.Maps
namespace Sl
variable {w : World} {g : Nat} {a : Option Addr} {cap : Nat} {K : List Int} {W : Int → Int}

theorem rNew_ok (n : Int) (w : World) (h0 : 0 ≤ n) (h1 : n ≤ 262144) :
    Calls Try.prog 10 #[.int .i64 n] w fun e w' => e = .returned (.tuple #[.agg #[.int .i64 n, .slice none 0 0], .int .i64 0]) ∧ Below w.heap.size w w' := by
  go_enter Try.func10, Try.ntmps10
  go_wp2
  go_returns
  exact ⟨rfl, (Below.refl _ _).alloc (Nat.le_refl _) _⟩

theorem rNew_no (n : Int) (w : World) (hn : n < 0 ∨ 262144 < n) :
    Calls Try.prog 10 #[.int .i64 n] w fun e w' => e = .returned (.tuple #[.agg #[.int .i64 0, .slice none 0 0], .int .i64 2]) ∧ Below w.heap.size w w' := by
  by_cases h0 : n < 0
  · go_enter Try.func10, Try.ntmps10
    go_wp2
    go_returns
    exact ⟨rfl, (Below.refl _ _).alloc (Nat.le_refl _) _⟩
  · have h1 : 262144 < n := by omega
    go_enter Try.func10, Try.ntmps10
    go_wp2
    go_returns
    exact ⟨rfl, (Below.refl _ _).alloc (Nat.le_refl _) _⟩

/-- A slice of ints that holds the numbers K, in a block from B on. -/
structure IntsAt (w : World) (B : Nat) (a : Option Addr) (cap : Nat) (K : List Int) : Prop where
  ix : ∀ i : Nat, i < K.length → ∃ g, B ≤ g ∧ g < w.heap.size ∧ (∀ w', (Instr.indexAt 39 (.slice a K.length cap) (.int .i64 (i : Int))).run Try.prog w' = .ok (.pointer (some ⟨g, i, none⟩)) w') ∧ ∀ N, K[i]? = some N → w.cell? ⟨g, i, none⟩ = some (.int .i64 N)

theorem run_ixi (g len cap : Nat) (i : Nat) (hi : i < len) (w' : World) : (Instr.indexAt 39 (.slice (some ⟨g, 0, none⟩) len cap) (.int .i64 (i : Int))).run Try.prog w' = .ok (.pointer (some ⟨g, i, none⟩)) w' := by
  have hel : Try.prog.elem 39 = 3 := by kernel_rfl
  have hsz : (sizeOf 3).run Try.prog w' = .ok 1 w' := by kernel_rfl
  have hu : Try.prog.underlying 39 = some (.slice (Try.prog.elem 39)) := by kernel_rfl
  rw [run_indexAt_slice w' 39 _ len cap .i64 i hu, if_pos (by omega), hel, hsz]
  simp only [Result.andThen_ok, Int.toNat_natCast, Nat.mul_one]
  rw [Go.WideShapes.add_plain, Nat.zero_add]

def intVals (K : List Int) : List Value := K.map fun N => .int .i64 N

theorem ints_of_row {B : Nat} {v : Value} (h : w.ownsRow B 3 1 v K.length (intVals K)) : ∃ a cap, v = .slice a K.length cap ∧ IntsAt w B a cap K := by
  rcases h.2 with ⟨hv, h0⟩ | ⟨g, cap, cur, hv, hbase, hbk, h1, h2, h3, h4⟩
  · exact ⟨none, 0, by rw [hv, h0], ⟨fun i hi => by omega⟩⟩
  · refine ⟨some ⟨g, 0, none⟩, cap, hv, ⟨fun i hi => ⟨g, hbase, lt_of_get hbk, fun w' => run_ixi g _ _ i hi w', fun N hN => ?_⟩⟩⟩
    have h5 : (cur.toList.take (K.length * 1))[i]? = some (.int .i64 N) := by
      rw [h4]
      simp [intVals, hN]
    rw [List.getElem?_take_of_lt (by omega)] at h5
    simp only [World.cell?, hbk]
    simpa using h5

theorem take_vals {i : Nat} {N : Int} (h : K[i]? = some N) : intVals (K.take (i + 1)) = intVals (K.take i) ++ [.int .i64 N] := by
  have hi := (List.getElem?_eq_some_iff.1 h).1
  have he := (List.getElem?_eq_some_iff.1 h).2
  unfold intVals
  rw [List.take_succ_eq_append_getElem hi, List.map_append, he]
  rfl

set_option maxHeartbeats 1000000 in
theorem rNumbers_any (h : RowAt w g a cap K W) (q : Int) (hl : K.length ≤ 4096) :
    Calls Try.prog 14 #[.agg #[.int .i64 q, .slice a K.length cap]] w fun e w' => ∃ a' cap', e = .returned (.slice a' K.length cap') ∧ IntsAt w' w.heap.size a' cap' K ∧ Below w.heap.size w w' := by
  have hb : Below w.heap.size w (w.alloc (.cells #[.int .i64 q, .slice a K.length cap] 30)) := (Below.refl _ _).alloc (Nat.le_refl _) _
  have hi : (Try.prog.info? 3).map (fun i => (i.zero, i.size, i.bytes)) = some (some (.int .i64 0), 1, 8) := by kernel_rfl
  obtain ⟨i0, hi1, hz0, hz1, hz2⟩ := info_parts hi
  have HI : Aside (Try.prog.info? 3 = some i0 ∧ i0.zero = some (.int .i64 0) ∧ i0.size = 1 ∧ i0.bytes = 8) := ⟨hi1, hz0, hz1, hz2⟩
  have hbox : (w.alloc (.cells #[.int .i64 q, .slice a K.length cap] 30)).heap[w.heap.size]? = some (.cells #[.int .i64 q, .slice a K.length cap] 30) := (MapKept.heap_alloc w _).1
  have HH : Aside _ := h
  clear hi hi1 hz0 hz1 hz2
  go_enter Try.func14, Try.ntmps14
  go_wp2
  go_loopg [3, 4] K.length (fun gh t3 t4 wx => ∃ i : Nat, i + gh = K.length ∧ t4 = .int .i64 i ∧ wx.ownsRow (w.heap.size + 1) 3 1 t3 i (intVals (K.take i)) ∧ Below w.heap.size w wx ∧ wx.heap[w.heap.size]? = some (.cells #[.int .i64 q, .slice a K.length cap] 30))
  case atStart => exact ⟨0, by omega, rfl, by simpa [intVals] using World.ownsRow_nil _ (w.heap.size + 1) 3 1, hb, hbox⟩
  case round =>
    obtain ⟨i, hig, rfl, hrow, hbel, hbx⟩ := hrel
    have hc1 : wr.cell? ⟨w.heap.size, 1, none⟩ = some (.slice a K.length cap) := by simp [World.cell?, hbx]
    have hsz : w.heap.size < wr.heap.size := lt_of_get hbx
    by_cases hlt : i < K.length
    · obtain ⟨N, hN⟩ := get_lt hlt
      have h2 := HH.out.stays hbel HH.out.lt
      have hix := h2.ix i hlt
      have hc := h2.num i N hN
      have hgl := h2.lt (by omega)
      obtain ⟨hi1, hz0, hz1, hz2⟩ := HI.out
      have HN : Aside _ := hN
      clear hN h2
      go_wp2_with (at_builtin; refine wpList_append_own _ rfl _ _ 39 rfl (w.heap.size + 1) 3 i0 (.int .i64 0) 1 8 Try.underlying39 hi1 hz0 hz1 hz2 rfl (by decide) _ _ _ rfl (hrow.alloc _) ⟨wr.heap.size, 0, none⟩ 1 1 [.int .i64 N] rfl rfl (cell_one_new _ _ _) (ints_oneCell .i64 [N]) (by unfold maxLen; omega) (by omega) (by simp; omega) ?_; intro v' w5 hown' hgrow hnil)
      go_roundg (K.length - (i + 1))
      case measure => omega
      case rel =>
        have hb5 : Below w.heap.size w w5 := (hbel.alloc (by omega) _).grown hgrow (by simp; omega) (fun k hk => by have := (hrow.lt k hk).1; omega)
        refine ⟨i + 1, by omega, by go_num, by rw [take_vals HN.out]; exact hown', hb5, ?_⟩
        rw [hgrow.block w.heap.size (by simp; omega) (fun e => by have := (hrow.lt _ e.symm).1; omega)]
        rw [Below.heap_alloc _ _ _ hsz]
        exact hbx
    · obtain rfl : i = K.length := by omega
      rw [List.take_of_length_le (Nat.le_refl _)] at hrow
      obtain ⟨a', cap', hv, hints⟩ := ints_of_row hrow
      have HIN : Aside (IntsAt wr w.heap.size a' cap' K) := ⟨fun i hi => by
        obtain ⟨g', h1, h2, h3, h4⟩ := hints.ix i hi
        exact ⟨g', by omega, h2, h3, h4⟩⟩
      rw [hv]
      clear hv hrow hints
      go_wp2
      go_ret
      exact ⟨a', cap', rfl, HIN.out, hbel⟩

set_option maxHeartbeats 1000000 in
theorem rSame_any {B1 B2 : Nat} {a1 a2 : Option Addr} {c1 c2 : Nat} (h1 : IntsAt w B1 a1 c1 K) (h2 : IntsAt w B2 a2 c2 K) (hl : K.length ≤ 4096) :
    Calls Try.prog 12 #[.slice a1 K.length c1, .slice a2 K.length c2] w fun e w' => e = .returned (.bool true) ∧ Below w.heap.size w w' := by
  go_enter Try.func12, Try.ntmps12
  go_wp2
  go_loopg [5] K.length (fun gh t wx => ∃ i : Nat, i + gh = K.length ∧ t = .int .i64 i ∧ ∃ n, w.drewN n = wx)
  case atStart => exact ⟨0, by omega, rfl, 0, rfl⟩
  case round =>
    obtain ⟨i, hig, rfl, nn, rfl⟩ := hrel
    by_cases hlt : i < K.length
    · obtain ⟨N, hN⟩ := get_lt hlt
      obtain ⟨g1, _, _, x1, y1⟩ := h1.ix i hlt
      obtain ⟨g2, _, _, x2, y2⟩ := h2.ix i hlt
      have z1 := y1 N hN
      have z2 := y2 N hN
      clear y1 y2 hN
      go_wp2
      go_quiet (fail)
      go_wp2
      go_roundg (K.length - (i + 1))
      case measure => omega
      case rel => exact ⟨i + 1, by omega, by go_num, nn + nq, rfl⟩
    · go_wp2
      go_ret
      exact ⟨rfl, ⟨rfl, rfl, rfl, Nat.le_refl _, fun _ _ => rfl⟩⟩

end Sl
end Go.Proofs.Ytclbaepgodeoiaa
