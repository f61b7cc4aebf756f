/-
  The row that HeapApart keeps its list in; a script that came in, read cell by cell.
-/
import Derived.Test.YtlpdgomoepinjaaDoorHApartF
import Derived.Maps.AppendAt
import Derived.Deep.Slices
import Derived.ProofKit
namespace Go.Proofs.YtlpdgomoepinjaaDoor
open Go.RowKit
namespace Hp
section
variable {w0 w w' : World} {bh bs bm : Nat} {q : Int} {pg pg' : List (Int × Nat)} {W W' : Int → Int} {L L' : List Pg} {T A B : List It} {t : It} {v : Value}

def itVals (t : It) : List Value := [.int .i64 t.a, .int .i64 t.n, .int .u64 t.x]
def keptVals (T : List It) : List Value := T.flatMap itVals
theorem kept_len : ∀ T, (keptVals T).length = T.length * 3
  | [] => rfl
  | t :: T => by
    have := kept_len T
    simp only [keptVals, List.flatMap_cons, List.length_append, itVals, List.length_cons, List.length_nil] at this ⊢
    omega
theorem kept_app (A B : List It) : keptVals (A ++ B) = keptVals A ++ keptVals B := by simp [keptVals]
theorem kept_one : ∀ T, ∀ u ∈ keptVals T, u.oneCell' = true
  | [], _, h => by cases h
  | t :: T, u, h => by
    rcases List.mem_append.1 (show u ∈ itVals t ++ keptVals T from h) with h | h
    · simp only [itVals, List.mem_cons, List.not_mem_nil, or_false] at h
      rcases h with rfl | rfl | rfl <;> rfl
    · exact kept_one T u h
theorem kept_at : ∀ {T : List It} {i : Nat} {t : It}, T[i]? = some t → (keptVals T)[i * 3]? = some (.int .i64 t.a) ∧ (keptVals T)[i * 3 + 1]? = some (.int .i64 t.n) ∧ (keptVals T)[i * 3 + 2]? = some (.int .u64 t.x)
  | [], i, _, h => by simp at h
  | u :: T, 0, t, h => by
    obtain rfl : u = t := by simpa using h
    exact ⟨rfl, rfl, rfl⟩
  | u :: T, i + 1, t, h => by
    have ih := kept_at (T := T) (i := i) (t := t) (by simpa using h)
    have e : ∀ j, (keptVals (u :: T))[(i + 1) * 3 + j]? = (keptVals T)[i * 3 + j]? := fun j => by
      rw [show keptVals (u :: T) = itVals u ++ keptVals T from rfl, show (i + 1) * 3 + j = (itVals u).length + (i * 3 + j) by simp [itVals]; omega, List.getElem?_append_right (by omega)]
      congr 1
      omega
    exact ⟨(e 0).trans ih.1, (e 1).trans ih.2.1, (e 2).trans ih.2.2⟩

theorem ownsRow_keptM {A C : World} {n₀ k m : Nat} {t : TypeId} {v : Value} {xs : List Value} (h : A.ownsRow n₀ t m v k xs) {O : Nat → Prop} (kk : Kept O A C) (hO : ∀ g, some g = v.ownBlock → ¬ O g) : C.ownsRow n₀ t m v k xs := by
  obtain ⟨h1, h2⟩ := h
  refine ⟨h1, ?_⟩
  rcases h2 with h2 | ⟨g, cap, cur, rfl, hb, hg, rest⟩
  · exact .inl h2
  · exact .inr ⟨g, cap, cur, rfl, hb, kk.block hg (hO g rfl), rest⟩
theorem own_ltM {n₀ k m : Nat} {t : TypeId} {ys : List Value} (h : w.ownsRow n₀ t m v k ys) {g : Nat} (hg : some g = v.ownBlock) : n₀ ≤ g ∧ g < w.heap.size := by
  rcases h.2 with ⟨rfl, _⟩ | ⟨g2, cap, cur, rfl, hb, hh, _⟩
  · cases hg
  · obtain rfl : g = g2 := by simpa [Value.ownBlock] using hg
    exact ⟨hb, (Array.getElem?_eq_some_iff.1 hh).1⟩

/-- The row of the list's items, beside the heap. -/
structure Rk (w0 w : World) (bh bs bm : Nat) (pg : List (Int × Nat)) (T : List It) (v : Value) : Prop where
  row : w.ownsRow w0.heap.size 39 3 v T.length (keptVals T)
  ap : ∀ g, some g = v.ownBlock → ¬ Sl.foot bs bm pg g ∧ g ≠ bh

theorem Rk.nil : Rk w0 w bh bs bm pg [] (.slice none 0 0) := ⟨World.ownsRow_nil _ _ _ _, fun _ hg => nomatch hg⟩
theorem Rk.keep (h : Rk w0 w bh bs bm pg T v) (k : K w w') : Rk w0 w' bh bs bm pg T v := ⟨ownsRow_keptM (O := No) h.row k (fun _ _ x => x), h.ap⟩
theorem Rk.step (h : Rk w0 w bh bs bm pg T v) (t : Sl.Step bs bm pg pg' w w') : Rk w0 w' bh bs bm pg' T v := by
  refine ⟨ownsRow_keptM (O := Sl.foot bs bm pg) h.row ⟨t.os, t.tape, t.output, t.size, t.kept⟩ (fun g hg => (h.ap g hg).1), fun g hg => ⟨fun hf => ?_, (h.ap g hg).2⟩⟩
  rcases t.inn g hf with h2 | h2
  · exact (h.ap g hg).1 h2
  · have := (own_ltM h.row hg).2
    omega

/-- The cells of an item. -/
theorem Rk.get (h : Rk w0 w bh bs bm pg T v) {i : Nat} (ht : T[i]? = some t) : ∃ g cap, v = .slice (some ⟨g, 0, none⟩) T.length cap ∧ w.cell? ⟨g, i * 3, none⟩ = some (.int .i64 t.a) ∧ w.cell? ⟨g, i * 3 + 1, none⟩ = some (.int .i64 t.n) ∧ w.cell? ⟨g, i * 3 + 2, none⟩ = some (.int .u64 t.x) := by
  obtain ⟨hi, _⟩ := List.getElem?_eq_some_iff.1 ht
  rcases h.row.2 with ⟨_, e⟩ | ⟨g, cap, cur, e, _, hg, _, _, _, hk⟩
  · omega
  · obtain ⟨h1, h2, h3⟩ := kept_at ht
    have cell : ∀ j u, j < T.length * 3 → (keptVals T)[j]? = some u → w.cell? ⟨g, j, none⟩ = some u := fun j u hj hu => by
      rw [← hk, List.getElem?_take, if_pos hj] at hu
      simp only [World.cell?, hg]
      rw [if_neg (by simp), ← Array.getElem?_toList]
      exact hu
    exact ⟨g, cap, e, cell _ _ (by omega) h1, cell _ _ (by omega) h2, cell _ _ (by omega) h3⟩

theorem Ra.kept (h : Ra w0 w bh bs bm q pg W L T) {O : Nat → Prop} (k : Kept O w w') (hO : ∀ k, O k → ¬ Sl.foot bs bm pg k ∧ k ≠ bh ∧ k ≠ 0 ∧ w0.heap.size ≤ k) : Ra w0 w' bh bs bm q pg W L T := ⟨h.rn.kept k hO, h.ks⟩

/-- Behind an append of one item. -/
theorem Rk.app {T' : List It} (h : Rk w0 w bh bs bm pg T v) (ha : Ra w0 w bh bs bm q pg W L T') (pos : 0 < w0.heap.size) {o : Obj} {v' : Value} (hown : w'.ownsRow w0.heap.size 39 3 v' (T.length + 1) (keptVals T ++ itVals t)) (hgrow : (w.alloc o).grownBy w' v.ownBlock) (hat : v'.ownBlock = v.ownBlock ∨ v'.ownBlock = some (w.alloc o).heap.size) :
    Ra w0 w' bh bs bm q pg W L T' ∧ Rk w0 w' bh bs bm pg (T ++ [t]) v' := by
  have hsz := hgrow.size
  simp at hsz
  have hbh : bh < w.heap.size := (Array.getElem?_eq_some_iff.1 ha.rn.st.hw.hd).1
  have kk : Kept (fun k => some k = v.ownBlock) w w' := ⟨hgrow.os, hgrow.tape, hgrow.output, by omega, fun k hk hn => by
    rw [hgrow.block k (by simp; omega) hn]
    exact Below.heap_alloc w o k hk⟩
  refine ⟨ha.kept kk (fun k hk => ⟨(h.ap k hk).1, (h.ap k hk).2, by have := (own_ltM h.row hk).1; omega, (own_ltM h.row hk).1⟩), ?_, fun g hg => ?_⟩
  · rw [List.length_append, kept_app]
    exact hown
  · rcases hat with e | e
    · exact h.ap g (by rw [← e]; exact hg)
    · rw [e] at hg
      obtain rfl : g = w.heap.size + 1 := by simpa using hg
      exact ⟨fun hf => by have := ha.rn.st.hw.ar.foot_lt hf; omega, by omega⟩

theorem run_ixk (g len cap i : Nat) (hi : i < len) (w' : World) : (Instr.indexAt 28 (.slice (some ⟨g, 0, none⟩) len cap) (.int .i64 (i : Int))).run Tryd.prog w' = .ok (.pointer (some ⟨g, i * 3, none⟩)) w' := by
  have hel : Tryd.prog.elem 28 = 39 := by kernel_rfl
  have hsz : (sizeOf 39).run Tryd.prog w' = .ok 3 w' := by kernel_rfl
  have hu : Tryd.prog.underlying 28 = some (.slice (Tryd.prog.elem 28)) := by kernel_rfl
  rw [run_indexAt_slice w' 28 _ len cap .i64 i hu, if_pos (by omega), hel, hsz]
  simp only [Result.andThen_ok, Int.toNat_natCast]
  rw [Go.WideShapes.add_plain, Nat.zero_add]

/-- l[:k] -/
theorem run_cut_loK (g len cap k : Nat) (h1 : k ≤ len) (h2 : len ≤ cap) (w : World) : (Instr.slice 28 (.slice (some ⟨g, 0, none⟩) len cap) none (some (.int .i64 (k : Int))) none).run Tryd.prog w = .ok (.slice (some ⟨g, 0, none⟩) k cap) w := by
  have hel : Tryd.prog.elem 28 = 39 := by kernel_rfl
  have hsz : (sizeOf 39).run Tryd.prog w = .ok 3 w := by kernel_rfl
  have hu : Tryd.prog.underlying 28 = some (.slice (Tryd.prog.elem 28)) := by kernel_rfl
  rw [run_slice_h (P := Tryd.prog) w 28 _ len cap hu .i64 k (by omega) (by omega), hel, hsz]
  simp only [Result.andThen_ok, sliced, Int.toNat_natCast, Nat.zero_mul, Nat.sub_zero]
  split <;> simp [Addr.add]

/-- l[k:] -/
theorem run_cut_hiK (g len cap k : Nat) (h1 : k ≤ len) (h2 : len ≤ cap) :
    ∃ ad, (∀ w, (Instr.slice 28 (.slice (some ⟨g, 0, none⟩) len cap) (some (.int .i64 (k : Int))) none none).run Tryd.prog w = .ok (.slice (some ad) (len - k) (cap - k)) w) ∧ (ad = ⟨g, k * 3, none⟩ ∨ len = k) := by
  have hel : Tryd.prog.elem 28 = 39 := by kernel_rfl
  have hsz : ∀ w, (sizeOf 39).run Tryd.prog w = .ok 3 w := fun w => by kernel_rfl
  have hu : Tryd.prog.underlying 28 = some (.slice (Tryd.prog.elem 28)) := by kernel_rfl
  by_cases e : cap = k
  · refine ⟨⟨g, 0, none⟩, fun w => ?_, .inr (by omega)⟩
    rw [run_slice_l (P := Tryd.prog) w 28 _ len cap hu .i64 k (by omega) (by omega), hel, hsz]
    simp only [Result.andThen_ok, sliced, Int.toNat_natCast]
    rw [if_pos e]
  · refine ⟨⟨g, k * 3, none⟩, fun w => ?_, .inl rfl⟩
    rw [run_slice_l (P := Tryd.prog) w 28 _ len cap hu .i64 k (by omega) (by omega), hel, hsz]
    simp only [Result.andThen_ok, sliced, Int.toNat_natCast]
    rw [if_neg e]
    simp only [Option.map_some]
    rw [Go.WideShapes.add_plain, Nat.zero_add]

theorem kept_take (T : List It) (k : Nat) (hk : k ≤ T.length) : (keptVals T).take (k * 3) = keptVals (T.take k) := by
  have e : keptVals T = keptVals (T.take k) ++ keptVals (T.drop k) := by rw [← kept_app, List.take_append_drop]
  have l : (keptVals (T.take k)).length = k * 3 := by rw [kept_len, List.length_take, Nat.min_eq_left hk]
  rw [e, ← l]
  exact List.take_left
theorem kept_drop (T : List It) (k : Nat) (hk : k ≤ T.length) : (keptVals T).drop (k * 3) = keptVals (T.drop k) := by
  have e : keptVals T = keptVals (T.take k) ++ keptVals (T.drop k) := by rw [← kept_app, List.take_append_drop]
  have l : (keptVals (T.take k)).length = k * 3 := by rw [kept_len, List.length_take, Nat.min_eq_left hk]
  rw [e, ← l]
  exact List.drop_left

/-- The row's cells as a source: l[:k] and l[k:]. -/
theorem Rk.srcLo {g n cap : Nat} (h : Rk w0 w bh bs bm pg T (.slice (some ⟨g, 0, none⟩) n cap)) (k : Nat) (hk : k ≤ T.length) : ∀ j u, (keptVals (T.take k))[j]? = some u → w.cell? ((⟨g, 0, none⟩ : Addr).add j) = some u := fun j u hu => by
  refine h.row.cells rfl j u ?_
  rw [← kept_take T k hk, List.getElem?_take] at hu
  split at hu
  · exact hu
  · cases hu
theorem Rk.srcHi {g n cap : Nat} (h : Rk w0 w bh bs bm pg T (.slice (some ⟨g, 0, none⟩) n cap)) (k : Nat) (hk : k ≤ T.length) {ad : Addr} (ha : ad = ⟨g, k * 3, none⟩ ∨ T.length = k) : ∀ j u, (keptVals (T.drop k))[j]? = some u → w.cell? (ad.add j) = some u := fun j u hu => by
  rcases ha with rfl | e
  · rw [← kept_drop T k hk, List.getElem?_drop] at hu
    have := h.row.cells rfl _ u hu
    rw [Go.WideShapes.add_plain] at this ⊢
    rw [Nat.zero_add] at this
    exact this
  · rw [List.drop_eq_nil_of_le (by omega)] at hu
    simp [keptVals] at hu

theorem Rk.cap {g n cap : Nat} (h : Rk w0 w bh bs bm pg T (.slice (some ⟨g, 0, none⟩) n cap)) : n = T.length ∧ T.length ≤ cap := by
  rcases h.row.2 with ⟨e, _⟩ | ⟨g2, cap2, cur, e, _, _, h1, _⟩
  · cases e
  · cases e
    exact ⟨rfl, h1⟩
theorem Rk.form (h : Rk w0 w bh bs bm pg T v) : ∃ ad cap, v = .slice ad T.length cap := by
  rcases h.row.2 with ⟨e, h0⟩ | ⟨g, cap, _, e, _⟩
  · exact ⟨none, 0, by rw [e, h0]⟩
  · exact ⟨_, _, e⟩
theorem Rk.pos (h : Rk w0 w bh bs bm pg T v) (hp : 0 < T.length) : ∃ g cap, v = .slice (some ⟨g, 0, none⟩) T.length cap := by
  rcases h.row.2 with ⟨e, h0⟩ | ⟨g, cap, _, e, _⟩
  · omega
  · exact ⟨_, _, e⟩

/-- A new row. -/
theorem Rk.fresh (ha : Ra w0 w bh bs bm q pg W L A) {n : Nat} (hk : w0.heap.size ≤ w.heap.size) (hn : n = T.length) (h : w'.ownsRow w.heap.size 39 3 v n (keptVals T)) : Rk w0 w' bh bs bm pg T v := by
  have hbh : bh < w.heap.size := (Array.getElem?_eq_some_iff.1 ha.rn.st.hw.hd).1
  subst hn
  refine ⟨⟨h.1, ?_⟩, fun g hg => ?_⟩
  · rcases h.2 with h2 | ⟨g, cap, cur, e, hb, rest⟩
    · exact .inl h2
    · exact .inr ⟨g, cap, cur, e, Nat.le_trans hk hb, rest⟩
  · have := (own_ltM h hg).1
    exact ⟨fun hf => by have := ha.rn.st.hw.ar.foot_lt hf; omega, by omega⟩

/-- A cell of an owned row that is set. -/
theorem own_set {b n m g i cap : Nat} {ty : TypeId} {xs : List Value} {u : Value} (h : w.ownsRow b ty m (.slice (some ⟨g, 0, none⟩) n cap) n xs) : (w.setCell ⟨g, i, none⟩ u).ownsRow b ty m (.slice (some ⟨g, 0, none⟩) n cap) n (xs.set i u) := by
  rcases h.2 with ⟨e, _⟩ | ⟨g2, cap2, cur, e, hb, hg, h1, h2, h3, h4⟩
  · cases e
  · cases e
    refine ⟨by rw [List.length_set]; exact h.1, .inr ⟨g, cap, cur.set! i u, rfl, hb, ?_, h1, h2, by simp [h3], ?_⟩⟩
    · simp only [World.setCell]
      rw [Array.getElem?_modify, if_pos rfl, hg]
      rfl
    · simp only [Array.set!_eq_setIfInBounds, Array.toList_setIfInBounds]
      rw [List.take_set, h4]
theorem own_new {b m i : Nat} {xs : List Value} {v : Value} (hm : 0 < m) (h : w.ownsRow b 39 3 v (0 + m) ([] ++ xs)) (hi : i < m) : ∃ g cap, v = .slice (some ⟨g, 0, none⟩) m cap ∧ (∀ w', (Instr.indexAt 28 (.slice (some ⟨g, 0, none⟩) m cap) (.int .i64 (i : Int))).run Tryd.prog w' = .ok (.pointer (some ⟨g, i * 3, none⟩)) w') ∧ w.frozen? ⟨g, i * 3, none⟩ = false ∧ w.ownsRow b 39 3 (.slice (some ⟨g, 0, none⟩) m cap) m xs := by
  rw [Nat.zero_add, List.nil_append] at h
  have h0 := h
  rcases h.2 with ⟨_, e⟩ | ⟨g, cap, cur, rfl, hb, hg, _⟩
  · omega
  · exact ⟨g, cap, rfl, fun w' => run_ixk g m cap i hi w', by simp [World.frozen?, hg], h0⟩
theorem own_cell {b n g i cap : Nat} {xs : List Value} (h : w.ownsRow b 39 3 (.slice (some ⟨g, 0, none⟩) n cap) n xs) (hi : i < n) : ∃ u, w.cell? ⟨g, i * 3, none⟩ = some u := by
  have hl := h.1
  have := h.cells rfl (i * 3) _ (List.getElem?_eq_getElem (by omega))
  rw [Go.WideShapes.add_plain, Nat.zero_add] at this
  exact ⟨_, this⟩
theorem kept_set (A B : List It) (t : It) (b : Int) : (keptVals (A ++ t :: B)).set (A.length * 3) (.int .i64 b) = keptVals (A ++ { t with a := b } :: B) := by
  rw [kept_app, kept_app, List.set_append_right _ _ (by rw [kept_len]; omega), kept_len, Nat.sub_self]
  rfl

end

section
open Go.Maps Go.Deep

/-- A call of a script. -/
structure Opv where
  d : Int
  n : Int
structure OpOk (o : Opv) : Prop where
  d : In64 o.d
  n : In64 o.n
structure OpAt (w : World) (b off : Nat) (o : Opv) : Prop where
  c0 : w.cell? ⟨b, off, none⟩ = some (.int .i64 o.d)
  c1 : w.cell? ⟨b, off + 1, none⟩ = some (.int .i64 o.n)

structure Script (w : World) (a : Option Addr) (b off len cap : Nat) (z : Nat → Opv) : Prop where
  ix : ∀ i : Nat, i < len → ∀ w', (Instr.indexAt 22 (.slice a len cap) (.int .i64 (i : Int))).run Tryd.prog w' = .ok (.pointer (some ⟨b, off + i * 2, none⟩)) w'
  lt : 0 < len → b < w.heap.size
  cell : ∀ j, j < len → OpAt w b (off + j * 2) (z j)
  ok : ∀ j, OpOk (z j)

theorem OpAt.keep {w w' : World} {b off : Nat} {o : Opv} (h : OpAt w b off o) (k : K w w') : OpAt w' b off o := ⟨k.cell h.c0, k.cell h.c1⟩

theorem run_ixo (b off len cap : Nat) (i : Nat) (hi : i < len) (w' : World) : (Instr.indexAt 22 (.slice (some ⟨b, off, none⟩) len cap) (.int .i64 (i : Int))).run Tryd.prog w' = .ok (.pointer (some ⟨b, off + i * 2, none⟩)) w' := by
  have hel : Tryd.prog.elem 22 = 30 := by kernel_rfl
  have hsz : (sizeOf 30).run Tryd.prog w' = .ok 2 w' := by kernel_rfl
  have hu : Tryd.prog.underlying 22 = some (.slice (Tryd.prog.elem 22)) := by kernel_rfl
  rw [run_indexAt_slice w' 22 _ len cap .i64 i hu, if_pos (by omega), hel, hsz]
  simp only [Result.andThen_ok, Int.toNat_natCast]
  rw [Go.WideShapes.add_plain]

theorem two {α : Type} {l : List α} (h : l.length = 2) : ∃ a b, l = [a, b] := by
  obtain _ | ⟨a, l⟩ := l
  · cases h
  obtain _ | ⟨b, l⟩ := l
  · cases h
  obtain _ | ⟨c, l⟩ := l
  · exact ⟨a, b, rfl⟩
  · simp at h

theorem field_at {H : Type} {enc : TypeId × Value → H} {W : World} {base : Nat} {sp : Nat → Bool} {held : Bool} {fs : Array Field} {cs : List Value} {xs : List (DataW H × List MemPlace)} {k : Nat}
    (hf : ∀ (i : Nat) (f : Field), fs[i]? = some f → DataW.trod enc Tryd.prog W base sp held k f.type ((cs.drop f.offset).take (Tryd.prog.cellsOf f.type)) = xs[i]?) (i : Nat) (t : TypeId) (o : Nat) (h : (fs[i]?).map (fun f => (f.type, f.offset)) = some (t, o)) (hc : Tryd.prog.cellsOf t = 1) (hi : i < xs.length) :
    DataW.trod enc Tryd.prog W base sp held k t ((cs.drop o).take 1) = some xs[i] := by
  obtain ⟨f, h1, h2⟩ := Option.map_eq_some_iff.1 h
  have := hf i f h1
  cases h2
  rw [hc, List.getElem?_eq_getElem hi] at this
  exact this

theorem op_of {H : Type} {enc : TypeId × Value → H} {W : World} {base : Nat} {sp : Nat → Bool} {held : Bool} {a : Addr} {cs : List Value} {n : Nat} {x : DataW H × List MemPlace} (hc : W.cells? base a 2 = some cs) (h : DataW.trod enc Tryd.prog W base sp held n 30 cs = some x) :
    ∃ (b off : Nat) (o : Opv), a = ⟨b, off, none⟩ ∧ OpAt W b off o ∧ OpOk o := by
  obtain ⟨_, hlen, hcell⟩ := World.cells?_some hc
  obtain ⟨xs, k, _, _, _, hxl, hf⟩ := DataW.trod_struct Tryd.underlying30 h
  have c3 : Tryd.prog.cellsOf 3 = 1 := by kernel_rfl
  have hxl : xs.length = 2 := by simpa using hxl
  obtain ⟨v0, v1, rfl⟩ := two hlen
  have g0 := field_at hf 0 3 0 rfl c3 (by omega)
  have g1 := field_at hf 1 3 1 rfl c3 (by omega)
  obtain ⟨z0, e0, _, k0⟩ := DataW.trod_int Tryd.underlying3 g0
  obtain ⟨z1, e1, _, k1⟩ := DataW.trod_int Tryd.underlying3 g1
  simp at e0 e1
  subst e0 e1
  have r0 := hcell 0 (by omega)
  have r1 := hcell 1 (by omega)
  obtain ⟨b, off, spot⟩ := a
  have hspot : spot = none := by simpa [Addr.add] using World.cell?_spot r0
  subst hspot
  rw [Go.WideShapes.add_plain] at r0 r1
  exact ⟨b, off, ⟨z0, z1⟩, rfl, ⟨by simpa using r0, by simpa using r1⟩, ⟨In64.of_wf k0, In64.of_wf k1⟩⟩

theorem opOk_zero : OpOk ⟨0, 0⟩ := ⟨⟨by decide, by decide⟩, ⟨by decide, by decide⟩⟩

theorem script_of {H : Type} {enc : TypeId × Value → H} {W : World} {base : Nat} {sp : Nat → Bool} {held : Bool} {fuel : Nat} {a : Option Addr} {len cap : Nat} {x : DataW H × List MemPlace} (h : DataW.trod enc Tryd.prog W base sp held fuel 22 [.slice a len cap] = some x) :
    len ≤ maxLen ∧ ∃ b off z, Script W a b off len cap z := by
  have ce : Tryd.prog.cellsOf 30 = 2 := by kernel_rfl
  rcases open_slice Tryd.underlying22 h with ⟨hcs, _⟩ | ⟨ad, l, c, m, n, D, Pl, hcs, _, hl, hm, hmm, _, hx⟩
  · simp at hcs
    obtain ⟨rfl, rfl, rfl⟩ := hcs
    exact ⟨Nat.zero_le _, 0, 0, fun _ => ⟨0, 0⟩, fun i hi => by omega, fun h => by omega, fun j hj => by omega, fun _ => opOk_zero⟩
  · simp at hcs
    obtain ⟨rfl, rfl, rfl⟩ := hcs
    refine ⟨Nat.le_trans hl hm, ?_⟩
    have hlm : len ≤ m := by rw [hmm]; split <;> omega
    by_cases h0 : len = 0
    · subst h0
      exact ⟨0, 0, fun _ => ⟨0, 0⟩, fun i hi => by omega, fun h => by omega, fun j hj => by omega, fun _ => opOk_zero⟩
    · rw [ce] at hx
      have each : ∀ i, i < m → ∃ (b off : Nat) (o : Opv), ad.add (i * 2) = ⟨b, off, none⟩ ∧ OpAt W b off o ∧ OpOk o := fun i hi => by
        obtain ⟨cs', h1, h2⟩ := hx i hi
        exact op_of h1 h2
      obtain ⟨b0, off0, o0, e0, p0, _⟩ := each 0 (by omega)
      have had : ad = ⟨b0, off0, none⟩ := by simpa [Addr.add] using e0
      subst had
      have each2 : ∀ i, i < m → ∃ o : Opv, OpAt W b0 (off0 + i * 2) o ∧ OpOk o := fun i hi => by
        obtain ⟨b, off, o, e, p, k⟩ := each i hi
        rw [Go.WideShapes.add_plain] at e
        cases e
        exact ⟨o, p, k⟩
      have hI : Inhabited Opv := ⟨⟨0, 0⟩⟩
      obtain ⟨z, hz⟩ := choose_lt each2
      refine ⟨b0, off0, fun i => if i < m then z i else ⟨0, 0⟩, fun i hi w' => run_ixo b0 off0 len cap i hi w', fun _ => World.block_lt_of_cell? _ _ p0.c0, fun j hj => ?_, fun j => ?_⟩
      · rw [if_pos (by omega)]
        exact (hz j (by omega)).1
      · by_cases hj : j < m
        · rw [if_pos hj]
          exact (hz j hj).2
        · rw [if_neg hj]
          exact opOk_zero

end

end Hp
end Go.Proofs.YtlpdgomoepinjaaDoor
