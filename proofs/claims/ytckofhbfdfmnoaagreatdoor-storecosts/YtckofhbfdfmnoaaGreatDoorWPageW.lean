/-
  Pages by value (65 cells): their operations as laws; the walks of package store's lay and pages.
-/
import Derived.Test.YtckofhbfdfmnoaaGreatDoorE4
import Derived.Deep.MidRow
import Derived.Deep.WholeRow
import Derived.Deep.AppendSrc
namespace Go.Proofs.YtckofhbfdfmnoaaGreatDoor
open Go.RowKit Go.Maps
attribute [local go_sem ↓] Go.wp_at_zero Go.wp_at_succ
namespace So
open Hp (Kept K No Pg BlR Bl Wl)
variable {w w' : World} {B : Nat} {A : Ad} {pg : List (Int × Nat)} {W : Int → Int} {L : List Pg} {v : Value} {T : List Hd.Sl}

/-- A page by value: its number, then its 64 words. -/
def pArr (W : Int → Int) (N : Int) : Array Value := #[.int .i64 N] ++ Sl.words W N
theorem pArr_size (W : Int → Int) (N : Int) : (pArr W N).size = 65 := by simp [pArr, Sl.words_size]
theorem pArr_len (W : Int → Int) (N : Int) : (pArr W N).toList.length = 65 := by rw [Array.length_toList, pArr_size]
theorem pArr_zero (W : Int → Int) (N : Int) : (pArr W N)[0]? = some (.int .i64 N) := by
  unfold pArr
  rw [Array.getElem?_append_left (by simp)]
  simp
theorem pArr_word (W : Int → Int) (N : Int) (j : Nat) (h : j < 64) : (pArr W N)[1 + j]? = some (.int .u64 (W (64 * N + j))) := by
  unfold pArr
  rw [Array.getElem?_append_right (by simp), show 1 + j - #[Value.int IntKind.i64 N].size = j from by simp, Sl.words_get _ _ _ h]
theorem pArr_one (W : Int → Int) (N : Int) : ∀ u ∈ (pArr W N).toList, u.oneCell' = true := fun u hu => by
  simp [pArr, Sl.words] at hu
  rcases hu with rfl | ⟨a, _, rfl⟩ <;> rfl
theorem pArr_all (W : Int → Int) (N : Int) : (pArr W N).all (·.oneCell') = true := Array.all_eq_true_iff_forall_mem.2 (fun u hu => pArr_one W N u (by simpa using hu))
theorem pArr_ext {V V' : Int → Int} {N : Int} (h : ∀ j : Nat, j < 64 → V (64 * N + j) = V' (64 * N + j)) : pArr V N = pArr V' N := by
  unfold pArr Sl.words
  congr 1
  apply Array.ext_getElem?
  intro i
  simp only [Array.getElem?_map, Array.getElem?_range]
  by_cases hi : i < 64
  · simp [hi, h i hi]
  · simp [hi]

theorem info_apage : ∃ i0, Tryz.prog.info? 93 = some i0 ∧ i0.size = 65 ∧ i0.bytes = 520 ∧ ∃ z, i0.zero = some z ∧ z.cells.size = 65 := by
  have hi : (Tryz.prog.info? 93).map (fun i => (i.zero.map (fun z => z.cells.size), i.size, i.bytes)) = some (some 65, 65, 520) := by kernel_rfl
  obtain ⟨i0, h1, h2⟩ := Option.map_eq_some_iff.1 hi
  simp only [Prod.mk.injEq] at h2
  obtain ⟨h3, h4, h5⟩ := h2
  obtain ⟨z, h6, h7⟩ := Option.map_eq_some_iff.1 h3
  exact ⟨i0, h1, h4, h5, z, h6, h7⟩
theorem size_apage (W : Int → Int) (N : Int) : (Tryz.prog.info? 93).map (·.size) = some (pArr W N).size := by rw [pArr_size]; kernel_rfl

theorem run_build_ap (N : Int) (w : World) : (Instr.build 93 #[(0, .int .i64 N)]).run Tryz.prog w = .ok (.agg (pArr (fun _ => 0) N)) w := by kernel_rfl
theorem wpList_build_ap {ops : Array Oper} {rest : List Oper} {ac : Act} {w : World} {Q : Exit → Act → World → Prop} {d : Option Tmp} {ty : TypeId} {ps : String} {af : Array Edge} {x : Operand} (N : Int) (hx : ac.eval x = .int .i64 N)
    (h : wpList Tryz.prog ops Q rest (ac.put d (.agg (pArr (fun _ => 0) N))) w) : wpList Tryz.prog ops Q ({ dst := d, op := Op.build 93 #[(0, x)], type := ty, pos := ps, after := af, guard := none } :: rest) ac w := by
  refine wpList_plain rfl fun K hK => ?_
  unfold Oper.wp
  simp only [execOp, List.map_toArray, List.map_cons, List.map_nil, hx, run_build_ap, Sem.run_bind, Result.andThen_ok]
  exact hK _ _ h

theorem run_alloc_ap (w : World) : (Instr.alloc 93 true (.tuple #[])).run Tryz.prog w = .ok (.pointer (some ⟨w.heap.size, 0, none⟩)) (w.alloc (.cells (pArr (fun _ => 0) 0) 93)) := by kernel_rfl
theorem wpList_alloc_ap {ops : Array Oper} {rest : List Oper} {a : Act} {w : World} {Q : Exit → Act → World → Prop} {d : Option Tmp} {ty : TypeId} {ps : String} {af : Array Edge}
    (h : wpList Tryz.prog ops Q rest (a.put d (.pointer (some ⟨w.heap.size, 0, none⟩))) (w.alloc (.cells (pArr (fun _ => 0) 0) 93))) : wpList Tryz.prog ops Q ({ dst := d, op := Op.alloc 93, type := ty, pos := ps, after := af, guard := none } :: rest) a w := by
  refine wpList_plain rfl fun K hK => ?_
  unfold Oper.wp
  simp only [execOp, run_alloc_ap, Sem.run_bind, Result.andThen_ok]
  exact hK _ _ h

theorem wpList_store_ap {ops : Array Oper} {rest : List Oper} {a : Act} {w : World} {Q : Exit → Act → World → Prop} {ty : TypeId} {ps : String} {af : Array Edge} {x y : Operand} (V V' : Int → Int) (M N : Int) (hx : a.eval x = .pointer (some ⟨w.heap.size, 0, none⟩)) (hy : a.eval y = .agg (pArr V' N))
    (h : wpList Tryz.prog ops Q rest (a.put none undef) (w.alloc (.cells (pArr V' N) 93))) : wpList Tryz.prog ops Q ({ dst := none, op := Op.store 93 x y, type := ty, pos := ps, after := af, guard := none } :: rest) a (w.alloc (.cells (pArr V M) 93)) := by
  refine wpList_plain rfl fun K hK => ?_
  have hr := run_storeAt_new (P := Tryz.prog) w 93 (pArr V M) (pArr V' N) (size_apage V' N) (by rw [pArr_size, pArr_size]) (pArr_all V' N)
  unfold Oper.wp
  simp only [execOp, hx, hy, hr, Sem.run_bind, Result.andThen_ok]
  exact hK _ _ h

theorem load_ap {g o : Nat} {N : Int} (h : w.rangeAt g o (pArr W N).toList) : (Instr.loadAt 93 (.pointer (some ⟨g, o, none⟩))).run Tryz.prog w = .ok (.agg (pArr W N)) w := by
  have := run_loadAt_mid (P := Tryz.prog) w g o 93 (pArr W N).toList _ h Tryz.underlying93 rfl (by rw [pArr_len]; kernel_rfl)
  simpa using this
theorem wpList_load_ap {ops : Array Oper} {rest : List Oper} {ac : Act} {w : World} {Q : Exit → Act → World → Prop} {d : Option Tmp} {ty : TypeId} {ps : String} {af : Array Edge} {x : Operand} (g o : Nat) (V : Int → Int) (N : Int) (hc : w.rangeAt g o (pArr V N).toList) (hx : ac.eval x = .pointer (some ⟨g, o, none⟩))
    (h : wpList Tryz.prog ops Q rest (ac.put d (.agg (pArr V N))) w) : wpList Tryz.prog ops Q ({ dst := d, op := Op.load 93 x, type := ty, pos := ps, after := af, guard := none } :: rest) ac w := by
  refine wpList_plain rfl fun K hK => ?_
  unfold Oper.wp
  simp only [execOp, hx, load_ap hc, Sem.run_bind, Result.andThen_ok]
  exact hK _ _ h
theorem range_block {g : Nat} {V : Int → Int} {N : Int} (h : w.heap[g]? = some (.cells (pArr V N) 93)) : w.rangeAt g 0 (pArr V N).toList := fun j u hu => by
  simp only [World.cell?, h, Nat.zero_add]
  rw [if_neg (by simp)]
  simpa using hu

theorem fold_set (l : List Value) : ∀ (k : Nat) (cs : Array Value), k + l.length ≤ cs.size →
    ((l.zipIdx k).foldl (fun cs p => cs.setIfInBounds p.2 p.1) cs).size = cs.size ∧ ∀ i, ((l.zipIdx k).foldl (fun cs p => cs.setIfInBounds p.2 p.1) cs)[i]? = if k ≤ i ∧ i < k + l.length then l[i - k]? else cs[i]? := by
  induction l with
  | nil =>
    intro k cs h
    refine ⟨rfl, fun i => ?_⟩
    rw [if_neg (by simp)]
    rfl
  | cons c l ih =>
    intro k cs h
    simp only [List.length_cons] at h
    simp only [List.zipIdx_cons, List.foldl_cons]
    obtain ⟨h1, h2⟩ := ih (k + 1) (cs.setIfInBounds k c) (by simp; omega)
    refine ⟨by rw [h1]; simp, fun i => ?_⟩
    rw [h2 i]
    by_cases e : i = k
    · subst e
      rw [if_neg (by omega), if_pos (by simp)]
      simp [Array.getElem?_setIfInBounds]
      omega
    · by_cases hi : k + 1 ≤ i ∧ i < k + 1 + l.length
      · rw [if_pos hi, if_pos (by simp; omega), show i - k = (i - (k + 1)) + 1 from by omega]
        simp
      · rw [if_neg hi, if_neg (by simp; omega), Array.getElem?_setIfInBounds, if_neg (by omega)]

theorem run_one_ap (cells : Array Value) (hsz : cells.size = 65) (w : World) : (Instr.buildSlice 67 1 #[(0, .agg cells)]).run Tryz.prog w = .ok (.slice (some ⟨w.heap.size, 0, none⟩) 1 1) (w.alloc (.cells cells 93)) := by
  have hs : (sizeOf 93).run Tryz.prog w = .ok 65 w := by kernel_rfl
  obtain ⟨i0, hi, _, _, z, hz, hzs⟩ := info_apage
  have hzv : (zeroValue 93).run Tryz.prog w = .ok z w := by simp [zeroValue, typeInfo, hi, hz]
  have hf : Instr.fill (fun i => some (i * 65, 65)) ((Array.range (1 * 65)).map (z.cells[· % z.cells.size]!)) [(0, .agg cells)] = some cells := by
    have hc : (Value.agg cells).cells = cells := rfl
    simp only [Instr.fill, hc, hsz]
    have e : (cells.zipIdx.foldl (fun cs p => cs.setIfInBounds (0 * 65 + p.2) p.1) ((Array.range (1 * 65)).map (z.cells[· % z.cells.size]!))) = cells := by
      rw [← Array.foldl_toList, Array.toList_zipIdx]
      simp only [Nat.zero_mul, Nat.zero_add]
      obtain ⟨h1, h2⟩ := fold_set cells.toList 0 ((Array.range (1 * 65)).map (z.cells[· % z.cells.size]!)) (by simp [hsz])
      apply Array.ext_getElem?
      intro i
      rw [h2 i]
      by_cases hi : i < 65
      · rw [if_pos (by simp [hsz]; exact hi)]
        simp
      · rw [if_neg (by simp [hsz]; omega), Array.getElem?_eq_none (by simp; omega), Array.getElem?_eq_none (by omega)]
    simp at e ⊢
    exact e
  simp only [Instr.buildSlice, Sem.run_bind, run_underlying Tryz.underlying67, Result.andThen_ok, hs]
  simp [hzv, hf, newRow, Result.andThen]
theorem wpList_one_ap {ops : Array Oper} {rest : List Oper} {ac : Act} {w : World} {Q : Exit → Act → World → Prop} {d : Option Tmp} {ty : TypeId} {ps : String} {af : Array Edge} {x : Operand} (cells : Array Value) (hsz : cells.size = 65) (hx : ac.eval x = .agg cells)
    (h : wpList Tryz.prog ops Q rest (ac.put d (.slice (some ⟨w.heap.size, 0, none⟩) 1 1)) (w.alloc (.cells cells 93))) : wpList Tryz.prog ops Q ({ dst := d, op := Op.buildSlice 67 1 #[(0, x)], type := ty, pos := ps, after := af, guard := none } :: rest) ac w := by
  refine wpList_plain rfl fun K hK => ?_
  unfold Oper.wp
  simp only [execOp, List.map_toArray, List.map_cons, List.map_nil, hx, run_one_ap cells hsz, Sem.run_bind, Result.andThen_ok]
  exact hK _ _ h

/-- The word k of a page that lies in a block. -/
theorem run_ixW (g o k : Nat) (hk : k < 64) (w' : World) : (Instr.indexAt 91 (.pointer (some ⟨g, o, none⟩)) (.int .i64 (k : Int))).run Tryz.prog w' = .ok (.pointer (some ⟨g, o + k, none⟩)) w' := by
  have hal : Tryz.prog.arrayLen 91 = 64 := by kernel_rfl
  have hel : Tryz.prog.elem 91 = 44 := by kernel_rfl
  have hsz : (sizeOf 44).run Tryz.prog w' = .ok 1 w' := by kernel_rfl
  have hu : Tryz.prog.underlying 91 = some (.array (Tryz.prog.arrayLen 91) (Tryz.prog.elem 91)) := by kernel_rfl
  rw [run_indexAt_array w' 91 _ .i64 k hu, hal, if_pos (by omega), hel, hsz]
  simp only [Result.andThen_ok, Int.toNat_natCast, Nat.mul_one]
  rw [Go.WideShapes.add_plain]

/-- The first k words, the others 0. -/
def cutW (W : Int → Int) (N : Int) (k : Nat) : Int → Int := fun a => if a < 64 * N + k then W a else 0
theorem cutW_zero (W : Int → Int) (N : Int) : pArr (cutW W N 0) N = pArr (fun _ => 0) N := pArr_ext fun j _ => by unfold cutW; rw [if_neg (by omega)]
theorem cutW_all (W : Int → Int) (N : Int) : pArr (cutW W N 64) N = pArr W N := pArr_ext fun j _ => by unfold cutW; rw [if_pos (by omega)]
theorem cutW_succ (W : Int → Int) (N : Int) (k : Nat) (hk : k < 64) : (pArr (cutW W N k) N).setIfInBounds (1 + k) (.int .u64 (W (64 * N + k))) = pArr (cutW W N (k + 1)) N := by
  apply Array.ext_getElem?
  intro i
  rw [Array.getElem?_setIfInBounds]
  by_cases e : 1 + k = i
  · subst e
    rw [if_pos rfl, if_pos (by rw [pArr_size]; omega), pArr_word _ _ _ hk]
    unfold cutW
    rw [if_pos (by omega)]
  · rw [if_neg e]
    by_cases h0 : i = 0
    · subst h0
      rw [pArr_zero, pArr_zero]
    · by_cases hi : i < 65
      · obtain ⟨j, rfl⟩ : ∃ j, i = 1 + j := ⟨i - 1, by omega⟩
        rw [pArr_word _ _ _ (by omega), pArr_word _ _ _ (by omega)]
        unfold cutW
        by_cases hj : j < k
        · rw [if_pos (by omega), if_pos (by omega)]
        · rw [if_neg (by omega), if_neg (by omega)]
      · rw [Array.getElem?_eq_none (by rw [pArr_size]; omega), Array.getElem?_eq_none (by rw [pArr_size]; omega)]

/-- A row of pages. -/
def flat (W : Int → Int) (ks : List Int) : List Value := ks.flatMap fun N => (pArr W N).toList
theorem flat_app (W : Int → Int) (ks ls : List Int) : flat W (ks ++ ls) = flat W ks ++ flat W ls := by simp [flat]
theorem flat_one (W : Int → Int) (N : Int) : flat W [N] = (pArr W N).toList := by simp [flat]
theorem flat_len (W : Int → Int) : ∀ ks, (flat W ks).length = ks.length * 65
  | [] => rfl
  | N :: ks => by
    have ih := flat_len W ks
    simp only [flat, List.flatMap_cons, List.length_append, pArr_len, List.length_cons] at ih ⊢
    omega
theorem flat_get (W : Int → Int) : ∀ (ks : List Int) (i : Nat) (N : Int) (j : Nat), ks[i]? = some N → j < 65 → (flat W ks)[i * 65 + j]? = (pArr W N)[j]?
  | [], i, N, j, h, _ => by simp at h
  | M :: ks, 0, N, j, h, hj => by
    obtain rfl : M = N := by simpa using h
    rw [show flat W (M :: ks) = (pArr W M).toList ++ flat W ks from rfl, List.getElem?_append_left (by rw [pArr_len]; omega)]
    simp
  | M :: ks, i + 1, N, j, h, hj => by
    rw [show flat W (M :: ks) = (pArr W M).toList ++ flat W ks from rfl, List.getElem?_append_right (by rw [pArr_len]; omega), pArr_len, show (i + 1) * 65 + j - 65 = i * 65 + j by omega]
    exact flat_get W ks i N j (by simpa using h) hj

end So
end Go.Proofs.YtckofhbfdfmnoaaGreatDoor
