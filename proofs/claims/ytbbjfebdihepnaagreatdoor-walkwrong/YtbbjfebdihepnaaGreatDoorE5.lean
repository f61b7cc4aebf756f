/-
  Pages by value (65 cells): their operations as laws; the walks of package store's lay and pages.
-/
import Derived.Test.YtbbjfebdihepnaaGreatDoorE4
import Derived.Deep.MidRow
import Derived.Deep.WholeRow
import Derived.Deep.AppendSrc
namespace Go.Proofs.YtbbjfebdihepnaaGreatDoor
open Go.RowKit Go.Maps
attribute [local go_sem ↓] Go.wp_at_zero Go.wp_at_succ
namespace So
open Hp (Kept K No Pg BlR Bl Wl)
variable {w w' : World} {B : Nat} {A : Ad} {pg : List (Int × Nat)} {W : Int → Int} {L : List Pg} {v : Value} {T : List Hd.Sl}

/-- A page by value: its number, then its 64 words. -/
def pArr (W : Int → Int) (N : Int) : Array Value := #[.int .i64 N] ++ Sl.words W N
theorem pArr_size (W : Int → Int) (N : Int) : (pArr W N).size = 65 := by simp [pArr, Sl.words_size]
theorem pArr_len (W : Int → Int) (N : Int) : (pArr W N).toList.length = 65 := by rw [Array.length_toList, pArr_size]
theorem pArr_zero (W : Int → Int) (N : Int) : (pArr W N)[0]? = some (.int .i64 N) := by
  unfold pArr
  rw [Array.getElem?_append_left (by simp)]
  simp
theorem pArr_word (W : Int → Int) (N : Int) (j : Nat) (h : j < 64) : (pArr W N)[1 + j]? = some (.int .u64 (W (64 * N + j))) := by
  unfold pArr
  rw [Array.getElem?_append_right (by simp), show 1 + j - #[Value.int IntKind.i64 N].size = j from by simp, Sl.words_get _ _ _ h]
theorem pArr_one (W : Int → Int) (N : Int) : ∀ u ∈ (pArr W N).toList, u.oneCell' = true := fun u hu => by
  simp [pArr, Sl.words] at hu
  rcases hu with rfl | ⟨a, _, rfl⟩ <;> rfl
theorem pArr_all (W : Int → Int) (N : Int) : (pArr W N).all (·.oneCell') = true := Array.all_eq_true_iff_forall_mem.2 (fun u hu => pArr_one W N u (by simpa using hu))
theorem pArr_ext {V V' : Int → Int} {N : Int} (h : ∀ j : Nat, j < 64 → V (64 * N + j) = V' (64 * N + j)) : pArr V N = pArr V' N := by
  unfold pArr Sl.words
  congr 1
  apply Array.ext_getElem?
  intro i
  simp only [Array.getElem?_map, Array.getElem?_range]
  by_cases hi : i < 64
  · simp [hi, h i hi]
  · simp [hi]

theorem info_apage : ∃ i0, Tryz.prog.info? 184 = some i0 ∧ i0.size = 65 ∧ i0.bytes = 520 ∧ ∃ z, i0.zero = some z ∧ z.cells.size = 65 := by
  have hi : (Tryz.prog.info? 184).map (fun i => (i.zero.map (fun z => z.cells.size), i.size, i.bytes)) = some (some 65, 65, 520) := by kernel_rfl
  obtain ⟨i0, h1, h2⟩ := Option.map_eq_some_iff.1 hi
  simp only [Prod.mk.injEq] at h2
  obtain ⟨h3, h4, h5⟩ := h2
  obtain ⟨z, h6, h7⟩ := Option.map_eq_some_iff.1 h3
  exact ⟨i0, h1, h4, h5, z, h6, h7⟩
theorem size_apage (W : Int → Int) (N : Int) : (Tryz.prog.info? 184).map (·.size) = some (pArr W N).size := by rw [pArr_size]; kernel_rfl

theorem run_build_ap (N : Int) (w : World) : (Instr.build 184 #[(0, .int .i64 N)]).run Tryz.prog w = .ok (.agg (pArr (fun _ => 0) N)) w := by kernel_rfl
theorem wpList_build_ap {ops : Array Oper} {rest : List Oper} {ac : Act} {w : World} {Q : Exit → Act → World → Prop} {d : Option Tmp} {ty : TypeId} {ps : String} {af : Array Edge} {x : Operand} (N : Int) (hx : ac.eval x = .int .i64 N)
    (h : wpList Tryz.prog ops Q rest (ac.put d (.agg (pArr (fun _ => 0) N))) w) : wpList Tryz.prog ops Q ({ dst := d, op := Op.build 184 #[(0, x)], type := ty, pos := ps, after := af, guard := none } :: rest) ac w := by
  refine wpList_plain rfl fun K hK => ?_
  unfold Oper.wp
  simp only [execOp, List.map_toArray, List.map_cons, List.map_nil, hx, run_build_ap, Sem.run_bind, Result.andThen_ok]
  exact hK _ _ h

theorem run_alloc_ap (w : World) : (Instr.alloc 184 true (.tuple #[])).run Tryz.prog w = .ok (.pointer (some ⟨w.heap.size, 0, none⟩)) (w.alloc (.cells (pArr (fun _ => 0) 0) 184)) := by kernel_rfl
theorem wpList_alloc_ap {ops : Array Oper} {rest : List Oper} {a : Act} {w : World} {Q : Exit → Act → World → Prop} {d : Option Tmp} {ty : TypeId} {ps : String} {af : Array Edge}
    (h : wpList Tryz.prog ops Q rest (a.put d (.pointer (some ⟨w.heap.size, 0, none⟩))) (w.alloc (.cells (pArr (fun _ => 0) 0) 184))) : wpList Tryz.prog ops Q ({ dst := d, op := Op.alloc 184, type := ty, pos := ps, after := af, guard := none } :: rest) a w := by
  refine wpList_plain rfl fun K hK => ?_
  unfold Oper.wp
  simp only [execOp, run_alloc_ap, Sem.run_bind, Result.andThen_ok]
  exact hK _ _ h

theorem load_ap {g o : Nat} {N : Int} (h : w.rangeAt g o (pArr W N).toList) : (Instr.loadAt 184 (.pointer (some ⟨g, o, none⟩))).run Tryz.prog w = .ok (.agg (pArr W N)) w := by
  have := run_loadAt_mid (P := Tryz.prog) w g o 184 (pArr W N).toList _ h Tryz.underlying184 rfl (by rw [pArr_len]; kernel_rfl)
  simpa using this
theorem wpList_load_ap {ops : Array Oper} {rest : List Oper} {ac : Act} {w : World} {Q : Exit → Act → World → Prop} {d : Option Tmp} {ty : TypeId} {ps : String} {af : Array Edge} {x : Operand} (g o : Nat) (V : Int → Int) (N : Int) (hc : w.rangeAt g o (pArr V N).toList) (hx : ac.eval x = .pointer (some ⟨g, o, none⟩))
    (h : wpList Tryz.prog ops Q rest (ac.put d (.agg (pArr V N))) w) : wpList Tryz.prog ops Q ({ dst := d, op := Op.load 184 x, type := ty, pos := ps, after := af, guard := none } :: rest) ac w := by
  refine wpList_plain rfl fun K hK => ?_
  unfold Oper.wp
  simp only [execOp, hx, load_ap hc, Sem.run_bind, Result.andThen_ok]
  exact hK _ _ h
theorem range_block {g : Nat} {V : Int → Int} {N : Int} (h : w.heap[g]? = some (.cells (pArr V N) 184)) : w.rangeAt g 0 (pArr V N).toList := fun j u hu => by
  simp only [World.cell?, h, Nat.zero_add]
  rw [if_neg (by simp)]
  simpa using hu

theorem fold_set (l : List Value) : ∀ (k : Nat) (cs : Array Value), k + l.length ≤ cs.size →
    ((l.zipIdx k).foldl (fun cs p => cs.setIfInBounds p.2 p.1) cs).size = cs.size ∧ ∀ i, ((l.zipIdx k).foldl (fun cs p => cs.setIfInBounds p.2 p.1) cs)[i]? = if k ≤ i ∧ i < k + l.length then l[i - k]? else cs[i]? := by
  induction l with
  | nil =>
    intro k cs h
    refine ⟨rfl, fun i => ?_⟩
    rw [if_neg (by simp)]
    rfl
  | cons c l ih =>
    intro k cs h
    simp only [List.length_cons] at h
    simp only [List.zipIdx_cons, List.foldl_cons]
    obtain ⟨h1, h2⟩ := ih (k + 1) (cs.setIfInBounds k c) (by simp; omega)
    refine ⟨by rw [h1]; simp, fun i => ?_⟩
    rw [h2 i]
    by_cases e : i = k
    · subst e
      rw [if_neg (by omega), if_pos (by simp)]
      simp [Array.getElem?_setIfInBounds]
      omega
    · by_cases hi : k + 1 ≤ i ∧ i < k + 1 + l.length
      · rw [if_pos hi, if_pos (by simp; omega), show i - k = (i - (k + 1)) + 1 from by omega]
        simp
      · rw [if_neg hi, if_neg (by simp; omega), Array.getElem?_setIfInBounds, if_neg (by omega)]

theorem run_one_ap (cells : Array Value) (hsz : cells.size = 65) (w : World) : (Instr.buildSlice 100 1 #[(0, .agg cells)]).run Tryz.prog w = .ok (.slice (some ⟨w.heap.size, 0, none⟩) 1 1) (w.alloc (.cells cells 184)) := by
  have hs : (sizeOf 184).run Tryz.prog w = .ok 65 w := by kernel_rfl
  obtain ⟨i0, hi, _, _, z, hz, hzs⟩ := info_apage
  have hzv : (zeroValue 184).run Tryz.prog w = .ok z w := by simp [zeroValue, typeInfo, hi, hz]
  have hf : Instr.fill (fun i => some (i * 65, 65)) ((Array.range (1 * 65)).map (z.cells[· % z.cells.size]!)) [(0, .agg cells)] = some cells := by
    have hc : (Value.agg cells).cells = cells := rfl
    simp only [Instr.fill, hc, hsz]
    have e : (cells.zipIdx.foldl (fun cs p => cs.setIfInBounds (0 * 65 + p.2) p.1) ((Array.range (1 * 65)).map (z.cells[· % z.cells.size]!))) = cells := by
      rw [← Array.foldl_toList, Array.toList_zipIdx]
      simp only [Nat.zero_mul, Nat.zero_add]
      obtain ⟨h1, h2⟩ := fold_set cells.toList 0 ((Array.range (1 * 65)).map (z.cells[· % z.cells.size]!)) (by simp [hsz])
      apply Array.ext_getElem?
      intro i
      rw [h2 i]
      by_cases hi : i < 65
      · rw [if_pos (by simp [hsz]; exact hi)]
        simp
      · rw [if_neg (by simp [hsz]; omega), Array.getElem?_eq_none (by simp; omega), Array.getElem?_eq_none (by omega)]
    simp at e ⊢
    exact e
  simp only [Instr.buildSlice, Sem.run_bind, run_underlying Tryz.underlying100, Result.andThen_ok, hs]
  simp [hzv, hf, newRow, Result.andThen]
theorem wpList_one_ap {ops : Array Oper} {rest : List Oper} {ac : Act} {w : World} {Q : Exit → Act → World → Prop} {d : Option Tmp} {ty : TypeId} {ps : String} {af : Array Edge} {x : Operand} (cells : Array Value) (hsz : cells.size = 65) (hx : ac.eval x = .agg cells)
    (h : wpList Tryz.prog ops Q rest (ac.put d (.slice (some ⟨w.heap.size, 0, none⟩) 1 1)) (w.alloc (.cells cells 184))) : wpList Tryz.prog ops Q ({ dst := d, op := Op.buildSlice 100 1 #[(0, x)], type := ty, pos := ps, after := af, guard := none } :: rest) ac w := by
  refine wpList_plain rfl fun K hK => ?_
  unfold Oper.wp
  simp only [execOp, List.map_toArray, List.map_cons, List.map_nil, hx, run_one_ap cells hsz, Sem.run_bind, Result.andThen_ok]
  exact hK _ _ h

/-- The word k of a page that lies in a block. -/
theorem run_ixW (g o k : Nat) (hk : k < 64) (w' : World) : (Instr.indexAt 182 (.pointer (some ⟨g, o, none⟩)) (.int .i64 (k : Int))).run Tryz.prog w' = .ok (.pointer (some ⟨g, o + k, none⟩)) w' := by
  have hal : Tryz.prog.arrayLen 182 = 64 := by kernel_rfl
  have hel : Tryz.prog.elem 182 = 27 := by kernel_rfl
  have hsz : (sizeOf 27).run Tryz.prog w' = .ok 1 w' := by kernel_rfl
  have hu : Tryz.prog.underlying 182 = some (.array (Tryz.prog.arrayLen 182) (Tryz.prog.elem 182)) := by kernel_rfl
  rw [run_indexAt_array w' 182 _ .i64 k hu, hal, if_pos (by omega), hel, hsz]
  simp only [Result.andThen_ok, Int.toNat_natCast, Nat.mul_one]
  rw [Go.WideShapes.add_plain]

/-- The first k words, the others 0. -/
def cutW (W : Int → Int) (N : Int) (k : Nat) : Int → Int := fun a => if a < 64 * N + k then W a else 0
theorem cutW_zero (W : Int → Int) (N : Int) : pArr (cutW W N 0) N = pArr (fun _ => 0) N := pArr_ext fun j _ => by unfold cutW; rw [if_neg (by omega)]
theorem cutW_all (W : Int → Int) (N : Int) : pArr (cutW W N 64) N = pArr W N := pArr_ext fun j _ => by unfold cutW; rw [if_pos (by omega)]
theorem cutW_succ (W : Int → Int) (N : Int) (k : Nat) (hk : k < 64) : (pArr (cutW W N k) N).setIfInBounds (1 + k) (.int .u64 (W (64 * N + k))) = pArr (cutW W N (k + 1)) N := by
  apply Array.ext_getElem?
  intro i
  rw [Array.getElem?_setIfInBounds]
  by_cases e : 1 + k = i
  · subst e
    rw [if_pos rfl, if_pos (by rw [pArr_size]; omega), pArr_word _ _ _ hk]
    unfold cutW
    rw [if_pos (by omega)]
  · rw [if_neg e]
    by_cases h0 : i = 0
    · subst h0
      rw [pArr_zero, pArr_zero]
    · by_cases hi : i < 65
      · obtain ⟨j, rfl⟩ : ∃ j, i = 1 + j := ⟨i - 1, by omega⟩
        rw [pArr_word _ _ _ (by omega), pArr_word _ _ _ (by omega)]
        unfold cutW
        by_cases hj : j < k
        · rw [if_pos (by omega), if_pos (by omega)]
        · rw [if_neg (by omega), if_neg (by omega)]
      · rw [Array.getElem?_eq_none (by rw [pArr_size]; omega), Array.getElem?_eq_none (by rw [pArr_size]; omega)]

/-- A row of pages. -/
def flat (W : Int → Int) (ks : List Int) : List Value := ks.flatMap fun N => (pArr W N).toList
theorem flat_app (W : Int → Int) (ks ls : List Int) : flat W (ks ++ ls) = flat W ks ++ flat W ls := by simp [flat]
theorem flat_one (W : Int → Int) (N : Int) : flat W [N] = (pArr W N).toList := by simp [flat]
theorem flat_get (W : Int → Int) : ∀ (ks : List Int) (i : Nat) (N : Int) (j : Nat), ks[i]? = some N → j < 65 → (flat W ks)[i * 65 + j]? = (pArr W N)[j]?
  | [], i, N, j, h, _ => by simp at h
  | M :: ks, 0, N, j, h, hj => by
    obtain rfl : M = N := by simpa using h
    rw [show flat W (M :: ks) = (pArr W M).toList ++ flat W ks from rfl, List.getElem?_append_left (by rw [pArr_len]; omega)]
    simp
  | M :: ks, i + 1, N, j, h, hj => by
    rw [show flat W (M :: ks) = (pArr W M).toList ++ flat W ks from rfl, List.getElem?_append_right (by rw [pArr_len]; omega), pArr_len, show (i + 1) * 65 + j - 65 = i * 65 + j by omega]
    exact flat_get W ks i N j (by simpa using h) hj

end So
end Go.Proofs.YtbbjfebdihepnaaGreatDoor

/-
  The walk of package store's pages.
-/
namespace Go.Proofs.YtbbjfebdihepnaaGreatDoor
open Go.RowKit Go.Maps
attribute [local go_sem ↓] Go.wp_at_zero Go.wp_at_succ
namespace So
open Hp (Kept K No Pg BlR Bl Wl)
variable {w w' : World} {B : Nat} {A : Ad} {pg : List (Int × Nat)} {W : Int → Int} {L : List Pg} {v : Value} {T : List Hd.Sl}

/-- The numbers of pages. -/
def nums (pg : List (Int × Nat)) : List Int := pg.map fun p => p.1

theorem read_page (h : Sb w B A pg W L v T) {N : Int} (hN : N ∈ nums pg) (k : Nat) (hk : k < 64) : Calls Tryz.prog 67 #[.pointer (some ⟨A.bs, 0, none⟩), .int .i64 (N * 64 + k)] w fun e w' => e = .returned (.tuple #[.int .u64 (W (64 * N + k)), .int .i64 0]) ∧ w = w' := by
  obtain ⟨p, hp, rfl⟩ := List.mem_map.1 hN
  have hr := h.hp.hw.ar.rng p hp
  have hb : (Sl.blk pg p.1).isSome = true := Hp.mem_keys.1 (List.mem_map.2 ⟨p, hp, rfl⟩)
  have r1 := Sl.read_any h.hp.hw.ar (64 * p.1 + k)
  rw [Hp.readV_in hr.1 hr.2 hb k (by omega) (by omega), Hp.readE_in hr.1 hr.2 hb k (by omega) (by omega)] at r1
  rw [show p.1 * 64 + (k : Int) = 64 * p.1 + k by omega]
  exact r1

set_option maxRecDepth 100000 in
set_option maxHeartbeats 2000000 in
theorem pages_any (h : Sb w B A pg W L v T) : Calls Tryz.prog 118 #[sp A.st] w fun e w' => ∃ v', e = .returned v' ∧ w'.ownsRow w.heap.size 184 65 v' pg.length (flat W (nums pg)) ∧ K w w' := by
  have c0 := h.c0
  have pp := Sl.pages_said w _ _ _ _ _ h.hp.hw.ar
  have hl := h.hp.hw.ar.len
  have HH : Aside _ := h
  have hrng : Aside _ := h.hp.hw.ar.rng
  obtain ⟨i0, hi0, hs0, hby0, z0, hz0, hzs0⟩ := info_apage
  have HI : Aside (Tryz.prog.info? 184 = some i0 ∧ i0.size = 65 ∧ i0.bytes = 520 ∧ i0.zero = some z0 ∧ z0.cells.size = 65) := ⟨hi0, hs0, hby0, hz0, hzs0⟩
  clear h hi0 hs0 hby0 hz0 hzs0
  have HLN : Aside ((nums pg).length = pg.length) := by show _ = _; simp [nums]
  generalize hn : pg.length = n at *
  have HN : Aside _ := hn
  clear hn
  go_enter Tryz.func118, Tryz.ntmps118
  go_wp2_with fail
  refine pp.mono ?_
  rintro e w1 ⟨a, cap, rfl, hb1, hrow⟩
  have k1 := K.of_below hb1
  have HR : Aside _ := hrow
  clear pp c0 hrow
  go_wp2
  go_loopg [14, 3] n (fun gh t tv wx => ∃ i : Nat, i + gh = n ∧ t = .int .i64 i ∧ wx.ownsRow w1.heap.size 184 65 tv i (flat W ((nums pg).take i)) ∧ K w1 wx)
  case atStart => exact ⟨0, by omega, rfl, by simpa [flat] using World.ownsRow_nil _ _ _ _, K.refl _⟩
  case round =>
    obtain ⟨i, hig, rfl, hown, hk⟩ := hrel
    by_cases hlt : i < n
    · obtain ⟨p, hp⟩ : ∃ p, pg[i]? = some p := ⟨_, List.getElem?_eq_getElem (by rw [HN.out]; exact hlt)⟩
      have hNm : p.1 ∈ nums pg := List.mem_map.2 ⟨p, List.mem_of_getElem? hp, rfl⟩
      have hNi : (nums pg)[i]? = some p.1 := by unfold nums; rw [List.getElem?_map, hp]; rfl
      have hr := hrng.out p (List.mem_of_getElem? hp)
      obtain ⟨r0, r1⟩ := hr
      obtain ⟨g, rfl, hg0, hcell⟩ := HR.out (by omega)
      have dcell := hk.cell (hcell i p hp)
      have HNM : Aside _ := hNm
      have HNI : Aside _ := hNi
      have HOWN : Aside _ := hown
      clear hp hNm hNi hcell hown
      generalize p.1 = N at *
      have hst := run_storeCells_new (P := Tryz.prog) wr 184 (pArr (fun _ => 0) 0) (pArr (fun _ => 0) N) (size_apage _ _) (by rw [pArr_size, pArr_size]) (pArr_all _ _)
      have hsz := pArr_size (fun _ => 0) N
      go_wp2_with (first
        | ((with_reducible refine wpList_build_ap N ?_ ?_); · rfl)
        | (with_reducible refine wpList_alloc_ap ?_))
      clear hst hsz
      obtain ⟨w2, hw2⟩ : ∃ w2, w2 = wr.alloc (.cells (pArr (fun _ => 0) N) 184) := ⟨_, rfl⟩
      have hb2 : w2.heap[wr.heap.size]? = some (.cells (pArr (fun _ => 0) N) 184) := by rw [hw2]; exact World.alloc_heap_new _ _
      have k2 : K wr w2 := by rw [hw2]; exact (K.refl wr).alloc _
      rw [← hw2]
      clear hw2 dcell
      have k02 := (k1.trans hk).trans k2
      have k12 := hk.trans k2
      have hPle := (k1.trans hk).size
      have hP1 := hk.size
      have OWN2 : Aside (w2.ownsRow w1.heap.size 184 65 u3 i (flat W ((nums pg).take i))) := Hd.ownsRow_kept HOWN.out k2 (fun _ _ x => x)
      have OLT : Aside (∀ b, some b = u3.ownBlock → w1.heap.size ≤ b ∧ b < wr.heap.size) := fun b hb => Hd.own_lt HOWN.out hb
      clear HOWN k2
      generalize wr.heap.size = P at *
      go_loopg [20] 64 (fun gh t wx => ∃ k : Nat, k + gh = 64 ∧ t = .int .i64 k ∧ wx.heap[P]? = some (.cells (pArr (cutW W N k) N) 184) ∧ Kept (fun j => j = P) w2 wx)
      case atStart => exact ⟨0, by omega, rfl, by rw [cutW_zero]; exact hb2, Kept.refl _ _⟩
      case round =>
        obtain ⟨k, hkg, rfl, hbk, hkk⟩ := hrel
        have kx := K.thenKept k02 hkk hPle
        by_cases hk64 : k < 64
        · have d0 := (HH.out.keep kx).c0
          have rd := read_page (HH.out.keep kx) HNM.out k hk64
          have hix := run_ixW P 1 k hk64
          have dc : wr.cell? ⟨P, 1 + k, none⟩ = some (.int .u64 (cutW W N k (64 * N + k))) := by
            simp only [World.cell?, hbk]
            rw [if_neg (by simp)]
            exact pArr_word _ _ _ hk64
          have df : wr.frozen? ⟨P, 1 + k, none⟩ = false := by simp [World.frozen?, hbk]
          have nx : Aside ((wr.setCell ⟨P, 1 + k, none⟩ (.int .u64 (W (64 * N + k)))).heap[P]? = some (.cells (pArr (cutW W N (k + 1)) N) 184)) := by
            have := Sl.heap_setCell_same (i := 1 + k) hbk (.int .u64 (W (64 * N + k)))
            rw [cutW_succ _ _ _ hk64] at this
            exact this
          generalize W (64 * N + k) = y at *
          clear hbk
          go_wp2_with (go_at_call 67; refine rd.mono ?_; rintro e w5 ⟨rfl, rfl⟩)
          go_roundg (64 - (k + 1))
          case measure => omega
          case rel => exact ⟨k + 1, by omega, by go_num, nx.out, hkk.setCell (p := ⟨P, 1 + k, none⟩) _ (.inl rfl)⟩
        · obtain rfl : k = 64 := by omega
          rw [cutW_all] at hbk
          have RG : Aside _ := range_block hbk
          have OWNX : Aside (wr.ownsRow w1.heap.size 184 65 u3 i (flat W ((nums pg).take i))) := Hd.ownsRow_kept OWN2.out hkk (fun b hb e => by have := OLT.out b hb; omega)
          have k1x := K.thenKept k12 hkk hP1
          have hil : i + 1 ≤ 4096 := by omega
          clear hbk OWN2
          go_wp2_with (first
            | ((with_reducible refine wpList_load_ap P 0 W N ?_ ?_ ?_); (· exact RG.out); (· rfl))
            | ((with_reducible refine wpList_one_ap (pArr W N) (pArr_size _ _) ?_ ?_); · rfl)
            | (at_builtin
               refine wpList_append_own_at _ rfl _ _ 100 rfl w1.heap.size 184 i0 z0 65 520 Tryz.underlying100 HI.out.1 HI.out.2.2.2.1 HI.out.2.1 HI.out.2.2.1 HI.out.2.2.2.2 (by decide) u3 i (flat W ((nums pg).take i)) rfl (OWNX.out.alloc _) ⟨wr.heap.size, 0, none⟩ 1 1 (pArr W N).toList rfl (by rw [pArr_len]) (Hd.src_one _ _ _) (pArr_one W N) (by unfold maxLen; omega) (by omega) (by have := k1x.size; simp; omega) ?_
               intro v4 w4 hown4 hgrow _ hat))
          go_roundg (n - (i + 1))
          case measure => omega
          case rel =>
            refine ⟨i + 1, by omega, by go_num, ?_, Hd.K.thenGrown k1x hgrow (fun b hb => (OLT.out b hb).1)⟩
            rw [← flat_one, ← flat_app] at hown4
            have e : (nums pg).take i ++ [N] = (nums pg).take (i + 1) := by
              rw [List.take_add_one, HNI.out]
              rfl
            rw [e] at hown4
            exact hown4
    · have hin : i = n := by omega
      have e : (nums pg).take i = nums pg := by rw [List.take_of_length_le (by rw [HLN.out]; omega)]
      rw [e] at hown
      subst hin
      have hO := own_low hown k1.size
      clear hown e
      go_wp2
      go_ret
      exact ⟨_, rfl, hO, k1.trans hk⟩

end So
end Go.Proofs.YtbbjfebdihepnaaGreatDoor

/-
  The walks of package store's lay and takeBack.
-/
namespace Go.Proofs.YtbbjfebdihepnaaGreatDoor
open Go.RowKit Go.Maps
attribute [local go_sem ↓] Go.wp_at_zero Go.wp_at_succ
namespace So
open Hp (Kept K No Pg BlR Bl Wl SameBut dropL findB)
variable {w w' : World} {B : Nat} {A : Ad} {pg : List (Int × Nat)} {W V : Int → Int} {L : List Pg} {v : Value} {T : List Hd.Sl}

theorem run_index_w64 (cs : Array Value) (k : Nat) (hk : k < 64) (y : Int) (hc : cs[k]? = some (.int .u64 y)) (w : World) : (Instr.index 182 (.agg cs) (.int .i64 (k : Int))).run Tryz.prog w = .ok (.int .u64 y) w := by
  have hu : Tryz.prog.underlying 182 = some (.array 64 27) := by kernel_rfl
  have hs : (sizeOf 27).run Tryz.prog w = .ok 1 w := by kernel_rfl
  have ha : (isAgg 27).run Tryz.prog w = .ok false w := by kernel_rfl
  have hr : (0 : Int) ≤ k ∧ (k : Int) < (64 : Nat) := by omega
  simp [Instr.index, asIntOf, run_underlying hu, hr, hs, part, ha, hc, Result.andThen]
  intro h
  omega

/-- The 64 words of a page by value. -/
theorem load_w64 {g : Nat} {N : Int} (h : w.heap[g]? = some (.cells (pArr V N) 184)) : (Instr.loadAt 182 (.pointer (some ⟨g, 1, none⟩))).run Tryz.prog w = .ok (.agg (Sl.words V N)) w := by
  have hr : w.rangeAt g 1 (Sl.words V N).toList := fun j u hu => by
    have hj : j < 64 := by
      have := (List.getElem?_eq_some_iff.1 hu).1
      rw [Array.length_toList, Sl.words_size] at this
      exact this
    simp only [World.cell?, h]
    rw [if_neg (by simp), pArr_word _ _ _ hj]
    rw [Array.getElem?_toList, Sl.words_get _ _ _ hj] at hu
    exact hu
  have := run_loadAt_mid (P := Tryz.prog) w g 1 182 (Sl.words V N).toList _ hr Tryz.underlying182 rfl (by rw [Array.length_toList, Sl.words_size]; kernel_rfl)
  simpa using this
theorem wpList_load_w64 {ops : Array Oper} {rest : List Oper} {ac : Act} {w : World} {Q : Exit → Act → World → Prop} {d : Option Tmp} {ty : TypeId} {ps : String} {af : Array Edge} {x : Operand} (g : Nat) (V : Int → Int) (N : Int) (hc : w.heap[g]? = some (.cells (pArr V N) 184)) (hx : ac.eval x = .pointer (some ⟨g, 1, none⟩))
    (h : wpList Tryz.prog ops Q rest (ac.put d (.agg (Sl.words V N))) w) : wpList Tryz.prog ops Q ({ dst := d, op := Op.load 182 x, type := ty, pos := ps, after := af, guard := none } :: rest) ac w := by
  refine wpList_plain rfl fun K hK => ?_
  unfold Oper.wp
  simp only [execOp, hx, load_w64 hc, Sem.run_bind, Result.andThen_ok]
  exact hK _ _ h

/-- The first k words of a page are laid. -/
def layW (W V : Int → Int) (N : Int) (k : Nat) : Int → Int := fun a => if 64 * N ≤ a ∧ a < 64 * N + k then V a else W a
theorem layW_zero (W V : Int → Int) (N : Int) : layW W V N 0 = W := funext fun a => by unfold layW; rw [if_neg (by omega)]
theorem layW_succ (W V : Int → Int) (N : Int) (k : Nat) : Sl.upd (layW W V N k) (64 * N + k) (V (64 * N + k)) = layW W V N (k + 1) := funext fun a => by
  unfold Sl.upd layW
  by_cases e : a = 64 * N + k
  · rw [if_pos e, if_pos (by omega), e]
  · rw [if_neg e]
    by_cases h : 64 * N ≤ a ∧ a < 64 * N + k
    · rw [if_pos h, if_pos (by omega)]
    · rw [if_neg h, if_neg (by omega)]

set_option maxRecDepth 100000 in
set_option maxHeartbeats 1000000 in
theorem lay_any {bs bm : Nat} {q : Int} (ha : Sl.Arena w bs bm q pg W) {N : Int} (hN : (Sl.blk pg N).isSome = true) (r0 : 0 ≤ N) (r1 : N ≤ 1048575) (hV : ∀ a, Sl.WordOk (V a)) :
    Calls Tryz.prog 105 #[.pointer (some ⟨bs, 0, none⟩), .agg (pArr V N)] w fun e w' => e = .returned (.tuple #[]) ∧ Sl.Arena w' bs bm q pg (layW W V N 64) ∧ Sl.Step bs bm pg pg w w' := by
  obtain ⟨w1, hw1⟩ : ∃ w1, w1 = w.alloc (.cells (pArr V N) 184) := ⟨_, rfl⟩
  have k1 : K w w1 := by rw [hw1]; exact (K.refl w).alloc _
  have hb1 : w1.heap[w.heap.size]? = some (.cells (pArr V N) 184) := by rw [hw1]; exact World.alloc_heap_new _ _
  have hP : ¬ Sl.foot bs bm pg w.heap.size := fun hf => by have := ha.foot_lt hf; omega
  have a1 : Sl.Arena w1 bs bm q pg W := ha.stays fun j hj => k1.same j (ha.foot_lt hj) (fun x => x)
  have HB : Aside _ := hb1
  have hs1 := pArr_size V N
  go_enter Tryz.func105, Tryz.ntmps105
  go_wp2_with (first
    | ((with_reducible refine wpList_load_w64 w.heap.size V N ?_ ?_ ?_); (· rw [← hw1]; exact HB.out); (· rfl)))
  rw [← hw1]
  clear hw1 hs1
  generalize hPs : w.heap.size = P at *
  clear hPs
  go_loopg [8] 64 (fun gh t wx => ∃ k : Nat, k + gh = 64 ∧ t = .int .i64 k ∧ Sl.Arena wx bs bm q pg (layW W V N k) ∧ Sl.Step bs bm pg pg w1 wx)
  case atStart => exact ⟨0, by omega, rfl, by rw [layW_zero]; exact a1, Sl.Step.refl _ _ _ _⟩
  case round =>
    obtain ⟨k, hkg, rfl, ax, sx⟩ := hrel
    by_cases hk64 : k < 64
    · have hix := run_index_w64 (Sl.words V N) k hk64 (V (64 * N + k)) (Sl.words_get _ _ _ hk64)
      have hlt : P < w1.heap.size := (Array.getElem?_eq_some_iff.1 HB.out).1
      have hbx := (sx.kept P hlt hP).trans HB.out
      have dc : wr.cell? ⟨P, 0, none⟩ = some (.int .i64 N) := by
        simp only [World.cell?, hbx]
        rw [if_neg (by simp)]
        exact pArr_zero _ _
      have wrt := Sl.write_ok ax (64 * N + k) (V (64 * N + k)) (Hp.readE_in r0 r1 hN k (by omega) (by omega)) (hV _)
      rw [layW_succ, show 64 * N + (k : Int) = N * 64 + k by omega] at wrt
      rw [show 64 * N + (k : Int) = N * 64 + k by omega] at hix
      generalize V (N * 64 + k) = y at *
      clear hbx ax
      go_wp2_with (go_at_call 89; refine wrt.mono ?_; rintro e w5 ⟨rfl, a5, s5⟩)
      go_roundg (64 - (k + 1))
      case measure => omega
      case rel => exact ⟨k + 1, by omega, by go_num, a5, sx.trans s5⟩
    · obtain rfl : k = 64 := by omega
      have AX : Aside _ := ax
      clear ax
      go_wp2
      go_end0
      exact ⟨rfl, AX.out, k1.thenStep sx⟩

end So
end Go.Proofs.YtbbjfebdihepnaaGreatDoor
