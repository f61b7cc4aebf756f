/-
  Walks of package slab's rest, taken, lay and Move: words are copied out of the pages and into them.
-/
import Derived.Test.YtlpdgomoepinjaaDoorSWrite
import Derived.Laws.CopyOwn
import Derived.Deep.RegionWith
namespace Go.Proofs.YtlpdgomoepinjaaDoor
open Go.RowKit Go.Maps
namespace Sl
variable {w : World} {bs bm : Nat} {q : Int} {pg : List (Int × Nat)} {W : Int → Int}

theorem run_cut_page (b : Nat) (l : Int) (h0 : 0 ≤ l) (h1 : l < 64) (w : World) : (Instr.sliceAt 95 (.pointer (some ⟨b, 0, none⟩)) (some (.int .i64 l)) none none).run Tryd.prog w = .ok (.slice (some ⟨b, l.toNat, none⟩) (64 - l.toNat) (64 - l.toNat)) w := by
  have hal : Tryd.prog.arrayLen 95 = 64 := by kernel_rfl
  have hel : Tryd.prog.elem 95 = 34 := by kernel_rfl
  have hsz : (sizeOf 34).run Tryd.prog w = .ok 1 w := by kernel_rfl
  have hu : Tryd.prog.underlying 95 = some (.array (Tryd.prog.arrayLen 95) (Tryd.prog.elem 95)) := by kernel_rfl
  rw [run_sliceAt_array_l w 95 ⟨b, 0, none⟩ hu .i64 l h0 (by rw [hal]; omega), hel, hsz, hal]
  simp only [Result.andThen_ok, slicedAt]
  rw [if_neg (by omega)]
  simp [Addr.add]
  omega

theorem run_cut_row (g n : Nat) (d : Nat) (h1 : d < n) (w : World) : (Instr.slice 84 (.slice (some ⟨g, 0, none⟩) n n) (some (.int .i64 d)) none none).run Tryd.prog w = .ok (.slice (some ⟨g, d, none⟩) (n - d) (n - d)) w := by
  have hel : Tryd.prog.elem 84 = 34 := by kernel_rfl
  have hsz : (sizeOf 34).run Tryd.prog w = .ok 1 w := by kernel_rfl
  have hu : Tryd.prog.underlying 84 = some (.slice (Tryd.prog.elem 84)) := by kernel_rfl
  rw [run_slice_l (P := Tryd.prog) w 84 (some ⟨g, 0, none⟩) n n hu .i64 d (by omega) (by omega), hel, hsz]
  simp only [Result.andThen_ok, sliced, Int.toNat_natCast]
  rw [if_neg (by omega)]
  simp [Addr.add]
  omega

theorem rest_any (h : Arena w bs bm q pg W) (a : Int) (b : Nat) (h0 : 0 ≤ a) (h1 : a < 67108864) (hb : blk pg (a / 64) = some b) :
    Calls Tryd.prog 74 #[.pointer (some ⟨bs, 0, none⟩), .int .i64 a] w fun e w' => e = .returned (.slice (some ⟨b, (a % 64).toNat, none⟩) (64 - (a % 64).toNat) (64 - (a % 64).toNat)) ∧ w = w' := by
  have c1 := h.c1
  have hlk := h.pm.look (k := a / 64) (wf64 (by omega))
  rw [hb] at hlk
  simp only [ptrOf] at hlk
  have hcut := run_cut_page b (a % 64) (by omega) (by omega)
  go_enter Tryd.func74, Tryd.ntmps74
  go_wp2
  go_ret
  exact ⟨rfl, rfl⟩

/-- A row of n words of which d have come. -/
def rowOf (F : Nat → Int) (n d : Nat) : Array Value := (Array.range n).map fun i : Nat => .int .u64 (if i < d then F i else 0)

theorem made_row (n : Nat) (F : Nat → Int) : madeCells (Value.int .u64 0).cells (n * 1) = rowOf F n 0 := by
  apply Array.ext_getElem?
  intro i
  by_cases h : i < n
  · simp [madeCells, rowOf, h, Value.cells, Nat.mod_one]
  · simp [madeCells, rowOf, h]

theorem row_get (F : Nat → Int) (n d i : Nat) (h : i < n) : (rowOf F n d)[i]? = some (.int .u64 (if i < d then F i else 0)) := by
  simp [rowOf, h]

/-- The words that one copy brings. -/
def seg (W : Int → Int) (a : Int) (m : Nat) : List Value := (List.range m).map fun j : Nat => .int .u64 (W (a + j))

theorem row_splice (W : Int → Int) (a : Int) (n d m : Nat) (h : d + m ≤ n) :
    ((rowOf (fun i => W (a + i)) n d).toList.take d ++ seg W (a + d) m ++ (rowOf (fun i => W (a + i)) n d).toList.drop (d + m)).toArray = rowOf (fun i => W (a + i)) n (d + m) := by
  apply Array.ext_getElem?
  intro i
  rw [List.getElem?_toArray]
  by_cases h1 : i < d
  · rw [List.getElem?_append_left (by simp [seg, rowOf]; omega), List.getElem?_append_left (by simp [rowOf]; omega), List.getElem?_take_of_lt h1]
    rw [Array.getElem?_toList, row_get _ _ _ _ (by omega), row_get _ _ _ _ (by omega)]
    simp [h1, show i < d + m from by omega]
  · by_cases h2 : i < d + m
    · rw [List.getElem?_append_left (by simp [seg, rowOf]; omega), List.getElem?_append_right (by simp [rowOf]; omega)]
      rw [row_get _ _ _ _ (by omega)]
      have e1 : ((rowOf (fun i => W (a + i)) n d).toList.take d).length = d := by simp [rowOf]; omega
      rw [e1]
      simp only [seg, List.getElem?_map, List.getElem?_range (show i - d < m from by omega), Option.map_some, h2, if_true]
      rw [show a + (d : Int) + ((i - d : Nat) : Int) = a + i from by omega]
    · rw [List.getElem?_append_right (by simp [seg, rowOf]; omega)]
      have e1 : ((rowOf (fun i => W (a + i)) n d).toList.take d ++ seg W (a + d) m).length = d + m := by simp [seg, rowOf]; omega
      rw [e1, List.getElem?_drop, show d + m + (i - (d + m)) = i from by omega, Array.getElem?_toList]
      by_cases h3 : i < n
      · rw [row_get _ _ _ _ h3, row_get _ _ _ _ h3, if_neg h1, if_neg h2]
      · simp [rowOf, h3]

theorem seg_one (W : Int → Int) (a : Int) (m : Nat) : ∀ v ∈ seg W a m, v.oneCell' = true := by
  intro v hv
  simp [seg] at hv
  obtain ⟨j, _, rfl⟩ := hv
  rfl

/-- One copy out of a page into the row. -/
theorem run_copy_out (h : Arena w bs bm q pg W) (a : Int) (n d b g : Nat) (hd : d < n) (hb : blk pg ((a + d) / 64) = some b) (hrow : w.heap[g]? = some (.cells (rowOf (fun i => W (a + i)) n d) 34)) (ty : TypeId) :
    (Builtin.copy_ #[84, 84] ty #[.slice (some ⟨g, d, none⟩) (n - d) (n - d), .slice (some ⟨b, ((a + d) % 64).toNat, none⟩) (64 - ((a + d) % 64).toNat) (64 - ((a + d) % 64).toNat)]).run Tryd.prog w =
      .ok (.int .i64 (min (64 - ((a + d) % 64).toNat) (n - d) : Nat)) (w.setRow g (rowOf (fun i => W (a + i)) n (d + min (64 - ((a + d) % 64).toNat) (n - d)))) := by
  have hs : (Tryd.prog.info? 34).map (·.size) = some 1 := by kernel_rfl
  have hl : (seg W (a + d) (min (64 - ((a + d) % 64).toNat) (n - d))).length = min (64 - ((a + d) % 64).toNat) (n - d) := by simp [seg]
  have := run_copy_row (P := Tryd.prog) w 84 84 ty 34 g d (n - d) (n - d) ⟨b, ((a + d) % 64).toNat, none⟩ (64 - ((a + d) % 64).toNat) (64 - ((a + d) % 64).toNat) (rowOf (fun i => W (a + i)) n d) 34 (seg W (a + d) (min (64 - ((a + d) % 64).toNat) (n - d)))
    Tryd.underlying84 hs hrow hl ?_ ?_ (seg_one _ _ _)
  · rw [this, hl, row_splice _ _ _ _ _ (by omega)]
    rfl
  · intro j v hv
    have hj : j < min (64 - ((a + d) % 64).toNat) (n - d) := by
      have := (List.getElem?_eq_some_iff.1 hv).1
      rw [hl] at this
      exact this
    simp only [seg, List.getElem?_map, List.getElem?_range hj, Option.map_some, Option.some.injEq] at hv
    have hc := h.word hb (((a + d) % 64).toNat + j) (by omega)
    have hadd : (⟨b, ((a + d) % 64).toNat, none⟩ : Addr).add j = ⟨b, ((a + d) % 64).toNat + j, none⟩ := by unfold Addr.add; split <;> simp_all
    rw [hadd, hc, ← hv]
    rw [show 64 * ((a + (d : Int)) / 64) + ((((a + d) % 64).toNat + j : Nat) : Int) = a + d + j from by omega]
  · rw [hl]
    simp [rowOf]
    omega

set_option maxHeartbeats 1000000 in
theorem taken_any (h : Arena w bs bm q pg W) (a : Int) (n : Nat) (h0 : 0 ≤ a) (h1 : a + n ≤ 67108864) (hn : n ≤ 262144) (hall : ∀ i : Nat, i < n → (blk pg ((a + i) / 64)).isSome = true) :
    Calls Tryd.prog 63 #[.pointer (some ⟨bs, 0, none⟩), .int .i64 a, .int .i64 n] w fun e w' => e = .returned (.slice (some ⟨w.heap.size, 0, none⟩) n n) ∧ Below w.heap.size w w' ∧ w'.heap[w.heap.size]? = some (.cells (rowOf (fun i => W (a + i)) n n) 34) := by
  have hi : (Tryd.prog.info? 34).map (fun i => (i.zero, i.size, i.bytes)) = some (some (.int .u64 0), 1, 8) := by kernel_rfl
  obtain ⟨i0, hi1, hz0, hz1, hz2⟩ := info_parts hi
  have hmk := run_make (P := Tryd.prog) w 84 34 i0 (.int .u64 0) Tryd.underlying84 hi1 hz0 .i64 .i64 n n (by omega) (by omega) (by rw [hz2]; omega) (by omega)
  rw [hz1, Int.toNat_natCast, made_row n (fun i => W (a + i))] at hmk
  have HA : Aside _ := hall
  clear hi hi1 hz0 hz1 hz2 hall
  go_enter Tryd.func63, Tryd.ntmps63
  go_wp2
  go_loopg [8] n (fun g t wx => ∃ d : Nat, d + g = n ∧ t = .int .i64 d ∧ Below w.heap.size w wx ∧ wx.heap[w.heap.size]? = some (.cells (rowOf (fun i => W (a + i)) n d) 34))
  case atStart => exact ⟨0, by omega, rfl, (Below.refl _ _).alloc (Nat.le_refl _) _, (MapKept.heap_alloc w _).1⟩
  case round =>
    obtain ⟨d, hdg, rfl, hbel, hrow⟩ := hrel
    by_cases hlt : d < n
    · have har : Arena wr bs bm q pg W := h.stays fun k hk => hbel.block k (h.foot_lt hk)
      obtain ⟨b, hb⟩ := Option.isSome_iff_exists.1 (HA.out d hlt)
      have hrest : ∀ w', w'.heap = wr.heap → Calls Tryd.prog 74 #[.pointer (some ⟨bs, 0, none⟩), .int .i64 (a + d)] w' fun e w'' => e = .returned (.slice (some ⟨b, ((a + d) % 64).toNat, none⟩) (64 - ((a + d) % 64).toNat) (64 - ((a + d) % 64).toNat)) ∧ w' = w'' := fun w' hw' => rest_any (har.stays fun k _ => by rw [hw']) (a + d) b (by omega) (by omega) hb
      have hcut := run_cut_row w.heap.size n d hlt
      have hcp := fun (w' : World) (ty : TypeId) (hw' : w'.heap = wr.heap) => run_copy_out (har.stays (w' := w') fun k _ => by rw [hw']) a n d b w.heap.size hlt hb (by rw [hw']; exact hrow) ty
      have hc0 := fun ty => hcp wr ty rfl
      have hc1 := fun ty => hcp wr.drew ty rfl
      have hc2 := fun ty => hcp wr.drew.drew ty rfl
      have hc3 := fun ty => hcp wr.drew.drew.drew ty rfl
      have HW : Hid (IntKind.i64.wrap (a + (d : Int)) = a + d) := IntWalk.i64_in _ (by omega)
      clear hmk hcp
      go_wp2
      go_region_with (go_at_call 74; rw [HW.out]; refine (hrest _ ?_).mono ?_; rfl; rintro e w' ⟨rfl, rfl⟩)
      go_wp2
      go_roundg (n - (d + min (64 - ((a + d) % 64).toNat) (n - d)))
      case measure => omega
      case rel =>
        refine ⟨d + min (64 - ((a + d) % 64).toNat) (n - d), by omega, ?_, ?_, ?_⟩
        · exact congrArg (Value.int .i64) (by rw [IntWalk.i64_in _ (by omega)]; omega)
        · exact below_setRow hbel.drew (Nat.le_refl _) _
        · exact setRow_heap _ _ _ _ _ _ hrow
    · obtain rfl : d = n := by omega
      go_wp2
      go_ret
      exact ⟨rfl, hbel, hrow⟩

/-- The words where d words of F have been laid from an address on. -/
def laid (W : Int → Int) (to : Int) (F : Nat → Int) (d : Nat) : Int → Int := fun x => if to ≤ x ∧ x < to + d then F (x - to).toNat else W x

theorem laid_zero (W : Int → Int) (to : Int) (F : Nat → Int) : laid W to F 0 = W := by
  funext x
  simp only [laid]
  rw [if_neg (by omega)]

theorem Arena.setPage (h : Arena w bs bm q pg W) {k : Int} {b : Nat} (hb : blk pg k = some b) (W' : Int → Int) (hout : ∀ x, x / 64 ≠ k → W' x = W x) (hok : ∀ x, WordOk (W' x)) :
    Arena (w.setRow b (words W' k)) bs bm q pg W' ∧ Step bs bm pg pg w (w.setRow b (words W' k)) := by
  have hm := blk_mem hb
  have old : ∀ j, j ≠ b → (w.setRow b (words W' k)).heap[j]? = w.heap[j]? := fun j hj => setRow_other w b j _ hj
  refine ⟨⟨(old bs (fun e => (h.pg_ne hm).2 e.symm)).trans h.s0, ?_, h.rise, h.rng, h.q0, h.q1, h.full, ?_, h.nd, hok, ?_⟩, ⟨rfl, rfl, rfl, by simp [World.setRow], fun j _ hf => old j (fun e => hf (Or.inr (Or.inr ⟨_, hm, e.symm⟩))), fun _ h => Or.inl h⟩⟩
  · obtain ⟨es, c, hbm, r⟩ := h.pm
    exact ⟨es, c, (old bm (fun e => (h.pg_ne hm).1 e.symm)).trans hbm, r⟩
  · intro p hp
    by_cases e : p.1 = k
    · have hpb : p.2 = b := by
        have h1 := blk_of_mem h.rise (show (p.1, p.2) ∈ pg from hp)
        rw [e, hb] at h1
        exact (Option.some.inj h1).symm
      rw [hpb, e]
      exact setRow_heap w b _ _ _ _ (h.page _ hm)
    · have hpb : p.2 ≠ b := fun e2 => by
        have := nd_inj h.nd hp hm e2
        rw [this] at e
        exact e rfl
      rw [old p.2 hpb]
      have : words W' p.1 = words W p.1 := by
        unfold words
        apply Array.map_congr_left
        intro j hj
        have : j < 64 := by simpa using hj
        rw [hout _ (by omega)]
      rw [this]
      exact h.page p hp
  · intro a ha
    rw [hout a (fun e => by rw [e, hb] at ha; cases ha)]
    exact h.z a ha

def segF (F : Nat → Int) (d m : Nat) : List Value := (List.range m).map fun j : Nat => .int .u64 (F (d + j))

theorem segF_one (F : Nat → Int) (d m : Nat) : ∀ v ∈ segF F d m, v.oneCell' = true := by
  intro v hv
  simp [segF] at hv
  obtain ⟨j, _, rfl⟩ := hv
  rfl

theorem words_splice (W : Int → Int) (F : Nat → Int) (to : Int) (d m : Nat) (h : ((to + d) % 64).toNat + m ≤ 64) :
    ((words (laid W to F d) ((to + d) / 64)).toList.take ((to + d) % 64).toNat ++ segF F d m ++ (words (laid W to F d) ((to + d) / 64)).toList.drop (((to + d) % 64).toNat + m)).toArray = words (laid W to F (d + m)) ((to + d) / 64) := by
  have hs : (words (laid W to F d) ((to + d) / 64)).toList.length = 64 := by simp [words]
  apply Array.ext_getElem?
  intro i
  rw [List.getElem?_toArray]
  generalize ho : ((to + (d : Int)) % 64).toNat = o at *
  generalize hk : (to + (d : Int)) / 64 = k at *
  have hok : 64 * k + o = to + d := by omega
  have e0 : ((words (laid W to F d) k).toList.take o).length = o := by rw [List.length_take, hs]; omega
  have e1 : (segF F d m).length = m := by simp [segF]
  by_cases h1 : i < o
  · rw [List.getElem?_append_left (by rw [List.length_append, e0]; omega), List.getElem?_append_left (by rw [e0]; exact h1), List.getElem?_take_of_lt h1]
    rw [Array.getElem?_toList, words_get _ _ _ (by omega), words_get _ _ _ (by omega)]
    simp only [laid]
    by_cases h2 : to ≤ 64 * k + (i : Int)
    · rw [if_pos (by omega), if_pos (by omega)]
    · rw [if_neg (by omega), if_neg (by omega)]
  · by_cases h2 : i < o + m
    · rw [List.getElem?_append_left (by rw [List.length_append, e0, e1]; omega), List.getElem?_append_right (by rw [e0]; omega), e0]
      rw [words_get _ _ _ (by omega)]
      simp only [segF, List.getElem?_map, List.getElem?_range (show i - o < m from by omega), Option.map_some, laid]
      rw [if_pos (by omega), show (64 * k + (i : Int) - to).toNat = d + (i - o) from by omega]
    · rw [List.getElem?_append_right (by rw [List.length_append, e0, e1]; omega), List.length_append, e0, e1]
      rw [List.getElem?_drop, show o + m + (i - (o + m)) = i from by omega, Array.getElem?_toList]
      by_cases h3 : i < 64
      · rw [words_get _ _ _ h3, words_get _ _ _ h3]
        simp only [laid]
        rw [if_neg (by omega), if_neg (by omega)]
      · simp [words, h3]

/-- One copy of the row into a page. -/
theorem run_copy_in (W0 : Int → Int) (F : Nat → Int) (to : Int) (n d b g : Nat) (h : Arena w bs bm q pg (laid W0 to F d)) (hd : d < n) (hb : blk pg ((to + d) / 64) = some b) (hrow : w.heap[g]? = some (.cells (rowOf F n n) 34)) (ty : TypeId) :
    (Builtin.copy_ #[84, 84] ty #[.slice (some ⟨b, ((to + d) % 64).toNat, none⟩) (64 - ((to + d) % 64).toNat) (64 - ((to + d) % 64).toNat), .slice (some ⟨g, d, none⟩) (n - d) (n - d)]).run Tryd.prog w =
      .ok (.int .i64 (min (n - d) (64 - ((to + d) % 64).toNat) : Nat)) (w.setRow b (words (laid W0 to F (d + min (n - d) (64 - ((to + d) % 64).toNat))) ((to + d) / 64))) := by
  have hs : (Tryd.prog.info? 34).map (·.size) = some 1 := by kernel_rfl
  have hl : (segF F d (min (n - d) (64 - ((to + d) % 64).toNat))).length = min (n - d) (64 - ((to + d) % 64).toNat) := by simp [segF]
  have := run_copy_row (P := Tryd.prog) w 84 84 ty 34 b ((to + d) % 64).toNat (64 - ((to + d) % 64).toNat) (64 - ((to + d) % 64).toNat) ⟨g, d, none⟩ (n - d) (n - d) (words (laid W0 to F d) ((to + d) / 64)) 95 (segF F d (min (n - d) (64 - ((to + d) % 64).toNat)))
    Tryd.underlying84 hs (h.page _ (blk_mem hb)) hl ?_ ?_ (segF_one _ _ _)
  · rw [this, hl, words_splice _ _ _ _ _ (by omega)]
    rfl
  · intro j v hv
    have hj : j < min (n - d) (64 - ((to + d) % 64).toNat) := by
      have := (List.getElem?_eq_some_iff.1 hv).1
      rw [hl] at this
      exact this
    simp only [segF, List.getElem?_map, List.getElem?_range hj, Option.map_some, Option.some.injEq] at hv
    have hadd : (⟨g, d, none⟩ : Addr).add j = ⟨g, d + j, none⟩ := by unfold Addr.add; split <;> simp_all
    rw [hadd, ← hv]
    have hr := row_get F n n (d + j) (by omega)
    rw [if_pos (by omega)] at hr
    simp only [World.cell?, hrow]
    simpa using hr
  · rw [hl]
    simp [words]
    omega

set_option maxHeartbeats 1000000 in
theorem lay_any (h : Arena w bs bm q pg W) (to : Int) (F : Nat → Int) (n g : Nat) (h0 : 0 ≤ to) (h1 : to + n ≤ 67108864) (hn : n ≤ 262144) (hall : ∀ i : Nat, i < n → (blk pg ((to + i) / 64)).isSome = true)
    (hrow : w.heap[g]? = some (.cells (rowOf F n n) 34)) (hg : ¬ foot bs bm pg g) (hF : ∀ i, WordOk (F i)) :
    Calls Tryd.prog 62 #[.pointer (some ⟨bs, 0, none⟩), .int .i64 to, .slice (some ⟨g, 0, none⟩) n n] w fun e w' => e = .returned (.tuple #[]) ∧ Arena w' bs bm q pg (laid W to F n) ∧ Step bs bm pg pg w w' := by
  have HA : Aside _ := hall
  have hgl : g < w.heap.size := lt_of_get hrow
  have HR : Aside _ := hrow
  have HF : Aside _ := hF
  have HW0 : Aside _ := h.ww
  clear hall hrow hF
  go_enter Tryd.func62, Tryd.ntmps62
  go_wp2
  go_loopg [6] n (fun gh t wx => ∃ d : Nat, d + gh = n ∧ t = .int .i64 d ∧ Arena wx bs bm q pg (laid W to F d) ∧ Step bs bm pg pg w wx)
  case atStart => exact ⟨0, by omega, rfl, by rw [laid_zero]; exact h, Step.refl _ _ _ _⟩
  case round =>
    obtain ⟨d, hdg, rfl, har, hst⟩ := hrel
    by_cases hlt : d < n
    · obtain ⟨b, hb⟩ := Option.isSome_iff_exists.1 (HA.out d hlt)
      have hrow2 : wr.heap[g]? = some (.cells (rowOf F n n) 34) := (hst.kept g hgl hg).trans HR.out
      have hrest : ∀ w', w'.heap = wr.heap → Calls Tryd.prog 74 #[.pointer (some ⟨bs, 0, none⟩), .int .i64 (to + d)] w' fun e w'' => e = .returned (.slice (some ⟨b, ((to + d) % 64).toNat, none⟩) (64 - ((to + d) % 64).toNat) (64 - ((to + d) % 64).toNat)) ∧ w' = w'' := fun w' hw' => rest_any (har.stays fun k _ => by rw [hw']) (to + d) b (by omega) (by omega) hb
      have hcut := run_cut_row g n d hlt
      have hcp := fun (w' : World) (ty : TypeId) (hw' : w'.heap = wr.heap) => run_copy_in W F to n d b g (har.stays (w' := w') fun k _ => by rw [hw']) hlt hb (by rw [hw']; exact hrow2) ty
      have hc0 := fun ty => hcp wr ty rfl
      have hc1 := fun ty => hcp wr.drew ty rfl
      have hc2 := fun ty => hcp wr.drew.drew ty rfl
      have hc3 := fun ty => hcp wr.drew.drew.drew ty rfl
      have HW : Hid (IntKind.i64.wrap (to + (d : Int)) = to + d) := IntWalk.i64_in _ (by omega)
      have HB : Hid (blk pg ((to + d) / 64) = some b) := hb
      clear hcp hb hrow2
      go_wp2
      go_region_with (go_at_call 74; rw [HW.out]; refine (hrest _ ?_).mono ?_; rfl; rintro e w' ⟨rfl, rfl⟩)
      go_wp2
      go_roundg (n - (d + min (n - d) (64 - ((to + d) % 64).toNat)))
      case measure => omega
      case rel =>
        have har2 : Arena wr.drew bs bm q pg (laid W to F d) := har.stays fun _ _ => rfl
        obtain ⟨r1, r2⟩ := har2.setPage HB.out (laid W to F (d + min (n - d) (64 - ((to + d) % 64).toNat))) (fun x hx => by
          simp only [laid]
          by_cases hx1 : to ≤ x ∧ x < to + (d : Nat)
          · rw [if_pos hx1, if_pos (by omega)]
          · rw [if_neg hx1, if_neg (by omega)]) (fun x => by
          simp only [laid]
          split
          · exact HF.out _
          · exact HW0.out _)
        exact ⟨d + min (n - d) (64 - ((to + d) % 64).toNat), by omega, congrArg (Value.int .i64) (by rw [IntWalk.i64_in _ (by omega)]; omega), r1, (hst.trans (Step.drewN bs bm pg wr 1)).trans r2⟩
    · obtain rfl : d = n := by omega
      go_wp2
      go_end0
      exact ⟨rfl, har, hst⟩

end Sl
end Go.Proofs.YtlpdgomoepinjaaDoor
