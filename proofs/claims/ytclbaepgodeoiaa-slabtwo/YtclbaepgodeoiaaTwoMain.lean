/-
  The walk of the statement on two arenas.
-/
import Derived.Test.YtclbaepgodeoiaaAnswer
import Derived.Maps.AppendAt
namespace Go.Proofs.Ytclbaepgodeoiaa
open Go.RowKit Go.Maps
namespace Sl
variable {w : World} {bs bm : Nat} {q : Int} {pg : List (Int × Nat)} {W : Int → Int}

/-- A row of answers. -/
def ansRow (X : Nat → Int) (n : Nat) : List Value := (List.range n).map fun j => .int .u64 (X j)

theorem ownsRow_step {w w' : World} {base : Nat} {e : TypeId} {v : Value} {n : Nat} {xs : List Value} {pg' : List (Int × Nat)} (h : w.ownsRow base e 1 v n xs) (hs : Step bs bm pg pg' w w') (hf : ∀ g, v.ownBlock = some g → ¬ foot bs bm pg g) : w'.ownsRow base e 1 v n xs := by
  obtain ⟨h1, h2⟩ := h
  refine ⟨h1, ?_⟩
  rcases h2 with h2 | ⟨g, cap, cur, hv, hg, hh, r⟩
  · exact Or.inl h2
  · refine Or.inr ⟨g, cap, cur, hv, hg, ?_, r⟩
    rw [hs.kept g (lt_of_get hh) (hf g (by rw [hv]; rfl))]
    exact hh

/-- The script's answers so far, and what was seen behind each. -/
structure Hist (q : Int) (z : Nat → Opv) (i : Nat) (S : Nat → Seen) (X : Nat → Int) : Prop where
  start : S 0 = seen [] (fun _ => 0)
  step : ∀ j, j < i → Ans q (S j) (z j) (X j) (S (j + 1))

theorem Hist.snoc {z : Nat → Opv} {i : Nat} {S : Nat → Seen} {X : Nat → Int} {x : Int} {t : Seen} (h : Hist q z i S X) (ha : Ans q (S i) (z i) x t) :
    Hist q z (i + 1) (fun j => if j ≤ i then S j else t) (fun j => if j < i then X j else x) := by
  refine ⟨?_, fun j hj => ?_⟩
  · rw [if_pos (Nat.zero_le _)]
    exact h.start
  · by_cases h1 : j < i
    · simp only [if_pos h1, if_pos (show j ≤ i from by omega), if_pos (show j + 1 ≤ i from by omega)]
      exact h.step j h1
    · obtain rfl : j = i := by omega
      simp only [Nat.lt_irrefl, if_false, Nat.le_refl, if_true, if_neg (show ¬ j + 1 ≤ j from by omega)]
      exact ha

theorem ansRow_snoc (X : Nat → Int) (i : Nat) (x : Int) : ansRow (fun j => if j < i then X j else x) (i + 1) = ansRow X i ++ [.int .u64 x] := by
  unfold ansRow
  rw [List.range_succ, List.map_append]
  congr 1
  · apply List.map_congr_left
    intro j hj
    have := List.mem_range.1 hj
    simp [this]
  · simp

/-- What both loops keep: two arenas, apart, and the row of answers, apart from both. -/
structure Pair (B : Nat) (w wx : World) (b1 m1 b2 m2 : Nat) (q : Int) (pg1 pg2 : List (Int × Nat)) (W1 W2 : Int → Int) (v : Value) : Prop where
  a1 : Arena wx b1 m1 q pg1 W1
  a2 : Arena wx b2 m2 q pg2 W2
  apart : ∀ k, foot b1 m1 pg1 k → ¬ foot b2 m2 pg2 k
  bel : Below B w wx
  g1 : ∀ k, foot b1 m1 pg1 k → B ≤ k
  g2 : ∀ k, foot b2 m2 pg2 k → B ≤ k
  sz : B ≤ wx.heap.size
  row : ∀ g, v.ownBlock = some g → ¬ foot b1 m1 pg1 g ∧ ¬ foot b2 m2 pg2 g ∧ g < wx.heap.size

variable {B b1 m1 b2 m2 : Nat} {pg1 pg2 pg' : List (Int × Nat)} {W1 W2 W' : Int → Int} {v : Value} {wx w2 : World}

theorem Pair.first (h : Pair B w wx b1 m1 b2 m2 q pg1 pg2 W1 W2 v) (ha : Arena w2 b1 m1 q pg' W') (hs : Step b1 m1 pg1 pg' wx w2) : Pair B w w2 b1 m1 b2 m2 q pg' pg2 W' W2 v := by
  refine ⟨ha, h.a2.stays fun k hk => hs.kept k (h.a2.foot_lt hk) (fun h1 => h.apart k h1 hk), fun k hk h2 => ?_, h.bel.trans (hs.below h.sz h.g1), hs.foot_ge h.sz h.g1, h.g2, Nat.le_trans h.sz hs.size, fun g hg => ?_⟩
  · rcases hs.inn k hk with h1 | h1
    · exact h.apart k h1 h2
    · have := h.a2.foot_lt h2
      omega
  · obtain ⟨r1, r2, r3⟩ := h.row g hg
    refine ⟨fun h1 => ?_, r2, Nat.lt_of_lt_of_le r3 hs.size⟩
    rcases hs.inn g h1 with h2 | h2
    · exact r1 h2
    · omega

theorem Pair.second (h : Pair B w wx b1 m1 b2 m2 q pg1 pg2 W1 W2 v) (ha : Arena w2 b2 m2 q pg' W') (hs : Step b2 m2 pg2 pg' wx w2) : Pair B w w2 b1 m1 b2 m2 q pg1 pg' W1 W' v := by
  refine ⟨h.a1.stays fun k hk => hs.kept k (h.a1.foot_lt hk) (fun h1 => h.apart k hk h1), ha, fun k hk h2 => ?_, h.bel.trans (hs.below h.sz h.g2), h.g1, hs.foot_ge h.sz h.g2, Nat.le_trans h.sz hs.size, fun g hg => ?_⟩
  · rcases hs.inn k h2 with h1 | h1
    · exact h.apart k hk h1
    · have := h.a1.foot_lt hk
      omega
  · obtain ⟨r1, r2, r3⟩ := h.row g hg
    refine ⟨r1, fun h1 => ?_, Nat.lt_of_lt_of_le r3 hs.size⟩
    rcases hs.inn g h1 with h2 | h2
    · exact r2 h2
    · omega

theorem Pair.grow (h : Pair B w wx b1 m1 b2 m2 q pg1 pg2 W1 W2 v) (hb : Below wx.heap.size wx w2) : Pair B w w2 b1 m1 b2 m2 q pg1 pg2 W1 W2 v :=
  ⟨h.a1.stays fun k hk => hb.block k (h.a1.foot_lt hk), h.a2.stays fun k hk => hb.block k (h.a2.foot_lt hk), h.apart, h.bel.trans (hb.mono h.sz), h.g1, h.g2, Nat.le_trans h.sz hb.size, fun g hg => ⟨(h.row g hg).1, (h.row g hg).2.1, Nat.lt_of_lt_of_le (h.row g hg).2.2 hb.size⟩⟩

/-- The row was appended to. -/
theorem Pair.appended {v' : Value} (h : Pair B w wx b1 m1 b2 m2 q pg1 pg2 W1 W2 v) (hB : ∀ g, v.ownBlock = some g → B ≤ g) (hg : wx.grownBy w2 v.ownBlock) (hloc : v'.ownBlock = v.ownBlock ∨ v'.ownBlock = some wx.heap.size) (hlt : ∀ g, v'.ownBlock = some g → g < w2.heap.size) : Pair B w w2 b1 m1 b2 m2 q pg1 pg2 W1 W2 v' := by
  have keep : ∀ k, (foot b1 m1 pg1 k ∨ foot b2 m2 pg2 k) → w2.heap[k]? = wx.heap[k]? := fun k hk => by
    refine hg.block k ?_ (fun e => ?_)
    · rcases hk with hk | hk
      · exact h.a1.foot_lt hk
      · exact h.a2.foot_lt hk
    · obtain ⟨r1, r2, _⟩ := h.row k e.symm
      rcases hk with hk | hk
      · exact r1 hk
      · exact r2 hk
  refine ⟨h.a1.stays fun k hk => keep k (Or.inl hk), h.a2.stays fun k hk => keep k (Or.inr hk), h.apart, h.bel.grown hg h.sz (fun k e => hB k e), h.g1, h.g2, Nat.le_trans h.sz hg.size, fun g e => ?_⟩
  rcases hloc with h1 | h1
  · obtain ⟨r1, r2, _⟩ := h.row g (h1 ▸ e)
    exact ⟨r1, r2, hlt g e⟩
  · rw [h1] at e
    cases e
    exact ⟨fun hf => by have := h.a1.foot_lt hf; omega, fun hf => by have := h.a2.foot_lt hf; omega, hlt _ h1⟩

theorem Pair.drew (h : Pair B w wx b1 m1 b2 m2 q pg1 pg2 W1 W2 v) : Pair B w wx.drew b1 m1 b2 m2 q pg1 pg2 W1 W2 v := h.grow (Below.refl _ _).drew

theorem run_ixu (g len cap : Nat) (i : Nat) (hi : i < len) (w' : World) : (Instr.indexAt 62 (.slice (some ⟨g, 0, none⟩) len cap) (.int .i64 (i : Int))).run Try.prog w' = .ok (.pointer (some ⟨g, i, none⟩)) w' := by
  have hel : Try.prog.elem 62 = 35 := by kernel_rfl
  have hsz : (sizeOf 35).run Try.prog w' = .ok 1 w' := by kernel_rfl
  have hu : Try.prog.underlying 62 = some (.slice (Try.prog.elem 62)) := by kernel_rfl
  rw [run_indexAt_slice w' 62 _ len cap .i64 i hu, if_pos (by omega), hel, hsz]
  simp only [Result.andThen_ok, Int.toNat_natCast, Nat.mul_one]
  rw [Go.WideShapes.add_plain, Nat.zero_add]

theorem row_read {base n k : Nat} {X : Nat → Int} (h : wx.ownsRow base 35 1 v n (ansRow X n)) (hk : k < n) :
    ∃ g, v.ownBlock = some g ∧ wx.cell? ⟨g, k, none⟩ = some (.int .u64 (X k)) ∧ ∀ w', (Instr.indexAt 62 v (.int .i64 (k : Int))).run Try.prog w' = .ok (.pointer (some ⟨g, k, none⟩)) w' := by
  rcases h.2 with ⟨_, h0⟩ | ⟨g, cap, cur, rfl, hbase, hbk, h1, h2, h3, h4⟩
  · omega
  · refine ⟨g, rfl, ?_, fun w' => run_ixu g n cap k hk w'⟩
    have h5 : (cur.toList.take (n * 1))[k]? = some (.int .u64 (X k)) := by
      rw [h4]
      simp [ansRow, hk]
    rw [List.getElem?_take_of_lt (by omega)] at h5
    simp only [World.cell?, hbk]
    simpa using h5

set_option maxHeartbeats 4000000 in
set_option maxRecDepth 100000 in
theorem two_main (hpages : PagesSaid) (a0 : Option Addr) (b off len cap : Nat) (z : Nat → Opv) (qq : Int) (w : World) (hS : Script w a0 b off len cap z) (hlen : len ≤ 60) (hq1 : 0 ≤ qq) (hq2 : qq ≤ 2000) :
    Calls Try.prog 6 #[.int .i64 qq, .slice a0 len cap] w fun e w' => e = .returned (.bool true) ∧ Below w.heap.size w w' := by
  have hnew := new_ok qq w (by omega) (by omega)
  have HS : Aside (Script w a0 b off len cap z) := hS
  have hi : (Try.prog.info? 35).map (fun i => (i.zero, i.size, i.bytes)) = some (some (.int .u64 0), 1, 8) := by kernel_rfl
  obtain ⟨i0, hi1, hz0, hz1, hz2⟩ := info_parts hi
  have HI : Aside (Try.prog.info? 35 = some i0 ∧ i0.zero = some (.int .u64 0) ∧ i0.size = 1 ∧ i0.bytes = 8) := ⟨hi1, hz0, hz1, hz2⟩
  clear hS hi hi1 hz0 hz1 hz2
  go_enter Try.func6, Try.ntmps6
  go_wp2_with fail
  refine hnew.mono ?_
  rintro e w1 ⟨rfl, ha1, hb1⟩
  have hnew2 := new_ok qq w1 (by omega) (by omega)
  clear hnew
  go_wp2_with fail
  refine hnew2.mono ?_
  rintro e w2 ⟨rfl, ha2, hb2⟩
  have hf1 : ∀ k, foot (w.heap.size + 1) w.heap.size [] k → k = w.heap.size + 1 ∨ k = w.heap.size := fun k hk => by
    rcases hk with rfl | rfl | ⟨p, hp, rfl⟩
    · exact Or.inl rfl
    · exact Or.inr rfl
    · simp at hp
  have hf2 : ∀ k, foot (w1.heap.size + 1) w1.heap.size [] k → k = w1.heap.size + 1 ∨ k = w1.heap.size := fun k hk => by
    rcases hk with rfl | rfl | ⟨p, hp, rfl⟩
    · exact Or.inl rfl
    · exact Or.inr rfl
    · simp at hp
  have hlt1 : w.heap.size + 1 < w1.heap.size := ha1.foot_lt (Or.inl rfl)
  have HP : Pair w.heap.size w w2 (w.heap.size + 1) w.heap.size (w1.heap.size + 1) w1.heap.size qq [] [] (fun _ => 0) (fun _ => 0) (.slice none 0 0) := by
    refine ⟨ha1.stays fun k hk => hb2.block k (ha1.foot_lt hk), ha2, fun k h1 h2 => ?_, hb1.trans (hb2.mono hb1.size), fun k hk => ?_, fun k hk => ?_, Nat.le_trans hb1.size hb2.size, fun g hg => by cases hg⟩
    · have := hf1 k h1
      have := hf2 k h2
      omega
    · have := hf1 k hk
      omega
    · have := hf2 k hk
      omega
  clear hf1 hf2 ha1 hb1 ha2 hb2 hnew2
  go_wp2
  go_loopg [9, 10] len (fun g t9 t10 wx => ∃ (i : Nat) (pg : List (Int × Nat)) (W : Int → Int) (S : Nat → Seen) (X : Nat → Int), i + g = len ∧ t10 = .int .i64 i ∧ Pair w.heap.size w wx (w.heap.size + 1) w.heap.size (w1.heap.size + 1) w1.heap.size qq pg [] W (fun _ => 0) t9 ∧ wx.ownsRow w.heap.size 35 1 t9 i (ansRow X i) ∧ Aside (Hist qq z i S X ∧ S i = seen pg W))
  case atStart => exact ⟨0, [], fun _ => 0, fun _ => seen [] (fun _ => 0), fun _ => 0, by omega, rfl, HP, World.ownsRow_nil _ _ _ _, ⟨rfl, fun j hj => by omega⟩, rfl⟩
  case round =>
    obtain ⟨i, pg, W, S, X, hig, rfl, hP, hrow, HH⟩ := hrel
    by_cases hlt : i < len
    · have hix := HS.out.ix i hlt
      have hbl := HS.out.lt (by omega)
      have hop := (HS.out.cell i hlt).stays hP.bel hbl
      have hok := HS.out.ok i
      obtain ⟨c0, c1, c2, c3, c4⟩ := hop
      have hans := answer_any hP.a1 (z i) hok
      clear HP
      go_wp2_with fail
      refine hans.mono ?_
      rintro e w3 ⟨x, pg3, W3, rfl, hx, ha3, hs3⟩
      have hP3 := hP.first ha3 hs3
      have hrow3 := ownsRow_step hrow hs3 (fun g hg => (hP.row g hg).1)
      obtain ⟨hi1, hz0, hz1, hz2⟩ := HI.out
      have hb4 : Below w3.heap.size w3 (w3.alloc (.cells #[.int .u64 x] 35)) := (Below.refl _ _).alloc (Nat.le_refl _) _
      have hP4 := hP3.grow hb4
      have hsz3 := hP3.sz
      have HX : Aside _ := hx
      clear hx hans c0 c1 c2 c3 c4 hok hbl
      go_wp2_with (at_builtin; refine wpList_append_own_at _ rfl _ _ 62 rfl w.heap.size 35 i0 (.int .u64 0) 1 8 Try.underlying62 hi1 hz0 hz1 hz2 rfl (by decide) _ _ _ rfl (hrow3.alloc _) ⟨w3.heap.size, 0, none⟩ 1 1 [.int .u64 x] rfl rfl (cell_one_new _ _ _) (ints_oneCell .u64 [x]) (by unfold maxLen; omega) (by omega) (by simp; omega) ?_; intro v' w5 hown' hgrow hnil hloc)
      have hP5 := hP4.appended (fun g hg => (hrow3.lt g hg).1) hgrow hloc (fun g hg => (hown'.lt g hg).2)
      go_roundg (len - (i + 1))
      case measure => omega
      case rel =>
        refine ⟨i + 1, pg3, W3, _, _, by omega, by go_num, hP5, ?_, HH.out.1.snoc (x := x) (t := seen pg3 W3) ?_, ?_⟩
        · rw [ansRow_snoc]
          exact hown'
        · rw [HH.out.2]
          exact HX.out
        · exact if_neg (by omega)
    · have hpg := hpages _ _ _ _ _ _ hP.a2
      obtain rfl : i = len := by omega
      clear HP
      go_wp2_with fail
      refine hpg.mono ?_
      rintro e w3 ⟨a3, cap3, rfl, hb3, -⟩
      have hP3 := hP.grow hb3
      have hrow3 : w3.ownsRow w.heap.size 35 1 u9 i (ansRow X i) := ownsRow_step (bs := w.heap.size + 1) (bm := w.heap.size) (pg := pg) hrow (Step.of_below hb3) (fun g hg => (hP.row g hg).1)
      clear hrow hpg
      go_wp2
      go_loopg [11] i (fun g t wx => ∃ (k : Nat) (pg2 : List (Int × Nat)) (W2 : Int → Int), k + g = i ∧ t = .int .i64 k ∧ Pair w.heap.size w wx (w.heap.size + 1) w.heap.size (w1.heap.size + 1) w1.heap.size qq pg pg2 W W2 u9 ∧ wx.ownsRow w.heap.size 35 1 u9 i (ansRow X i) ∧ Aside (S k = seen pg2 W2))
      case atStart => exact ⟨0, [], fun _ => 0, by omega, rfl, hP3, hrow3, HH.out.1.start⟩
      case round =>
        obtain ⟨k, pg2, W2, hkg, rfl, hPk, hrowk, HSk⟩ := hrel
        clear hP hP3 hrow3 hb3
        by_cases hlt : k < i
        · have hix := HS.out.ix k hlt
          have hbl := HS.out.lt (by omega)
          have hop := (HS.out.cell k hlt).stays hPk.bel hbl
          have hok := HS.out.ok k
          obtain ⟨c0, c1, c2, c3, c4⟩ := hop
          obtain ⟨g, hg, hct, hixt⟩ := row_read hrowk hlt
          have hans : ∀ w', w'.heap = wr.heap → w'.os = wr.os → w'.tape = wr.tape → w'.output = wr.output → Calls Try.prog 25 #[.pointer (some ⟨w1.heap.size + 1, 0, none⟩), .agg #[.int .i64 (z k).d, .int .i64 (z k).a, .int .i64 (z k).b, .int .i64 (z k).n, .int .u64 (z k).x]] w' fun e w'' => ∃ pg' W', e = .returned (.int .u64 (X k)) ∧ w''.cell? ⟨g, k, none⟩ = some (.int .u64 (X k)) ∧ Aside (seen pg' W' = S (k + 1)) ∧ Pair w.heap.size w w'' (w.heap.size + 1) w.heap.size (w1.heap.size + 1) w1.heap.size qq pg pg' W W' u9 ∧ w''.ownsRow w.heap.size 35 1 u9 i (ansRow X i) := by
            intro w' e1 e2 e3 e4
            have har : Arena w' (w1.heap.size + 1) w1.heap.size qq pg2 W2 := hPk.a2.stays fun j _ => by rw [e1]
            refine (answer_any har (z k) hok).mono ?_
            rintro e w'' ⟨x, pg', W', rfl, hx, ha, hs⟩
            have hs' : Step (w1.heap.size + 1) w1.heap.size pg2 pg' wr w'' := Step.trans ⟨e2, e3, e4, by rw [e1]; exact Nat.le_refl _, fun j _ _ => by rw [e1], fun _ hj => Or.inl hj⟩ hs
            rw [← HSk.out] at hx
            obtain ⟨hxx, htt⟩ := ans_one hx (HH.out.1.step k hlt)
            have hrow2 := ownsRow_step hrowk hs' (fun g hg => (hPk.row g hg).2.1)
            refine ⟨pg', W', by rw [hxx], ?_, htt, hPk.second ha hs', hrow2⟩
            obtain ⟨g2, hg2, hct2, _⟩ := row_read hrow2 hlt
            rw [hg] at hg2
            cases hg2
            exact hct2
          go_wp2
          go_region_with (go_at_call 25; refine (hans _ ?_ ?_ ?_ ?_).mono ?_; rfl; rfl; rfl; rfl; rintro e w3 ⟨pg', W', rfl, hc3, HSS, hP3, hrow3⟩)
          all_goals
            go_wp2
            go_roundg (i - (k + 1))
            case measure => omega
            case rel => exact ⟨k + 1, pg', W', by omega, by go_num, by first | exact hP3 | exact hP3.drew | exact hP3.drew.drew, hrow3, HSS.out.symm⟩
        · obtain rfl : k = i := by omega
          have hln : pg.length = pg2.length := by
            have h1 := HH.out.2
            rw [HSk.out] at h1
            exact (congrArg Seen.n h1).symm
          have hpg1 := hpages _ _ _ _ _ _ hPk.a1
          have HL : Aside _ := hln
          clear hln
          go_wp2_with fail
          refine hpg1.mono ?_
          rintro e w4 ⟨a4, cap4, rfl, hb4, -⟩
          have hP4 := hPk.grow hb4
          have hpg2 := hpages _ _ _ _ _ _ hP4.a2
          go_wp2_with fail
          refine hpg2.mono ?_
          rintro e w5 ⟨a5, cap5, rfl, hb5, -⟩
          have hP5 := hP4.grow hb5
          have haw := awake_any w5
          have hln := HL.out
          rw [hln]
          clear hln HL
          go_wp2_with (go_at_call 8; refine haw.mono ?_; rintro e w6 ⟨rfl, hb6⟩)
          go_ret
          exact ⟨rfl, hP5.bel.trans (hb6.mono hP5.sz)⟩


set_option maxRecDepth 100000 in
theorem two_any (hpages : PagesSaid) (a0 : Option Addr) (b off len cap : Nat) (z : Nat → Opv) (qq : Int) (w : World) (hS : Script w a0 b off len cap z) (hmax : len ≤ maxLen) :
    Calls Try.prog 6 #[.int .i64 qq, .slice a0 len cap] w fun e w' => e = .returned (.bool true) ∧ Below w.heap.size w w' := by
  have haw := awake_any w
  unfold maxLen at hmax
  by_cases h1 : qq < 0
  · go_enter Try.func6, Try.ntmps6
    go_wp2_with (go_at_call 8; refine haw.mono ?_; rintro e w' ⟨rfl, hb⟩)
    go_ret
    exact ⟨rfl, hb⟩
  by_cases h2 : 2000 < qq
  · go_enter Try.func6, Try.ntmps6
    go_wp2_with (go_at_call 8; refine haw.mono ?_; rintro e w' ⟨rfl, hb⟩)
    go_ret
    exact ⟨rfl, hb⟩
  by_cases hl : 60 < len
  · go_enter Try.func6, Try.ntmps6
    go_wp2_with (go_at_call 8; refine haw.mono ?_; rintro e w' ⟨rfl, hb⟩)
    go_ret
    exact ⟨rfl, hb⟩
  exact two_main hpages a0 b off len cap z qq w hS (by omega) (by omega) (by omega)

end Sl
end Go.Proofs.Ytclbaepgodeoiaa
