/-
  The walk of the statement's one call on both.
-/
import Derived.Test.YtclbaepgodeoiaaRefPairs
import Derived.Deep.RegionHeld3
namespace Go.Proofs.Ytclbaepgodeoiaa
open Go.RowKit Go.Maps
namespace Sl
variable {w : World} {bs bm br : Nat} {q : Int} {pg : List (Int × Nat)} {a : Option Addr} {cap : Nat} {W : Int → Int}

theorem box_mix (h : Mix w bs bm br q pg W a cap (nums pg) W) (o : Opv) : MixO (w.alloc (opBlk o)) bs bm br q w.heap.size o pg W a cap (nums pg) W := by
  have hb : Below w.heap.size w (w.alloc (opBlk o)) := (Below.refl _ _).alloc (Nat.le_refl _) _
  refine ⟨h.below hb, (MapKept.heap_alloc w _).1, fun hf => ?_, fun e => ?_⟩
  · have := h.ar.foot_lt hf
    omega
  · have := h.rf.lt
    omega

theorem Fin.from_drew {w' : World} {o : Opv} (h : Fin bs bm br q pg (w.alloc (opBlk o)).drew w') : Fin bs bm br q pg w w' := by
  obtain ⟨pg', W', a', cap', h1, h2⟩ := h
  exact ⟨pg', W', a', cap', h1, (PStep.of_below ((Below.refl _ _).alloc (Nat.le_refl _) _).drew).trans h2⟩

theorem Fin.from_alloc {w' : World} {o : Opv} (h : Fin bs bm br q pg (w.alloc (opBlk o)) w') : Fin bs bm br q pg w w' := by
  obtain ⟨pg', W', a', cap', h1, h2⟩ := h
  exact ⟨pg', W', a', cap', h1, (PStep.of_below ((Below.refl _ _).alloc (Nat.le_refl _) _)).trans h2⟩

theorem play_read {w' : World} {ob : Nat} {o : Opv} (h : MixO w' bs bm br q ob o pg W a cap (nums pg) W) (x : Int) :
    Calls Try.prog 28 #[.agg #[.int .i64 q, .slice a (nums pg).length cap], .int .i64 x] w' fun e w'' => e = .returned (.tuple #[.int .u64 (readV pg W x), .int .i64 (readE pg x)]) ∧ Fin bs bm br q pg w' w'' ∧ (w''.cell? ⟨ob, 1, none⟩ = some (.int .i64 o.a) ∧ w''.cell? ⟨br, 0, none⟩ = some (.int .i64 q) ∧ w''.cell? ⟨br, 1, none⟩ = some (.slice a (nums pg).length cap)) := by
  obtain ⟨g, hrow, _⟩ := ref_form h.mix.rf
  refine (rRead_any hrow q x h.mix.rf.len).mono ?_
  rintro e w'' ⟨rfl, hb⟩
  have h2 := h.below hb
  exact ⟨by rw [rdE_nums, rdV_nums], ⟨pg, W, a, cap, h2.mix, PStep.of_below hb⟩, (op_c h2.blk).1, h2.mix.rf.c0, h2.mix.rf.c1⟩

set_option maxHeartbeats 2000000 in
set_option maxRecDepth 100000 in
theorem play_any (h : Mix w bs bm br q pg W a cap (nums pg) W) (hq : q ≤ 2000) (o : Opv) (hok : OpOk o) :
    Calls Try.prog 11 #[.pointer (some ⟨bs, 0, none⟩), .pointer (some ⟨br, 0, none⟩), .agg #[.int .i64 o.d, .int .i64 o.a, .int .i64 o.b, .int .i64 o.n, .int .u64 o.x]] w fun e w' => e = .returned (.bool true) ∧ Fin bs bm br q pg w w' := by
  have hbel : Below w.heap.size w (w.alloc (opBlk o)) := (Below.refl _ _).alloc (Nat.le_refl _) _
  have HM : Aside _ := box_mix h o
  have hlt := h.rf.lt
  by_cases h1 : o.d = 1
  · have hd : (o.d == 1) = true := by simp [h1]
    have hg := grant_s HM.out hq o.a
    clear h1
    go_enter Try.func11, Try.ntmps11
    go_wp2_with fail
    refine hg.mono ?_
    rintro e w2 ⟨r, c, rfl, HG, c0, c1, c2, c3, c4⟩
    have hg2 := grant_r HG
    clear hg
    go_wp2_with fail
    refine hg2.mono ?_
    rintro e w3 ⟨rfl, HF⟩
    go_wp2
    go_ret
    exact ⟨rfl, HF.from_alloc⟩
  have hd1 : (o.d == 1) = false := by simpa using h1
  by_cases h2 : o.d = 2
  · have hd : (o.d == 2) = true := by simp [h2]
    have HP := pair_rel (bs := bs) (bm := bm) (br := br) (q := q) (ob := w.heap.size) (o := o) (pg := pg) (W := W) o.b o.a hok.b
    have hs1 := fun w' h => HP.s1 (w := w') (a := a) (cap := cap) h
    have hr1 := fun w' h => HP.r1 (w := w') (a := a) (cap := cap) h
    have hs2 := fun w' h => HP.s2 (w := (w.alloc (opBlk o)).drew) (w' := w') h
    have hr2 := fun w' h => HP.r2 (w := (w.alloc (opBlk o)).drew) (w' := w') (a := a) (cap := cap) h
    clear h1 h2 HP h
    go_enter Try.func11, Try.ntmps11
    go_wp2
    go_region_held3 (fun w' => w'.cell? ⟨w.heap.size, 1, none⟩ = some (.int .i64 o.a) ∧ w'.cell? ⟨w.heap.size, 2, none⟩ = some (.int .i64 o.b) ∧ w'.cell? ⟨w.heap.size, 3, none⟩ = some (.int .i64 o.n) ∧ w'.cell? ⟨w.heap.size, 4, none⟩ = some (.int .u64 o.x)) (first | exact HC | go_keep) (first
      | (go_at_call 20; have _t := HR; refine (hs2 _ ?_).mono ?_; exact HR; rintro e w3 ⟨rfl, HF, HC⟩)
      | (go_at_call 20; refine (hs1 _ ?_).mono ?_; exact HM.out.drew; rintro e w2 ⟨rfl, HS, HC⟩)
      | (go_at_call 27; have _t := HS; refine (hr2 _ ?_).mono ?_; exact HS; rintro e w3 ⟨rfl, HF, HC⟩)
      | (go_at_call 27; refine (hr1 _ ?_).mono ?_; exact HM.out.drew; rintro e w2 ⟨rfl, HR, HC⟩))
    all_goals
      go_wp2
      go_ret
      exact ⟨rfl, HF.from_drew⟩
  have hd2 : (o.d == 2) = false := by simpa using h2
  by_cases h3 : o.d = 3
  · have hd : (o.d == 3) = true := by simp [h3]
    have hrd := read_any HM.out.mix.ar o.a
    have hr1 := fun w' h => play_read (w' := w') (bs := bs) (bm := bm) (br := br) (q := q) (ob := w.heap.size) (o := o) (pg := pg) (W := W) (a := a) (cap := cap) h o.a
    have c0 := h.rf.c0
    have c1 := h.rf.c1
    clear h1 h2 h3 h
    go_enter Try.func11, Try.ntmps11
    go_wp2_with fail
    refine hrd.mono ?_
    rintro e w2 ⟨rfl, rfl⟩
    have k1 := (op_c HM.out.blk).1
    have k2 := HM.out.mix.rf.c0
    have k3 := HM.out.mix.rf.c1
    go_wp2
    go_region_held3 (fun w' => w'.cell? ⟨w.heap.size, 1, none⟩ = some (.int .i64 o.a) ∧ w'.cell? ⟨br, 0, none⟩ = some (.int .i64 q) ∧ w'.cell? ⟨br, 1, none⟩ = some (.slice a (nums pg).length cap)) (first | exact HC | go_keep) (first
      | (go_at_call 28; refine (hr1 _ ?_).mono ?_; exact HM.out.drew; rintro e w3 ⟨rfl, HF, HC⟩))
    all_goals
      go_wp2
      go_ret
      exact ⟨rfl, HF.from_drew⟩
  have hd3 : (o.d == 3) = false := by simpa using h3
  by_cases h4 : o.d = 4
  · have hd : (o.d == 4) = true := by simp [h4]
    have HP := pair_write (bs := bs) (bm := bm) (br := br) (q := q) (ob := w.heap.size) (o := o) (pg := pg) (W := W) o.a o.x hok.x
    have hs1 := fun w' h => HP.s1 (w := w') (a := a) (cap := cap) h
    have hr1 := fun w' h => HP.r1 (w := w') (a := a) (cap := cap) h
    have hs2 := fun w' h => HP.s2 (w := (w.alloc (opBlk o)).drew) (w' := w') h
    have hr2 := fun w' h => HP.r2 (w := (w.alloc (opBlk o)).drew) (w' := w') (a := a) (cap := cap) h
    clear h1 h2 h3 h4 HP h
    go_enter Try.func11, Try.ntmps11
    go_wp2
    go_region_held3 (fun w' => w'.cell? ⟨w.heap.size, 1, none⟩ = some (.int .i64 o.a) ∧ w'.cell? ⟨w.heap.size, 2, none⟩ = some (.int .i64 o.b) ∧ w'.cell? ⟨w.heap.size, 3, none⟩ = some (.int .i64 o.n) ∧ w'.cell? ⟨w.heap.size, 4, none⟩ = some (.int .u64 o.x)) (first | exact HC | go_keep) (first
      | (go_at_call 21; have _t := HR; refine (hs2 _ ?_).mono ?_; exact HR; rintro e w3 ⟨rfl, HF, HC⟩)
      | (go_at_call 21; refine (hs1 _ ?_).mono ?_; exact HM.out.drew; rintro e w2 ⟨rfl, HS, HC⟩)
      | (go_at_call 29; have _t := HS; refine (hr2 _ ?_).mono ?_; exact HS; rintro e w3 ⟨rfl, HF, HC⟩)
      | (go_at_call 29; refine (hr1 _ ?_).mono ?_; exact HM.out.drew; rintro e w2 ⟨rfl, HR, HC⟩))
    all_goals
      go_wp2
      go_ret
      exact ⟨rfl, HF.from_drew⟩
  have hd4 : (o.d == 4) = false := by simpa using h4
  by_cases h5 : o.d = 5
  · have hd : (o.d == 5) = true := by simp [h5]
    by_cases hn1 : 300 < o.n
    · by_cases hn2 : o.n ≤ 262144
      · clear hok
        have HP := pair_move (bs := bs) (bm := bm) (br := br) (q := q) (ob := w.heap.size) (o := o) (pg := pg) (W := W) o.a o.b 300
        have hs1 := fun w' h => HP.s1 (w := w') (a := a) (cap := cap) h
        have hr1 := fun w' h => HP.r1 (w := w') (a := a) (cap := cap) h
        have hs2 := fun w' h => HP.s2 (w := (w.alloc (opBlk o)).drew) (w' := w') h
        have hr2 := fun w' h => HP.r2 (w := (w.alloc (opBlk o)).drew) (w' := w') (a := a) (cap := cap) h
        clear h1 h2 h3 h4 h5 HP h
        go_enter Try.func11, Try.ntmps11
        go_wp2
        go_region_held3 (fun w' => w'.cell? ⟨w.heap.size, 1, none⟩ = some (.int .i64 o.a) ∧ w'.cell? ⟨w.heap.size, 2, none⟩ = some (.int .i64 o.b) ∧ w'.cell? ⟨w.heap.size, 3, none⟩ = some (.int .i64 o.n) ∧ w'.cell? ⟨w.heap.size, 4, none⟩ = some (.int .u64 o.x)) (first | exact HC | go_keep) (first
          | (go_at_call 22; have _t := HR; refine (hs2 _ ?_).mono ?_; exact HR; rintro e w3 ⟨rfl, HF, HC⟩)
          | (go_at_call 22; refine (hs1 _ ?_).mono ?_; exact HM.out.drew; rintro e w2 ⟨rfl, HS, HC⟩)
          | (go_at_call 30; have _t := HS; refine (hr2 _ ?_).mono ?_; exact HS; rintro e w3 ⟨rfl, HF, HC⟩)
          | (go_at_call 30; refine (hr1 _ ?_).mono ?_; exact HM.out.drew; rintro e w2 ⟨rfl, HR, HC⟩))
        all_goals
          go_wp2
          go_ret
          exact ⟨rfl, HF.from_drew⟩
      · clear hok
        have HP := pair_move (bs := bs) (bm := bm) (br := br) (q := q) (ob := w.heap.size) (o := o) (pg := pg) (W := W) o.a o.b o.n
        have hs1 := fun w' h => HP.s1 (w := w') (a := a) (cap := cap) h
        have hr1 := fun w' h => HP.r1 (w := w') (a := a) (cap := cap) h
        have hs2 := fun w' h => HP.s2 (w := (w.alloc (opBlk o)).drew) (w' := w') h
        have hr2 := fun w' h => HP.r2 (w := (w.alloc (opBlk o)).drew) (w' := w') (a := a) (cap := cap) h
        clear h1 h2 h3 h4 h5 HP h
        go_enter Try.func11, Try.ntmps11
        go_wp2
        go_region_held3 (fun w' => w'.cell? ⟨w.heap.size, 1, none⟩ = some (.int .i64 o.a) ∧ w'.cell? ⟨w.heap.size, 2, none⟩ = some (.int .i64 o.b) ∧ w'.cell? ⟨w.heap.size, 3, none⟩ = some (.int .i64 o.n) ∧ w'.cell? ⟨w.heap.size, 4, none⟩ = some (.int .u64 o.x)) (first | exact HC | go_keep) (first
          | (go_at_call 22; have _t := HR; refine (hs2 _ ?_).mono ?_; exact HR; rintro e w3 ⟨rfl, HF, HC⟩)
          | (go_at_call 22; refine (hs1 _ ?_).mono ?_; exact HM.out.drew; rintro e w2 ⟨rfl, HS, HC⟩)
          | (go_at_call 30; have _t := HS; refine (hr2 _ ?_).mono ?_; exact HS; rintro e w3 ⟨rfl, HF, HC⟩)
          | (go_at_call 30; refine (hr1 _ ?_).mono ?_; exact HM.out.drew; rintro e w2 ⟨rfl, HR, HC⟩))
        all_goals
          go_wp2
          go_ret
          exact ⟨rfl, HF.from_drew⟩
    · clear hok
      have HP := pair_move (bs := bs) (bm := bm) (br := br) (q := q) (ob := w.heap.size) (o := o) (pg := pg) (W := W) o.a o.b o.n
      have hs1 := fun w' h => HP.s1 (w := w') (a := a) (cap := cap) h
      have hr1 := fun w' h => HP.r1 (w := w') (a := a) (cap := cap) h
      have hs2 := fun w' h => HP.s2 (w := (w.alloc (opBlk o)).drew) (w' := w') h
      have hr2 := fun w' h => HP.r2 (w := (w.alloc (opBlk o)).drew) (w' := w') (a := a) (cap := cap) h
      clear h1 h2 h3 h4 h5 HP h
      go_enter Try.func11, Try.ntmps11
      go_wp2
      go_region_held3 (fun w' => w'.cell? ⟨w.heap.size, 1, none⟩ = some (.int .i64 o.a) ∧ w'.cell? ⟨w.heap.size, 2, none⟩ = some (.int .i64 o.b) ∧ w'.cell? ⟨w.heap.size, 3, none⟩ = some (.int .i64 o.n) ∧ w'.cell? ⟨w.heap.size, 4, none⟩ = some (.int .u64 o.x)) (first | exact HC | go_keep) (first
        | (go_at_call 22; have _t := HR; refine (hs2 _ ?_).mono ?_; exact HR; rintro e w3 ⟨rfl, HF, HC⟩)
        | (go_at_call 22; refine (hs1 _ ?_).mono ?_; exact HM.out.drew; rintro e w2 ⟨rfl, HS, HC⟩)
        | (go_at_call 30; have _t := HS; refine (hr2 _ ?_).mono ?_; exact HS; rintro e w3 ⟨rfl, HF, HC⟩)
        | (go_at_call 30; refine (hr1 _ ?_).mono ?_; exact HM.out.drew; rintro e w2 ⟨rfl, HR, HC⟩))
      all_goals
        go_wp2
        go_ret
        exact ⟨rfl, HF.from_drew⟩
  have hd5 : (o.d == 5) = false := by simpa using h5
  by_cases h6 : o.d = 6
  · have hd : (o.d == 6) = true := by simp [h6]
    have HP := pair_claim (bs := bs) (bm := bm) (br := br) (q := q) (ob := w.heap.size) (o := o) (pg := pg) (W := W) HM.out.mix.ar o.a hok.a
    have hs1 := fun w' h => HP.s1 (w := w') (a := a) (cap := cap) h
    have hr1 := fun w' h => HP.r1 (w := w') (a := a) (cap := cap) h
    have hs2 := fun w' h => HP.s2 (w := (w.alloc (opBlk o)).drew) (w' := w') h
    have hr2 := fun w' h => HP.r2 (w := (w.alloc (opBlk o)).drew) (w' := w') (a := a) (cap := cap) h
    clear h1 h2 h3 h4 h5 h6 HP h
    go_enter Try.func11, Try.ntmps11
    go_wp2
    go_region_held3 (fun w' => w'.cell? ⟨w.heap.size, 1, none⟩ = some (.int .i64 o.a) ∧ w'.cell? ⟨w.heap.size, 2, none⟩ = some (.int .i64 o.b) ∧ w'.cell? ⟨w.heap.size, 3, none⟩ = some (.int .i64 o.n) ∧ w'.cell? ⟨w.heap.size, 4, none⟩ = some (.int .u64 o.x)) (first | exact HC | go_keep) (first
      | (go_at_call 23; have _t := HR; refine (hs2 _ ?_).mono ?_; exact HR; rintro e w3 ⟨rfl, HF, HC⟩)
      | (go_at_call 23; refine (hs1 _ ?_).mono ?_; exact HM.out.drew; rintro e w2 ⟨rfl, HS, HC⟩)
      | (go_at_call 31; have _t := HS; refine (hr2 _ ?_).mono ?_; exact HS; rintro e w3 ⟨rfl, HF, HC⟩)
      | (go_at_call 31; refine (hr1 _ ?_).mono ?_; exact HM.out.drew; rintro e w2 ⟨rfl, HR, HC⟩))
    all_goals
      go_wp2
      go_ret
      exact ⟨rfl, HF.from_drew⟩
  have hd6 : (o.d == 6) = false := by simpa using h6
  have HF : Fin bs bm br q pg w (w.alloc (opBlk o)) := ⟨pg, W, a, cap, h.below hbel, PStep.of_below hbel⟩
  clear h1 h2 h3 h4 h5 h6 h
  go_enter Try.func11, Try.ntmps11
  go_wp2
  go_ret
  exact ⟨rfl, HF⟩

end Sl
end Go.Proofs.Ytclbaepgodeoiaa
