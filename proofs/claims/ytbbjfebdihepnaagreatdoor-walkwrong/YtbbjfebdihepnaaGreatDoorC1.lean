/-
  The classes and the pages of blocks, with no program: what Size, Slots, Place, Of and Pages tell.
-/
import Derived.Below
import Derived.Test.YtbbjfebdihepnaaGreatDoorProg
import Derived.RangeFuncNested
import Derived.RangeFuncBound
import Derived.RangeFuncCalls
import Derived.RangeFuncLeaves
import Derived.Shelf.Abstract
import Derived.Shelf.RegionOpen
import Derived.WalkKit
import Derived.OwnWalkIn
import Derived.TacticsInMore
import Derived.LoopNIn
import Derived.LoopIn
import Derived.Handy
import Derived.WalkSpells
namespace Go.Proofs.YtbbjfebdihepnaaGreatDoor
namespace Cl

/-- The classes, each with its size. -/
def szs : List (Int × Int) := [(0, 2), (1, 3), (2, 4), (3, 6), (4, 9), (5, 13), (6, 19), (7, 28)]

/-- The first one of the classes of which f tells yes. -/
def hit (f : Int × Int → Bool) (l : List (Int × Int)) : Option (Int × Int) := l.find? f

theorem hit_on {f : Int × Int → Bool} {pre : List (Int × Int)} {x : Int × Int} (h : hit f pre = none) (hx : f x = true) : hit f (pre ++ [x]) = some x := by
  unfold hit at *
  rw [List.find?_append, h]
  simp [hx]
theorem hit_off {f : Int × Int → Bool} {pre : List (Int × Int)} {x : Int × Int} (h : hit f pre = none) (hx : f x = false) : hit f (pre ++ [x]) = none := by
  unfold hit at *
  rw [List.find?_append, h]
  simp [hx]
theorem hit_all {f : Int × Int → Bool} {pre : List (Int × Int)} {x : Int × Int} (hp : pre <+: szs) (h : hit f pre = some x) : hit f szs = some x := by
  obtain ⟨t, ht⟩ := hp
  unfold hit at *
  rw [← ht, List.find?_append, h]
  rfl

def isC (c : Int) (p : Int × Int) : Bool := p.1 == c
def fits (n : Int) (p : Int × Int) : Bool := decide (n ≤ p.2)

/-- A class. -/
def C (c : Int) : Prop := 0 ≤ c ∧ c ≤ 7

def sizI (c : Int) : Int := ((hit (isC c) szs).getD (0, 0)).2
def errC (c : Int) : Int := if (hit (isC c) szs).isSome then 0 else 2
def sloI (c : Int) : Int := if (hit (isC c) szs).isSome then 62 / sizI c else 0

/-- Words that a block may have. -/
def Wd (n : Int) : Prop := 1 ≤ n ∧ n ≤ 4000
def clsI (n : Int) : Int := if 1 ≤ n ∧ n ≤ 4000 then ((hit (fits n) szs).getD (0, 0)).1 else 0
def smaI (n : Int) : Bool := decide (1 ≤ n) && decide (n ≤ 4000) && (hit (fits n) szs).isSome
def errW (n : Int) : Int := if 1 ≤ n ∧ n ≤ 4000 then 0 else 2
def pagI (n : Int) : Int := if 1 ≤ n ∧ n ≤ 4000 then (n + 65) / 64 else 0

theorem siz_cases (c : Int) : (c = 0 ∧ sizI c = 2 ∧ errC c = 0 ∧ sloI c = 31) ∨ (c = 1 ∧ sizI c = 3 ∧ errC c = 0 ∧ sloI c = 20) ∨ (c = 2 ∧ sizI c = 4 ∧ errC c = 0 ∧ sloI c = 15) ∨ (c = 3 ∧ sizI c = 6 ∧ errC c = 0 ∧ sloI c = 10) ∨ (c = 4 ∧ sizI c = 9 ∧ errC c = 0 ∧ sloI c = 6) ∨ (c = 5 ∧ sizI c = 13 ∧ errC c = 0 ∧ sloI c = 4) ∨ (c = 6 ∧ sizI c = 19 ∧ errC c = 0 ∧ sloI c = 3) ∨ (c = 7 ∧ sizI c = 28 ∧ errC c = 0 ∧ sloI c = 2) ∨ (¬ C c ∧ sizI c = 0 ∧ errC c = 2 ∧ sloI c = 0) := by
  by_cases h : C c
  · have h0 := h.1
    have h1 := h.2
    have : c = 0 ∨ c = 1 ∨ c = 2 ∨ c = 3 ∨ c = 4 ∨ c = 5 ∨ c = 6 ∨ c = 7 := by omega
    rcases this with rfl | rfl | rfl | rfl | rfl | rfl | rfl | rfl <;> (unfold C; decide)
  · have hh : hit (isC c) szs = none := by
      unfold hit
      rw [List.find?_eq_none]
      intro p hp
      simp only [szs, List.mem_cons, List.not_mem_nil, or_false] at hp
      unfold C at h
      unfold isC
      rcases hp with rfl | rfl | rfl | rfl | rfl | rfl | rfl | rfl <;> simp only [beq_iff_eq] <;> omega
    refine .inr (.inr (.inr (.inr (.inr (.inr (.inr (.inr ⟨h, ?_, ?_, ?_⟩)))))))
    · unfold sizI
      rw [hh]
      rfl
    · unfold errC
      rw [hh]
      rfl
    · unfold sloI
      rw [hh]
      rfl

theorem find_cons_no {n c s : Int} {l : List (Int × Int)} (h : s < n) : hit (fits n) ((c, s) :: l) = hit (fits n) l := by
  unfold hit
  rw [List.find?_cons_of_neg]
  simp [fits]
  omega
theorem find_cons_yes {n c s : Int} {l : List (Int × Int)} (h : n ≤ s) : hit (fits n) ((c, s) :: l) = some (c, s) := by
  unfold hit
  rw [List.find?_cons_of_pos]
  simp [fits]
  omega

theorem of_small {n c s : Int} (h : Wd n) (hh : hit (fits n) szs = some (c, s)) : clsI n = c ∧ smaI n = true := by
  constructor
  · unfold clsI
    rw [if_pos (show 1 ≤ n ∧ n ≤ 4000 from h), hh]
    rfl
  · unfold smaI
    rw [hh, decide_eq_true h.1, decide_eq_true h.2]
    rfl
theorem of_large {n : Int} (hh : hit (fits n) szs = none) : clsI n = 0 ∧ smaI n = false := by
  constructor
  · unfold clsI
    rw [hh]
    split <;> rfl
  · unfold smaI
    rw [hh]
    simp

theorem errW_in {n : Int} (h : Wd n) : errW n = 0 := if_pos h
theorem errW_out {n : Int} (h : ¬ Wd n) : errW n = 2 := if_neg h
theorem pagI_in {n : Int} (h : Wd n) : pagI n = (n + 65) / 64 := if_pos h
theorem pagI_out {n : Int} (h : ¬ Wd n) : pagI n = 0 := if_neg h
theorem clsI_out {n : Int} (h : ¬ Wd n) : clsI n = 0 := if_neg h
theorem smaI_out {n : Int} (h : ¬ Wd n) : smaI n = false := by
  unfold smaI
  unfold Wd at h
  by_cases h0 : 1 ≤ n
  · have : ¬ n ≤ 4000 := by omega
    simp [this]
  · simp [h0]

/-- What Of tells of words that a block may have. -/
theorem of_cases (n : Int) (h : Wd n) : (n ≤ 2 ∧ clsI n = 0 ∧ smaI n = true) ∨ (2 < n ∧ n ≤ 3 ∧ clsI n = 1 ∧ smaI n = true) ∨ (3 < n ∧ n ≤ 4 ∧ clsI n = 2 ∧ smaI n = true) ∨ (4 < n ∧ n ≤ 6 ∧ clsI n = 3 ∧ smaI n = true) ∨ (6 < n ∧ n ≤ 9 ∧ clsI n = 4 ∧ smaI n = true) ∨ (9 < n ∧ n ≤ 13 ∧ clsI n = 5 ∧ smaI n = true) ∨ (13 < n ∧ n ≤ 19 ∧ clsI n = 6 ∧ smaI n = true) ∨ (19 < n ∧ n ≤ 28 ∧ clsI n = 7 ∧ smaI n = true) ∨ (28 < n ∧ clsI n = 0 ∧ smaI n = false) := by
  by_cases h0 : n ≤ 2
  · exact .inl ⟨h0, of_small h (find_cons_yes h0)⟩
  refine .inr ?_
  by_cases h1 : n ≤ 3
  · exact .inl ⟨by omega, h1, of_small h (s := 3) (by unfold szs; rw [find_cons_no (by omega), find_cons_yes (by omega)])⟩
  refine .inr ?_
  by_cases h2 : n ≤ 4
  · exact .inl ⟨by omega, h2, of_small h (s := 4) (by unfold szs; rw [find_cons_no (by omega), find_cons_no (by omega), find_cons_yes (by omega)])⟩
  refine .inr ?_
  by_cases h3 : n ≤ 6
  · exact .inl ⟨by omega, h3, of_small h (s := 6) (by unfold szs; rw [find_cons_no (by omega), find_cons_no (by omega), find_cons_no (by omega), find_cons_yes (by omega)])⟩
  refine .inr ?_
  by_cases h4 : n ≤ 9
  · exact .inl ⟨by omega, h4, of_small h (s := 9) (by unfold szs; rw [find_cons_no (by omega), find_cons_no (by omega), find_cons_no (by omega), find_cons_no (by omega), find_cons_yes (by omega)])⟩
  refine .inr ?_
  by_cases h5 : n ≤ 13
  · exact .inl ⟨by omega, h5, of_small h (s := 13) (by unfold szs; rw [find_cons_no (by omega), find_cons_no (by omega), find_cons_no (by omega), find_cons_no (by omega), find_cons_no (by omega), find_cons_yes (by omega)])⟩
  refine .inr ?_
  by_cases h6 : n ≤ 19
  · exact .inl ⟨by omega, h6, of_small h (s := 19) (by unfold szs; rw [find_cons_no (by omega), find_cons_no (by omega), find_cons_no (by omega), find_cons_no (by omega), find_cons_no (by omega), find_cons_no (by omega), find_cons_yes (by omega)])⟩
  refine .inr ?_
  by_cases h7 : n ≤ 28
  · exact .inl ⟨by omega, h7, of_small h (s := 28) (by unfold szs; rw [find_cons_no (by omega), find_cons_no (by omega), find_cons_no (by omega), find_cons_no (by omega), find_cons_no (by omega), find_cons_no (by omega), find_cons_no (by omega), find_cons_yes (by omega)])⟩
  · exact .inr ⟨by omega, of_large (by unfold szs; rw [find_cons_no (by omega), find_cons_no (by omega), find_cons_no (by omega), find_cons_no (by omega), find_cons_no (by omega), find_cons_no (by omega), find_cons_no (by omega), find_cons_no (by omega)]; rfl)⟩

end Cl
end Go.Proofs.YtbbjfebdihepnaaGreatDoor

/-
  The iterator over the classes: each with its size, one behind the other, until a round says no more.
-/
namespace Go.Proofs.YtbbjfebdihepnaaGreatDoor
open Go.RowKit Go.Shelf
attribute [local go_sem] Oper.semAt_some
namespace Cl

abbrev encs (p : Int × Int) : Array Value := #[.int .i64 p.1, .int .i64 p.2]

set_option maxRecDepth 100000 in
set_option maxHeartbeats 2000000 in
theorem sizes_stops (n : Nat) (hn : 1 ≤ n) (w : World) : SeqStopsK Fence.wide n Tryz.prog 152 #[] encs (fun _ _ => True) (fun xs => xs = szs) (fun pre => pre <+: szs) 8 w := fun l J Jx W _ _ _ hY h0 => by
  refine callsIn_of_wp Tryz.func152 rfl trivial ?_ rfl
  simp only [Tryz.ntmps152, List.size_toArray, List.length_cons, List.length_nil, Nat.reduceAdd, Nat.reduceSub, Array.replicate_succ, Array.replicate_zero, List.push_toArray, List.append_toArray, List.nil_append, List.cons_append]
  gi_wp2
  gi_loopw [2, 3] (fun c s wr => ∃ k : Nat, k ≤ 8 ∧ c = .int .i64 (k : Int) ∧ s = .int .i64 (([2, 3, 4, 6, 9, 13, 19, 28, 42] : List Int).getD k 0) ∧ J (szs.take k) wr) (fun c _ _ => 8 - (intOf c).toNat)
  case atStart =>
    exact ⟨0, by omega, rfl, rfl, h0⟩
  case round =>
    obtain ⟨k, hk, rfl, rfl, hJ⟩ := hrel
    have hc : k = 0 ∨ k = 1 ∨ k = 2 ∨ k = 3 ∨ k = 4 ∨ k = 5 ∨ k = 6 ∨ k = 7 ∨ k = 8 := by omega
    clear hk
    rcases hc with rfl | rfl | rfl | rfl | rfl | rfl | rfl | rfl | rfl
    case inr.inr.inr.inr.inr.inr.inr.inr =>
      gi_wp2
      go_end0
      exact ⟨⟨_, rfl⟩, .inl ⟨_, rfl, hJ⟩⟩
    · obtain ⟨fn, tmps, assign, body, hy, hR⟩ := hY _ (0, 2) wr hJ (by decide)
      dsimp only [encs] at hy
      gi_wp2
      refine hR.mono ?_
      rintro e W3 (⟨rfl, hJ3, _⟩ | ⟨rfl, hJx3⟩)
      · gi_wp2
        go_roundw
        case rel => exact ⟨1, by omega, rfl, rfl, hJ3⟩
        case measure => simp [intOf]
      · gi_wp2
        refine bodyPost_ret (results_none rfl _ _ _) rfl ?_
        exact ⟨⟨_, rfl⟩, .inr ⟨_, by decide, hJx3⟩⟩
    · obtain ⟨fn, tmps, assign, body, hy, hR⟩ := hY _ (1, 3) wr hJ (by decide)
      dsimp only [encs] at hy
      gi_wp2
      refine hR.mono ?_
      rintro e W3 (⟨rfl, hJ3, _⟩ | ⟨rfl, hJx3⟩)
      · gi_wp2
        go_roundw
        case rel => exact ⟨2, by omega, rfl, rfl, hJ3⟩
        case measure => simp [intOf]
      · gi_wp2
        refine bodyPost_ret (results_none rfl _ _ _) rfl ?_
        exact ⟨⟨_, rfl⟩, .inr ⟨_, by decide, hJx3⟩⟩
    · obtain ⟨fn, tmps, assign, body, hy, hR⟩ := hY _ (2, 4) wr hJ (by decide)
      dsimp only [encs] at hy
      gi_wp2
      refine hR.mono ?_
      rintro e W3 (⟨rfl, hJ3, _⟩ | ⟨rfl, hJx3⟩)
      · gi_wp2
        go_roundw
        case rel => exact ⟨3, by omega, rfl, rfl, hJ3⟩
        case measure => simp [intOf]
      · gi_wp2
        refine bodyPost_ret (results_none rfl _ _ _) rfl ?_
        exact ⟨⟨_, rfl⟩, .inr ⟨_, by decide, hJx3⟩⟩
    · obtain ⟨fn, tmps, assign, body, hy, hR⟩ := hY _ (3, 6) wr hJ (by decide)
      dsimp only [encs] at hy
      gi_wp2
      refine hR.mono ?_
      rintro e W3 (⟨rfl, hJ3, _⟩ | ⟨rfl, hJx3⟩)
      · gi_wp2
        go_roundw
        case rel => exact ⟨4, by omega, rfl, rfl, hJ3⟩
        case measure => simp [intOf]
      · gi_wp2
        refine bodyPost_ret (results_none rfl _ _ _) rfl ?_
        exact ⟨⟨_, rfl⟩, .inr ⟨_, by decide, hJx3⟩⟩
    · obtain ⟨fn, tmps, assign, body, hy, hR⟩ := hY _ (4, 9) wr hJ (by decide)
      dsimp only [encs] at hy
      gi_wp2
      refine hR.mono ?_
      rintro e W3 (⟨rfl, hJ3, _⟩ | ⟨rfl, hJx3⟩)
      · gi_wp2
        go_roundw
        case rel => exact ⟨5, by omega, rfl, rfl, hJ3⟩
        case measure => simp [intOf]
      · gi_wp2
        refine bodyPost_ret (results_none rfl _ _ _) rfl ?_
        exact ⟨⟨_, rfl⟩, .inr ⟨_, by decide, hJx3⟩⟩
    · obtain ⟨fn, tmps, assign, body, hy, hR⟩ := hY _ (5, 13) wr hJ (by decide)
      dsimp only [encs] at hy
      gi_wp2
      refine hR.mono ?_
      rintro e W3 (⟨rfl, hJ3, _⟩ | ⟨rfl, hJx3⟩)
      · gi_wp2
        go_roundw
        case rel => exact ⟨6, by omega, rfl, rfl, hJ3⟩
        case measure => simp [intOf]
      · gi_wp2
        refine bodyPost_ret (results_none rfl _ _ _) rfl ?_
        exact ⟨⟨_, rfl⟩, .inr ⟨_, by decide, hJx3⟩⟩
    · obtain ⟨fn, tmps, assign, body, hy, hR⟩ := hY _ (6, 19) wr hJ (by decide)
      dsimp only [encs] at hy
      gi_wp2
      refine hR.mono ?_
      rintro e W3 (⟨rfl, hJ3, _⟩ | ⟨rfl, hJx3⟩)
      · gi_wp2
        go_roundw
        case rel => exact ⟨7, by omega, rfl, rfl, hJ3⟩
        case measure => simp [intOf]
      · gi_wp2
        refine bodyPost_ret (results_none rfl _ _ _) rfl ?_
        exact ⟨⟨_, rfl⟩, .inr ⟨_, by decide, hJx3⟩⟩
    · obtain ⟨fn, tmps, assign, body, hy, hR⟩ := hY _ (7, 28) wr hJ (by decide)
      dsimp only [encs] at hy
      gi_wp2
      refine hR.mono ?_
      rintro e W3 (⟨rfl, hJ3, _⟩ | ⟨rfl, hJx3⟩)
      · gi_wp2
        go_roundw
        case rel => exact ⟨8, by omega, rfl, rfl, hJ3⟩
        case measure => simp [intOf]
      · gi_wp2
        refine bodyPost_ret (results_none rfl _ _ _) rfl ?_
        exact ⟨⟨_, rfl⟩, .inr ⟨_, by decide, hJx3⟩⟩

end Cl
end Go.Proofs.YtbbjfebdihepnaaGreatDoor

/-
  Size and Classes: what they tell, and that nothing that was there has turned.
-/
namespace Go.Proofs.YtbbjfebdihepnaaGreatDoor
open Go.RowKit Go.Shelf
attribute [local go_sem] Oper.semAt_some
namespace Cl

/-- Nothing that was there has turned. -/
structure K (w w' : World) : Prop where
  bel : Below w.heap.size w w'

theorem K.refl (w : World) : K w w := ⟨Below.refl _ _⟩
theorem K.trans {w w' w'' : World} (h : K w w') (k : K w' w'') : K w w'' := ⟨h.bel.trans (k.bel.mono h.bel.size)⟩

theorem Boxed.putObj {W : World} {B : Nat} {t : TypeId} {v : Value} (h : Boxed W B t v) {D : Nat} {o : Obj} (o' : Obj) (hD : W.heap[D]? = some o) (ho : o.isCells = false) : Boxed (W.putObj D o') B t v :=
  h.kept (grownBy_putObj' W D o') (fun e => by
    obtain rfl : B = D := Option.some.inj e
    rw [show W.heap[B]? = _ from h] at hD
    cases hD
    cases ho)

theorem below_put {w : World} {W : World} (h : Below w.heap.size w W) {D : Nat} {o : Obj} (o' : Obj) (hw : w.heap.size ≤ D) (_ : W.heap[D]? = some o) : Below w.heap.size w (W.putObj D o') :=
  h.grown (grownBy_putObj' W D o') h.size (fun k e => by cases e; exact hw)

set_option maxRecDepth 100000 in
set_option maxHeartbeats 2000000 in
theorem size_in (c : Int) (w : World) : CallsIn Fence.wide 3 Tryz.prog 159 #[.int .i64 c] w fun e W' => e = .returned (.tuple #[.int .i64 (sizI c), .int .i64 (errC c)]) ∧ K w W' := by
  refine callsIn_of_wp_marks Tryz.func159 rfl trivial ?_ rfl
  simp only [Tryz.ntmps159, List.size_toArray, List.length_cons, List.length_nil, Nat.reduceAdd, Nat.reduceSub, Array.replicate_succ, Array.replicate_zero, List.push_toArray, List.append_toArray, List.nil_append, List.cons_append]
  gi_wp2
  have b0 := Boxed.new w 3 (.int .i64 c)
  have b1 := Boxed.new (w.alloc (.cells #[.int .i64 c] 3)) 3 (.int .i64 0)
  have b2 := Boxed.new ((w.alloc (.cells #[.int .i64 c] 3)).alloc (.cells #[.int .i64 0] 3)) 31 (.int .i64 0)
  simp only [World.size_alloc] at b1 b2
  have hB0 : Below w.heap.size w (((w.alloc (.cells #[.int .i64 c] 3)).alloc (.cells #[.int .i64 0] 3)).alloc (.cells #[.int .i64 0] 31)) := (((Below.refl _ w).alloc (Nat.le_refl _) _).alloc (by simp) _).alloc (by simp; omega) _
  refine wpIn_rangeFunc_ownF rfl (by omega) (gf := 152) (lb := #[]) rfl trivial (enters_of Tryz.func152 (by kernel_rfl) rfl) (sizes_stops 2 (by omega) _) (fun _ _ => trivial) (fun _ _ _ _ _ _ _ _ => trivial) (Below.refl _ _) (fun _ => rfl)
    (fun pre W => hit (isC c) pre = none ∧ Boxed W w.heap.size 3 (.int .i64 c) ∧ Boxed W (w.heap.size + 1) 3 (.int .i64 0) ∧ Boxed W (w.heap.size + 1 + 1) 31 (.int .i64 0) ∧ Below w.heap.size w W)
    (fun k pre W => (k = .ret ∧ ∃ x, hit (isC c) pre = some x ∧ Boxed W (w.heap.size + 1) 3 (.int .i64 x.2) ∧ Boxed W (w.heap.size + 1 + 1) 31 (.int .i64 0)) ∧ Below w.heap.size w W)
    (OwnFrom.and (ownFrom_pure _ _) (OwnFrom.and (Own.from (boxed_own _ _ _) _) (OwnFrom.and (Own.from (boxed_own _ _ _) _) (OwnFrom.and (Own.from (boxed_own _ _ _) _) (ownFrom_below (Nat.le_refl _) (by simp; omega))))))
    (fun k => OwnFrom.and (fun s A B row hs hg hr => by
      obtain ⟨hk, x, hx, h1, h2⟩ := hs
      exact ⟨hk, x, hx, (boxed_own _ _ fun _ => _).from _ s A B row h1 hg hr, (boxed_own _ _ fun _ => _).from _ s A B row h2 hg hr⟩) (ownFrom_below (Nat.le_refl _) (by simp; omega)))
    ⟨rfl, (b0.alloc _).alloc _, b1.alloc _, b2, hB0⟩
    (fun x => { tmps := #[.int .i64 c, .pointer (some ⟨w.heap.size, 0, none⟩), .pointer (some ⟨w.heap.size + 1, 0, none⟩), .pointer (some ⟨w.heap.size + 1 + 1, 0, none⟩), .int .i64 x.1, .int .i64 x.2, .int .i64 x.1, .int .i64 x.2, undef, undef, undef, undef], defers := [] }) ?assign ?body ?done ?stop
  case assign =>
    intro l x W K hK
    gi_wp2
    exact hK
  case body =>
    rintro l pre x W ⟨hp, d0, d1, d2, hB⟩ _
    have c0 := d0.cell
    have c1 := d1.cell
    have f1 := d1.frozen
    have c2 := (d2.other (B' := w.heap.size + 1) (by omega) (.int .i64 x.2)).cell
    have f2 := (d2.other (B' := w.heap.size + 1) (by omega) (.int .i64 x.2)).frozen
    gi_wp2
    · rename_i hx
      have e1 : hit (isC c) (pre ++ [x]) = some x := hit_on hp (by unfold isC; exact hx)
      exact ⟨(KeepsOthers.setCell _ _ _).trans (KeepsOthers.setCell _ _ _), ⟨rfl, x, e1, (d1.set _).other (by omega) _, (d2.other (by omega) _).set _⟩, (hB.setCell (p := ⟨w.heap.size + 1, 0, none⟩) (by simp) _).setCell (p := ⟨w.heap.size + 1 + 1, 0, none⟩) (by simp; omega) _⟩
    · rename_i hx
      have e1 : hit (isC c) (pre ++ [x]) = none := hit_off hp (by unfold isC; simpa using hx)
      exact ⟨KeepsOthers.refl _, trivial, e1, d0, d1, d2, hB⟩
  case done =>
    rintro D ys W hD rfl ⟨hp, d0, d1, d2, hB⟩ hK
    have c1 := d1.cell
    have f1 := d1.frozen
    have d2' := d2.other (B' := w.heap.size + 1) (by omega) (.int .i64 0)
    have c2 := d2'.cell
    have f2 := d2'.frozen
    gi_wp2
    have hK' := ((KeepsOthers.setCell W ⟨w.heap.size + 1, 0, none⟩ (.int .i64 0)).trans (KeepsOthers.setCell _ ⟨w.heap.size + 1 + 1, 0, none⟩ (.int .i64 2))).same D _ hK rfl
    refine ⟨by simp, .inl ⟨_, _, rfl, run_takeDeferred hK', ?_⟩⟩
    have r1 := (Boxed.putObj ((d1.set (.int .i64 0)).other (by omega) (.int .i64 2)) (.deferred none) hK' rfl).cell
    have r2 := (Boxed.putObj (d2'.set (.int .i64 2)) (.deferred none) hK' rfl).cell
    refine ⟨.tuple #[.int .i64 0, .int .i64 2], ?_, ?_, ⟨below_put ((hB.setCell (p := ⟨w.heap.size + 1, 0, none⟩) (by simp) _).setCell (p := ⟨w.heap.size + 1 + 1, 0, none⟩) (by simp; omega) _) _ (by simp at hD; omega) hK'⟩⟩
    · simp [results, Tryz.f159, go_sem, r1, r2]
    · unfold sizI errC
      rw [hp]
      rfl
  case stop =>
    rintro D k pre W hD hpre ⟨⟨rfl, x, hx, d1, d2⟩, hB⟩ hK
    gi_wp2
    refine ⟨by simp, .inl ⟨_, _, rfl, run_takeDeferred hK, ?_⟩⟩
    have r1 := (Boxed.putObj d1 (.deferred none) hK rfl).cell
    have r2 := (Boxed.putObj d2 (.deferred none) hK rfl).cell
    refine ⟨.tuple #[.int .i64 x.2, .int .i64 0], ?_, ?_, ⟨below_put hB _ (by simp at hD; omega) hK⟩⟩
    · simp [results, Tryz.f159, go_sem, r1, r2]
    · unfold sizI errC
      rw [hit_all hpre hx]
      rfl

theorem size_any (c : Int) (w : World) : Calls Tryz.prog 159 #[.int .i64 c] w fun e W' => e = .returned (.tuple #[.int .i64 (sizI c), .int .i64 (errC c)]) ∧ K w W' := callsIn_wide.1 (size_in c w)

end Cl
end Go.Proofs.YtbbjfebdihepnaaGreatDoor

/-
  Of, pagesFor, Pages, Slots and Place: what they tell, and that nothing that was there has turned.
-/
namespace Go.Proofs.YtbbjfebdihepnaaGreatDoor
open Go.RowKit Go.Shelf
attribute [local go_sem] Oper.semAt_some
namespace Cl

/-- Four boxes, one behind the other, at the heap's end. -/
theorem four (w : World) (a b c d : Value) (s t u v : TypeId) :
    Boxed ((((w.alloc (.cells #[a] s)).alloc (.cells #[b] t)).alloc (.cells #[c] u)).alloc (.cells #[d] v)) w.heap.size s a
    ∧ Boxed ((((w.alloc (.cells #[a] s)).alloc (.cells #[b] t)).alloc (.cells #[c] u)).alloc (.cells #[d] v)) (w.heap.size + 1) t b
    ∧ Boxed ((((w.alloc (.cells #[a] s)).alloc (.cells #[b] t)).alloc (.cells #[c] u)).alloc (.cells #[d] v)) (w.heap.size + 1 + 1) u c
    ∧ Boxed ((((w.alloc (.cells #[a] s)).alloc (.cells #[b] t)).alloc (.cells #[c] u)).alloc (.cells #[d] v)) (w.heap.size + 1 + 1 + 1) v d
    ∧ Below w.heap.size w ((((w.alloc (.cells #[a] s)).alloc (.cells #[b] t)).alloc (.cells #[c] u)).alloc (.cells #[d] v)) := by
  have b0 := Boxed.new w s a
  have b1 := Boxed.new (w.alloc (.cells #[a] s)) t b
  have b2 := Boxed.new ((w.alloc (.cells #[a] s)).alloc (.cells #[b] t)) u c
  have b3 := Boxed.new (((w.alloc (.cells #[a] s)).alloc (.cells #[b] t)).alloc (.cells #[c] u)) v d
  simp only [World.size_alloc] at b1 b2 b3
  exact ⟨((b0.alloc _).alloc _).alloc _, (b1.alloc _).alloc _, b2.alloc _, b3, ((((Below.refl _ w).alloc (Nat.le_refl _) _).alloc (by simp) _).alloc (by simp; omega) _).alloc (by simp; omega) _⟩

set_option maxRecDepth 100000 in
set_option maxHeartbeats 2000000 in
theorem of_out (n : Int) (hn : ¬ Wd n) (w : World) : Calls Tryz.prog 119 #[.int .i64 n] w fun e W' => e = .returned (.tuple #[.int .i64 0, .bool false, .int .i64 2]) ∧ K w W' := by
  obtain ⟨_, b1, b2, b3, hB⟩ := four w (.int .i64 n) (.int .i64 0) (.bool false) (.int .i64 2) 3 3 4 31
  have c1 := b1.cell
  have c2 := b2.cell
  have c3 := b3.cell
  by_cases h1 : n < 1
  · go_enter Tryz.func119, Tryz.ntmps119
    go_wp2
    refine bodyPost_ret (v := .tuple #[.int .i64 0, .bool false, .int .i64 2]) ?_ rfl ?_
    · simp [results, Tryz.f119, go_sem, c1, c2, c3]
    · exact ⟨rfl, ⟨hB⟩⟩
  · have h2 : 4000 < n := by unfold Wd at hn; omega
    go_enter Tryz.func119, Tryz.ntmps119
    go_wp2
    refine bodyPost_ret (v := .tuple #[.int .i64 0, .bool false, .int .i64 2]) ?_ rfl ?_
    · simp [results, Tryz.f119, go_sem, c1, c2, c3]
    · exact ⟨rfl, ⟨hB⟩⟩

set_option maxRecDepth 100000 in
set_option maxHeartbeats 2000000 in
theorem of_in (n : Int) (hn : Wd n) (w : World) : CallsIn Fence.wide 3 Tryz.prog 119 #[.int .i64 n] w fun e W' => e = .returned (.tuple #[.int .i64 (clsI n), .bool (smaI n), .int .i64 0]) ∧ K w W' := by
  have n0 : ¬ n < 1 := by have := hn.1; omega
  have n1 : ¬ 4000 < n := by have := hn.2; omega
  obtain ⟨b0, b1, b2, b3, hB0⟩ := four w (.int .i64 n) (.int .i64 0) (.bool false) (.int .i64 0) 3 3 4 31
  refine callsIn_of_wp_marks Tryz.func119 rfl trivial ?_ rfl
  simp only [Tryz.ntmps119, List.size_toArray, List.length_cons, List.length_nil, Nat.reduceAdd, Nat.reduceSub, Array.replicate_succ, Array.replicate_zero, List.push_toArray, List.append_toArray, List.nil_append, List.cons_append]
  gi_wp2
  refine wpIn_rangeFunc_ownF rfl (by omega) (gf := 152) (lb := #[]) rfl trivial (enters_of Tryz.func152 (by kernel_rfl) rfl) (sizes_stops 2 (by omega) _) (fun _ _ => trivial) (fun _ _ _ _ _ _ _ _ => trivial) (Below.refl _ _) (fun _ => rfl)
    (fun pre W => hit (fits n) pre = none ∧ Boxed W w.heap.size 3 (.int .i64 n) ∧ Boxed W (w.heap.size + 1) 3 (.int .i64 0) ∧ Boxed W (w.heap.size + 1 + 1) 4 (.bool false) ∧ Boxed W (w.heap.size + 1 + 1 + 1) 31 (.int .i64 0) ∧ Below w.heap.size w W)
    (fun k pre W => (k = .ret ∧ ∃ x, hit (fits n) pre = some x ∧ Boxed W (w.heap.size + 1) 3 (.int .i64 x.1) ∧ Boxed W (w.heap.size + 1 + 1) 4 (.bool true) ∧ Boxed W (w.heap.size + 1 + 1 + 1) 31 (.int .i64 0)) ∧ Below w.heap.size w W)
    (OwnFrom.and (ownFrom_pure _ _) (OwnFrom.and (Own.from (boxed_own _ _ _) _) (OwnFrom.and (Own.from (boxed_own _ _ _) _) (OwnFrom.and (Own.from (boxed_own _ _ _) _) (OwnFrom.and (Own.from (boxed_own _ _ _) _) (ownFrom_below (Nat.le_refl _) (by simp; omega)))))))
    (fun k => OwnFrom.and (fun s A B row hs hg hr => by
      obtain ⟨hk, x, hx, h1, h2, h3⟩ := hs
      exact ⟨hk, x, hx, (boxed_own _ _ fun _ => _).from _ s A B row h1 hg hr, (boxed_own _ _ fun _ => _).from _ s A B row h2 hg hr, (boxed_own _ _ fun _ => _).from _ s A B row h3 hg hr⟩) (ownFrom_below (Nat.le_refl _) (by simp; omega)))
    ⟨rfl, b0, b1, b2, b3, hB0⟩
    (fun x => { tmps := #[.int .i64 n, .pointer (some ⟨w.heap.size, 0, none⟩), .pointer (some ⟨w.heap.size + 1, 0, none⟩), .pointer (some ⟨w.heap.size + 1 + 1, 0, none⟩), .pointer (some ⟨w.heap.size + 1 + 1 + 1, 0, none⟩), .int .i64 x.1, .int .i64 x.2, .int .i64 n, .bool false, .bool false, .int .i64 n, .bool false, .bool false, .int .i64 x.1, .int .i64 x.2, undef, undef, undef, undef], defers := [] }) ?assign ?body ?done ?stop
  case assign =>
    intro l x W K hK
    gi_wp2
    exact hK
  case body =>
    rintro l pre x W ⟨hp, d0, d1, d2, d3, hB⟩ _
    have c0 := d0.cell
    have c1 := d1.cell
    have f1 := d1.frozen
    have d2' := d2.other (B' := w.heap.size + 1) (by omega) (.int .i64 x.1)
    have d3' := (d3.other (B' := w.heap.size + 1) (by omega) (.int .i64 x.1)).other (B' := w.heap.size + 1 + 1) (by omega) (.bool true)
    have c2 := d2'.cell
    have f2 := d2'.frozen
    have c3 := d3'.cell
    have f3 := d3'.frozen
    gi_wp2
    · rename_i hx
      have e1 : hit (fits n) (pre ++ [x]) = some x := hit_on hp (by unfold fits; exact decide_eq_true (by omega))
      exact ⟨((KeepsOthers.setCell _ _ _).trans (KeepsOthers.setCell _ _ _)).trans (KeepsOthers.setCell _ _ _), ⟨rfl, x, e1, ((d1.set _).other (by omega) _).other (by omega) _, (d2'.set _).other (by omega) _, d3'.set _⟩, ((hB.setCell (p := ⟨w.heap.size + 1, 0, none⟩) (by simp) _).setCell (p := ⟨w.heap.size + 1 + 1, 0, none⟩) (by simp; omega) _).setCell (p := ⟨w.heap.size + 1 + 1 + 1, 0, none⟩) (by simp; omega) _⟩
    · rename_i hx
      have e1 : hit (fits n) (pre ++ [x]) = none := hit_off hp (by unfold fits; exact decide_eq_false (by omega))
      exact ⟨KeepsOthers.refl _, trivial, e1, d0, d1, d2, d3, hB⟩
  case done =>
    rintro D ys W hD rfl ⟨hp, d0, d1, d2, d3, hB⟩ hK
    have c1 := d1.cell
    have f1 := d1.frozen
    have d2' := d2.other (B' := w.heap.size + 1) (by omega) (.int .i64 0)
    have d3' := (d3.other (B' := w.heap.size + 1) (by omega) (.int .i64 0)).other (B' := w.heap.size + 1 + 1) (by omega) (.bool false)
    have c2 := d2'.cell
    have f2 := d2'.frozen
    have c3 := d3'.cell
    have f3 := d3'.frozen
    gi_wp2
    have hK' := (((KeepsOthers.setCell W ⟨w.heap.size + 1, 0, none⟩ (.int .i64 0)).trans (KeepsOthers.setCell _ ⟨w.heap.size + 1 + 1, 0, none⟩ (.bool false))).trans (KeepsOthers.setCell _ ⟨w.heap.size + 1 + 1 + 1, 0, none⟩ (.int .i64 0))).same D _ hK rfl
    refine ⟨by simp, .inl ⟨_, _, rfl, run_takeDeferred hK', ?_⟩⟩
    have r1 := (Boxed.putObj (((d1.set (.int .i64 0)).other (by omega) (.bool false)).other (by omega) (.int .i64 0)) (.deferred none) hK' rfl).cell
    have r2 := (Boxed.putObj ((d2'.set (.bool false)).other (by omega) (.int .i64 0)) (.deferred none) hK' rfl).cell
    have r3 := (Boxed.putObj (d3'.set (.int .i64 0)) (.deferred none) hK' rfl).cell
    obtain ⟨q1, q2⟩ := of_large hp
    refine ⟨.tuple #[.int .i64 0, .bool false, .int .i64 0], ?_, ?_, ⟨below_put (((hB.setCell (p := ⟨w.heap.size + 1, 0, none⟩) (by simp) _).setCell (p := ⟨w.heap.size + 1 + 1, 0, none⟩) (by simp; omega) _).setCell (p := ⟨w.heap.size + 1 + 1 + 1, 0, none⟩) (by simp; omega) _) _ (by simp at hD; omega) hK'⟩⟩
    · simp [results, Tryz.f119, go_sem, r1, r2, r3]
    · rw [q1, q2]
  case stop =>
    rintro D k pre W hD hpre ⟨⟨rfl, x, hx, d1, d2, d3⟩, hB⟩ hK
    gi_wp2
    refine ⟨by simp, .inl ⟨_, _, rfl, run_takeDeferred hK, ?_⟩⟩
    have r1 := (Boxed.putObj d1 (.deferred none) hK rfl).cell
    have r2 := (Boxed.putObj d2 (.deferred none) hK rfl).cell
    have r3 := (Boxed.putObj d3 (.deferred none) hK rfl).cell
    obtain ⟨q1, q2⟩ := of_small hn (c := x.1) (s := x.2) (hit_all hpre hx)
    refine ⟨.tuple #[.int .i64 x.1, .bool true, .int .i64 0], ?_, ?_, ⟨below_put hB _ (by simp at hD; omega) hK⟩⟩
    · simp [results, Tryz.f119, go_sem, r1, r2, r3]
    · rw [q1, q2]

theorem of_any (n : Int) (w : World) : Calls Tryz.prog 119 #[.int .i64 n] w fun e W' => e = .returned (.tuple #[.int .i64 (clsI n), .bool (smaI n), .int .i64 (errW n)]) ∧ K w W' := by
  by_cases h : Wd n
  · rw [errW_in h]
    exact callsIn_wide.1 (of_in n h w)
  · rw [errW_out h, clsI_out h, smaI_out h]
    exact of_out n h w

end Cl
end Go.Proofs.YtbbjfebdihepnaaGreatDoor

/-
  pagesFor, Pages, Slots and Place, each for any numbers, with what has been kept since B.
-/
namespace Go.Proofs.YtbbjfebdihepnaaGreatDoor
open Go.RowKit
namespace Cl

theorem size_s (B : World) (c : Int) (w : World) (s : K B w) : Calls Tryz.prog 159 #[.int .i64 c] w fun e W' => e = .returned (.tuple #[.int .i64 (sizI c), .int .i64 (errC c)]) ∧ K B W' :=
  (size_any c w).mono fun _ _ r => ⟨r.1, s.trans r.2⟩

theorem pagesFor_ok (n : Int) (h0 : 3 ≤ n) (h1 : n ≤ 4002) (w : World) : Calls Tryz.prog 175 #[.int .i64 n] w fun e W' => e = .returned (.int .i64 ((n + 64 - 1) / 64)) ∧ w = W' := by
  go_enter Tryz.func175, Tryz.ntmps175
  go_wp2
  go_ret
  exact ⟨rfl, rfl⟩

theorem pages_any (n : Int) (w : World) : Calls Tryz.prog 156 #[.int .i64 n] w fun e W' => e = .returned (.tuple #[.int .i64 (pagI n), .int .i64 (errW n)]) ∧ K w W' := by
  have co := of_any n w
  by_cases h : Wd n
  · have h0 := h.1
    have h1 := h.2
    rw [errW_in h] at co ⊢
    cases hs : smaI n with
    | true =>
      have hp : pagI n = 1 := by
        rw [pagI_in h]
        have hl : n ≤ 28 := by rcases of_cases n h with c | c | c | c | c | c | c | c | c <;> simp_all <;> omega
        omega
      rw [hs] at co
      rw [hp]
      generalize clsI n = x at co
      go_enter Tryz.func156, Tryz.ntmps156
      go_wp2_with (go_at_call 119; refine co.mono ?_; rintro e w2 ⟨rfl, k2⟩)
      go_ret2
      exact ⟨rfl, k2⟩
    | false =>
      have hp : pagI n = (2 + n + 64 - 1) / 64 := by
        rw [pagI_in h]
        omega
      rw [hs] at co
      rw [hp]
      generalize clsI n = x at co
      go_enter Tryz.func156, Tryz.ntmps156
      go_wp2_with (first
        | (go_at_call 119; refine co.mono ?_; rintro e w2 ⟨rfl, k2⟩)
        | (go_at_call 175; refine (pagesFor_ok (2 + n) (by omega) (by omega) _).mono ?_; rintro e w3 ⟨rfl, rfl⟩))
      go_ret2
      exact ⟨rfl, k2⟩
  · rw [errW_out h] at co ⊢
    rw [pagI_out h]
    generalize clsI n = x at co
    generalize smaI n = y at co
    go_enter Tryz.func156, Tryz.ntmps156
    go_wp2_with (go_at_call 119; refine co.mono ?_; rintro e w2 ⟨rfl, k2⟩)
    go_ret2
    exact ⟨rfl, k2⟩

theorem siz_in {c : Int} (h : errC c = 0) : 2 ≤ sizI c ∧ sizI c ≤ 28 ∧ sloI c = 62 / sizI c ∧ C c := by
  rcases siz_cases c with ⟨rfl, a, _, b⟩ | ⟨rfl, a, _, b⟩ | ⟨rfl, a, _, b⟩ | ⟨rfl, a, _, b⟩ | ⟨rfl, a, _, b⟩ | ⟨rfl, a, _, b⟩ | ⟨rfl, a, _, b⟩ | ⟨rfl, a, _, b⟩ | ⟨_, _, b, _⟩
  case inr.inr.inr.inr.inr.inr.inr.inr => omega
  all_goals
    rw [a, b]
    unfold C
    decide
theorem siz_out {c : Int} (h : errC c ≠ 0) : sizI c = 0 ∧ sloI c = 0 ∧ errC c = 2 ∧ ¬ C c := by
  rcases siz_cases c with ⟨_, _, a, _⟩ | ⟨_, _, a, _⟩ | ⟨_, _, a, _⟩ | ⟨_, _, a, _⟩ | ⟨_, _, a, _⟩ | ⟨_, _, a, _⟩ | ⟨_, _, a, _⟩ | ⟨_, _, a, _⟩ | ⟨a, b, c, d⟩
  case inr.inr.inr.inr.inr.inr.inr.inr => exact ⟨b, d, c, a⟩
  all_goals exact absurd a h

theorem slots_any (c : Int) (w : World) : Calls Tryz.prog 137 #[.int .i64 c] w fun e W' => e = .returned (.tuple #[.int .i64 (sloI c), .int .i64 (errC c)]) ∧ K w W' := by
  have cs := size_any c w
  by_cases he : errC c = 0
  · obtain ⟨s0, s1, hq, _⟩ := siz_in he
    rw [he] at cs ⊢
    rw [hq]
    clear hq
    generalize sizI c = s at cs s0 s1
    have hs : 0 < s := by omega
    go_enter Tryz.func137, Tryz.ntmps137
    go_wp2_with (go_at_call 159; refine cs.mono ?_; rintro e w2 ⟨rfl, k2⟩)
    go_ret2
    exact ⟨rfl, k2⟩
  · obtain ⟨h1, h2, h3, _⟩ := siz_out he
    rw [h1, h3] at cs
    rw [h2, h3]
    go_enter Tryz.func137, Tryz.ntmps137
    go_wp2_with (go_at_call 159; refine cs.mono ?_; rintro e w2 ⟨rfl, k2⟩)
    go_ret2
    exact ⟨rfl, k2⟩

/-- A slot of the class. -/
def Sl (c a : Int) : Prop := 0 ≤ a ∧ a < sloI c
def plaI (c a : Int) : Int := if 0 ≤ a ∧ a < sloI c then 2 + a * sizI c else 0
def errP (c a : Int) : Int := if 0 ≤ a ∧ a < sloI c then 0 else 2
theorem plaI_in {c a : Int} (h : Sl c a) : plaI c a = 2 + a * sizI c := if_pos h
theorem plaI_out {c a : Int} (h : ¬ Sl c a) : plaI c a = 0 := if_neg h
theorem errP_in {c a : Int} (h : Sl c a) : errP c a = 0 := if_pos h
theorem errP_out {c a : Int} (h : ¬ Sl c a) : errP c a = 2 := if_neg h

/-- What a slot's place has about it. -/
theorem slot_fits {c a : Int} (he : errC c = 0) (h : Sl c a) : 0 ≤ a * sizI c ∧ a * sizI c + sizI c ≤ 62 := by
  obtain ⟨a0, a1⟩ := h
  rcases siz_cases c with ⟨_, b, _, d⟩ | ⟨_, b, _, d⟩ | ⟨_, b, _, d⟩ | ⟨_, b, _, d⟩ | ⟨_, b, _, d⟩ | ⟨_, b, _, d⟩ | ⟨_, b, _, d⟩ | ⟨_, b, _, d⟩ | ⟨_, _, b, _⟩
  case inr.inr.inr.inr.inr.inr.inr.inr => omega
  all_goals
    rw [d] at a1
    rw [b]
    omega

theorem place_any (c a : Int) (w : World) : Calls Tryz.prog 140 #[.int .i64 c, .int .i64 a] w fun e W' => e = .returned (.tuple #[.int .i64 (plaI c a), .int .i64 (errP c a)]) ∧ K w W' := by
  have cl := slots_any c w
  have cs := size_s w c
  by_cases he : errC c = 0
  · by_cases h : Sl c a
    · obtain ⟨m0, m1⟩ := slot_fits he h
      have hs := (siz_in he).1
      rw [errP_in h, plaI_in h]
      obtain ⟨a0, a1⟩ := h
      have hn : ¬ a < 0 := by omega
      have hn2 : ¬ sloI c ≤ a := by omega
      rw [he] at cl cs
      generalize hm : a * sizI c = m at m0 m1 ⊢
      have m2 : m ≤ 62 := by omega
      clear m1 hs
      generalize sizI c = s at hm cs
      generalize sloI c = q at cl a1 hn2
      have key : wrap64 (a * s) = m := by rw [hm]; unfold wrap64; omega
      go_enter Tryz.func140, Tryz.ntmps140
      go_wp2_with (first
        | (go_at_call 137; refine cl.mono ?_; rintro e w2 ⟨rfl, k2⟩)
        | (go_at_call 159; refine (cs _ (by assumption)).mono ?_; rintro e w3 ⟨rfl, k3⟩))
      go_ret2
      exact ⟨rfl, k3⟩
    · rw [errP_out h, plaI_out h]
      unfold Sl at h
      rw [he] at cl
      generalize sloI c = q at cl h
      by_cases h0 : a < 0
      · go_enter Tryz.func140, Tryz.ntmps140
        go_wp2_with (go_at_call 137; refine cl.mono ?_; rintro e w2 ⟨rfl, k2⟩)
        go_ret2
        exact ⟨rfl, k2⟩
      · have h1 : q ≤ a := by omega
        clear h
        go_enter Tryz.func140, Tryz.ntmps140
        go_wp2_with (go_at_call 137; refine cl.mono ?_; rintro e w2 ⟨rfl, k2⟩)
        go_ret2
        exact ⟨rfl, k2⟩
  · obtain ⟨_, h2, h3, _⟩ := siz_out he
    have h : ¬ Sl c a := by unfold Sl; omega
    rw [errP_out h, plaI_out h]
    rw [h2, h3] at cl
    go_enter Tryz.func140, Tryz.ntmps140
    go_wp2_with (go_at_call 137; refine cl.mono ?_; rintro e w2 ⟨rfl, k2⟩)
    go_ret2
    exact ⟨rfl, k2⟩

end Cl
end Go.Proofs.YtbbjfebdihepnaaGreatDoor
