/-
  Size and Classes: what they tell, and that nothing that was there has turned.
-/
import Derived.Test.YtlpdgomoepinjaaDoorCIter
namespace Go.Proofs.YtlpdgomoepinjaaDoor
open Go.RowKit Go.Shelf
attribute [local go_sem] Oper.semAt_some
namespace Cl

/-- Nothing that was there has turned. -/
structure K (w w' : World) : Prop where
  bel : Below w.heap.size w w'

theorem K.refl (w : World) : K w w := ⟨Below.refl _ _⟩
theorem K.trans {w w' w'' : World} (h : K w w') (k : K w' w'') : K w w'' := ⟨h.bel.trans (k.bel.mono h.bel.size)⟩

theorem Boxed.putObj {W : World} {B : Nat} {t : TypeId} {v : Value} (h : Boxed W B t v) {D : Nat} {o : Obj} (o' : Obj) (hD : W.heap[D]? = some o) (ho : o.isCells = false) : Boxed (W.putObj D o') B t v :=
  h.kept (grownBy_putObj' W D o') (fun e => by
    obtain rfl : B = D := Option.some.inj e
    rw [show W.heap[B]? = _ from h] at hD
    cases hD
    cases ho)

theorem below_put {w : World} {W : World} (h : Below w.heap.size w W) {D : Nat} {o : Obj} (o' : Obj) (hw : w.heap.size ≤ D) (_ : W.heap[D]? = some o) : Below w.heap.size w (W.putObj D o') :=
  h.grown (grownBy_putObj' W D o') h.size (fun k e => by cases e; exact hw)

set_option maxRecDepth 100000 in
set_option maxHeartbeats 2000000 in
theorem size_in (c : Int) (w : World) : CallsIn Fence.wide 3 Tryd.prog 64 #[.int .i64 c] w fun e W' => e = .returned (.tuple #[.int .i64 (sizI c), .int .i64 (errC c)]) ∧ K w W' := by
  refine callsIn_of_wp_marks Tryd.func64 rfl trivial ?_ rfl
  simp only [Tryd.ntmps64, List.size_toArray, List.length_cons, List.length_nil, Nat.reduceAdd, Nat.reduceSub, Array.replicate_succ, Array.replicate_zero, List.push_toArray, List.append_toArray, List.nil_append, List.cons_append]
  gi_wp2
  have b0 := Boxed.new w 3 (.int .i64 c)
  have b1 := Boxed.new (w.alloc (.cells #[.int .i64 c] 3)) 3 (.int .i64 0)
  have b2 := Boxed.new ((w.alloc (.cells #[.int .i64 c] 3)).alloc (.cells #[.int .i64 0] 3)) 31 (.int .i64 0)
  simp only [World.size_alloc] at b1 b2
  have hB0 : Below w.heap.size w (((w.alloc (.cells #[.int .i64 c] 3)).alloc (.cells #[.int .i64 0] 3)).alloc (.cells #[.int .i64 0] 31)) := (((Below.refl _ w).alloc (Nat.le_refl _) _).alloc (by simp) _).alloc (by simp; omega) _
  refine wpIn_rangeFunc_ownF rfl (by omega) (gf := 28) (lb := #[]) rfl trivial (enters_of Tryd.func28 (by kernel_rfl) rfl) (sizes_stops 2 (by omega) _) (fun _ _ => trivial) (fun _ _ _ _ _ _ _ _ => trivial) (Below.refl _ _) (fun _ => rfl)
    (fun pre W => hit (isC c) pre = none ∧ Boxed W w.heap.size 3 (.int .i64 c) ∧ Boxed W (w.heap.size + 1) 3 (.int .i64 0) ∧ Boxed W (w.heap.size + 1 + 1) 31 (.int .i64 0) ∧ Below w.heap.size w W)
    (fun k pre W => (k = .ret ∧ ∃ x, hit (isC c) pre = some x ∧ Boxed W (w.heap.size + 1) 3 (.int .i64 x.2) ∧ Boxed W (w.heap.size + 1 + 1) 31 (.int .i64 0)) ∧ Below w.heap.size w W)
    (OwnFrom.and (ownFrom_pure _ _) (OwnFrom.and (Own.from (boxed_own _ _ _) _) (OwnFrom.and (Own.from (boxed_own _ _ _) _) (OwnFrom.and (Own.from (boxed_own _ _ _) _) (ownFrom_below (Nat.le_refl _) (by simp; omega))))))
    (fun k => OwnFrom.and (fun s A B row hs hg hr => by
      obtain ⟨hk, x, hx, h1, h2⟩ := hs
      exact ⟨hk, x, hx, (boxed_own _ _ fun _ => _).from _ s A B row h1 hg hr, (boxed_own _ _ fun _ => _).from _ s A B row h2 hg hr⟩) (ownFrom_below (Nat.le_refl _) (by simp; omega)))
    ⟨rfl, (b0.alloc _).alloc _, b1.alloc _, b2, hB0⟩
    (fun x => { tmps := #[.int .i64 c, .pointer (some ⟨w.heap.size, 0, none⟩), .pointer (some ⟨w.heap.size + 1, 0, none⟩), .pointer (some ⟨w.heap.size + 1 + 1, 0, none⟩), .int .i64 x.1, .int .i64 x.2, .int .i64 x.1, .int .i64 x.2, undef, undef, undef, undef], defers := [] }) ?assign ?body ?done ?stop
  case assign =>
    intro l x W K hK
    gi_wp2
    exact hK
  case body =>
    rintro l pre x W ⟨hp, d0, d1, d2, hB⟩ _
    have c0 := d0.cell
    have c1 := d1.cell
    have f1 := d1.frozen
    have c2 := (d2.other (B' := w.heap.size + 1) (by omega) (.int .i64 x.2)).cell
    have f2 := (d2.other (B' := w.heap.size + 1) (by omega) (.int .i64 x.2)).frozen
    gi_wp2
    · rename_i hx
      have e1 : hit (isC c) (pre ++ [x]) = some x := hit_on hp (by unfold isC; exact hx)
      exact ⟨(KeepsOthers.setCell _ _ _).trans (KeepsOthers.setCell _ _ _), ⟨rfl, x, e1, (d1.set _).other (by omega) _, (d2.other (by omega) _).set _⟩, (hB.setCell (p := ⟨w.heap.size + 1, 0, none⟩) (by simp) _).setCell (p := ⟨w.heap.size + 1 + 1, 0, none⟩) (by simp; omega) _⟩
    · rename_i hx
      have e1 : hit (isC c) (pre ++ [x]) = none := hit_off hp (by unfold isC; simpa using hx)
      exact ⟨KeepsOthers.refl _, trivial, e1, d0, d1, d2, hB⟩
  case done =>
    rintro D ys W hD rfl ⟨hp, d0, d1, d2, hB⟩ hK
    have c1 := d1.cell
    have f1 := d1.frozen
    have d2' := d2.other (B' := w.heap.size + 1) (by omega) (.int .i64 0)
    have c2 := d2'.cell
    have f2 := d2'.frozen
    gi_wp2
    have hK' := ((KeepsOthers.setCell W ⟨w.heap.size + 1, 0, none⟩ (.int .i64 0)).trans (KeepsOthers.setCell _ ⟨w.heap.size + 1 + 1, 0, none⟩ (.int .i64 2))).same D _ hK rfl
    refine ⟨by simp, .inl ⟨_, _, rfl, run_takeDeferred hK', ?_⟩⟩
    have r1 := (Boxed.putObj ((d1.set (.int .i64 0)).other (by omega) (.int .i64 2)) (.deferred none) hK' rfl).cell
    have r2 := (Boxed.putObj (d2'.set (.int .i64 2)) (.deferred none) hK' rfl).cell
    refine ⟨.tuple #[.int .i64 0, .int .i64 2], ?_, ?_, ⟨below_put ((hB.setCell (p := ⟨w.heap.size + 1, 0, none⟩) (by simp) _).setCell (p := ⟨w.heap.size + 1 + 1, 0, none⟩) (by simp; omega) _) _ (by simp at hD; omega) hK'⟩⟩
    · simp [results, Tryd.f64, go_sem, r1, r2]
    · unfold sizI errC
      rw [hp]
      rfl
  case stop =>
    rintro D k pre W hD hpre ⟨⟨rfl, x, hx, d1, d2⟩, hB⟩ hK
    gi_wp2
    refine ⟨by simp, .inl ⟨_, _, rfl, run_takeDeferred hK, ?_⟩⟩
    have r1 := (Boxed.putObj d1 (.deferred none) hK rfl).cell
    have r2 := (Boxed.putObj d2 (.deferred none) hK rfl).cell
    refine ⟨.tuple #[.int .i64 x.2, .int .i64 0], ?_, ?_, ⟨below_put hB _ (by simp at hD; omega) hK⟩⟩
    · simp [results, Tryd.f64, go_sem, r1, r2]
    · unfold sizI errC
      rw [hit_all hpre hx]
      rfl

theorem size_any (c : Int) (w : World) : Calls Tryd.prog 64 #[.int .i64 c] w fun e W' => e = .returned (.tuple #[.int .i64 (sizI c), .int .i64 (errC c)]) ∧ K w W' := callsIn_wide.1 (size_in c w)

end Cl
end Go.Proofs.YtlpdgomoepinjaaDoor
