/-
  Of, pagesFor, Pages, Slots and Place: what they tell, and that nothing that was there has turned.
-/
import Derived.Test.YtlpdgomoepinjaaDoorCSize
namespace Go.Proofs.YtlpdgomoepinjaaDoor
open Go.RowKit Go.Shelf
attribute [local go_sem] Oper.semAt_some
namespace Cl

/-- Four boxes, one behind the other, at the heap's end. -/
theorem four (w : World) (a b c d : Value) (s t u v : TypeId) :
    Boxed ((((w.alloc (.cells #[a] s)).alloc (.cells #[b] t)).alloc (.cells #[c] u)).alloc (.cells #[d] v)) w.heap.size s a
    ∧ Boxed ((((w.alloc (.cells #[a] s)).alloc (.cells #[b] t)).alloc (.cells #[c] u)).alloc (.cells #[d] v)) (w.heap.size + 1) t b
    ∧ Boxed ((((w.alloc (.cells #[a] s)).alloc (.cells #[b] t)).alloc (.cells #[c] u)).alloc (.cells #[d] v)) (w.heap.size + 1 + 1) u c
    ∧ Boxed ((((w.alloc (.cells #[a] s)).alloc (.cells #[b] t)).alloc (.cells #[c] u)).alloc (.cells #[d] v)) (w.heap.size + 1 + 1 + 1) v d
    ∧ Below w.heap.size w ((((w.alloc (.cells #[a] s)).alloc (.cells #[b] t)).alloc (.cells #[c] u)).alloc (.cells #[d] v)) := by
  have b0 := Boxed.new w s a
  have b1 := Boxed.new (w.alloc (.cells #[a] s)) t b
  have b2 := Boxed.new ((w.alloc (.cells #[a] s)).alloc (.cells #[b] t)) u c
  have b3 := Boxed.new (((w.alloc (.cells #[a] s)).alloc (.cells #[b] t)).alloc (.cells #[c] u)) v d
  simp only [World.size_alloc] at b1 b2 b3
  exact ⟨((b0.alloc _).alloc _).alloc _, (b1.alloc _).alloc _, b2.alloc _, b3, ((((Below.refl _ w).alloc (Nat.le_refl _) _).alloc (by simp) _).alloc (by simp; omega) _).alloc (by simp; omega) _⟩

set_option maxRecDepth 100000 in
set_option maxHeartbeats 2000000 in
theorem of_out (n : Int) (hn : ¬ Wd n) (w : World) : Calls Tryd.prog 16 #[.int .i64 n] w fun e W' => e = .returned (.tuple #[.int .i64 0, .bool false, .int .i64 2]) ∧ K w W' := by
  obtain ⟨_, b1, b2, b3, hB⟩ := four w (.int .i64 n) (.int .i64 0) (.bool false) (.int .i64 2) 3 3 4 31
  have c1 := b1.cell
  have c2 := b2.cell
  have c3 := b3.cell
  by_cases h1 : n < 1
  · go_enter Tryd.func16, Tryd.ntmps16
    go_wp2
    refine bodyPost_ret (v := .tuple #[.int .i64 0, .bool false, .int .i64 2]) ?_ rfl ?_
    · simp [results, Tryd.f16, go_sem, c1, c2, c3]
    · exact ⟨rfl, ⟨hB⟩⟩
  · have h2 : 4000 < n := by unfold Wd at hn; omega
    go_enter Tryd.func16, Tryd.ntmps16
    go_wp2
    refine bodyPost_ret (v := .tuple #[.int .i64 0, .bool false, .int .i64 2]) ?_ rfl ?_
    · simp [results, Tryd.f16, go_sem, c1, c2, c3]
    · exact ⟨rfl, ⟨hB⟩⟩

set_option maxRecDepth 100000 in
set_option maxHeartbeats 2000000 in
theorem of_in (n : Int) (hn : Wd n) (w : World) : CallsIn Fence.wide 3 Tryd.prog 16 #[.int .i64 n] w fun e W' => e = .returned (.tuple #[.int .i64 (clsI n), .bool (smaI n), .int .i64 0]) ∧ K w W' := by
  have n0 : ¬ n < 1 := by have := hn.1; omega
  have n1 : ¬ 4000 < n := by have := hn.2; omega
  obtain ⟨b0, b1, b2, b3, hB0⟩ := four w (.int .i64 n) (.int .i64 0) (.bool false) (.int .i64 0) 3 3 4 31
  refine callsIn_of_wp_marks Tryd.func16 rfl trivial ?_ rfl
  simp only [Tryd.ntmps16, List.size_toArray, List.length_cons, List.length_nil, Nat.reduceAdd, Nat.reduceSub, Array.replicate_succ, Array.replicate_zero, List.push_toArray, List.append_toArray, List.nil_append, List.cons_append]
  gi_wp2
  refine wpIn_rangeFunc_ownF rfl (by omega) (gf := 28) (lb := #[]) rfl trivial (enters_of Tryd.func28 (by kernel_rfl) rfl) (sizes_stops 2 (by omega) _) (fun _ _ => trivial) (fun _ _ _ _ _ _ _ _ => trivial) (Below.refl _ _) (fun _ => rfl)
    (fun pre W => hit (fits n) pre = none ∧ Boxed W w.heap.size 3 (.int .i64 n) ∧ Boxed W (w.heap.size + 1) 3 (.int .i64 0) ∧ Boxed W (w.heap.size + 1 + 1) 4 (.bool false) ∧ Boxed W (w.heap.size + 1 + 1 + 1) 31 (.int .i64 0) ∧ Below w.heap.size w W)
    (fun k pre W => (k = .ret ∧ ∃ x, hit (fits n) pre = some x ∧ Boxed W (w.heap.size + 1) 3 (.int .i64 x.1) ∧ Boxed W (w.heap.size + 1 + 1) 4 (.bool true) ∧ Boxed W (w.heap.size + 1 + 1 + 1) 31 (.int .i64 0)) ∧ Below w.heap.size w W)
    (OwnFrom.and (ownFrom_pure _ _) (OwnFrom.and (Own.from (boxed_own _ _ _) _) (OwnFrom.and (Own.from (boxed_own _ _ _) _) (OwnFrom.and (Own.from (boxed_own _ _ _) _) (OwnFrom.and (Own.from (boxed_own _ _ _) _) (ownFrom_below (Nat.le_refl _) (by simp; omega)))))))
    (fun k => OwnFrom.and (fun s A B row hs hg hr => by
      obtain ⟨hk, x, hx, h1, h2, h3⟩ := hs
      exact ⟨hk, x, hx, (boxed_own _ _ fun _ => _).from _ s A B row h1 hg hr, (boxed_own _ _ fun _ => _).from _ s A B row h2 hg hr, (boxed_own _ _ fun _ => _).from _ s A B row h3 hg hr⟩) (ownFrom_below (Nat.le_refl _) (by simp; omega)))
    ⟨rfl, b0, b1, b2, b3, hB0⟩
    (fun x => { tmps := #[.int .i64 n, .pointer (some ⟨w.heap.size, 0, none⟩), .pointer (some ⟨w.heap.size + 1, 0, none⟩), .pointer (some ⟨w.heap.size + 1 + 1, 0, none⟩), .pointer (some ⟨w.heap.size + 1 + 1 + 1, 0, none⟩), .int .i64 x.1, .int .i64 x.2, .int .i64 n, .bool false, .bool false, .int .i64 n, .bool false, .bool false, .int .i64 x.1, .int .i64 x.2, undef, undef, undef, undef], defers := [] }) ?assign ?body ?done ?stop
  case assign =>
    intro l x W K hK
    gi_wp2
    exact hK
  case body =>
    rintro l pre x W ⟨hp, d0, d1, d2, d3, hB⟩ _
    have c0 := d0.cell
    have c1 := d1.cell
    have f1 := d1.frozen
    have d2' := d2.other (B' := w.heap.size + 1) (by omega) (.int .i64 x.1)
    have d3' := (d3.other (B' := w.heap.size + 1) (by omega) (.int .i64 x.1)).other (B' := w.heap.size + 1 + 1) (by omega) (.bool true)
    have c2 := d2'.cell
    have f2 := d2'.frozen
    have c3 := d3'.cell
    have f3 := d3'.frozen
    gi_wp2
    · rename_i hx
      have e1 : hit (fits n) (pre ++ [x]) = some x := hit_on hp (by unfold fits; exact decide_eq_true (by omega))
      exact ⟨((KeepsOthers.setCell _ _ _).trans (KeepsOthers.setCell _ _ _)).trans (KeepsOthers.setCell _ _ _), ⟨rfl, x, e1, ((d1.set _).other (by omega) _).other (by omega) _, (d2'.set _).other (by omega) _, d3'.set _⟩, ((hB.setCell (p := ⟨w.heap.size + 1, 0, none⟩) (by simp) _).setCell (p := ⟨w.heap.size + 1 + 1, 0, none⟩) (by simp; omega) _).setCell (p := ⟨w.heap.size + 1 + 1 + 1, 0, none⟩) (by simp; omega) _⟩
    · rename_i hx
      have e1 : hit (fits n) (pre ++ [x]) = none := hit_off hp (by unfold fits; exact decide_eq_false (by omega))
      exact ⟨KeepsOthers.refl _, trivial, e1, d0, d1, d2, d3, hB⟩
  case done =>
    rintro D ys W hD rfl ⟨hp, d0, d1, d2, d3, hB⟩ hK
    have c1 := d1.cell
    have f1 := d1.frozen
    have d2' := d2.other (B' := w.heap.size + 1) (by omega) (.int .i64 0)
    have d3' := (d3.other (B' := w.heap.size + 1) (by omega) (.int .i64 0)).other (B' := w.heap.size + 1 + 1) (by omega) (.bool false)
    have c2 := d2'.cell
    have f2 := d2'.frozen
    have c3 := d3'.cell
    have f3 := d3'.frozen
    gi_wp2
    have hK' := (((KeepsOthers.setCell W ⟨w.heap.size + 1, 0, none⟩ (.int .i64 0)).trans (KeepsOthers.setCell _ ⟨w.heap.size + 1 + 1, 0, none⟩ (.bool false))).trans (KeepsOthers.setCell _ ⟨w.heap.size + 1 + 1 + 1, 0, none⟩ (.int .i64 0))).same D _ hK rfl
    refine ⟨by simp, .inl ⟨_, _, rfl, run_takeDeferred hK', ?_⟩⟩
    have r1 := (Boxed.putObj (((d1.set (.int .i64 0)).other (by omega) (.bool false)).other (by omega) (.int .i64 0)) (.deferred none) hK' rfl).cell
    have r2 := (Boxed.putObj ((d2'.set (.bool false)).other (by omega) (.int .i64 0)) (.deferred none) hK' rfl).cell
    have r3 := (Boxed.putObj (d3'.set (.int .i64 0)) (.deferred none) hK' rfl).cell
    obtain ⟨q1, q2⟩ := of_large hp
    refine ⟨.tuple #[.int .i64 0, .bool false, .int .i64 0], ?_, ?_, ⟨below_put (((hB.setCell (p := ⟨w.heap.size + 1, 0, none⟩) (by simp) _).setCell (p := ⟨w.heap.size + 1 + 1, 0, none⟩) (by simp; omega) _).setCell (p := ⟨w.heap.size + 1 + 1 + 1, 0, none⟩) (by simp; omega) _) _ (by simp at hD; omega) hK'⟩⟩
    · simp [results, Tryd.f16, go_sem, r1, r2, r3]
    · rw [q1, q2]
  case stop =>
    rintro D k pre W hD hpre ⟨⟨rfl, x, hx, d1, d2, d3⟩, hB⟩ hK
    gi_wp2
    refine ⟨by simp, .inl ⟨_, _, rfl, run_takeDeferred hK, ?_⟩⟩
    have r1 := (Boxed.putObj d1 (.deferred none) hK rfl).cell
    have r2 := (Boxed.putObj d2 (.deferred none) hK rfl).cell
    have r3 := (Boxed.putObj d3 (.deferred none) hK rfl).cell
    obtain ⟨q1, q2⟩ := of_small hn (c := x.1) (s := x.2) (hit_all hpre hx)
    refine ⟨.tuple #[.int .i64 x.1, .bool true, .int .i64 0], ?_, ?_, ⟨below_put hB _ (by simp at hD; omega) hK⟩⟩
    · simp [results, Tryd.f16, go_sem, r1, r2, r3]
    · rw [q1, q2]

theorem of_any (n : Int) (w : World) : Calls Tryd.prog 16 #[.int .i64 n] w fun e W' => e = .returned (.tuple #[.int .i64 (clsI n), .bool (smaI n), .int .i64 (errW n)]) ∧ K w W' := by
  by_cases h : Wd n
  · rw [errW_in h]
    exact callsIn_wide.1 (of_in n h w)
  · rw [errW_out h, clsI_out h, smaI_out h]
    exact of_out n h w

end Cl
end Go.Proofs.YtlpdgomoepinjaaDoor
