/-
  The walk of package heap's Audit: whether all heads are right.
-/
import Derived.Test.YtlpdgomoepinjaaDoorHPages
namespace Go.Proofs.YtlpdgomoepinjaaDoor
open Go.RowKit Go.Shelf
attribute [local go_sem] Oper.semAt_some
namespace Hp
variable {w : World} {bh bs bm : Nat} {q : Int} {pg : List (Int × Nat)} {W : Int → Int}

theorem audit_nil (w : World) : Calls Tryd.prog 11 #[.pointer none] w fun e w' => e = .returned (.int .i64 1) ∧ K w w' := by
  have hm := fun w => made_nil w
  go_enter Tryd.func11, Tryd.ntmps11
  go_wp2_with (go_at_call 15; refine (hm _).mono ?_; rintro e w' ⟨rfl, rfl⟩)
  exact bodyPost_ret (v := .int .i64 1) (by simp [results, Tryd.results11, go_sem]) rfl ⟨rfl, (K.refl w).alloc _⟩

/-- What Audit tells. -/
def audI (l : List Pg) : Int := if l.any (fun p => p.kind == 0) then 8 else 0

theorem aud_pre {pre l : List Pg} (h : pre <+: l) (ha : audI pre = 8) : audI l = 8 := by
  obtain ⟨t, rfl⟩ := h
  unfold audI at *
  split at ha
  · rename_i hh
    rw [List.any_append, hh]
    rfl
  · cases ha

/-- In an outermost loop. -/
theorem outer {P : Program} {fn : Nat} {tmps : Array Value} {ps : Array Tmp} {assign body : Code} (w : World) : ∃ df, (Instr.enterLoop fn tmps ps assign body none).run P w = .ok ((w.alloc (.deferred (some []))).heap.size, [{ target := .collected w.heap.size, args := #[] }])
    ((w.alloc (.deferred (some []))).alloc (.loop { state := .ready, pending := none, fn, tmps := tmps, params := ps, assign, body, defers := df })) := by
  refine ⟨w.heap.size, ?_⟩
  rw [run_enterLoop_outer]
  simp

set_option maxRecDepth 100000 in
set_option maxHeartbeats 1000000 in
theorem audit_in (n : Nat) (h : Hw w bh bs bm q pg W) : CallsIn Fence.wide n Tryd.prog 11 #[hp bh] w fun e w' => e = .returned (.int .i64 (audI (heads pg W))) ∧ K w w' := by
  have b0 := Boxed.new w 31 (.int .i64 0)
  have kB : K w (w.alloc (.cells #[.int .i64 0] 31)) := (K.refl w).alloc _
  have hB := h.keep kB
  have hm := made_yes bh bs _ hB.c0
  have hlt : bh < w.heap.size := lt_of_cell h.c0
  have hfl : ∀ k, Sl.foot bs bm pg k → k < w.heap.size := fun k hk => h.ar.foot_lt hk
  have hsz : (w.alloc (.cells #[.int .i64 0] 31)).heap.size = w.heap.size + 1 := by simp
  have h0 := lt0 h.tab
  refine callsIn_of_wp_marks Tryd.func11 rfl trivial ?_ rfl
  simp only [Tryd.ntmps11, List.size_toArray, List.length_cons, List.length_nil, Nat.reduceAdd, Nat.reduceSub, Array.replicate_succ, Array.replicate_zero, List.push_toArray, List.append_toArray, List.nil_append, List.cons_append]
  gi_wp2
  refine ⟨trivial, fun h => (by cases h), (callsIn_wide.2 hm).mono ?_⟩
  rintro e w' ⟨rfl, rfl⟩
  gi_wp2
  generalize w.alloc (.cells #[.int .i64 0] 31) = w1 at *
  refine range_core (r := none) (w' := w1.alloc (.deferred (some []))) (mark := [{ target := .collected w1.heap.size, args := #[] }]) (gf := 25) (ba := #[hp bh]) rfl (enters_of Tryd.func25 (by kernel_rfl) rfl) (fun fn => outer w1)
    (pages_seq hB (fun k => k = w.heap.size) (fun k hk => by subst hk; exact ⟨fun hf => by have := hfl _ hf; omega, by omega, by omega⟩)) ((K.refl w1).alloc _) (fun k hk => by subst hk; simp; omega) (fun _ => rfl)
    (fun pre W' => audI pre = 0 ∧ Boxed W' w.heap.size 31 (.int .i64 0) ∧ K w W' ∧ W'.heap[w1.heap.size]? = some (.deferred (some [])))
    (fun c pre W' => c = .ret ∧ audI pre = 8 ∧ Boxed W' w.heap.size 31 (.int .i64 8) ∧ K w W' ∧ W'.heap[w1.heap.size]? = some (.deferred (some [])))
    (fun pre x a' W' => (audI pre = 0 ∧ Boxed W' w.heap.size 31 (.int .i64 0) ∧ K w W' ∧ W'.heap[w1.heap.size]? = some (.deferred (some []))) ∧ ∃ B, w1.heap.size + 1 < B ∧ a' = { tmps := #[hp bh, undef, .pointer (some ⟨w.heap.size, 0, none⟩), .pointer (some ⟨B, 0, none⟩), hp bh, .bool true, .bool false, hp bh, .func (.func 25) #[hp bh] #[], pgV x, undef, undef, undef], defers := [] } ∧ W'.heap[B]? = some (.cells #[.int .i64 x.n, .int .i64 x.kind, .int .i64 x.cls, .int .u64 x.taken, .int .i64 x.words, .int .i64 x.span] 56))
    ?hI ?hIx ?hAx ?h0 ?hassign ?hbody ?hdone ?hstop
  case hI =>
    rintro s A B ⟨ha, hb, hk, hd⟩ k
    simp only [World.size_alloc] at k
    exact ⟨ha, k.boxed hb (by omega), hk.thenKept k (by omega), k.block hd (by omega)⟩
  case hIx =>
    rintro c s A B ⟨hc, ha, hb, hk, hd⟩ k
    simp only [World.size_alloc] at k
    exact ⟨hc, ha, k.boxed hb (by omega), hk.thenKept k (by omega), k.block hd (by omega)⟩
  case hAx =>
    rintro s x a' A B ⟨⟨ha, hb, hk, hd⟩, D, hD, he, hx⟩ k
    simp only [World.size_alloc] at k
    exact ⟨⟨ha, k.boxed hb (by omega), hk.thenKept k (by omega), k.block hd (by omega)⟩, D, hD, he, k.block hx (by omega)⟩
  case h0 => exact ⟨rfl, b0.alloc _, kB.alloc _, World.alloc_heap_new _ _⟩
  case hassign =>
    rintro pre x W' _ ⟨ha, hb, hk, hd⟩ hl
    simp only [World.size_alloc] at hl
    gi_wp2
    exact ⟨(Kept.refl _ _).alloc _, ⟨ha, hb.alloc _, hk.alloc _, ((K.refl W').alloc _).block hd⟩, _, hl, rfl, World.alloc_heap_new _ _⟩
  case hbody =>
    rintro pre x a' W' _ _ ⟨⟨ha, hb, hk, hd⟩, D, hD, rfl, hx⟩
    obtain ⟨⟨c0, c1, c2, c3, c4, c5⟩, _⟩ := six hx
    have bc := hb.cell
    have bf := hb.frozen
    by_cases hz : x.kind = 0
    · have e1 : audI (pre ++ [x]) = 8 := by simp [audI, hz]
      gi_wp2
      have ks := (Kept.refl (fun k => k = w.heap.size) W').setCell (p := ⟨w.heap.size, 0, none⟩) (.int .i64 8) (.inl rfl)
      exact ⟨ks, rfl, e1, hb.set _, hk.setCell _ (Nat.le_refl _), ks.block hd (by omega)⟩
    · have e1 : audI (pre ++ [x]) = 0 := by
        unfold audI at ha ⊢
        split at ha
        · cases ha
        · rename_i hn
          simp at hn
          simp [hz]
          exact hn
      have hz' : (x.kind == 0) = false := by simpa using hz
      gi_wp2
      exact ⟨Kept.refl _ _, e1, hb, hk, hd⟩
  case hdone =>
    rintro W' ⟨ha, hb, hk, hd⟩
    have bc := hb.cell
    have bf := hb.frozen
    have ks := (Kept.refl (fun k => k = w.heap.size) W').setCell (p := ⟨w.heap.size, 0, none⟩) (.int .i64 0) (.inl rfl)
    have hd2 := ks.block hd (by omega)
    have hb2 := (Cl.Boxed.putObj (hb.set (.int .i64 0)) (.deferred none) hd2 rfl).cell
    gi_wp2
    refine ⟨by simp, .inl ⟨_, _, rfl, run_takeDeferred hd2, .int .i64 0, ?_, ?_, ?_⟩⟩
    · simp [results, Tryd.f11, go_sem, hb2]
    · rw [ha]
    · exact Kept.putObj (hk.setCell _ (Nat.le_refl _)) _ (.inr (by omega))
  case hstop =>
    rintro c pre W' hpre ⟨rfl, ha, hb, hk, hd⟩
    have hb2 := (Cl.Boxed.putObj hb (.deferred none) hd rfl).cell
    gi_wp2
    refine ⟨by simp, .inl ⟨_, _, rfl, run_takeDeferred hd, .int .i64 8, ?_, ?_, ?_⟩⟩
    · simp [results, Tryd.f11, go_sem, hb2]
    · rw [aud_pre hpre ha]
    · exact Kept.putObj hk _ (.inr (by omega))

theorem audit_any (h : Hw w bh bs bm q pg W) : Calls Tryd.prog 11 #[hp bh] w fun e w' => e = .returned (.int .i64 (audI (heads pg W))) ∧ K w w' := (callsIn_wide (n := 0)).1 (audit_in 0 h)

end Hp
end Go.Proofs.YtlpdgomoepinjaaDoor
