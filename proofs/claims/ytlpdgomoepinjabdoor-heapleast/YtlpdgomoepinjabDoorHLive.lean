/-
  The walk of package heap's Live: the addresses of all blocks, rising.
-/
import Derived.Test.YtlpdgomoepinjabDoorHAwake
import Derived.Maps.AppendAt
namespace Go.Proofs.YtlpdgomoepinjabDoor
open Go.RowKit Go.Shelf
attribute [local go_sem] Oper.semAt_some
namespace Hp
variable {w : World} {bh bs bm : Nat} {q : Int} {pg : List (Int × Nat)} {W : Int → Int}

/-- An append, in a region that draws its order: its run is known. -/
theorem oper_append {F : Fence} {n : Nat} {P : Program} {o : Oper} {a : Act} {w w' : World} {K : Act → World → Prop} {Q : Exit → Act → World → Prop} {s x : Operand} {t : TypeId} (hop : o.op = Op.call { callee := Callee.builtin Builtin.append, args := #[s, x], argTypes := #[t, t] })
    {v u v' : Value} (hs : a.eval s = v) (hx : a.eval x = u) (hrun : (Builtin.append_ #[t, t] o.type #[v, u]).run P w = .ok v' w') (hK : K (a.put o.dst v') w') : o.wpIn F n P a w K Q := by
  unfold Oper.wpIn
  refine ⟨by simp [Oper.about, hop, resolve, Target.leads, Sem.run_pure], ?_⟩
  rw [Oper.semAt_plain F _ _ (by rw [hop]; intro c hc; cases hc)]
  simp [execOp, hop, resolve, invoke, builtin, hs, hx, hrun, Result.andThen]
  exact hK

/-- The addresses of all blocks. -/
def liveP (p : Pg) (l : List Int) : List Int := l.map fun s => addrI p s
def liveL (L : List Pg) : List Int := L.flatMap fun p => liveP p (slotsOf p)
theorem liveL_snoc (pre : List Pg) (x : Pg) : liveL (pre ++ [x]) = liveL pre ++ liveP x (slotsOf x) := by simp [liveL]
theorem liveP_snoc (p : Pg) (pr : List Int) (y : Int) : liveP p (pr ++ [y]) = liveP p pr ++ [addrI p y] := by simp [liveP]
theorem liveL_len {pre l : List Pg} (h : pre <+: l) : (liveL pre).length ≤ (liveL l).length := by
  obtain ⟨t, rfl⟩ := h
  simp [liveL]
theorem liveP_len (p : Pg) {pr l : List Int} (h : pr <+: l) : (liveP p pr).length ≤ (liveP p l).length := by
  obtain ⟨t, rfl⟩ := h
  simp [liveP]

abbrev encI (x : Int) : Value := .int .i64 x
abbrev mine (B : Nat) (v : Value) : Nat → Prop := fun k => k = B ∨ some k = v.ownBlock
/-- The box at B holds a row of these; M: the box and the row. -/
def RowB (n₀ B : Nat) (xs : List Int) (M : Nat → Prop) (V : World) : Prop := ∃ v, Boxed V B 30 v ∧ V.ownsRow n₀ 3 1 v xs.length (xs.map encI) ∧ M = mine B v

theorem ownsRow_kept {A C : World} {n₀ k : Nat} {t : TypeId} {v : Value} {xs : List Value} (h : A.ownsRow n₀ t 1 v k xs) {O : Nat → Prop} (kk : Kept O A C) (hO : ∀ g, some g = v.ownBlock → ¬ O g) : C.ownsRow n₀ t 1 v k xs := by
  obtain ⟨h1, h2⟩ := h
  refine ⟨h1, ?_⟩
  rcases h2 with h2 | ⟨g, cap, cur, rfl, hb, hg, rest⟩
  · exact .inl h2
  · exact .inr ⟨g, cap, cur, rfl, hb, kk.block hg (hO g rfl), rest⟩
theorem RowB.next {n₀ B : Nat} {xs : List Int} {M : Nat → Prop} {A C : World} (h : RowB n₀ B xs M A) {O : Nat → Prop} (kk : Kept O A C) (hO : ∀ g, M g → ¬ O g) : RowB n₀ B xs M C := by
  obtain ⟨v, h1, h2, rfl⟩ := h
  exact ⟨v, kk.boxed h1 (hO _ (.inl rfl)), ownsRow_kept h2 kk (fun g hg => hO g (.inr hg)), rfl⟩
theorem RowB.keep {n₀ B : Nat} {xs : List Int} {M : Nat → Prop} {A C : World} (h : RowB n₀ B xs M A) (kk : K A C) : RowB n₀ B xs M C := h.next (O := No) kk (fun _ _ x => x)
theorem RowB.lt {n₀ B : Nat} {xs : List Int} {M : Nat → Prop} {A : World} (h : RowB n₀ B xs M A) {k : Nat} (hk : M k) : k < A.heap.size ∧ (k = B ∨ n₀ ≤ k) := by
  obtain ⟨v, h1, h2, rfl⟩ := h
  rcases hk with rfl | hk
  · exact ⟨h1.lt, .inl rfl⟩
  · rcases h2.2 with ⟨rfl, _⟩ | ⟨g, cap, cur, rfl, hb, hg, _⟩
    · cases hk
    · obtain rfl : k = g := by simpa [Value.ownBlock] using hk
      exact ⟨(Array.getElem?_eq_some_iff.1 hg).1, .inr hb⟩

/-- What an append into the box makes. -/
theorem RowB.append {n₀ B : Nat} {xs : List Int} {M : Nat → Prop} {V V2 : World} (h : RowB n₀ B xs M V) (k2 : K V V2) (hB : B < n₀) (hn : n₀ ≤ V.heap.size) (hl : xs.length ≤ 200000) (ad : Int) {w0 : World} (hk : K w0 V) (hw0 : w0.heap.size ≤ B) {D : Nat} {o : Obj} (hD : V.heap[D]? = some o) (hDn : D < n₀) (hDB : D ≠ B) :
    ∃ v g' cap' W3, V.cell? ⟨B, 0, none⟩ = some v ∧ (∀ ty, (Builtin.append_ #[30, 30] ty #[v, .slice (some ⟨V2.heap.size, 0, none⟩) 1 1]).run Tryd.prog (V2.alloc (.cells #[.int .i64 ad] 3)) = .ok (.slice (some ⟨g', 0, none⟩) (xs.length + 1) cap') W3) ∧
      Boxed W3 B 30 v ∧ Kept M V (W3.setCell ⟨B, 0, none⟩ (.slice (some ⟨g', 0, none⟩) (xs.length + 1) cap')) ∧ RowB n₀ B (xs ++ [ad]) (mine B (.slice (some ⟨g', 0, none⟩) (xs.length + 1) cap')) (W3.setCell ⟨B, 0, none⟩ (.slice (some ⟨g', 0, none⟩) (xs.length + 1) cap')) ∧ K w0 (W3.setCell ⟨B, 0, none⟩ (.slice (some ⟨g', 0, none⟩) (xs.length + 1) cap')) ∧ (W3.setCell ⟨B, 0, none⟩ (.slice (some ⟨g', 0, none⟩) (xs.length + 1) cap')).heap[D]? = some o ∧ Grows M (mine B (.slice (some ⟨g', 0, none⟩) (xs.length + 1) cap')) V := by
  have hlt := fun {k} (hk : M k) => h.lt hk
  have h' := h
  obtain ⟨v, h1, h2, rfl⟩ := h'
  have hi : (Tryd.prog.info? 3).map (fun i => (i.zero, i.size, i.bytes)) = some (some (.int .i64 0), 1, 8) := by kernel_rfl
  obtain ⟨i0, hi1, hz0, hz1, hz2⟩ := info_parts hi
  have r2 : V2.ownsRow n₀ 3 1 v xs.length (xs.map encI) := ownsRow_kept (O := No) h2 k2 (fun _ _ x => x)
  have ka : K V2 (V2.alloc (.cells #[.int .i64 ad] 3)) := (K.refl V2).alloc _
  have r3 := ownsRow_kept (O := No) r2 ka (fun _ _ x => x)
  have hsz := k2.size
  have hcell : (V2.alloc (.cells #[.int .i64 ad] 3)).heap[V2.heap.size]? = some (.cells #[.int .i64 ad] 3) := World.alloc_heap_new _ _
  have ap := fun ty => run_append_own_at (P := Tryd.prog) (V2.alloc (.cells #[.int .i64 ad] 3)) n₀ 30 ty 3 i0 (.int .i64 0) 1 8 Tryd.underlying30 hi1 hz0 hz1 hz2 rfl (by decide) v xs.length (xs.map encI) r3 ⟨V2.heap.size, 0, none⟩ 1 1 [.int .i64 ad] rfl
    (fun j u hu => by
      cases j with
      | zero =>
        simp at hu
        subst hu
        show (V2.alloc (.cells #[.int .i64 ad] 3)).cell? ⟨V2.heap.size, 0, none⟩ = _
        simp only [World.cell?]
        rw [hcell]
        rfl
      | succ j => simp at hu) (fun u hu => by simp at hu; subst hu; rfl) (by unfold maxLen; omega) (by omega) (by simp; omega)
  obtain ⟨v', W3, hrun, hown, hgrow, _, hat⟩ := ap 30
  obtain ⟨g', cap', rfl⟩ := ownsRow_succ hown
  have hb2 : Boxed V2 B 30 v := k2.boxed h1
  have hgB : some B ≠ v.ownBlock := fun e => by
    rcases h2.2 with ⟨rfl, _⟩ | ⟨g, cap, cur, rfl, hb, _⟩
    · cases e
    · have : B = g := by simpa [Value.ownBlock] using e
      omega
  have hb3 : Boxed W3 B 30 v := (ka.boxed hb2).kept hgrow hgB
  have hg'n : n₀ ≤ g' := by
    rcases hown.2 with ⟨e, _⟩ | ⟨g, cap, cur, e, hb, _⟩
    · cases e
    · cases e
      exact hb
  have k3 : Kept (mine B v) V W3 := ⟨hgrow.os.trans k2.os, hgrow.tape.trans k2.tape, hgrow.output.trans k2.output, by have := hgrow.size; simp at this; omega, fun k hk hn => by
    have e1 : some k ≠ v.ownBlock := fun e => hn (.inr e)
    rw [hgrow.block k (by simp; omega) e1, ka.same k (by omega) (fun x => x)]
    exact k2.same k hk (fun x => x)⟩
  have k4 := k3.setCell (p := ⟨B, 0, none⟩) (.slice (some ⟨g', 0, none⟩) (xs.length + 1) cap') (.inl (.inl rfl))
  have ks := (Kept.refl (fun k => k = B) W3).setCell (p := ⟨B, 0, none⟩) (.slice (some ⟨g', 0, none⟩) (xs.length + 1) cap') (.inl rfl)
  refine ⟨v, g', cap', W3, h1.cell, fun ty => ?_, hb3, k4, ⟨_, hb3.set _, ?_, rfl⟩, ?_, ?_, ?_⟩
  · rw [← hrun]
    rfl
  · rw [List.length_append, List.map_append]
    exact ownsRow_kept hown ks (fun g hg => by
      have : g = g' := by simpa [Value.ownBlock] using hg
      omega)
  · exact ⟨k4.os.trans hk.os, k4.tape.trans hk.tape, k4.output.trans hk.output, Nat.le_trans hk.size k4.size, fun j hj hn => (k4.same j (Nat.lt_of_lt_of_le hj hk.size) (fun hm => by have := (hlt hm).2; omega)).trans (hk.same j hj hn)⟩
  · refine k4.block hD (fun hm => ?_)
    have := (hlt hm).2
    omega
  · intro k hk
    rcases hk with rfl | hk
    · exact .inl (.inl rfl)
    · have : k = g' := by simpa [Value.ownBlock] using hk
      subst this
      rcases hat with e | e
      · exact .inl (.inr (by rw [← e]; rfl))
      · right
        simp [Value.ownBlock] at e
        omega

theorem Kept.grow {M M2 : Nat → Prop} {A V V' : World} (h : Kept M A V) (g : Grows M M2 A) (k : Kept M2 V V') : Kept M A V' :=
  ⟨k.os.trans h.os, k.tape.trans h.tape, k.output.trans h.output, Nat.le_trans h.size k.size, fun j hj hn => (k.same j (Nat.lt_of_lt_of_le hj h.size) (fun hm => by
    rcases g j hm with h1 | h1
    · exact hn h1
    · omega)).trans (h.same j hj hn)⟩
theorem Grows.trans {M M2 M3 : Nat → Prop} {A V : World} (g : Grows M M2 A) (hs : A.heap.size ≤ V.heap.size) (g2 : Grows M2 M3 V) : Grows M M3 A := fun k hk => by
  rcases g2 k hk with h | h
  · exact g k h
  · exact .inr (Nat.le_trans hs h)

end Hp
end Go.Proofs.YtlpdgomoepinjabDoor
