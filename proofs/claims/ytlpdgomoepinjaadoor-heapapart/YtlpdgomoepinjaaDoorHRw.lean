/-
  A heap made since w0, and a row of addresses of one's own beside it.
-/
import Derived.Test.YtlpdgomoepinjaaDoorHLive
import Derived.Maps.AppendAt
namespace Go.Proofs.YtlpdgomoepinjaaDoor
open Go.RowKit
attribute [local go_sem ↓] Go.wp_at_zero Go.wp_at_succ
namespace Hp
variable {w0 w w' : World} {bh bs bm : Nat} {q : Int} {pg pg' : List (Int × Nat)} {W W' : Int → Int} {L L' : List Pg} {v : Value} {xs : List Int}

theorem Rn.kept (h : Rn w0 w bh bs bm q pg W L) {O : Nat → Prop} (k : Kept O w w') (hO : ∀ k, O k → ¬ Sl.foot bs bm pg k ∧ k ≠ bh ∧ k ≠ 0 ∧ w0.heap.size ≤ k) : Rn w0 w' bh bs bm q pg W L :=
  ⟨⟨h.st.hw.kept k fun j hj => ⟨(hO j hj).1, (hO j hj).2.1, (hO j hj).2.2.1⟩, h.st.ly⟩, ⟨k.os.trans h.k.os, k.tape.trans h.k.tape, k.output.trans h.k.output, Nat.le_trans h.k.size k.size, fun j hj hn => (k.same j (Nat.lt_of_lt_of_le hj h.k.size) (fun hx => by have := (hO j hx).2.2.2; omega)).trans (h.k.same j hj hn)⟩, h.lo⟩

structure Rr (w0 w : World) (bh bs bm : Nat) (q : Int) (pg : List (Int × Nat)) (W : Int → Int) (L : List Pg) (v : Value) (xs : List Int) : Prop where
  rn : Rn w0 w bh bs bm q pg W L
  row : w.ownsRow w0.heap.size 3 1 v xs.length (xs.map encI)
  ap : ∀ g, some g = v.ownBlock → ¬ Sl.foot bs bm pg g ∧ g ≠ bh
  pos : 0 < w0.heap.size

theorem own_lt {n₀ k : Nat} {t : TypeId} {ys : List Value} (h : w.ownsRow n₀ t 1 v k ys) {g : Nat} (hg : some g = v.ownBlock) : n₀ ≤ g ∧ g < w.heap.size := by
  rcases h.2 with ⟨rfl, _⟩ | ⟨g2, cap, cur, rfl, hb, hh, _⟩
  · cases hg
  · obtain rfl : g = g2 := by simpa [Value.ownBlock] using hg
    exact ⟨hb, (Array.getElem?_eq_some_iff.1 hh).1⟩

theorem Rr.first (h : Rn w0 w bh bs bm q pg W L) (h0 : 0 < w0.heap.size) : Rr w0 w bh bs bm q pg W L (.slice none 0 0) [] := ⟨h, World.ownsRow_nil _ _ _ _, (fun _ hg => nomatch hg), h0⟩

theorem Rr.keep (h : Rr w0 w bh bs bm q pg W L v xs) (k : K w w') : Rr w0 w' bh bs bm q pg W L v xs := ⟨h.rn.keep k, ownsRow_kept (O := No) h.row k (fun _ _ x => x), h.ap, h.pos⟩
theorem Rr.step (h : Rr w0 w bh bs bm q pg W L v xs) (s : St w' bh bs bm q pg' W' L') (t : Sl.Step bs bm pg pg' w w') : Rr w0 w' bh bs bm q pg' W' L' v xs := by
  refine ⟨h.rn.step s t, ownsRow_kept (O := Sl.foot bs bm pg) h.row ⟨t.os, t.tape, t.output, t.size, t.kept⟩ (fun g hg => (h.ap g hg).1), fun g hg => ⟨fun hf => ?_, (h.ap g hg).2⟩, h.pos⟩
  rcases t.inn g hf with h2 | h2
  · exact (h.ap g hg).1 h2
  · have := (own_lt h.row hg).2
    omega

/-- Behind an append. -/
theorem Rr.app (h : Rr w0 w bh bs bm q pg W L v xs) {a : Int} {o : Obj} {v' : Value} (hown : w'.ownsRow w0.heap.size 3 1 v' (xs.length + 1) (xs.map encI ++ [.int .i64 a])) (hgrow : (w.alloc o).grownBy w' v.ownBlock) (hat : v'.ownBlock = v.ownBlock ∨ v'.ownBlock = some (w.alloc o).heap.size) : Rr w0 w' bh bs bm q pg W L v' (xs ++ [a]) := by
  have hsz := hgrow.size
  simp at hsz
  have hbh : bh < w.heap.size := (Array.getElem?_eq_some_iff.1 h.rn.st.hw.hd).1
  have kk : Kept (fun k => some k = v.ownBlock) w w' := ⟨hgrow.os, hgrow.tape, hgrow.output, by omega, fun k hk hn => by
    rw [hgrow.block k (by simp; omega) hn]
    exact Below.heap_alloc w o k hk⟩
  refine ⟨h.rn.kept kk (fun k hk => ⟨(h.ap k hk).1, (h.ap k hk).2, by have := (own_lt h.row hk).1; have := h.pos; omega, (own_lt h.row hk).1⟩), ?_, fun g hg => ?_, h.pos⟩
  · rw [List.length_append, List.map_append]
    exact hown
  · rcases hat with e | e
    · exact h.ap g (by rw [← e]; exact hg)
    · rw [e] at hg
      obtain rfl : g = w.heap.size + 1 := by simpa using hg
      exact ⟨fun hf => by have := h.rn.st.hw.ar.foot_lt hf; omega, by omega⟩

theorem Rr.alloc (h : Rr w0 w bh bs bm q pg W L v xs) (x a er : Int) (L' : List Pg) (e : allocL q L x = (a, er, L')) : Calls Tryd.prog 6 #[hp bh, .int .i64 x] w fun e w' => e = .returned (.tuple #[.int .i64 a, .int .i64 er]) ∧ ∃ pg' W', Rr w0 w' bh bs bm q pg' W' L' v xs := by
  have := alloc_any h.rn.st x
  rw [e] at this
  refine this.mono ?_
  rintro e w1 ⟨rfl, pg1, W1, s1, t1, _, _⟩
  exact ⟨rfl, pg1, W1, h.step s1 t1⟩
theorem Rr.free (h : Rr w0 w bh bs bm q pg W L v xs) (a : Int) (ha : In64 a) (p : Pg) (s : Int) (L' : List Pg) (e : findB L a = some (p, s)) (e2 : dropL L p s = L') : Calls Tryd.prog 9 #[hp bh, .int .i64 a] w fun e w' => e = .returned (.int .i64 0) ∧ ∃ pg' W', Rr w0 w' bh bs bm q pg' W' L' v xs := by
  have hfr : (freeL L a).1 = 0 := by unfold freeL; rw [e]
  have := free_any h.rn.st a ha
  rw [hfr] at this
  refine this.mono ?_
  rintro e3 w1 ⟨rfl, (⟨h1, _⟩ | ⟨p', s', h1, pg1, W1, s1, t1, _⟩)⟩
  · rw [e] at h1; cases h1
  · rw [e] at h1
    obtain ⟨rfl, rfl⟩ := Prod.mk.inj (Option.some.inj h1)
    rw [e2] at s1
    exact ⟨rfl, pg1, W1, h.step s1 t1⟩
theorem Rr.freeNone (h : Rr w0 w bh bs bm q pg W L v xs) (a : Int) (ha : In64 a) (e : findB L a = none) : Calls Tryd.prog 9 #[hp bh, .int .i64 a] w fun e w' => e = .returned (.int .i64 5) ∧ Rr w0 w' bh bs bm q pg W L v xs := by
  have := free_any h.rn.st a ha
  rw [show (freeL L a).1 = 5 by unfold freeL; rw [e]] at this
  refine this.mono ?_
  rintro e3 w1 ⟨rfl, (⟨h1, k1⟩ | ⟨p', s', h1, _⟩)⟩
  · exact ⟨rfl, h.keep k1⟩
  · rw [e] at h1; cases h1

/-- An address of the row. -/
theorem Rr.at (h : Rr w0 w bh bs bm q pg W L v xs) {i : Nat} (hi : i < xs.length) : ∃ g cap, v = .slice (some ⟨g, 0, none⟩) xs.length cap ∧ w.cell? ⟨g, i, none⟩ = some (encI xs[i]) := by
  rcases h.row.2 with ⟨_, e⟩ | ⟨g, cap, cur, e, _, hg, _, _, _, ht⟩
  · omega
  · refine ⟨g, cap, e, ?_⟩
    have h1 : (cur.toList.take (xs.length * 1))[i]? = some (encI xs[i]) := by rw [ht]; simp [hi]
    rw [List.getElem?_take] at h1
    rw [if_pos (by omega)] at h1
    simp only [World.cell?, hg]
    rw [if_neg (by simp)]
    rw [← Array.getElem?_toList]
    exact h1

end Hp
end Go.Proofs.YtlpdgomoepinjaaDoor
