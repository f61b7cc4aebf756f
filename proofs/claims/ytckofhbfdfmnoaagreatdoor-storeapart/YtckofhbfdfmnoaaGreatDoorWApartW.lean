/-
  StoreApart's two rows, and the rows of words, in memory beside a store.
-/
import Derived.Test.YtckofhbfdfmnoaaGreatDoorWApartM
namespace Go.Proofs.YtckofhbfdfmnoaaGreatDoor
open Go.RowKit Go.Maps
namespace So
open Hp (Kept K No Pg)
variable {w0 w w' : World} {A : Ad} {pg pg' : List (Int × Nat)} {W W' : Int → Int} {L L' : List Pg} {v v' vl vw u : Value} {T T' : List Hd.Sl} {hs : List Int} {cs : List Cw}

abbrev encH (x : Int) : Value := .int .u64 x
def cval : Cw → Value
  | none => .slice none 0 0
  | some (g, ws) => .slice (some ⟨g, 0, none⟩) ws.length ws.length

/-- The blocks of these rows. -/
def own (vl vw : Value) (cs : List Cw) (b : Nat) : Prop := some b = vl.ownBlock ∨ some b = vw.ownBlock ∨ ∃ (k : Nat) (ws : List Int), cs[k]? = some (some (b, ws))

structure Mm (w0 w : World) (A : Ad) (pg : List (Int × Nat)) (v vl vw : Value) (hs : List Int) (cs : List Cw) : Prop where
  rl : w.ownsRow w0.heap.size 48 1 vl hs.length (hs.map encH)
  rw : w.ownsRow w0.heap.size 50 1 vw cs.length (cs.map cval)
  bk : ∀ (k : Nat) g ws, cs[k]? = some (some (g, ws)) → w.ownsRow w0.heap.size 44 1 (.slice (some ⟨g, 0, none⟩) ws.length ws.length) ws.length (ws.map encH)
  ap : ∀ b, own vl vw cs b → ¬ foot A pg v b ∧ b ≠ A.bh ∧ b ≠ A.st
  lw : ∀ b, some b = vl.ownBlock → some b ≠ vw.ownBlock
  lg : ∀ b (k : Nat) ws, some b = vl.ownBlock → cs[k]? ≠ some (some (b, ws))
  wg : ∀ b (k : Nat) ws, some b = vw.ownBlock → cs[k]? ≠ some (some (b, ws))
  gg : ∀ (j k : Nat) g ws ws', cs[j]? = some (some (g, ws)) → cs[k]? = some (some (g, ws')) → j = k

theorem Mm.nil (w0 w : World) (A : Ad) (pg : List (Int × Nat)) (v : Value) : Mm w0 w A pg v (.slice none 0 0) (.slice none 0 0) [] [] :=
  ⟨World.ownsRow_nil _ _ _ _, World.ownsRow_nil _ _ _ _, fun k g ws h => (by simp at h), fun b h => by rcases h with h | h | ⟨k, ws, h⟩ <;> first | cases h | simp at h, fun b h => (by cases h), fun b k ws h => (by cases h), fun b k ws h => (by cases h), fun j k g ws ws' h => (by simp at h)⟩

theorem Mm.lt (h : Mm w0 w A pg v vl vw hs cs) {b : Nat} (hb : own vl vw cs b) : w0.heap.size ≤ b ∧ b < w.heap.size := by
  rcases hb with hb | hb | ⟨k, ws, hb⟩
  · exact Hd.own_lt h.rl hb
  · exact Hd.own_lt h.rw hb
  · exact Hd.own_lt (h.bk k b ws hb) rfl

theorem Mm.kept (h : Mm w0 w A pg v vl vw hs cs) {O : Nat → Prop} (k : Kept O w w') (hO : ∀ b, own vl vw cs b → ¬ O b) (hf : ∀ b, own vl vw cs b → ¬ foot A pg' v' b) : Mm w0 w' A pg' v' vl vw hs cs :=
  ⟨Hd.ownsRow_kept h.rl k (fun g hg => hO g (.inl hg)), Hd.ownsRow_kept h.rw k (fun g hg => hO g (.inr (.inl hg))), fun j g ws hj => Hd.ownsRow_kept (h.bk j g ws hj) k (fun b hb => hO b (by
    obtain rfl : b = g := by simpa [Value.ownBlock] using hb
    exact .inr (.inr ⟨j, ws, hj⟩))), fun b hb => ⟨hf b hb, (h.ap b hb).2⟩, h.lw, h.lg, h.wg, h.gg⟩
theorem Mm.keep (h : Mm w0 w A pg v vl vw hs cs) (k : K w w') : Mm w0 w' A pg v vl vw hs cs := h.kept k (fun _ _ x => x) (fun b hb => (h.ap b hb).1)
theorem Mm.step (h : Mm w0 w A pg v vl vw hs cs) (s : Stp A pg pg' v v' w w') : Mm w0 w' A pg' v' vl vw hs cs := h.kept s.k (fun b hb => (h.ap b hb).1) (fun b hb => s.off (h.lt hb).2 (h.ap b hb).1)

theorem grown_kept {o : Obj} {row : Option Nat} (hg : (w.alloc o).grownBy w' row) : Kept (fun k => some k = row) w w' := by
  have hsz := hg.size
  simp at hsz
  exact ⟨hg.os, hg.tape, hg.output, by omega, fun j hj hn => by rw [hg.block j (by simp; omega) hn, Below.heap_alloc w o j hj]⟩

/-- The handles' row grows. -/
theorem Mm.appL {o : Obj} (h : Mm w0 w A pg v vl vw hs cs) (nf : ∀ b, w.heap.size ≤ b → ¬ foot A pg v b ∧ b ≠ A.bh ∧ b ≠ A.st) {x : Int} (hown : w'.ownsRow w0.heap.size 48 1 u (hs.length + 1) (hs.map encH ++ [encH x])) (hg : (w.alloc o).grownBy w' vl.ownBlock) (hat : u.ownBlock = vl.ownBlock ∨ u.ownBlock = some (w.alloc o).heap.size) :
    Mm w0 w' A pg v u vw (hs ++ [x]) cs := by
  have k := grown_kept hg
  have hnew : ∀ b, some b = u.ownBlock → some b = vl.ownBlock ∨ w.heap.size ≤ b := fun b hb => by
    rcases hat with e | e
    · exact .inl (by rw [hb, e])
    · rw [e] at hb
      have : b = (w.alloc o).heap.size := Option.some.inj hb
      simp at this
      exact .inr (by omega)
  refine ⟨by rw [List.length_append, List.map_append]; exact hown, Hd.ownsRow_kept h.rw k (fun g hg2 e => h.lw g e hg2), fun j g ws hj => Hd.ownsRow_kept (h.bk j g ws hj) k (fun b hb e => ?_), fun b hb => ?_, fun b hb hb2 => ?_, fun b j ws hb hj => ?_, h.wg, h.gg⟩
  · obtain rfl : b = g := by simpa [Value.ownBlock] using hb
    exact h.lg b j ws e hj
  · rcases hb with hb | hb
    · rcases hnew b hb with h2 | h2
      · exact h.ap b (.inl h2)
      · exact nf b h2
    · exact h.ap b (.inr hb)
  · rcases hnew b hb with h2 | h2
    · exact h.lw b h2 hb2
    · have := (h.lt (.inr (.inl hb2))).2
      omega
  · rcases hnew b hb with h2 | h2
    · exact h.lg b j ws h2 hj
    · have := (h.lt (.inr (.inr ⟨j, ws, hj⟩))).2
      omega

/-- The row of rows grows. -/
theorem Mm.appW {o : Obj} (h : Mm w0 w A pg v vl vw hs cs) (nf : ∀ b, w.heap.size ≤ b → ¬ foot A pg v b ∧ b ≠ A.bh ∧ b ≠ A.st) {g : Nat} {ws : List Int} (hin : w.ownsRow w0.heap.size 44 1 (.slice (some ⟨g, 0, none⟩) ws.length ws.length) ws.length (ws.map encH)) (hgn : ¬ own vl vw cs g) (hgf : ¬ foot A pg v g ∧ g ≠ A.bh ∧ g ≠ A.st)
    (hown : w'.ownsRow w0.heap.size 50 1 u (cs.length + 1) (cs.map cval ++ [cval (some (g, ws))])) (hg : (w.alloc o).grownBy w' vw.ownBlock) (hat : u.ownBlock = vw.ownBlock ∨ u.ownBlock = some (w.alloc o).heap.size) :
    Mm w0 w' A pg v vl u hs (cs ++ [some (g, ws)]) := by
  have k := grown_kept hg
  have hnew : ∀ b, some b = u.ownBlock → some b = vw.ownBlock ∨ w.heap.size ≤ b := fun b hb => by
    rcases hat with e | e
    · exact .inl (by rw [hb, e])
    · rw [e] at hb
      have : b = (w.alloc o).heap.size := Option.some.inj hb
      simp at this
      exact .inr (by omega)
  have hgl : g < w.heap.size := (Hd.own_lt hin rfl).2
  have lst : ∀ (j : Nat) (b : Nat) (xs : List Int), (cs ++ [some (g, ws)])[j]? = some (some (b, xs)) → (j < cs.length ∧ cs[j]? = some (some (b, xs))) ∨ (j = cs.length ∧ b = g ∧ xs = ws) := fun j b xs hj => by
    by_cases hl : j < cs.length
    · rw [List.getElem?_append_left hl] at hj
      exact .inl ⟨hl, hj⟩
    · have hlt := (List.getElem?_eq_some_iff.1 hj).1
      simp at hlt
      have : j = cs.length := by omega
      subst this
      rw [List.getElem?_append_right (Nat.le_refl _)] at hj
      simp at hj
      exact .inr ⟨rfl, hj.1.symm, hj.2.symm⟩
  refine ⟨Hd.ownsRow_kept h.rl k (fun b hb e => h.lw b hb e), by rw [List.length_append, List.map_append]; exact hown, fun j b xs hj => ?_, fun b hb => ?_, fun b hb hb2 => ?_, fun b j xs hb hj => ?_, fun b j xs hb hj => ?_, fun i j b xs ys hi hj => ?_⟩
  · rcases lst j b xs hj with ⟨_, h2⟩ | ⟨_, rfl, rfl⟩
    · refine Hd.ownsRow_kept (h.bk j b xs h2) k (fun c hc e => ?_)
      obtain rfl : c = b := by simpa [Value.ownBlock] using hc
      exact h.wg c j xs e h2
    · refine Hd.ownsRow_kept hin k (fun c hc e => ?_)
      obtain rfl : c = b := by simpa [Value.ownBlock] using hc
      exact hgn (.inr (.inl e))
  · rcases hb with hb | hb | ⟨j, xs, hj⟩
    · exact h.ap b (.inl hb)
    · rcases hnew b hb with h2 | h2
      · exact h.ap b (.inr (.inl h2))
      · exact nf b h2
    · rcases lst j b xs hj with ⟨_, h2⟩ | ⟨_, rfl, _⟩
      · exact h.ap b (.inr (.inr ⟨j, xs, h2⟩))
      · exact hgf
  · rcases hnew b hb2 with h2 | h2
    · exact h.lw b hb h2
    · have := (h.lt (.inl hb)).2
      omega
  · rcases lst j b xs hj with ⟨_, h2⟩ | ⟨_, rfl, _⟩
    · exact h.lg b j xs hb h2
    · exact hgn (.inl hb)
  · rcases hnew b hb with h3 | h3
    · rcases lst j b xs hj with ⟨_, h2⟩ | ⟨_, rfl, _⟩
      · exact h.wg b j xs h3 h2
      · exact hgn (.inr (.inl h3))
    · rcases lst j b xs hj with ⟨_, h2⟩ | ⟨_, rfl, _⟩
      · have := (h.lt (.inr (.inr ⟨j, xs, h2⟩))).2
        omega
      · omega
  · rcases lst i b xs hi with ⟨l1, h1⟩ | ⟨l1, rfl, _⟩
    · rcases lst j b ys hj with ⟨_, h2⟩ | ⟨_, rfl, _⟩
      · exact h.gg i j b xs ys h1 h2
      · exact absurd (.inr (.inr ⟨i, xs, h1⟩)) hgn
    · rcases lst j b ys hj with ⟨_, h2⟩ | ⟨l2, _, _⟩
      · exact absurd (.inr (.inr ⟨j, ys, h2⟩)) hgn
      · omega

/-- One of the rows becomes nil. -/
theorem Mm.setNil {gw n cap k : Nat} (h : Mm w0 w A pg v vl (.slice (some ⟨gw, 0, none⟩) n cap) hs cs) (hk : k < cs.length) : Mm w0 (w.setCell ⟨gw, k, none⟩ (.slice none 0 0)) A pg v vl (.slice (some ⟨gw, 0, none⟩) n cap) hs (cs.set k none) := by
  have kk : Kept (fun j => j = gw) w (w.setCell ⟨gw, k, none⟩ (.slice none 0 0)) := (Kept.refl _ _).setCell _ (.inl rfl)
  have hn : n = cs.length := by
    rcases h.rw.2 with ⟨e, _⟩ | ⟨g2, c2, cur, e, _⟩
    · cases e
    · cases e; rfl
  have sub : ∀ (j : Nat) (b : Nat) (xs : List Int), (cs.set k none)[j]? = some (some (b, xs)) → cs[j]? = some (some (b, xs)) := fun j b xs hj => by
    by_cases e : j = k
    · subst e
      rw [List.getElem?_set_self hk] at hj
      cases hj
    · rw [List.getElem?_set_ne (Ne.symm e)] at hj
      exact hj
  refine ⟨Hd.ownsRow_kept h.rl kk (fun b hb e => h.lw b hb (by rw [e]; rfl)), ?_, fun j b xs hj => ?_, fun b hb => ?_, h.lw, fun b j xs hb hj => h.lg b j xs hb (sub j b xs hj), fun b j xs hb hj => h.wg b j xs hb (sub j b xs hj), fun i j b xs ys hi hj => h.gg i j b xs ys (sub i b xs hi) (sub j b ys hj)⟩
  · rw [List.length_set, List.map_set]
    subst hn
    exact Hd.own_set h.rw
  · refine Hd.ownsRow_kept (h.bk j b xs (sub j b xs hj)) kk (fun c hc e => ?_)
    obtain rfl : c = b := by simpa [Value.ownBlock] using hc
    exact h.wg c j xs (by rw [e]; rfl) (sub j c xs hj)
  · rcases hb with hb | hb | ⟨j, xs, hj⟩
    · exact h.ap b (.inl hb)
    · exact h.ap b (.inr (.inl hb))
    · exact h.ap b (.inr (.inr ⟨j, xs, sub j b xs hj⟩))

/-- A word of one of the rows. -/
theorem Mm.setWord {g k c : Nat} {ws : List Int} {y : Int} (h : Mm w0 w A pg v vl vw hs cs) (hk : cs[k]? = some (some (g, ws))) : Mm w0 (w.setCell ⟨g, c, none⟩ (.int .u64 y)) A pg v vl vw hs (cs.set k (some (g, ws.set c y))) := by
  have kk : Kept (fun j => j = g) w (w.setCell ⟨g, c, none⟩ (.int .u64 y)) := (Kept.refl _ _).setCell _ (.inl rfl)
  have hkl := (List.getElem?_eq_some_iff.1 hk).1
  have sub : ∀ (j : Nat) (b : Nat) (xs : List Int), (cs.set k (some (g, ws.set c y)))[j]? = some (some (b, xs)) → (j ≠ k ∧ cs[j]? = some (some (b, xs))) ∨ (j = k ∧ b = g ∧ xs = ws.set c y) := fun j b xs hj => by
    by_cases e : j = k
    · subst e
      rw [List.getElem?_set_self hkl] at hj
      simp only [Option.some.injEq, Prod.mk.injEq] at hj
      exact .inr ⟨rfl, hj.1.symm, hj.2.symm⟩
    · rw [List.getElem?_set_ne (Ne.symm e)] at hj
      exact .inl ⟨e, hj⟩
  have old : ∀ (j : Nat) (b : Nat) (xs : List Int), (cs.set k (some (g, ws.set c y)))[j]? = some (some (b, xs)) → ∃ zs, cs[j]? = some (some (b, zs)) := fun j b xs hj => by
    rcases sub j b xs hj with ⟨_, h2⟩ | ⟨rfl, rfl, _⟩
    · exact ⟨xs, h2⟩
    · exact ⟨ws, hk⟩
  have ev : cval (some (g, ws.set c y)) = cval (some (g, ws)) := by simp [cval]
  refine ⟨Hd.ownsRow_kept h.rl kk (fun b hb e => h.lg b k ws hb (by rw [e]; exact hk)), ?_, fun j b xs hj => ?_, fun b hb => ?_, h.lw, fun b j xs hb hj => ?_, fun b j xs hb hj => ?_, fun i j b xs ys hi hj => ?_⟩
  · rw [List.length_set, List.map_set, ev, Hd.set_self (by rw [List.getElem?_map, hk]; rfl)]
    exact Hd.ownsRow_kept h.rw kk (fun b hb e => h.wg b k ws hb (by rw [e]; exact hk))
  · rcases sub j b xs hj with ⟨hne, h2⟩ | ⟨rfl, rfl, rfl⟩
    · refine Hd.ownsRow_kept (h.bk j b xs h2) kk (fun d hd e => ?_)
      obtain rfl : d = b := by simpa [Value.ownBlock] using hd
      subst e
      exact hne (h.gg j k d xs ws h2 hk)
    · rw [List.length_set, List.map_set]
      exact Hd.own_set (h.bk j b ws hk)
  · rcases hb with hb | hb | ⟨j, xs, hj⟩
    · exact h.ap b (.inl hb)
    · exact h.ap b (.inr (.inl hb))
    · obtain ⟨zs, h2⟩ := old j b xs hj
      exact h.ap b (.inr (.inr ⟨j, zs, h2⟩))
  · obtain ⟨zs, h2⟩ := old j b xs hj
    exact h.lg b j zs hb h2
  · obtain ⟨zs, h2⟩ := old j b xs hj
    exact h.wg b j zs hb h2
  · obtain ⟨z1, h1⟩ := old i b xs hi
    obtain ⟨z2, h2⟩ := old j b ys hj
    exact h.gg i j b z1 z2 h1 h2

/-- The store behind a turn of blocks of one's own. -/
theorem Rn.own {O : Nat → Prop} (h : Rn w0 w A pg W L v T) (k : Kept O w w') (hO : ∀ j, O j → w0.heap.size ≤ j ∧ ¬ foot A pg v j ∧ j ≠ A.bh ∧ j ≠ A.st) (z0 : 0 < w0.heap.size) : Rn w0 w' A pg W L v T :=
  ⟨⟨h.s.b.kept k (fun j hj => ⟨(hO j hj).2.1, (hO j hj).2.2.1, by have := (hO j hj).1; omega, (hO j hj).2.2.2⟩), h.s.r⟩,
   ⟨k.os.trans h.k.os, k.tape.trans h.k.tape, k.output.trans h.k.output, Nat.le_trans h.k.size k.size, fun j hj hn => (k.same j (Nat.lt_of_lt_of_le hj h.k.size) (fun hx => by have := (hO j hx).1; omega)).trans (h.k.same j hj hn)⟩⟩

/-- All of it. -/
structure Ap (w0 w : World) (A : Ad) (pg : List (Int × Nat)) (W : Int → Int) (L : List Pg) (v : Value) (T : List Hd.Sl) (vl vw : Value) (hs : List Int) (cs : List Cw) : Prop where
  rn : Rn w0 w A pg W L v T
  mm : Mm w0 w A pg v vl vw hs cs
  vs : Vs T W hs cs
  z0 : 0 < w0.heap.size
theorem Ap.keep (h : Ap w0 w A pg W L v T vl vw hs cs) (k : K w w') : Ap w0 w' A pg W L v T vl vw hs cs := ⟨h.rn.keep k, h.mm.keep k, h.vs, h.z0⟩
theorem Ap.call (h : Ap w0 w A pg W L v T vl vw hs cs) (sw : Sw w' w0.heap.size A pg' W' L' v' T') (s : Stp A pg pg' v v' w w') (vs : Vs T' W' hs cs) : Ap w0 w' A pg' W' L' v' T' vl vw hs cs := ⟨⟨sw, h.rn.kst s⟩, h.mm.step s, vs, h.z0⟩
theorem Rn.nf (rn : Rn w0 w A pg W L v T) : ∀ b, w.heap.size ≤ b → ¬ foot A pg v b ∧ b ≠ A.bh ∧ b ≠ A.st := fun b hb => by
  have h1 : A.bh < w.heap.size := Hp.lt_of_cell rn.s.b.hp.hw.c0
  have h2 := rn.s.b.lt
  exact ⟨fun hf => by have := rn.s.b.flt hf; omega, by omega, by omega⟩
theorem Rn.ownK (rn : Rn w0 w A pg W L v T) (mm : Mm w0 w A pg v vl vw hs cs) (z0 : 0 < w0.heap.size) {O : Nat → Prop} (k : Kept O w w') (hO : ∀ j, O j → So.own vl vw cs j) : Rn w0 w' A pg W L v T :=
  rn.own k (fun j hj => ⟨(mm.lt (hO j hj)).1, mm.ap j (hO j hj)⟩) z0

/-- A handle of the row. -/
theorem own_block {n₀ n : Nat} {t : TypeId} {xs : List Value} (h : w.ownsRow n₀ t 1 u n xs) (hn : 0 < n) : ∃ g cap, u = .slice (some ⟨g, 0, none⟩) n cap ∧ some g = u.ownBlock ∧ (∀ j, w.frozen? ⟨g, j, none⟩ = false) ∧ ∀ (i : Nat) y, xs[i]? = some y → w.cell? ⟨g, i, none⟩ = some y := by
  rcases h.2 with ⟨_, h0⟩ | ⟨g, cap, cur, h1, _, hbk, h2, h3, h4, h5⟩
  · omega
  · refine ⟨g, cap, h1, by rw [h1]; rfl, fun j => by simp [World.frozen?, hbk], fun i y hi => ?_⟩
    have hlt := (List.getElem?_eq_some_iff.1 hi).1
    rw [h.1] at hlt
    rw [← h5, List.getElem?_take, if_pos hlt] at hi
    simp only [World.cell?, hbk]
    rw [if_neg (by simp), ← Array.getElem?_toList]
    exact hi
theorem Mm.hget (h : Mm w0 w A pg v vl vw hs cs) {k : Nat} {x : Int} (hk : hs[k]? = some x) : ∃ g cap, vl = .slice (some ⟨g, 0, none⟩) hs.length cap ∧ some g = vl.ownBlock ∧ w.cell? ⟨g, k, none⟩ = some (.int .u64 x) := by
  obtain ⟨g, cap, h1, h2, _, h3⟩ := own_block h.rl (Nat.lt_of_le_of_lt (Nat.zero_le _) (List.getElem?_eq_some_iff.1 hk).1)
  exact ⟨g, cap, h1, h2, h3 k _ (by rw [List.getElem?_map, hk]; rfl)⟩
theorem Mm.cget (h : Mm w0 w A pg v vl vw hs cs) {k : Nat} {c : Cw} (hk : cs[k]? = some c) : ∃ g cap, vw = .slice (some ⟨g, 0, none⟩) cs.length cap ∧ some g = vw.ownBlock ∧ w.cell? ⟨g, k, none⟩ = some (cval c) ∧ ∀ j, w.frozen? ⟨g, j, none⟩ = false := by
  obtain ⟨g, cap, h1, h2, hf, h3⟩ := own_block h.rw (Nat.lt_of_le_of_lt (Nat.zero_le _) (List.getElem?_eq_some_iff.1 hk).1)
  exact ⟨g, cap, h1, h2, h3 k _ (by rw [List.getElem?_map, hk]; rfl), hf⟩
theorem Mm.wget (h : Mm w0 w A pg v vl vw hs cs) {k g : Nat} {ws : List Int} (hk : cs[k]? = some (some (g, ws))) {j : Nat} {y : Int} (hj : ws[j]? = some y) : w.cell? ⟨g, j, none⟩ = some (.int .u64 y) ∧ ∀ i, w.frozen? ⟨g, i, none⟩ = false := by
  obtain ⟨g', cap, h1, _, hf, h3⟩ := own_block (h.bk k g ws hk) (Nat.lt_of_le_of_lt (Nat.zero_le _) (List.getElem?_eq_some_iff.1 hj).1)
  cases h1
  exact ⟨h3 j _ (by rw [List.getElem?_map, hj]; rfl), hf⟩

theorem run_ixH (g n cap i : Nat) (hi : i < n) (w' : World) : (Instr.indexAt 40 (.slice (some ⟨g, 0, none⟩) n cap) (.int .i64 (i : Int))).run Tryz.prog w' = .ok (.pointer (some ⟨g, i, none⟩)) w' := by
  have := run_ixg Tryz.underlying40 (m := 1) (by kernel_rfl) (fun w => by kernel_rfl) g 0 n cap i hi w'
  rw [Nat.mul_one, Nat.zero_add] at this
  exact this
theorem run_ixR (g n cap i : Nat) (hi : i < n) (w' : World) : (Instr.indexAt 79 (.slice (some ⟨g, 0, none⟩) n cap) (.int .i64 (i : Int))).run Tryz.prog w' = .ok (.pointer (some ⟨g, i, none⟩)) w' := by
  have := run_ixg Tryz.underlying79 (m := 1) (by kernel_rfl) (fun w => by kernel_rfl) g 0 n cap i hi w'
  rw [Nat.mul_one, Nat.zero_add] at this
  exact this
theorem run_ixI (g n cap i : Nat) (hi : i < n) (w' : World) : (Instr.indexAt 50 (.slice (some ⟨g, 0, none⟩) n cap) (.int .i64 (i : Int))).run Tryz.prog w' = .ok (.pointer (some ⟨g, i, none⟩)) w' := by
  have := run_ixg Tryz.underlying50 (m := 1) (by kernel_rfl) (fun w => by kernel_rfl) g 0 n cap i hi w'
  rw [Nat.mul_one, Nat.zero_add] at this
  exact this

theorem info_u64s : ∃ i0, Tryz.prog.info? 50 = some i0 ∧ i0.size = 1 ∧ i0.bytes = 24 ∧ ∃ z, i0.zero = some z ∧ z.cells.size = 1 := by
  have hi : (Tryz.prog.info? 50).map (fun i => (i.zero.map (fun z => z.cells.size), i.size, i.bytes)) = some (some 1, 1, 24) := by kernel_rfl
  obtain ⟨i0, h1, h2⟩ := Option.map_eq_some_iff.1 hi
  simp only [Prod.mk.injEq] at h2
  obtain ⟨h3, h4, h5⟩ := h2
  obtain ⟨z, h6, h7⟩ := Option.map_eq_some_iff.1 h3
  exact ⟨i0, h1, h4, h5, z, h6, h7⟩
theorem info_u64 : ∃ i0, Tryz.prog.info? 44 = some i0 ∧ i0.zero = some (.int .u64 0) ∧ i0.size = 1 ∧ i0.bytes = 8 :=
  info_parts (by kernel_rfl)
theorem made_zero_row (n : Nat) : (madeCells (Value.int .u64 0).cells (n * 1)).toList = (List.replicate n (0 : Int)).map encH := by
  unfold madeCells
  rw [Nat.mul_one, List.map_replicate, List.eq_replicate_iff]
  refine ⟨by simp, fun b hb => ?_⟩
  simp [Value.cells] at hb
  obtain ⟨a, _, rfl⟩ := hb
  simp [Nat.mod_one]

theorem Vs.u64 {m z : Int} (vs : Vs T W hs cs) (wf : Hd.Wf m z T) (htl : T.length ≤ 65536) {x : Int} (hx : x ∈ hs) : Hd.U64 x := by
  obtain ⟨i, s, g, hi, rfl, h1, h2⟩ := vs.told x hx
  have hk := wf.get hi
  have h3 : s.g ≤ z := hk.hi
  have := wf.z1
  have := (List.getElem?_eq_some_iff.1 hi).1
  unfold Hd.U64 Hd.nm
  omega

end So
end Go.Proofs.YtckofhbfdfmnoaaGreatDoor
