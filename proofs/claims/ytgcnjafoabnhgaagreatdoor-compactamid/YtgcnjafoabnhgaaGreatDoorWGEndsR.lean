/-
  compact: Run of more steps than there are records, a step behind it, and a row of rows of words.
-/
import Derived.Test.YtgcnjafoabnhgaaGreatDoorWGFillW
import Derived.Test.YtgcnjafoabnhgaaGreatDoorWGEndsF
namespace Go.Proofs.YtgcnjafoabnhgaaGreatDoor
open Go.RowKit Go.Maps
namespace Co
open Hp (Kept K No Pg BlR Wl liveL granted lt_of_cell)
open Hd (U64 findL encU)
open Go.Proofs.YtgcnjafoabnhgaaGreatDoor.So (Ad sp Stp)
variable {w0 w w' wb : World} {c : Nat} {A : Ad} {pg pg' : List (Int × Nat)} {W W' : Int → Int} {L : List Pg} {v v' u u' : Value} {T : List Hd.Sl}

theorem Cn.live (h : Cn w0 w A c pg W L v T) : (liveL L).length ≤ 200000 := by
  have h1 := h.rn.s.b.live_le
  omega

theorem Cn.runAll (h : Cn w0 w A c pg W L v T) {bu : Int} (hb : bu = (liveL L).length + 1) : Calls Tryz.prog 10 #[cp c, .int .i64 bu] w fun e w' => ∃ (n : Int) (pg' : List (Int × Nat)) (W' : Int → Int) (L' : List Pg) (v' : Value) (T' : List Hd.Sl), e = .returned (.tuple #[.int .i64 n, .bool true, .int .i64 0]) ∧ 0 ≤ n ∧ n ≤ (liveL L).length ∧
    Aside (Cn w0 w' A c pg' W' L' v' T' ∧ Stp A pg pg' v v' w w' ∧ (liveL L').length = (liveL L).length ∧ granted L' ≤ granted L ∧ (∀ a r, BlR L' a r → Stl L' a) ∧ ∀ x, wds T' W' x = wds T W x) := by
  have hl := h.live
  refine (h.run (bu := bu) (by omega) (by omega)).mono ?_
  rintro e w1 ⟨rfl, pg1, W1, v1, h1, wk, st⟩
  obtain ⟨p1, p2, p3, p4, _, p6⟩ := pass_all h.rn.s.b.wl h.rn.s.r h.rn.s.b.tl hb h1.rn.s.b.wl h1.rn.s.r wk
  refine ⟨_, pg1, W1, _, v1, _, ?_, p1, p2, h1, st, p3, p4, p6, fun x => wk_wds h.rn.s.r wk x⟩
  rw [decide_eq_true (show (pass bu L T).n < bu by omega)]

theorem Cn.step0 (h : Cn w0 w A c pg W L v T) (hs : ∀ a r, BlR L a r → Stl L a) : Calls Tryz.prog 14 #[cp c] w fun e w' => ∃ (pg' : List (Int × Nat)) (W' : Int → Int) (v' : Value), e = .returned (.tuple #[.bool false, .int .i64 0]) ∧
    Aside (Cn w0 w' A c pg' W' L v' T ∧ Stp A pg pg' v v' w w' ∧ ∀ x, wds T W' x = wds T W x) := by
  have hi := pass_start h.rn.s.b.wl h.rn.s.r
  obtain ⟨e1, e2, e3⟩ := fold_stl (bu := 1) (order L T) ⟨L, T, 0, fun _ => false⟩ fun y hy => hs y.a y.r (hi.at' y hy).2
  have a1 : (pass 1 L T).L = L := e1
  have a2 : (pass 1 L T).T = T := e2
  have a3 : (pass 1 L T).n = 0 := e3
  have st := h.step
  rw [a1, a2, a3] at st
  refine st.mono ?_
  rintro e w1 ⟨rfl, pg1, W1, v1, h1, wk, st⟩
  exact ⟨pg1, W1, v1, rfl, h1, st, fun x => wk_wds h.rn.s.r wk x⟩

/-- A row of rows of words, each in a block of its own, none of them there in wb. -/
def In1 (wb w : World) (u : Value) (cs : List Value) (j : Nat) (d : List Int) : Prop :=
  ∃ g cap, cs[j]? = some (.slice (some ⟨g, 0, none⟩) d.length cap) ∧ w.ownsRow wb.heap.size 40 1 (.slice (some ⟨g, 0, none⟩) d.length cap) d.length (d.map encU) ∧ some g ≠ u.ownBlock
structure Ws (wb w : World) (u : Value) (n : Nat) (D : List (List Int)) : Prop where
  row : ∃ cs, w.ownsRow wb.heap.size 52 1 u n cs ∧ ∀ (j : Nat) d, D[j]? = some d → In1 wb w u cs j d
  len : D.length = n

theorem Ws.nil (wb w : World) : Ws wb w (.slice none 0 0) 0 [] := ⟨⟨[], World.ownsRow_nil _ _ _ _, fun j d h => by simp at h⟩, rfl⟩
theorem Ws.kept {n : Nat} {D : List (List Int)} (h : Ws wb w u n D) {O : Nat → Prop} (k : Kept O w w') (hO : ∀ b, wb.heap.size ≤ b → ¬ O b) : Ws wb w' u n D := by
  obtain ⟨⟨cs, h1, h2⟩, h3⟩ := h
  refine ⟨⟨cs, Hd.ownsRow_kept h1 k (fun g hg => hO g (Hd.own_lt h1 hg).1), fun j d hj => ?_⟩, h3⟩
  obtain ⟨g, cap, a1, a2, a3⟩ := h2 j d hj
  exact ⟨g, cap, a1, Hd.ownsRow_kept a2 k (fun b hb => hO b (Hd.own_lt a2 hb).1), a3⟩
theorem Ws.keep {n : Nat} {D : List (List Int)} (h : Ws wb w u n D) (k : K w w') : Ws wb w' u n D := h.kept k (fun _ _ x => x)

theorem ws_app {o : Obj} {n : Nat} {D : List (List Int)} {cs : List Value} {d : List Int} {g cap : Nat} (hrow : w.ownsRow wb.heap.size 52 1 u n cs) (hin : ∀ (j : Nat) d, D[j]? = some d → In1 wb w u cs j d) (hl : D.length = n)
    (hd : w.ownsRow wb.heap.size 40 1 (.slice (some ⟨g, 0, none⟩) d.length cap) d.length (d.map encU)) (hgu : some g ≠ u.ownBlock)
    (hown : w'.ownsRow wb.heap.size 52 1 u' (n + 1) (cs ++ [.slice (some ⟨g, 0, none⟩) d.length cap])) (hg : (w.alloc o).grownBy w' u.ownBlock) (hat : u'.ownBlock = u.ownBlock ∨ u'.ownBlock = some (w.alloc o).heap.size) : Ws wb w' u' (n + 1) (D ++ [d]) := by
  have k := grown_kept hg
  have hc : cs.length = n := by have := hrow.1; omega
  have nu : ∀ b, b < w.heap.size → some b ≠ u.ownBlock → some b ≠ u'.ownBlock := fun b hb hne e => by
    rcases hat with h | h
    · exact hne (e.trans h)
    · rw [h] at e
      have : b = (w.alloc o).heap.size := Option.some.inj e
      simp at this
      omega
  have kr : ∀ {b m : Nat} {cp : Nat} {xs : List Value}, w.ownsRow wb.heap.size 40 1 (.slice (some ⟨b, 0, none⟩) m cp) m xs → some b ≠ u.ownBlock → w'.ownsRow wb.heap.size 40 1 (.slice (some ⟨b, 0, none⟩) m cp) m xs ∧ some b ≠ u'.ownBlock := fun {b m cp xs} h hne =>
    ⟨Hd.ownsRow_kept h k (fun j hj e => hne (by
      obtain rfl : j = b := by simpa [Value.ownBlock] using hj
      exact e)), nu b (Hd.own_lt h rfl).2 hne⟩
  refine ⟨⟨_, hown, fun j x hj => ?_⟩, by rw [List.length_append, hl]; rfl⟩
  by_cases hlt : j < D.length
  · rw [List.getElem?_append_left hlt] at hj
    obtain ⟨b, cp, a1, a2, a3⟩ := hin j x hj
    obtain ⟨b1, b2⟩ := kr a2 a3
    exact ⟨b, cp, by rw [List.getElem?_append_left (by omega)]; exact a1, b1, b2⟩
  · have hlt2 := (List.getElem?_eq_some_iff.1 hj).1
    simp at hlt2
    obtain rfl : j = D.length := by omega
    rw [List.getElem?_append_right (Nat.le_refl _)] at hj
    simp at hj
    subst hj
    obtain ⟨b1, b2⟩ := kr hd hgu
    exact ⟨g, cap, by rw [List.getElem?_append_right (by omega), hl, hc]; simp, b1, b2⟩

/-- One of the rows, and its words. -/
theorem Ws.get {n : Nat} {D : List (List Int)} (h : Ws wb w u n D) {i : Nat} {d : List Int} (hi : D[i]? = some d) : ∃ gu capu g cap, u = .slice (some ⟨gu, 0, none⟩) n capu ∧ w.cell? ⟨gu, i, none⟩ = some (.slice (some ⟨g, 0, none⟩) d.length cap) ∧ ∀ (k : Nat) y, d[k]? = some y → w.cell? ⟨g, k, none⟩ = some (.int .u64 y) := by
  obtain ⟨⟨cs, h1, h2⟩, h3⟩ := h
  obtain ⟨g, cap, a1, a2, _⟩ := h2 i d hi
  have hlt := (List.getElem?_eq_some_iff.1 hi).1
  obtain ⟨gu, au, cu, hu, hau, hcu⟩ := So.row1 h1
  obtain ⟨g2, a3, c3, e3, ha3, hc3⟩ := So.row1 a2
  refine ⟨gu, cu, g, cap, by rw [hu, hau (by omega)], hcu i _ a1, fun k y hk => ?_⟩
  have hk2 := (List.getElem?_eq_some_iff.1 hk).1
  have hh := ha3 (by omega)
  rw [hh] at e3
  cases e3
  exact hc3 k _ (by rw [List.getElem?_map, hk]; rfl)

end Co
end Go.Proofs.YtgcnjafoabnhgaaGreatDoor
