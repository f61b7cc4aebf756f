/-
  A table made since w0, and two rows of one's own beside it: handles, and numbers.
-/
import Derived.Test.YtgcnjafoabnhgaaGreatDoorD2
namespace Go.Proofs.YtgcnjafoabnhgaaGreatDoor
open Go.RowKit Go.Maps
namespace Hd
open Hp (Kept K No)
variable {w0 w w' : World} {bt : Nat} {q z : Int} {v v' v1 v2 : Value} {L L' : List Sl} {Hs As : List Int}

def encZ (x : Int) : Value := .int .i64 x
theorem one_z (x : Int) : ∀ u ∈ [encZ x], u.oneCell' = true := fun u hu => by
  obtain rfl : u = encZ x := by simpa using hu
  rfl

theorem info_int : ∃ i0, Tryz.prog.info? 3 = some i0 ∧ i0.size = 1 ∧ i0.bytes = 8 ∧ ∃ z, i0.zero = some z ∧ z.cells.size = 1 := by
  have hi : (Tryz.prog.info? 3).map (fun i => (i.zero.map (fun z => z.cells.size), i.size, i.bytes)) = some (some 1, 1, 8) := by kernel_rfl
  obtain ⟨i0, h1, h2⟩ := Option.map_eq_some_iff.1 hi
  simp only [Prod.mk.injEq] at h2
  obtain ⟨h3, h4, h5⟩ := h2
  obtain ⟨z, h6, h7⟩ := Option.map_eq_some_iff.1 h3
  exact ⟨i0, h1, h4, h5, z, h6, h7⟩

structure St (w0 w : World) (bt : Nat) (q z : Int) (v : Value) (L : List Sl) (v1 : Value) (Hs : List Int) (v2 : Value) (As : List Int) : Prop where
  rn : Rn w0 w bt q z v L
  rh : w.ownsRow w0.heap.size 43 1 v1 Hs.length (Hs.map encU)
  ri : w.ownsRow w0.heap.size 3 1 v2 As.length (As.map encZ)
  a1 : ∀ g, some g = v1.ownBlock → ¬ foot bt v g
  a2 : ∀ g, some g = v2.ownBlock → ¬ foot bt v g
  a12 : ∀ g, some g = v1.ownBlock → some g ≠ v2.ownBlock

theorem St.first (h : Rn w0 w bt q z v L) : St w0 w bt q z v L (.slice none 0 0) [] (.slice none 0 0) [] :=
  ⟨h, World.ownsRow_nil _ _ _ _, World.ownsRow_nil _ _ _ _, (fun _ hg => nomatch hg), (fun _ hg => nomatch hg), (fun _ hg => nomatch hg)⟩
theorem St.keep (h : St w0 w bt q z v L v1 Hs v2 As) (k : K w w') : St w0 w' bt q z v L v1 Hs v2 As :=
  ⟨h.rn.keep k, ownsRow_kept (O := No) h.rh k (fun _ _ x => x), ownsRow_kept (O := No) h.ri k (fun _ _ x => x), h.a1, h.a2, h.a12⟩
theorem St.step (h : St w0 w bt q z v L v1 Hs v2 As) (t : Tab w' w0.heap.size bt q z v' L') (k : Kept (foot bt v) w w') (hf : ∀ k, foot bt v' k → foot bt v k ∨ w.heap.size ≤ k) : St w0 w' bt q z v' L' v1 Hs v2 As := by
  refine ⟨h.rn.step t k, ownsRow_kept h.rh k h.a1, ownsRow_kept h.ri k h.a2, fun g hg hx => ?_, fun g hg hx => ?_, h.a12⟩
  · rcases hf g hx with h1 | h1
    · exact h.a1 g hg h1
    · have := (own_lt h.rh hg).2
      omega
  · rcases hf g hx with h1 | h1
    · exact h.a2 g hg h1
    · have := (own_lt h.ri hg).2
      omega

theorem grown_kept {row : Option Nat} {o : Obj} (hgrow : (w.alloc o).grownBy w' row) : Kept (fun k => some k = row) w w' := by
  have hsz := hgrow.size
  simp at hsz
  exact ⟨hgrow.os, hgrow.tape, hgrow.output, by omega, fun k hk hn => by
    rw [hgrow.block k (by simp; omega) hn]
    exact Below.heap_alloc w o k hk⟩

theorem St.app1 (h : St w0 w bt q z v L v1 Hs v2 As) {x : Int} {o : Obj} (hown : w'.ownsRow w0.heap.size 43 1 v' (Hs.length + 1) (Hs.map encU ++ [encU x])) (hgrow : (w.alloc o).grownBy w' v1.ownBlock) (hat : v'.ownBlock = v1.ownBlock ∨ v'.ownBlock = some (w.alloc o).heap.size) : St w0 w' bt q z v L v' (Hs ++ [x]) v2 As := by
  have kk := grown_kept hgrow
  refine ⟨h.rn.kept kk (fun g hg => ⟨(own_lt h.rh hg).1, h.a1 g hg⟩), ?_, ownsRow_kept h.ri kk (fun g hg hx => h.a12 g hx hg), fun g hg hx => ?_, h.a2, fun g hg hx => ?_⟩
  · rw [List.length_append, List.map_append]
    exact hown
  · rcases hat with e | e
    · exact h.a1 g (by rw [← e]; exact hg) hx
    · rw [e] at hg
      simp at hg
      have := (h.rn.tb.foot_lt hx).2
      omega
  · rcases hat with e | e
    · exact h.a12 g (by rw [← e]; exact hg) hx
    · rw [e] at hg
      simp at hg
      have := (own_lt h.ri hx).2
      omega
theorem St.app2 (h : St w0 w bt q z v L v1 Hs v2 As) {x : Int} {o : Obj} (hown : w'.ownsRow w0.heap.size 3 1 v' (As.length + 1) (As.map encZ ++ [encZ x])) (hgrow : (w.alloc o).grownBy w' v2.ownBlock) (hat : v'.ownBlock = v2.ownBlock ∨ v'.ownBlock = some (w.alloc o).heap.size) : St w0 w' bt q z v L v1 Hs v' (As ++ [x]) := by
  have kk := grown_kept hgrow
  refine ⟨h.rn.kept kk (fun g hg => ⟨(own_lt h.ri hg).1, h.a2 g hg⟩), ownsRow_kept h.rh kk (fun g hg hx => h.a12 g hg hx), ?_, h.a1, fun g hg hx => ?_, fun g hg hx => ?_⟩
  · rw [List.length_append, List.map_append]
    exact hown
  · rcases hat with e | e
    · exact h.a2 g (by rw [← e]; exact hg) hx
    · rw [e] at hg
      simp at hg
      have := (h.rn.tb.foot_lt hx).2
      omega
  · rcases hat with e | e
    · exact h.a12 g hg (by rw [← e]; exact hx)
    · rw [e] at hx
      simp at hx
      have := (own_lt h.rh hg).2
      omega

theorem run_ixh (g len cap i : Nat) (hi : i < len) (w' : World) : (Instr.indexAt 39 (.slice (some ⟨g, 0, none⟩) len cap) (.int .i64 (i : Int))).run Tryz.prog w' = .ok (.pointer (some ⟨g, i, none⟩)) w' := by
  have hel : Tryz.prog.elem 39 = 43 := by kernel_rfl
  have hsz : (sizeOf 43).run Tryz.prog w' = .ok 1 w' := by kernel_rfl
  have hu : Tryz.prog.underlying 39 = some (.slice (Tryz.prog.elem 39)) := by kernel_rfl
  rw [run_indexAt_slice w' 39 _ len cap .i64 i hu, if_pos (by omega), hel, hsz]
  simp only [Result.andThen_ok, Int.toNat_natCast, Nat.mul_one]
  rw [Go.WideShapes.add_plain, Nat.zero_add]
theorem run_ixi (g len cap i : Nat) (hi : i < len) (w' : World) : (Instr.indexAt 23 (.slice (some ⟨g, 0, none⟩) len cap) (.int .i64 (i : Int))).run Tryz.prog w' = .ok (.pointer (some ⟨g, i, none⟩)) w' := by
  have hel : Tryz.prog.elem 23 = 3 := by kernel_rfl
  have hsz : (sizeOf 3).run Tryz.prog w' = .ok 1 w' := by kernel_rfl
  have hu : Tryz.prog.underlying 23 = some (.slice (Tryz.prog.elem 23)) := by kernel_rfl
  rw [run_indexAt_slice w' 23 _ len cap .i64 i hu, if_pos (by omega), hel, hsz]
  simp only [Result.andThen_ok, Int.toNat_natCast, Nat.mul_one]
  rw [Go.WideShapes.add_plain, Nat.zero_add]

/-- A row's cell. -/
theorem own_at {B n i : Nat} {ty : TypeId} {u x : Value} {xs : List Value} (h : w.ownsRow B ty 1 u n xs) (hx : xs[i]? = some x) : ∃ g cap, u = .slice (some ⟨g, 0, none⟩) n cap ∧ i < n ∧ w.cell? ⟨g, i, none⟩ = some x ∧ w.frozen? ⟨g, i, none⟩ = false ∧ B ≤ g ∧ g < w.heap.size := by
  have hl := h.1
  have hi := (List.getElem?_eq_some_iff.1 hx).1
  rcases h.2 with ⟨_, e⟩ | ⟨g, cap, cur, e, hb, hg, _, _, _, ht⟩
  · omega
  · refine ⟨g, cap, e, by omega, ?_, by simp [World.frozen?, hg], hb, (Array.getElem?_eq_some_iff.1 hg).1⟩
    rw [← ht, List.getElem?_take, if_pos (by omega)] at hx
    simp only [World.cell?, hg]
    rw [if_neg (by simp), ← Array.getElem?_toList]
    exact hx

theorem St.hget (h : St w0 w bt q z v L v1 Hs v2 As) {i : Nat} {x : Int} (hx : Hs[i]? = some x) : ∃ g cap, v1 = .slice (some ⟨g, 0, none⟩) Hs.length cap ∧ i < Hs.length ∧ w.cell? ⟨g, i, none⟩ = some (.int .u64 x) ∧ g < w.heap.size := by
  obtain ⟨g, cap, h1, h2, h3, _, _, h4⟩ := own_at h.rh (i := i) (x := encU x) (by simp [hx])
  exact ⟨g, cap, h1, h2, h3, h4⟩
theorem St.iget (h : St w0 w bt q z v L v1 Hs v2 As) {i : Nat} {x : Int} (hx : As[i]? = some x) : ∃ g cap, v2 = .slice (some ⟨g, 0, none⟩) As.length cap ∧ i < As.length ∧ w.cell? ⟨g, i, none⟩ = some (.int .i64 x) ∧ w.frozen? ⟨g, i, none⟩ = false ∧ g < w.heap.size := by
  obtain ⟨g, cap, h1, h2, h3, h4, _, h5⟩ := own_at h.ri (i := i) (x := encZ x) (by simp [hx])
  exact ⟨g, cap, h1, h2, h3, h4, h5⟩
/-- A number of the row is set. -/
theorem St.set2 {g n cap k : Nat} (h : St w0 w bt q z v L v1 Hs (.slice (some ⟨g, 0, none⟩) n cap) As) (a : Int) (hn : n = As.length) : St w0 (w.setCell ⟨g, k, none⟩ (.int .i64 a)) bt q z v L v1 Hs (.slice (some ⟨g, 0, none⟩) n cap) (As.set k a) := by
  subst hn
  have kk : Kept (fun j => j = g) w (w.setCell ⟨g, k, none⟩ (.int .i64 a)) := (Kept.refl _ _).setCell _ (.inl rfl)
  refine ⟨h.rn.kept kk (fun j hj => ?_), ownsRow_kept h.rh kk (fun j hj e => ?_), ?_, h.a1, h.a2, h.a12⟩
  · subst hj
    exact ⟨(own_lt h.ri rfl).1, h.a2 j rfl⟩
  · subst e
    exact h.a12 j hj rfl
  · rw [List.length_set, List.map_set]
    exact own_set h.ri

/-- A box beside all of these. -/
structure Bx (w : World) (nb : Nat) (ob : Obj) (bt : Nat) (v v1 v2 : Value) : Prop where
  hd : w.heap[nb]? = some ob
  f : ¬ foot bt v nb
  g1 : some nb ≠ v1.ownBlock
  g2 : some nb ≠ v2.ownBlock
theorem Bx.lt {nb : Nat} {ob : Obj} (h : Bx w nb ob bt v v1 v2) : nb < w.heap.size := (Array.getElem?_eq_some_iff.1 h.hd).1
theorem Bx.new (h : St w0 w bt q z v L v1 Hs v2 As) (ob : Obj) : Bx (w.alloc ob) w.heap.size ob bt v v1 v2 :=
  ⟨(MapKept.heap_alloc w _).1, fun hf => by have := (h.rn.tb.foot_lt hf).2; omega, fun hg => by have := (own_lt h.rh hg).2; omega, fun hg => by have := (own_lt h.ri hg).2; omega⟩
theorem Bx.keep {nb : Nat} {ob : Obj} (h : Bx w nb ob bt v v1 v2) (k : K w w') : Bx w' nb ob bt v v1 v2 := ⟨k.block h.hd, h.f, h.g1, h.g2⟩
theorem Bx.step {nb : Nat} {ob : Obj} (h : Bx w nb ob bt v v1 v2) (k : Kept (foot bt v) w w') (hf : ∀ k, foot bt v' k → foot bt v k ∨ w.heap.size ≤ k) : Bx w' nb ob bt v' v1 v2 :=
  ⟨k.block h.hd h.f, fun hx => by rcases hf nb hx with h1 | h1 <;> first | exact h.f h1 | (have := h.lt; omega), h.g1, h.g2⟩
theorem Bx.app1 {nb : Nat} {ob o : Obj} (h : Bx w nb ob bt v v1 v2) (hgrow : (w.alloc o).grownBy w' v1.ownBlock) (hat : v'.ownBlock = v1.ownBlock ∨ v'.ownBlock = some (w.alloc o).heap.size) : Bx w' nb ob bt v v' v2 :=
  ⟨(grown_kept hgrow).block h.hd h.g1, h.f, fun hg => by
    rcases hat with e | e
    · exact h.g1 (by rw [← e]; exact hg)
    · rw [e] at hg
      simp at hg
      have := h.lt
      omega, h.g2⟩
theorem Bx.app2 {nb : Nat} {ob o : Obj} (h : Bx w nb ob bt v v1 v2) (hgrow : (w.alloc o).grownBy w' v2.ownBlock) (hat : v'.ownBlock = v2.ownBlock ∨ v'.ownBlock = some (w.alloc o).heap.size) : Bx w' nb ob bt v v1 v' :=
  ⟨(grown_kept hgrow).block h.hd h.g2, h.f, h.g1, fun hg => by
    rcases hat with e | e
    · exact h.g2 (by rw [← e]; exact hg)
    · rw [e] at hg
      simp at hg
      have := h.lt
      omega⟩
theorem Bx.cell {nb : Nat} {cs : Array Value} {ty : TypeId} (h : Bx w nb (.cells cs ty) bt v v1 v2) (j : Nat) : w.cell? ⟨nb, j, none⟩ = cs[j]? := by simp [World.cell?, h.hd]

theorem St.open (h : St w0 w bt q z v L v1 Hs v2 As) (a x er : Int) (L' : List Sl) (a1 : a ≤ 9223372036854775807) (e : openL q z L a = (x, er, L')) : Calls Tryz.prog 23 #[tp bt, .int .i64 a] w fun e w' => e = .returned (.tuple #[.int .u64 x, .int .i64 er]) ∧ ∃ v', St w0 w' bt q z v' L' v1 Hs v2 As ∧ ∀ nb ob, Bx w nb ob bt v v1 v2 → Bx w' nb ob bt v' v1 v2 := by
  have := open_any h.rn.tb a a1
  rw [e] at this
  refine this.mono ?_
  rintro e w1 ⟨rfl, v', t, k, hf⟩
  exact ⟨rfl, v', h.step t k hf, fun nb ob hb => hb.step k hf⟩
theorem St.close (h : St w0 w bt q z v L v1 Hs v2 As) (x er : Int) (L' : List Sl) (hx : U64 x) (e : closeL L x = (er, L')) : Calls Tryz.prog 27 #[tp bt, .int .u64 x] w fun e w' => e = .returned (.int .i64 er) ∧ St w0 w' bt q z v L' v1 Hs v2 As ∧ ∀ nb ob, Bx w nb ob bt v v1 v2 → Bx w' nb ob bt v v1 v2 := by
  have := close_any h.rn.tb x hx
  rw [e] at this
  refine this.mono ?_
  rintro e w1 ⟨rfl, t, k⟩
  exact ⟨rfl, h.step t k (fun _ hk => .inl hk), fun nb ob hb => hb.step k (fun _ hk => .inl hk)⟩
theorem St.move (h : St w0 w bt q z v L v1 Hs v2 As) (x a er : Int) (L' : List Sl) (hx : U64 x) (a1 : a ≤ 9223372036854775807) (e : moveL L x a = (er, L')) : Calls Tryz.prog 65 #[tp bt, .int .u64 x, .int .i64 a] w fun e w' => e = .returned (.int .i64 er) ∧ St w0 w' bt q z v L' v1 Hs v2 As ∧ ∀ nb ob, Bx w nb ob bt v v1 v2 → Bx w' nb ob bt v v1 v2 := by
  have := move_any h.rn.tb x a hx a1
  rw [e] at this
  refine this.mono ?_
  rintro e w1 ⟨rfl, t, k⟩
  exact ⟨rfl, h.step t k (fun _ hk => .inl hk), fun nb ob hb => hb.step k (fun _ hk => .inl hk)⟩
theorem St.at (h : St w0 w bt q z v L v1 Hs v2 As) (x a er : Int) (hx : U64 x) (e : atL L x = (a, er)) : Calls Tryz.prog 54 #[tp bt, .int .u64 x] w fun e w' => e = .returned (.tuple #[.int .i64 a, .int .i64 er]) ∧ St w0 w' bt q z v L v1 Hs v2 As ∧ K w w' := by
  have := at_any h.rn.tb x hx
  rw [e] at this
  refine this.mono ?_
  rintro e w1 ⟨rfl, k⟩
  exact ⟨rfl, h.keep k, k⟩

end Hd
end Go.Proofs.YtgcnjafoabnhgaaGreatDoor
