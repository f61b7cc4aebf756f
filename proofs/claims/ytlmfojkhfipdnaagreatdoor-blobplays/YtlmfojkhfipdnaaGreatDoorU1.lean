/-
  HandleEnds, over the slots alone: opening and closing again and again, decided for each of the 36 sizes.
-/
import Derived.Test.YtlmfojkhfipdnaaGreatDoorD1
import Derived.Test.YtlmfojkhfipdnaaGreatDoorD2
import Derived.Deep.AppendSrc
import Derived.Handy
import Derived.RegionTactic
import Derived.ChangeAlike
namespace Go.Proofs.YtlmfojkhfipdnaaGreatDoor
namespace Hd

/-- The slots behind n openings, each closed again; whether all were answered OK. -/
def endsAt (q z : Int) : Nat → List Sl × Bool
  | 0 => ([], true)
  | n + 1 =>
    let p := endsAt q z n
    let r := openL q z p.1 n
    let c := closeL r.2.2 r.1
    (c.2, p.2 && r.2.1 == 0 && c.1 == 0)

def endsOk (q z : Nat) : Bool :=
  let p := endsAt q z (q * z)
  p.2 && (openL q z p.1 7).1 == 0 && (openL q z p.1 7).2.1 == 10 && (openL q z p.1 7).2.2.length == q && (liveL (openL q z p.1 7).2.2).length == 0

end Hd
end Go.Proofs.YtlmfojkhfipdnaaGreatDoor

/-
  A table made since w0, and two rows of one's own beside it: handles, and numbers.
-/
namespace Go.Proofs.YtlmfojkhfipdnaaGreatDoor
open Go.RowKit Go.Maps
namespace Hd
open Hp (Kept K No)
variable {w0 w w' : World} {bt : Nat} {q z : Int} {v v' v1 v2 : Value} {L L' : List Sl} {Hs As : List Int}

def encZ (x : Int) : Value := .int .i64 x
structure St (w0 w : World) (bt : Nat) (q z : Int) (v : Value) (L : List Sl) (v1 : Value) (Hs : List Int) (v2 : Value) (As : List Int) : Prop where
  rn : Rn w0 w bt q z v L
  rh : w.ownsRow w0.heap.size 49 1 v1 Hs.length (Hs.map encU)
  ri : w.ownsRow w0.heap.size 3 1 v2 As.length (As.map encZ)
  a1 : ∀ g, some g = v1.ownBlock → ¬ foot bt v g
  a2 : ∀ g, some g = v2.ownBlock → ¬ foot bt v g
  a12 : ∀ g, some g = v1.ownBlock → some g ≠ v2.ownBlock

theorem St.first (h : Rn w0 w bt q z v L) : St w0 w bt q z v L (.slice none 0 0) [] (.slice none 0 0) [] :=
  ⟨h, World.ownsRow_nil _ _ _ _, World.ownsRow_nil _ _ _ _, (fun _ hg => nomatch hg), (fun _ hg => nomatch hg), (fun _ hg => nomatch hg)⟩
theorem St.keep (h : St w0 w bt q z v L v1 Hs v2 As) (k : K w w') : St w0 w' bt q z v L v1 Hs v2 As :=
  ⟨h.rn.keep k, ownsRow_kept (O := No) h.rh k (fun _ _ x => x), ownsRow_kept (O := No) h.ri k (fun _ _ x => x), h.a1, h.a2, h.a12⟩
theorem St.step (h : St w0 w bt q z v L v1 Hs v2 As) (t : Tab w' w0.heap.size bt q z v' L') (k : Kept (foot bt v) w w') (hf : ∀ k, foot bt v' k → foot bt v k ∨ w.heap.size ≤ k) : St w0 w' bt q z v' L' v1 Hs v2 As := by
  refine ⟨h.rn.step t k, ownsRow_kept h.rh k h.a1, ownsRow_kept h.ri k h.a2, fun g hg hx => ?_, fun g hg hx => ?_, h.a12⟩
  · rcases hf g hx with h1 | h1
    · exact h.a1 g hg h1
    · have := (own_lt h.rh hg).2
      omega
  · rcases hf g hx with h1 | h1
    · exact h.a2 g hg h1
    · have := (own_lt h.ri hg).2
      omega

theorem run_ixh (g len cap i : Nat) (hi : i < len) (w' : World) : (Instr.indexAt 40 (.slice (some ⟨g, 0, none⟩) len cap) (.int .i64 (i : Int))).run Tryz.prog w' = .ok (.pointer (some ⟨g, i, none⟩)) w' := by
  have hel : Tryz.prog.elem 40 = 49 := by kernel_rfl
  have hsz : (sizeOf 49).run Tryz.prog w' = .ok 1 w' := by kernel_rfl
  have hu : Tryz.prog.underlying 40 = some (.slice (Tryz.prog.elem 40)) := by kernel_rfl
  rw [run_indexAt_slice w' 40 _ len cap .i64 i hu, if_pos (by omega), hel, hsz]
  simp only [Result.andThen_ok, Int.toNat_natCast, Nat.mul_one]
  rw [Go.WideShapes.add_plain, Nat.zero_add]
/-- A row's cell. -/
theorem own_at {B n i : Nat} {ty : TypeId} {u x : Value} {xs : List Value} (h : w.ownsRow B ty 1 u n xs) (hx : xs[i]? = some x) : ∃ g cap, u = .slice (some ⟨g, 0, none⟩) n cap ∧ i < n ∧ w.cell? ⟨g, i, none⟩ = some x ∧ w.frozen? ⟨g, i, none⟩ = false ∧ B ≤ g ∧ g < w.heap.size := by
  have hl := h.1
  have hi := (List.getElem?_eq_some_iff.1 hx).1
  rcases h.2 with ⟨_, e⟩ | ⟨g, cap, cur, e, hb, hg, _, _, _, ht⟩
  · omega
  · refine ⟨g, cap, e, by omega, ?_, by simp [World.frozen?, hg], hb, (Array.getElem?_eq_some_iff.1 hg).1⟩
    rw [← ht, List.getElem?_take, if_pos (by omega)] at hx
    simp only [World.cell?, hg]
    rw [if_neg (by simp), ← Array.getElem?_toList]
    exact hx

/-- A box beside all of these. -/
structure Bx (w : World) (nb : Nat) (ob : Obj) (bt : Nat) (v v1 v2 : Value) : Prop where
  hd : w.heap[nb]? = some ob
  f : ¬ foot bt v nb
  g1 : some nb ≠ v1.ownBlock
  g2 : some nb ≠ v2.ownBlock
theorem Bx.lt {nb : Nat} {ob : Obj} (h : Bx w nb ob bt v v1 v2) : nb < w.heap.size := (Array.getElem?_eq_some_iff.1 h.hd).1
theorem Bx.new (h : St w0 w bt q z v L v1 Hs v2 As) (ob : Obj) : Bx (w.alloc ob) w.heap.size ob bt v v1 v2 :=
  ⟨(MapKept.heap_alloc w _).1, fun hf => by have := (h.rn.tb.foot_lt hf).2; omega, fun hg => by have := (own_lt h.rh hg).2; omega, fun hg => by have := (own_lt h.ri hg).2; omega⟩
theorem Bx.keep {nb : Nat} {ob : Obj} (h : Bx w nb ob bt v v1 v2) (k : K w w') : Bx w' nb ob bt v v1 v2 := ⟨k.block h.hd, h.f, h.g1, h.g2⟩
theorem Bx.step {nb : Nat} {ob : Obj} (h : Bx w nb ob bt v v1 v2) (k : Kept (foot bt v) w w') (hf : ∀ k, foot bt v' k → foot bt v k ∨ w.heap.size ≤ k) : Bx w' nb ob bt v' v1 v2 :=
  ⟨k.block h.hd h.f, fun hx => by rcases hf nb hx with h1 | h1 <;> first | exact h.f h1 | (have := h.lt; omega), h.g1, h.g2⟩
theorem Bx.cell {nb : Nat} {cs : Array Value} {ty : TypeId} (h : Bx w nb (.cells cs ty) bt v v1 v2) (j : Nat) : w.cell? ⟨nb, j, none⟩ = cs[j]? := by simp [World.cell?, h.hd]

theorem St.open (h : St w0 w bt q z v L v1 Hs v2 As) (a x er : Int) (L' : List Sl) (a1 : a ≤ 9223372036854775807) (e : openL q z L a = (x, er, L')) : Calls Tryz.prog 52 #[tp bt, .int .i64 a] w fun e w' => e = .returned (.tuple #[.int .u64 x, .int .i64 er]) ∧ ∃ v', St w0 w' bt q z v' L' v1 Hs v2 As ∧ ∀ nb ob, Bx w nb ob bt v v1 v2 → Bx w' nb ob bt v' v1 v2 := by
  have := open_any h.rn.tb a a1
  rw [e] at this
  refine this.mono ?_
  rintro e w1 ⟨rfl, v', t, k, hf⟩
  exact ⟨rfl, v', h.step t k hf, fun nb ob hb => hb.step k hf⟩
theorem St.close (h : St w0 w bt q z v L v1 Hs v2 As) (x er : Int) (L' : List Sl) (hx : U64 x) (e : closeL L x = (er, L')) : Calls Tryz.prog 87 #[tp bt, .int .u64 x] w fun e w' => e = .returned (.int .i64 er) ∧ St w0 w' bt q z v L' v1 Hs v2 As ∧ ∀ nb ob, Bx w nb ob bt v v1 v2 → Bx w' nb ob bt v v1 v2 := by
  have := close_any h.rn.tb x hx
  rw [e] at this
  refine this.mono ?_
  rintro e w1 ⟨rfl, t, k⟩
  exact ⟨rfl, h.step t k (fun _ hk => .inl hk), fun nb ob hb => hb.step k (fun _ hk => .inl hk)⟩
theorem St.move (h : St w0 w bt q z v L v1 Hs v2 As) (x a er : Int) (L' : List Sl) (hx : U64 x) (a1 : a ≤ 9223372036854775807) (e : moveL L x a = (er, L')) : Calls Tryz.prog 59 #[tp bt, .int .u64 x, .int .i64 a] w fun e w' => e = .returned (.int .i64 er) ∧ St w0 w' bt q z v L' v1 Hs v2 As ∧ ∀ nb ob, Bx w nb ob bt v v1 v2 → Bx w' nb ob bt v v1 v2 := by
  have := move_any h.rn.tb x a hx a1
  rw [e] at this
  refine this.mono ?_
  rintro e w1 ⟨rfl, t, k⟩
  exact ⟨rfl, h.step t k (fun _ hk => .inl hk), fun nb ob hb => hb.step k (fun _ hk => .inl hk)⟩
theorem St.at (h : St w0 w bt q z v L v1 Hs v2 As) (x a er : Int) (hx : U64 x) (e : atL L x = (a, er)) : Calls Tryz.prog 72 #[tp bt, .int .u64 x] w fun e w' => e = .returned (.tuple #[.int .i64 a, .int .i64 er]) ∧ St w0 w' bt q z v L v1 Hs v2 As ∧ K w w' := by
  have := at_any h.rn.tb x hx
  rw [e] at this
  refine this.mono ?_
  rintro e w1 ⟨rfl, k⟩
  exact ⟨rfl, h.keep k, k⟩

end Hd
end Go.Proofs.YtlmfojkhfipdnaaGreatDoor

/-
  The reference's slots against the table's: closed ones keep their address there. No Go text is named here.
-/
namespace Go.Proofs.YtlmfojkhfipdnaaGreatDoor
namespace Hd
variable {q z : Int} {R R' : List Sl}

def cl (s : Sl) : Sl := if s.o then s else ⟨false, s.g, 0⟩
theorem cl_o (s : Sl) : (cl s).o = s.o := by
  unfold cl
  cases h : s.o <;> simp [h]
theorem cl_g (s : Sl) : (cl s).g = s.g := by
  unfold cl
  split <;> rfl
theorem cl_open {s : Sl} (h : s.o = true) : cl s = s := by simp [cl, h]
theorem cl_fr (s : Sl) : fr z (cl s) = fr z s := by simp [fr, cl_o, cl_g]
def cls (R : List Sl) : List Sl := R.map cl
theorem cls_len (R : List Sl) : (cls R).length = R.length := by simp [cls]
theorem cls_get {i : Nat} {s : Sl} (h : R[i]? = some s) : (cls R)[i]? = some (cl s) := by simp [cls, h]
theorem cls_none {i : Nat} (h : R[i]? = none) : (cls R)[i]? = none := by simp [cls] at h ⊢; exact h
theorem cls_set (i : Nat) (s : Sl) : cls (R.set i s) = (cls R).set i (cl s) := by simp [cls]
theorem cls_app (s : Sl) : cls (R ++ [s]) = cls R ++ [cl s] := by simp [cls]

theorem freeAt_cls : ∀ R : List Sl, freeAt z (cls R) = freeAt z R
  | [] => rfl
  | s :: R => by
    show (if fr z (cl s) then some 0 else (freeAt z (cls R)).map (· + 1)) = if fr z s then some 0 else (freeAt z R).map (· + 1)
    rw [cl_fr, freeAt_cls R]
theorem findL_cls (h : Int) : findL (cls R) h = findL R h := by
  unfold findL
  split
  · rfl
  · cases e : R[(h % 4294967296 - 1).toNat]? with
    | none => rw [cls_none e]
    | some s =>
      rw [cls_get e]
      simp only [cl_o, cl_g]
theorem atL_cls (h : Int) : atL (cls R) h = atL R h := by
  cases e : findL R h with
  | none => rw [atL_none e, atL_none (by rw [findL_cls]; exact e)]
  | some i =>
    obtain ⟨s, hs, ho, _⟩ := findL_some e
    rw [atL_some e hs, atL_some (by rw [findL_cls]; exact e) (cls_get hs), cl_open ho]
theorem openL_cls (a : Int) : openL q z (cls R) a = ((openL q z R a).1, (openL q z R a).2.1, cls (openL q z R a).2.2) := by
  by_cases a0 : a < 0
  · rw [openL_neg a0, openL_neg a0]
  · cases hf : freeAt z R with
    | some i =>
      obtain ⟨s, hs, _⟩ := freeAt_some hf
      rw [openL_free (by omega) hf hs, openL_free (by omega) (by rw [freeAt_cls]; exact hf) (cls_get hs), cl_g, cls_set]
      rfl
    | none =>
      by_cases hl : (R.length : Int) < q
      · rw [openL_new (by omega) hf hl, openL_new (by omega) (by rw [freeAt_cls]; exact hf) (by rw [cls_len]; exact hl), cls_len, cls_app]
        rfl
      · rw [openL_full (by omega) hf (by omega), openL_full (by omega) (by rw [freeAt_cls]; exact hf) (by rw [cls_len]; omega)]
theorem moveL_cls (h a : Int) : moveL (cls R) h a = ((moveL R h a).1, cls (moveL R h a).2) := by
  by_cases a0 : a < 0
  · rw [moveL_neg a0, moveL_neg a0]
  · cases e : findL R h with
    | none => rw [moveL_none (by omega) e, moveL_none (by omega) (by rw [findL_cls]; exact e)]
    | some i =>
      obtain ⟨s, hs, ho, _⟩ := findL_some e
      rw [moveL_some (by omega) e hs, moveL_some (by omega) (by rw [findL_cls]; exact e) (cls_get hs), cl_g, cls_set]
      rfl
/-- The reference's Close. -/
def closeR (R : List Sl) (h : Int) : Int × List Sl :=
  match findL R h with
  | some i => (0, R.set i ⟨false, genAt R i, addrAt R i⟩)
  | none => (7, R)
theorem closeR_some {h : Int} {i : Nat} {s : Sl} (e : findL R h = some i) (hs : R[i]? = some s) : closeR R h = (0, R.set i ⟨false, s.g, s.a⟩) := by
  simp only [closeR, e, genAt, addrAt, getD_of hs]
theorem closeR_none {h : Int} (e : findL R h = none) : closeR R h = (7, R) := by simp only [closeR, e]
theorem closeL_cls (h : Int) : closeL (cls R) h = ((closeR R h).1, cls (closeR R h).2) := by
  cases e : findL R h with
  | none => rw [closeR_none e, closeL_none (by rw [findL_cls]; exact e)]
  | some i =>
    obtain ⟨s, hs, ho, _⟩ := findL_some e
    rw [closeR_some e hs, closeL_some (by rw [findL_cls]; exact e) (cls_get hs), cl_g, cls_set]
    rfl

/-- What the reference asks of a slot that is free. -/
theorem fr_lt (hw : Wf q z (cls R)) {i : Nat} {s : Sl} (hs : R[i]? = some s) : fr z s = (!s.o && decide (s.g < z)) := by
  have h1 := (hw.get (cls_get hs)).hi
  rw [cl_g] at h1
  unfold fr
  congr 1
  by_cases e : s.g = z
  · simp [e]
  · have : s.g < z := by omega
    simp [e, this]
theorem gen_of (hw : Wf q z (cls R)) {i : Nat} {s : Sl} (hs : R[i]? = some s) : 1 ≤ s.g ∧ s.g ≤ z ∧ i < 65536 := by
  have h0 := hw.get (cls_get hs)
  have h1 := h0.lo
  have h2 := h0.hi
  rw [cl_g] at h1 h2
  have h3 := (List.getElem?_eq_some_iff.1 hs).1
  have h4 := hw.len
  rw [cls_len] at h4
  have := hw.q1
  exact ⟨h1, h2, by omega⟩

end Hd
end Go.Proofs.YtlmfojkhfipdnaaGreatDoor

/-
  The reference's table in memory; walks of its functions that only read.
-/
namespace Go.Proofs.YtlmfojkhfipdnaaGreatDoor
open Go.RowKit Go.Maps
namespace Hd
open Hp (Kept K No)
/-- The other cells of the reference's store. -/
structure Fr where
  y0 : Value
  y1 : Value
  y5 : Value
abbrev tr (b : Nat) : Value := .pointer (some ⟨b, 2, none⟩)

variable {Y : Fr} {w w' : World} {B br : Nat} {q z : Int} {v : Value} {R R' : List Sl}

theorem run_ixr (g len cap i : Nat) (hi : i < len) (w' : World) : (Instr.indexAt 32 (.slice (some ⟨g, 0, none⟩) len cap) (.int .i64 (i : Int))).run Tryz.prog w' = .ok (.pointer (some ⟨g, i * 3, none⟩)) w' := by
  have hel : Tryz.prog.elem 32 = 181 := by kernel_rfl
  have hsz : (sizeOf 181).run Tryz.prog w' = .ok 3 w' := by kernel_rfl
  have hu : Tryz.prog.underlying 32 = some (.slice (Tryz.prog.elem 32)) := by kernel_rfl
  rw [run_indexAt_slice w' 32 _ len cap .i64 i hu, if_pos (by omega), hel, hsz]
  simp only [Result.andThen_ok, Int.toNat_natCast]
  rw [Go.WideShapes.add_plain, Nat.zero_add]

/-- The slots' row, at block g. -/
structure RowR (w : World) (g : Nat) (a : Option Addr) (cap : Nat) (L : List Sl) : Prop where
  ix : ∀ i : Nat, i < L.length → ∀ w', (Instr.indexAt 32 (.slice a L.length cap) (.int .i64 (i : Int))).run Tryz.prog w' = .ok (.pointer (some ⟨g, i * 3, none⟩)) w'
  c0 : ∀ (i : Nat) (s : Sl), L[i]? = some s → w.cell? ⟨g, i * 3, none⟩ = some (.bool s.o)
  c1 : ∀ (i : Nat) (s : Sl), L[i]? = some s → w.cell? ⟨g, i * 3 + 1, none⟩ = some (.int .u32 s.g)
  c2 : ∀ (i : Nat) (s : Sl), L[i]? = some s → w.cell? ⟨g, i * 3 + 2, none⟩ = some (.int .i64 s.a)
theorem RowR.keep {g : Nat} {a : Option Addr} {cap : Nat} (h : RowR w g a cap R) (k : K w w') : RowR w' g a cap R :=
  ⟨h.ix, fun i s hs => k.cell (h.c0 i s hs), fun i s hs => k.cell (h.c1 i s hs), fun i s hs => k.cell (h.c2 i s hs)⟩

theorem rowR_form (h : w.ownsRow B 181 3 v R.length (rowVals R)) : ∃ g a cap, v = .slice a R.length cap ∧ RowR w g a cap R ∧ (a = some ⟨g, 0, none⟩ ∨ (a = none ∧ R = [] ∧ cap = 0)) ∧ R.length ≤ cap ∧ (∀ j u, (rowVals R)[j]? = some u → w.cell? ⟨g, j, none⟩ = some u) ∧ (0 < R.length → ∀ j, w.frozen? ⟨g, j, none⟩ = false) := by
  rcases h.2 with ⟨h1, h0⟩ | ⟨g, cap, cur, h1, hbase, hbk, h2, h3, h4, h5⟩
  · have hK : R = [] := List.eq_nil_of_length_eq_zero h0
    subst hK
    exact ⟨0, none, 0, by rw [h1]; rfl, ⟨fun i hi => by simp at hi, fun i N hi => by simp at hi, fun i N hi => by simp at hi, fun i N hi => by simp at hi⟩, Or.inr ⟨rfl, rfl, rfl⟩, Nat.le_refl _, fun j u hu => by simp [rowVals] at hu, fun h => by simp at h⟩
  · have cell : ∀ (j : Nat) (u : Value), (rowVals R)[j]? = some u → w.cell? ⟨g, j, none⟩ = some u := fun j u hu => by
      have hj := (List.getElem?_eq_some_iff.1 hu).1
      rw [row_len] at hj
      rw [← h5, List.getElem?_take, if_pos hj] at hu
      simp only [World.cell?, hbk]
      rw [if_neg (by simp), ← Array.getElem?_toList]
      exact hu
    exact ⟨g, some ⟨g, 0, none⟩, cap, h1, ⟨fun i hi w' => run_ixr g _ _ i hi w', fun i s hs => cell _ _ (row_at hs).1, fun i s hs => cell _ _ (row_at hs).2.1, fun i s hs => cell _ _ (row_at hs).2.2⟩, Or.inl rfl, h2, cell, fun _ j => by simp [World.frozen?, hbk]⟩

structure Rf (Y : Fr) (w : World) (B br : Nat) (q z : Int) (v : Value) (R : List Sl) : Prop where
  hd : w.heap[br]? = some (.cells #[Y.y0, Y.y1, .int .i64 q, .int .u32 z, v, Y.y5] 37)
  row : w.ownsRow B 181 3 v R.length (rowVals R)
  ap : v.ownBlock ≠ some br
  wf : Wf q z (cls R)
  lo : B ≤ br

theorem Rf.c0 (h : Rf Y w B br q z v R) : w.cell? ⟨br, 2, none⟩ = some (.int .i64 q) := by simp [World.cell?, h.hd]
theorem Rf.c1 (h : Rf Y w B br q z v R) : w.cell? ⟨br, 3, none⟩ = some (.int .u32 z) := by simp [World.cell?, h.hd]
theorem Rf.c2 (h : Rf Y w B br q z v R) : w.cell? ⟨br, 4, none⟩ = some v := by simp [World.cell?, h.hd]
theorem Rf.fz (h : Rf Y w B br q z v R) (i : Nat) : w.frozen? ⟨br, i, none⟩ = false := by simp [World.frozen?, h.hd]
theorem Rf.lt (h : Rf Y w B br q z v R) : br < w.heap.size := (Array.getElem?_eq_some_iff.1 h.hd).1
theorem Rf.kept (h : Rf Y w B br q z v R) {O : Nat → Prop} (k : Kept O w w') (hO : ∀ g, foot br v g → ¬ O g) : Rf Y w' B br q z v R :=
  ⟨k.block h.hd (hO br (.inl rfl)), ownsRow_kept h.row k (fun g hg => hO g (.inr hg)), h.ap, h.wf, h.lo⟩
theorem Rf.keep (h : Rf Y w B br q z v R) (k : K w w') : Rf Y w' B br q z v R := h.kept k (fun _ _ x => x)
theorem Rf.foot_lt (h : Rf Y w B br q z v R) {g : Nat} (hg : foot br v g) : B ≤ g ∧ g < w.heap.size := by
  rcases hg with rfl | hg
  · exact ⟨h.lo, h.lt⟩
  · exact own_lt h.row hg
theorem Rf.len (h : Rf Y w B br q z v R) : (R.length : Int) ≤ q ∧ q ≤ 65536 := by
  have := h.wf.len
  rw [cls_len] at this
  exact ⟨this, h.wf.q1⟩

theorem rName_any (n g : Int) (n0 : 0 ≤ n) (n1 : n ≤ 65536) (g0 : 0 ≤ g) (g1 : g ≤ 4294967295) : Calls Tryz.prog 104 #[.int .i64 n, .int .u32 g] w fun e w' => e = .returned (.int .u64 (nm n g)) ∧ w = w' := by
  have E : Hid (nm n g = g * 4294967296 + n) := rfl
  go_enter Tryz.func104, Tryz.ntmps104
  go_wp2
  go_ret
  exact ⟨by rw [E.out]; rfl, rfl⟩

def fdI (R : List Sl) (h : Int) : Int := match findL R h with | some i => i | none => -1

theorem findL_eq {h : Int} {i : Nat} {s : Sl} (hw : Wf q z (cls R)) (hs : R[i]? = some s) (ho : s.o = true) (e : nm (i + 1) s.g = h) : findL R h = some i := by
  rw [← e]
  exact findL_of hs ho (by have := (gen_of hw hs).2.2; omega)
theorem findL_no {h : Int} (hx : ∀ (i : Nat) (s : Sl), R[i]? = some s → s.o = true → nm (i + 1) s.g ≠ h) : findL R h = none := by
  cases e : findL R h with
  | none => rfl
  | some i =>
    obtain ⟨s, hs, ho, hg, hi⟩ := findL_some e
    exact absurd (by unfold nm; omega) (hx i s hs ho)

set_option maxHeartbeats 1000000 in
theorem rFind_any {g cap : Nat} {a : Option Addr} (hr : RowR w g a cap R) (hw : Wf q z (cls R)) (h : Int) : Calls Tryz.prog 108 #[.agg #[.int .i64 q, .int .u32 z, .slice a R.length cap], .int .u64 h] w fun e w' => e = .returned (.int .i64 (fdI R h)) ∧ K w w' := by
  have hk0 : K w (w.alloc (.cells #[.int .i64 q, .int .u32 z, .slice a R.length cap] 34)) := (K.refl _).alloc _
  have HR : Aside _ := hr.keep hk0
  have HW : Aside _ := hw
  have hl := hw.len
  have hq := hw.q1
  rw [cls_len] at hl
  clear hr hw
  go_enter Tryz.func108, Tryz.ntmps108
  go_wp2
  go_loopg [5] R.length (fun gh t wx => ∃ i : Nat, i + gh = R.length ∧ t = .int .i64 i ∧ Aside (∀ (j : Nat) (s : Sl), j < i → R[j]? = some s → s.o = true → nm (j + 1) s.g ≠ h) ∧ w.alloc (.cells #[.int .i64 q, .int .u32 z, .slice a R.length cap] 34) = wx)
  case atStart => exact ⟨0, by omega, rfl, fun j s hj => by omega, rfl⟩
  case round =>
    obtain ⟨i, hig, rfl, HI, rfl⟩ := hrel
    by_cases hlt : i < R.length
    · obtain ⟨s, hs⟩ : ∃ s, R[i]? = some s := ⟨_, List.getElem?_eq_getElem hlt⟩
      have hix := HR.out.ix i hlt
      have d0 := HR.out.c0 i s hs
      have d1 := HR.out.c1 i s hs
      obtain ⟨g0, g1, i1⟩ := gen_of HW.out hs
      have z1 := HW.out.z1
      have hnm : ∀ w, _ := fun w => rName_any (w := w) ((i : Int) + 1) s.g (by omega) (by omega) (by omega) (by omega)
      have HS : Aside _ := hs
      clear hs
      by_cases ho : s.o = true
      · rw [ho] at d0
        by_cases hn : nm (i + 1) s.g = h
        · have hd : (nm ((i : Int) + 1) s.g == h) = true := by simpa using hn
          have E : Hid (fdI R h = i) := by
            show fdI R h = i
            unfold fdI
            rw [findL_eq HW.out HS.out ho hn]
          clear hn ho
          go_wp2_with (go_at_call 104; refine (hnm _).mono ?_; rintro e w1 ⟨rfl, rfl⟩)
          go_ret
          exact ⟨by rw [E.out]; rfl, hk0⟩
        · have hd : (nm ((i : Int) + 1) s.g == h) = false := by simpa using hn
          have HNE : Aside _ := hn
          clear hn ho
          go_wp2_with (go_at_call 104; refine (hnm _).mono ?_; rintro e w1 ⟨rfl, rfl⟩)
          go_roundg (R.length - (i + 1))
          case measure => omega
          case rel =>
            refine ⟨i + 1, by omega, by go_num, fun j t hj ht hto => ?_, rfl⟩
            by_cases e : j = i
            · subst e
              obtain rfl : s = t := Option.some.inj (HS.out.symm.trans ht)
              exact HNE.out
            · exact HI.out j t (by omega) ht hto
      · have ho2 : s.o = false := by simpa using ho
        rw [ho2] at d0
        have HO : Aside _ := ho
        clear ho ho2
        go_wp2
        go_roundg (R.length - (i + 1))
        case measure => omega
        case rel =>
          refine ⟨i + 1, by omega, by go_num, fun j t hj ht hto => ?_, rfl⟩
          by_cases e : j = i
          · subst e
            obtain rfl : s = t := Option.some.inj (HS.out.symm.trans ht)
            exact absurd hto HO.out
          · exact HI.out j t (by omega) ht hto
    · have E : Hid (fdI R h = -1) := by
        show fdI R h = -1
        unfold fdI
        rw [findL_no (fun i' s hs ho => HI.out i' s (by have := (List.getElem?_eq_some_iff.1 hs).1; omega) hs ho)]
      go_wp2
      go_ret
      exact ⟨by rw [E.out]; rfl, hk0⟩

theorem rAt_any {g cap : Nat} {a : Option Addr} (hr : RowR w g a cap R) (hw : Wf q z (cls R)) (h : Int) : Calls Tryz.prog 60 #[.agg #[.int .i64 q, .int .u32 z, .slice a R.length cap], .int .u64 h] w fun e w' => e = .returned (.tuple #[.int .i64 (atL R h).1, .int .i64 (atL R h).2]) ∧ K w w' := by
  have hk0 : K w (w.alloc (.cells #[.int .i64 q, .int .u32 z, .slice a R.length cap] 34)) := (K.refl _).alloc _
  have hb : (w.alloc (.cells #[.int .i64 q, .int .u32 z, .slice a R.length cap] 34)).heap[w.heap.size]? = some (.cells #[.int .i64 q, .int .u32 z, .slice a R.length cap] 34) := (MapKept.heap_alloc w _).1
  have hf := rFind_any (hr.keep hk0) hw h
  have HR : Aside _ := hr.keep hk0
  clear hr hw
  go_enter Tryz.func60, Tryz.ntmps60
  go_wp2_with fail
  refine hf.mono ?_
  rintro e w1 ⟨rfl, hk⟩
  have hb1 := hk.block hb
  have b2 : w1.cell? ⟨w.heap.size, 2, none⟩ = some (.slice a R.length cap) := by simp [World.cell?, hb1]
  clear hf hb hb1
  cases e : findL R h with
  | none =>
    have E : Hid (atL R h = (0, 7)) := atL_none e
    have hfd : fdI R h = -1 := by simp [fdI, e]
    rw [hfd]
    clear e hfd
    go_wp2
    go_ret2
    exact ⟨by rw [E.out]; rfl, hk0.trans hk⟩
  | some i =>
    obtain ⟨s, hs, _⟩ := findL_some e
    have E : Hid (atL R h = (s.a, 0)) := atL_some e hs
    have hfd : fdI R h = i := by simp [fdI, e]
    have hlt := (List.getElem?_eq_some_iff.1 hs).1
    have hix := HR.out.ix i hlt
    have d2 := (HR.out.keep hk).c2 i s hs
    rw [hfd]
    clear e hfd hs
    go_wp2
    go_ret2
    exact ⟨by rw [E.out]; rfl, hk0.trans hk⟩

end Hd
end Go.Proofs.YtlmfojkhfipdnaaGreatDoor

/-
  The reference's functions that turn its table: New, Move, Close.
-/
namespace Go.Proofs.YtlmfojkhfipdnaaGreatDoor
open Go.RowKit Go.Maps
namespace Hd
open Hp (Kept K No)
variable {Y : Fr} {w w' : World} {B br : Nat} {q z : Int} {v : Value} {R R' : List Sl}

theorem rNew_ok (q z : Int) (w : World) (q0 : 1 ≤ q) (q1 : q ≤ 65536) (z0 : 1 ≤ z) (z1 : z ≤ 4294967295) : Calls Tryz.prog 14 #[.int .i64 q, .int .u32 z] w fun e w' => e = .returned (.tuple #[.agg #[.int .i64 q, .int .u32 z, .slice none 0 0], .int .i64 0]) ∧ K w w' := by
  have hz : (z == 0) = false := by simp; omega
  go_enter Tryz.func14, Tryz.ntmps14
  go_wp2
  go_returns
  exact ⟨rfl, (K.refl _).alloc _⟩

theorem info_refslot : ∃ i0, Tryz.prog.info? 181 = some i0 ∧ i0.size = 3 ∧ i0.bytes = 16 ∧ ∃ z, i0.zero = some z ∧ z.cells.size = 3 := by
  have hi : (Tryz.prog.info? 181).map (fun i => (i.zero.map (fun z => z.cells.size), i.size, i.bytes)) = some (some 3, 3, 16) := by kernel_rfl
  obtain ⟨i0, h1, h2⟩ := Option.map_eq_some_iff.1 hi
  simp only [Prod.mk.injEq] at h2
  obtain ⟨h3, h4, h5⟩ := h2
  obtain ⟨z, h6, h7⟩ := Option.map_eq_some_iff.1 h3
  exact ⟨i0, h1, h4, h5, z, h6, h7⟩

/-- What is appended: no slot of a nil slice, or the cells behind an address. -/
def SrcRow (w : World) (oa : Option Addr) (m : Nat) (news : List Value) : Prop := (oa = none ∧ m = 0 ∧ news = []) ∨ ∃ ad, oa = some ad ∧ ∀ j u, news[j]? = some u → w.cell? (ad.add j) = some u

theorem run_append_nil (g n cap c : Nat) (hn : n ≤ cap) (ty : TypeId) (w : World) : (Builtin.append_ #[32, 32] ty #[.slice (some ⟨g, 0, none⟩) n cap, .slice none 0 c]).run Tryz.prog w = .ok (.slice (some ⟨g, 0, none⟩) n cap) w := by
  obtain ⟨i0, hi, hs, _, _⟩ := info_refslot
  have := run_append_room_src (P := Tryz.prog) w 32 32 ty 181 i0 Tryz.underlying32 hi g 0 n cap (.slice none 0 c) 0 [] (_root_.Go.Src.ofNil w Tryz.underlying32 c) (by omega) (fun j hj => by simp at hj) (fun j hj => by simp at hj)
  simpa [World.setCells] using this

theorem wpList_append_refs {ops : Array Oper} {rest : List Oper} {o : Oper} {ac : Act} {Q : Exit → Act → World → Prop} (w : World) (hgd : o.guard = none) (s x : Operand)
    (ho : o.op = .call { callee := .builtin .append, args := #[s, x], argTypes := #[32, 32] })
    (base : Nat) (v : Value) (n : Nat) (xs : List Value) (hs : ac.eval s = v) (hown : w.ownsRow base 181 3 v n xs) (hv : v.ownBlock.isSome = true)
    (oa : Option Addr) (m c : Nat) (news : List Value) (hx : ac.eval x = .slice oa m c) (hl : news.length = m * 3) (hsrc : SrcRow w oa m news) (h1 : ∀ u ∈ news, u.oneCell' = true) (hb : n + m ≤ 100000) (hbase : base ≤ w.heap.size)
    (h : ∀ v' w', w'.ownsRow base 181 3 v' (n + m) (xs ++ news) → w.grownBy w' v.ownBlock → (v'.ownBlock = v.ownBlock ∨ v'.ownBlock = some w.heap.size) → wpList Tryz.prog ops Q rest (ac.put o.dst v') w') :
    wpList Tryz.prog ops Q (o :: rest) ac w := by
  obtain ⟨i0, hi, hsz, hby, z, hz, hzs⟩ := info_refslot
  rcases hsrc with ⟨rfl, rfl, rfl⟩ | ⟨ad, rfl, hc⟩
  · refine wpList_plain hgd fun K hK => ?_
    rcases hown.2 with ⟨rfl, _⟩ | ⟨g, cap, cur, hvv, r1, r2, r3, r4⟩
    · cases hv
    · have hrun := run_append_nil g n cap c r3 o.type w
      rw [← hvv] at hrun
      unfold Oper.wp execOp
      simp only [ho, resolve, invoke, builtin, Sem.run_bind, Sem.run_pure, Result.andThen_ok, List.map_toArray, List.map_cons, List.map_nil, hs, hx, hrun]
      refine hK _ _ (h v w ?_ ⟨rfl, rfl, rfl, Nat.le_refl _, fun _ _ _ => rfl⟩ (Or.inl rfl))
      simpa using hown
  · exact wpList_append_own_at w hgd s x 32 ho base 181 i0 z 3 16 Tryz.underlying32 hi hz hsz hby hzs (by decide) v n xs hs hown ad m c news hx hl hc h1 (by unfold maxLen; omega) (by omega) hbase (fun v' w' r1 r2 _ r4 => h v' w' r1 r2 r4)

theorem Rf.src (h : Rf Y w B br q z v R) : ∃ g a cap, v = .slice a R.length cap ∧ RowR w g a cap R ∧ ∀ o, SrcRow (w.alloc o) a R.length (rowVals R) := by
  obtain ⟨g, a, cap, hv, hr, hf, _, hc, _⟩ := rowR_form h.row
  refine ⟨g, a, cap, hv, hr, fun o => ?_⟩
  rcases hf with rfl | ⟨rfl, rfl, rfl⟩
  · exact .inr ⟨_, rfl, fun j u hu => by
      rw [Go.WideShapes.add_plain, Nat.zero_add]
      exact ((K.refl w).alloc o).cell (hc j u hu)⟩
  · exact .inl ⟨rfl, rfl, rfl⟩

/-- Behind the copy of the row, and its store. -/
theorem Rf.copy {w3 : World} {g n cap : Nat} (h : Rf Y w B br q z v R) (k : K w w3) (hown : w3.ownsRow w.heap.size 181 3 (.slice (some ⟨g, 0, none⟩) n cap) R.length (rowVals R)) :
    n = R.length ∧ g ≠ br ∧ w.heap.size ≤ g ∧ Rf Y (w3.setCell ⟨br, 4, none⟩ (.slice (some ⟨g, 0, none⟩) n cap)) B br q z (.slice (some ⟨g, 0, none⟩) n cap) R ∧ Kept (fun j => j = br) w (w3.setCell ⟨br, 4, none⟩ (.slice (some ⟨g, 0, none⟩) n cap)) := by
  have hlt := h.lt
  have hg : w.heap.size ≤ g := (own_lt hown rfl).1
  have hd3 := k.block h.hd
  have k4 : Kept (fun j => j = br) w3 (w3.setCell ⟨br, 4, none⟩ (.slice (some ⟨g, 0, none⟩) n cap)) := (Kept.refl _ _).setCell _ (.inl rfl)
  have hB : B ≤ w.heap.size := by have := h.lo; omega
  refine ⟨?_, by omega, hg, ⟨?_, ?_, fun e => ?_, h.wf, h.lo⟩, (k.kept _).trans k4⟩
  · rcases hown.2 with ⟨e, _⟩ | ⟨_, _, _, e, _⟩
    · cases e
    · cases e; rfl
  · simp only [World.setCell]
    rw [Array.getElem?_modify, if_pos rfl, hd3]
    rfl
  · have := ownsRow_kept hown k4 (fun j hj e => by
      have : j = g := Option.some.inj hj
      omega)
    refine ⟨this.1, ?_⟩
    rcases this.2 with h2 | ⟨g', c, cur, e, hb, rest⟩
    · exact .inl h2
    · exact .inr ⟨g', c, cur, e, by omega, rest⟩
  · have : g = br := Option.some.inj e
    omega

/-- A slot's cells are turned. -/
theorem Rf.turn {g n cap : Nat} (h : Rf Y w B br q z (.slice (some ⟨g, 0, none⟩) n cap) R) (k : Kept (fun j => j = g) w w') (hl : R'.length = R.length) (hrow : w'.ownsRow B 181 3 (.slice (some ⟨g, 0, none⟩) n cap) R.length (rowVals R')) (wf : Wf q z (cls R')) : Rf Y w' B br q z (.slice (some ⟨g, 0, none⟩) n cap) R' :=
  ⟨k.block h.hd (fun e => h.ap (by rw [e]; rfl)), by rw [hl]; exact hrow, h.ap, wf, h.lo⟩
theorem Rf.lenv {g n cap : Nat} (h : Rf Y w B br q z (.slice (some ⟨g, 0, none⟩) n cap) R) : n = R.length := by
  rcases h.row.2 with ⟨e, _⟩ | ⟨_, _, _, e, _⟩
  · cases e
  · cases e; rfl
theorem Rf.setA {g n cap i : Nat} {s : Sl} {a : Int} (h : Rf Y w B br q z (.slice (some ⟨g, 0, none⟩) n cap) R) (hs : R[i]? = some s) (wf : Wf q z (cls (R.set i ⟨s.o, s.g, a⟩))) : Rf Y (w.setCell ⟨g, i * 3 + 2, none⟩ (.int .i64 a)) B br q z (.slice (some ⟨g, 0, none⟩) n cap) (R.set i ⟨s.o, s.g, a⟩) := by
  have hn := h.lenv
  subst hn
  have hi := (List.getElem?_eq_some_iff.1 hs).1
  refine h.turn ((Kept.refl _ _).setCell _ (.inl rfl)) (by rw [List.length_set]) ?_ wf
  rw [← row_set hi ⟨s.o, s.g, a⟩]
  obtain ⟨e0, e1, _⟩ := row_at hs
  rw [set_self e0, set_self e1]
  exact own_set h.row
theorem Rf.setO {g n cap i : Nat} {s : Sl} {b : Bool} (h : Rf Y w B br q z (.slice (some ⟨g, 0, none⟩) n cap) R) (hs : R[i]? = some s) (wf : Wf q z (cls (R.set i ⟨b, s.g, s.a⟩))) : Rf Y (w.setCell ⟨g, i * 3, none⟩ (.bool b)) B br q z (.slice (some ⟨g, 0, none⟩) n cap) (R.set i ⟨b, s.g, s.a⟩) := by
  have hn := h.lenv
  subst hn
  have hi := (List.getElem?_eq_some_iff.1 hs).1
  refine h.turn ((Kept.refl _ _).setCell _ (.inl rfl)) (by rw [List.length_set]) ?_ wf
  rw [← row_set hi ⟨b, s.g, s.a⟩]
  obtain ⟨e0, e1, e2⟩ := row_at hs
  have f1 : ((rowVals R).set (i * 3) (.bool b))[i * 3 + 1]? = some (.int .u32 s.g) := by rw [List.getElem?_set_ne (by omega)]; exact e1
  rw [set_self f1]
  have f2 : ((rowVals R).set (i * 3) (.bool b))[i * 3 + 2]? = some (.int .i64 s.a) := by rw [List.getElem?_set_ne (by omega)]; exact e2
  rw [set_self f2]
  exact own_set h.row
theorem Rf.set3 {g n cap i : Nat} {s : Sl} (h : Rf Y w B br q z (.slice (some ⟨g, 0, none⟩) n cap) R) (hi : i < R.length) (wf : Wf q z (cls (R.set i s))) : Rf Y (Hd.set3 w g i s) B br q z (.slice (some ⟨g, 0, none⟩) n cap) (R.set i s) := by
  have hn := h.lenv
  subst hn
  have k1 : Kept (fun k => k = g) w (w.setCell ⟨g, i * 3, none⟩ (.bool s.o)) := (Kept.refl _ _).setCell _ (.inl rfl)
  have k2 : Kept (fun k => k = g) w ((w.setCell ⟨g, i * 3, none⟩ (.bool s.o)).setCell ⟨g, i * 3 + 1, none⟩ (.int .u32 s.g)) := k1.setCell _ (.inl rfl)
  have kk : Kept (fun k => k = g) w (Hd.set3 w g i s) := k2.setCell (p := ⟨g, i * 3 + 2, none⟩) (.int .i64 s.a) (.inl rfl)
  refine h.turn kk (by rw [List.length_set]) ?_ wf
  rw [← row_set hi s]
  exact own_set (own_set (own_set h.row))

/-- What a call on the reference leaves. -/
def RfPost (Y : Fr) (w : World) (B br : Nat) (q z : Int) (v : Value) (R' : List Sl) (w' : World) : Prop :=
  ∃ v', Rf Y w' B br q z v' R' ∧ Kept (foot br v) w w' ∧ ∀ k, foot br v' k → foot br v k ∨ w.heap.size ≤ k
theorem RfPost.same (h : Rf Y w B br q z v R) (k : K w w') : RfPost Y w B br q z v R w' := ⟨v, h.keep k, k.kept _, fun _ hk => .inl hk⟩
/-- Behind a copy and a turn of the new row. -/
theorem RfPost.of {w1 w4 w5 : World} {g n cap : Nat} (k1 : K w w1) (k4 : Kept (fun j => j = br) w1 w4) (k5 : Kept (fun j => j = g) w4 w5) (hg : w1.heap.size ≤ g) (h : Rf Y w5 B br q z (.slice (some ⟨g, 0, none⟩) n cap) R') : RfPost Y w B br q z v R' w5 := by
  refine ⟨_, h, ?_, fun k hk => ?_⟩
  · refine ⟨((k5.os.trans k4.os).trans k1.os), ((k5.tape.trans k4.tape).trans k1.tape), ((k5.output.trans k4.output).trans k1.output), Nat.le_trans (Nat.le_trans (Kept.size k1) k4.size) k5.size, fun k hk hn => ?_⟩
    have h1 : k < w1.heap.size := Nat.lt_of_lt_of_le hk (Kept.size k1)
    rw [k5.same k (Nat.lt_of_lt_of_le h1 k4.size) (fun e => by omega), k4.same k h1 (fun e => hn (.inl e)), Kept.same k1 k hk (fun x => x)]
  · rcases hk with rfl | hk
    · exact .inl (.inl rfl)
    · have : k = g := Option.some.inj hk
      have := Kept.size k1
      exact .inr (by omega)

theorem made_lo (w : World) : ∀ j, some j = (Value.slice (some ⟨w.heap.size, 0, none⟩) 0 0).ownBlock → w.heap.size ≤ j := fun j hj => by
  have : j = w.heap.size := Option.some.inj hj
  omega

theorem wf_moveR (h : Wf q z (cls R)) {x a : Int} (a1 : a ≤ 9223372036854775807) : Wf q z (cls (moveL R x a).2) := by
  have := moveL_wf h (x := x) a1
  rw [moveL_cls] at this
  exact this
theorem wf_closeR (h : Wf q z (cls R)) {x : Int} : Wf q z (cls (closeR R x).2) := by
  have := closeL_wf h (x := x)
  rw [closeL_cls] at this
  exact this
theorem wf_openR (h : Wf q z (cls R)) {a : Int} (a1 : a ≤ 9223372036854775807) : Wf q z (cls (openL q z R a).2.2) := by
  have := openL_wf h a1
  rw [openL_cls] at this
  exact this

set_option maxHeartbeats 1000000 in
theorem rMove_any (h : Rf Y w B br q z v R) (x a : Int) (a1 : a ≤ 9223372036854775807) : Calls Tryz.prog 62 #[tr br, .int .u64 x, .int .i64 a] w fun e w' => e = .returned (.int .i64 (moveL R x a).1) ∧ RfPost Y w B br q z v (moveL R x a).2 w' := by
  by_cases a0 : a < 0
  · have E : Hid (moveL R x a = (2, R)) := moveL_neg a0
    have P : Hid (RfPost Y w B br q z v R w) := .same h (K.refl _)
    clear h
    go_enter Tryz.func62, Tryz.ntmps62
    go_wp2
    go_ret
    exact ⟨by rw [E.out]; rfl, by rw [E.out]; exact P.out⟩
  obtain ⟨g, ad, cap, rfl, hr, hsrc⟩ := h.src
  have c0 := h.c0
  have c1 := h.c1
  have c2 := h.c2
  have hf := rFind_any hr h.wf x
  have hl := h.len
  obtain ⟨hl1, hl2⟩ := hl
  have HT : Aside _ := h
  have A0 : Hid (0 ≤ a) := by show 0 ≤ a; omega
  clear h hr hsrc
  go_enter Tryz.func62, Tryz.ntmps62
  go_wp2_with fail
  refine hf.mono ?_
  rintro e w1 ⟨rfl, hk⟩
  have hT := HT.out.keep hk
  clear hf c0 c1 c2
  cases e : findL R x with
  | none =>
    have E : Hid (moveL R x a = (7, R)) := moveL_none A0.out e
    have P : Hid (RfPost Y w B br q z (.slice ad R.length cap) R w1) := .same HT.out hk
    have hfd : fdI R x = -1 := by simp [fdI, e]
    rw [hfd]
    clear e hfd hT
    go_wp2
    go_ret
    exact ⟨by rw [E.out]; rfl, by rw [E.out]; exact P.out⟩
  | some i =>
    obtain ⟨s, hs, ho, -⟩ := findL_some e
    have E : Hid (moveL R x a = (0, R.set i ⟨s.o, s.g, a⟩)) := by rw [ho]; exact moveL_some A0.out e hs
    have hwf := wf_moveR HT.out.wf (x := x) a1
    rw [E.out] at hwf
    have hfd : fdI R x = i := by simp [fdI, e]
    have hlt := (List.getElem?_eq_some_iff.1 hs).1
    rw [hfd]
    obtain ⟨g', ad', cap', hv', hr', hsrc'⟩ := hT.src
    cases hv'
    have c2 := hT.c2
    have hbr := hT.lt
    have HSRC : Aside _ := hsrc'
    have HS : Aside _ := hs
    have HWF : Aside _ := hwf
    have HT1 : Aside _ := hT
    clear e hfd hs hwf hT hr' hsrc' ho
    go_wp2_with (at_builtin
                 refine wpList_append_refs _ rfl _ _ rfl w1.heap.size _ 0 [] rfl (World.ownsRow_made w1 #[] 0 (Nat.le_refl _) (by unfold maxLen; omega) rfl) rfl ad R.length cap (rowVals R) rfl (row_len R) (HSRC.out _) (row_one R) (by omega) (by simp) ?_
                 intro v3 w3 hown hgrow hat
                 rw [Nat.zero_add, List.nil_append] at hown
                 have k3 : K w1 w3 := K.thenGrown (K.refl w1) hgrow (made_lo w1)
                 obtain ⟨g3, cap3, hv3⟩ : ∃ g cap, v3 = .slice (some ⟨g, 0, none⟩) R.length cap := by
                   rcases hown.2 with ⟨_, e⟩ | ⟨g, cap, _, e, _⟩
                   · omega
                   · exact ⟨g, cap, e⟩
                 subst hv3
                 obtain ⟨_, hne, hge, hR4, k4⟩ := HT1.out.copy k3 hown
                 have hd3 := k3.block HT1.out.hd
                 have e2 : w3.cell? ⟨br, 4, none⟩ = some (.slice ad R.length cap) := by simp [World.cell?, hd3]
                 have q2 : w3.frozen? ⟨br, 4, none⟩ = false := by simp [World.frozen?, hd3]
                 obtain ⟨g9, a9, c9, hv9, hr9, hf9, _, _, hz9⟩ := rowR_form hown
                 cases hv9
                 rcases hf9 with he9 | ⟨he9, _⟩ <;> cases he9
                 have hix := run_ixr g3 R.length cap3 i hlt
                 have d2 := hr9.c2 i s HS.out
                 have z2 := hz9 (by omega) (i * 3 + 2)
                 have hR5 := hR4.setA (a := a) HS.out HWF.out
                 have P : Hid (RfPost Y w B br q z (.slice ad R.length cap) (R.set i ⟨s.o, s.g, a⟩) _) := RfPost.of hk k4 ((Kept.refl _ _).setCell _ (.inl rfl)) hge hR5
                 clear hown hgrow hat hR4 hR5 k4 hr9 hz9 hd3 k3)
    go_ret
    exact ⟨by rw [E.out]; rfl, by rw [E.out]; exact P.out⟩

set_option maxHeartbeats 1000000 in
theorem rClose_any (h : Rf Y w B br q z v R) (x : Int) : Calls Tryz.prog 89 #[tr br, .int .u64 x] w fun e w' => e = .returned (.int .i64 (closeR R x).1) ∧ RfPost Y w B br q z v (closeR R x).2 w' := by
  obtain ⟨g, ad, cap, rfl, hr, hsrc⟩ := h.src
  have c0 := h.c0
  have c1 := h.c1
  have c2 := h.c2
  have hf := rFind_any hr h.wf x
  have hl := h.len
  obtain ⟨hl1, hl2⟩ := hl
  have HT : Aside _ := h
  clear h hr hsrc
  go_enter Tryz.func89, Tryz.ntmps89
  go_wp2_with fail
  refine hf.mono ?_
  rintro e w1 ⟨rfl, hk⟩
  have hT := HT.out.keep hk
  clear hf c0 c1 c2
  cases e : findL R x with
  | none =>
    have E : Hid (closeR R x = (7, R)) := closeR_none e
    have P : Hid (RfPost Y w B br q z (.slice ad R.length cap) R w1) := .same HT.out hk
    have hfd : fdI R x = -1 := by simp [fdI, e]
    rw [hfd]
    clear e hfd hT
    go_wp2
    go_ret
    exact ⟨by rw [E.out]; rfl, by rw [E.out]; exact P.out⟩
  | some i =>
    obtain ⟨s, hs, ho, -⟩ := findL_some e
    have E : Hid (closeR R x = (0, R.set i ⟨false, s.g, s.a⟩)) := closeR_some e hs
    have hwf := wf_closeR HT.out.wf (x := x)
    rw [E.out] at hwf
    have hfd : fdI R x = i := by simp [fdI, e]
    have hlt := (List.getElem?_eq_some_iff.1 hs).1
    rw [hfd]
    obtain ⟨g', ad', cap', hv', hr', hsrc'⟩ := hT.src
    cases hv'
    have c2 := hT.c2
    have hbr := hT.lt
    have HSRC : Aside _ := hsrc'
    have HS : Aside _ := hs
    have HWF : Aside _ := hwf
    have HT1 : Aside _ := hT
    clear e hfd hs hwf hT hr' hsrc' ho
    go_wp2_with (at_builtin
                 refine wpList_append_refs _ rfl _ _ rfl w1.heap.size _ 0 [] rfl (World.ownsRow_made w1 #[] 0 (Nat.le_refl _) (by unfold maxLen; omega) rfl) rfl ad R.length cap (rowVals R) rfl (row_len R) (HSRC.out _) (row_one R) (by omega) (by simp) ?_
                 intro v3 w3 hown hgrow hat
                 rw [Nat.zero_add, List.nil_append] at hown
                 have k3 : K w1 w3 := K.thenGrown (K.refl w1) hgrow (made_lo w1)
                 obtain ⟨g3, cap3, hv3⟩ : ∃ g cap, v3 = .slice (some ⟨g, 0, none⟩) R.length cap := by
                   rcases hown.2 with ⟨_, e⟩ | ⟨g, cap, _, e, _⟩
                   · omega
                   · exact ⟨g, cap, e⟩
                 subst hv3
                 obtain ⟨_, hne, hge, hR4, k4⟩ := HT1.out.copy k3 hown
                 have hd3 := k3.block HT1.out.hd
                 have e2 : w3.cell? ⟨br, 4, none⟩ = some (.slice ad R.length cap) := by simp [World.cell?, hd3]
                 have q2 : w3.frozen? ⟨br, 4, none⟩ = false := by simp [World.frozen?, hd3]
                 obtain ⟨g9, a9, c9, hv9, hr9, hf9, _, _, hz9⟩ := rowR_form hown
                 cases hv9
                 rcases hf9 with he9 | ⟨he9, _⟩ <;> cases he9
                 have hix := run_ixr g3 R.length cap3 i hlt
                 have d2 := hr9.c0 i s HS.out
                 have z2 := hz9 (by omega) (i * 3)
                 have hR5 := hR4.setO (b := false) HS.out HWF.out
                 have P : Hid (RfPost Y w B br q z (.slice ad R.length cap) (R.set i ⟨false, s.g, s.a⟩) _) := RfPost.of hk k4 ((Kept.refl _ _).setCell _ (.inl rfl)) hge hR5
                 clear hown hgrow hat hR4 hR5 k4 hr9 hz9 hd3 k3)
    go_ret
    exact ⟨by rw [E.out]; rfl, by rw [E.out]; exact P.out⟩

end Hd
end Go.Proofs.YtlmfojkhfipdnaaGreatDoor

/-
  The reference's Open.
-/
namespace Go.Proofs.YtlmfojkhfipdnaaGreatDoor
open Go.RowKit Go.Maps
namespace Hd
open Hp (Kept K No)
variable {Y : Fr} {w w' : World} {B br : Nat} {q z : Int} {v : Value} {R R' : List Sl}

theorem own_some {n m : Nat} {ty : TypeId} {xs : List Value} (h : w.ownsRow B ty m v n xs) (hv : v.ownBlock.isSome = true) : ∃ g cap, v = .slice (some ⟨g, 0, none⟩) n cap := by
  rcases h.2 with ⟨rfl, _⟩ | ⟨g, cap, _, e, _⟩
  · cases hv
  · exact ⟨g, cap, e⟩

theorem Rf.at {g n cap : Nat} (h : Rf Y w B br q z (.slice (some ⟨g, 0, none⟩) n cap) R) {i : Nat} {s : Sl} (hs : R[i]? = some s) : w.cell? ⟨g, i * 3, none⟩ = some (.bool s.o) ∧ w.cell? ⟨g, i * 3 + 1, none⟩ = some (.int .u32 s.g) ∧ w.cell? ⟨g, i * 3 + 2, none⟩ = some (.int .i64 s.a) ∧ ∀ j, w.frozen? ⟨g, j, none⟩ = false := by
  obtain ⟨g9, a9, c9, hv9, hr9, hf9, _, _, hz9⟩ := rowR_form h.row
  cases hv9
  have hlt := (List.getElem?_eq_some_iff.1 hs).1
  rcases hf9 with he9 | ⟨he9, _⟩ <;> cases he9
  exact ⟨hr9.c0 i s hs, hr9.c1 i s hs, hr9.c2 i s hs, hz9 (by omega)⟩

theorem grown_keptR {row : Option Nat} {o : Obj} (hgrow : (w.alloc o).grownBy w' row) : Kept (fun k => some k = row) w w' := by
  have hsz := hgrow.size
  simp at hsz
  exact ⟨hgrow.os, hgrow.tape, hgrow.output, by omega, fun k hk hn => by
    rw [hgrow.block k (by simp; omega) hn]
    exact Below.heap_alloc w o k hk⟩

/-- Behind the append of a slot to the copy, and its store. -/
theorem Rf.app {W X w5 : World} {g n cap g5 n5 cap5 : Nat} {s : Sl} {o : Obj} (h : Rf Y X B br q z (.slice (some ⟨g, 0, none⟩) n cap) R) (hown : w5.ownsRow B 181 3 (.slice (some ⟨g5, 0, none⟩) n5 cap5) (R.length + 1) (rowVals R ++ slVals s)) (hgrow : (X.alloc o).grownBy w5 (Value.slice (some ⟨g, 0, none⟩) n cap).ownBlock) (hat : (Value.slice (some ⟨g5, 0, none⟩) n5 cap5).ownBlock = (Value.slice (some ⟨g, 0, none⟩) n cap).ownBlock ∨ (Value.slice (some ⟨g5, 0, none⟩) n5 cap5).ownBlock = some (X.alloc o).heap.size) (wf : Wf q z (cls (R ++ [s]))) (hge : w.heap.size ≤ g) (kX : K W X) (k4 : Kept (fun j => j = br) w W) (hW : w.heap.size ≤ W.heap.size) :
    w5.cell? ⟨br, 4, none⟩ = some (.slice (some ⟨g, 0, none⟩) n cap) ∧ w5.frozen? ⟨br, 4, none⟩ = false ∧ Rf Y (w5.setCell ⟨br, 4, none⟩ (.slice (some ⟨g5, 0, none⟩) n5 cap5)) B br q z (.slice (some ⟨g5, 0, none⟩) n5 cap5) (R ++ [s]) ∧ RfPost Y w B br q z v (R ++ [s]) (w5.setCell ⟨br, 4, none⟩ (.slice (some ⟨g5, 0, none⟩) n5 cap5)) := by
  have hlt := h.lt
  have hXs := Kept.size kX
  have kk := grown_keptR hgrow
  have hbg : ¬ some br = (Value.slice (some ⟨g, 0, none⟩) n cap).ownBlock := fun e => h.ap e.symm
  have hd5 := kk.block h.hd hbg
  have h5 : w.heap.size ≤ g5 ∧ g5 ≠ br := by
    rcases hat with e | e
    · have e1 : g5 = g := Option.some.inj e
      subst e1
      exact ⟨hge, fun e2 => hbg (by rw [← e2]; rfl)⟩
    · have e1 : g5 = (X.alloc o).heap.size := Option.some.inj e
      simp at e1
      omega
  have k6 : Kept (fun j => j = br) w5 (w5.setCell ⟨br, 4, none⟩ (.slice (some ⟨g5, 0, none⟩) n5 cap5)) := (Kept.refl _ _).setCell _ (.inl rfl)
  have hR : Rf Y (w5.setCell ⟨br, 4, none⟩ (.slice (some ⟨g5, 0, none⟩) n5 cap5)) B br q z (.slice (some ⟨g5, 0, none⟩) n5 cap5) (R ++ [s]) := by
    refine ⟨?_, ?_, fun e => h5.2 (Option.some.inj e), wf, h.lo⟩
    · simp only [World.setCell]
      rw [Array.getElem?_modify, if_pos rfl, hd5]
      rfl
    · rw [List.length_append, row_app, show rowVals [s] = slVals s by simp [rowVals]]
      exact ownsRow_kept hown k6 (fun j hj e => h5.2 (by rw [← e]; exact (Option.some.inj hj).symm))
  refine ⟨by simp [World.cell?, hd5], by simp [World.frozen?, hd5], hR, _, hR, ?_, fun k hk => ?_⟩
  · refine ⟨((k6.os.trans kk.os).trans (Kept.os kX)).trans k4.os, ((k6.tape.trans kk.tape).trans (Kept.tape kX)).trans k4.tape, ((k6.output.trans kk.output).trans (Kept.output kX)).trans k4.output, Nat.le_trans (Nat.le_trans (Nat.le_trans hW hXs) kk.size) k6.size, fun k hk hn => ?_⟩
    have n1 : k ≠ br := fun e => hn (.inl e)
    have n2 : ¬ some k = (Value.slice (some ⟨g, 0, none⟩) n cap).ownBlock := fun e => by
      have : k = g := Option.some.inj e
      omega
    have l1 : k < W.heap.size := by omega
    have l2 : k < X.heap.size := by omega
    rw [k6.same k (Nat.lt_of_lt_of_le l2 kk.size) n1, kk.same k l2 n2, Kept.same kX k l1 (fun x => x), k4.same k hk n1]
  · rcases hk with rfl | hk
    · exact .inl (.inl rfl)
    · have : k = g5 := Option.some.inj hk
      exact .inr (by omega)

set_option maxRecDepth 100000 in
set_option maxHeartbeats 2000000 in
theorem rOpen_any (h : Rf Y w B br q z v R) (a : Int) (a1 : a ≤ 9223372036854775807) : Calls Tryz.prog 55 #[tr br, .int .i64 a] w fun e w' => e = .returned (.tuple #[.int .u64 (openL q z R a).1, .int .i64 (openL q z R a).2.1]) ∧ RfPost Y w B br q z v (openL q z R a).2.2 w' := by
  by_cases a0 : a < 0
  · have E : Hid (openL q z R a = (0, 2, R)) := openL_neg a0
    have P : Hid (RfPost Y w B br q z v R w) := .same h (K.refl _)
    clear h
    go_enter Tryz.func55, Tryz.ntmps55
    go_wp2
    go_ret2
    exact ⟨by rw [E.out]; rfl, by rw [E.out]; exact P.out⟩
  obtain ⟨g, ad, cap, rfl, hr, hsrc⟩ := h.src
  have c2 := h.c2
  have hbr := h.lt
  obtain ⟨hl1, hl2⟩ := h.len
  have HT : Aside _ := h
  have A0 : Hid (0 ≤ a) := by show 0 ≤ a; omega
  have HSRC : Aside _ := hsrc
  have z1 := h.wf.z1
  have z0 := h.wf.z0
  obtain ⟨i0, hi, hsz, hby, zz, hz, hzs⟩ := info_refslot
  have HI : Aside (Tryz.prog.info? 181 = some i0 ∧ i0.size = 3 ∧ i0.bytes = 16 ∧ i0.zero = some zz ∧ zz.cells.size = 3) := ⟨hi, hsz, hby, hz, hzs⟩
  clear h hr hsrc hi hsz hby hz hzs
  go_enter Tryz.func55, Tryz.ntmps55
  go_wp2_with (at_builtin
               refine wpList_append_refs _ rfl _ _ rfl w.heap.size _ 0 [] rfl (World.ownsRow_made w #[] 0 (Nat.le_refl _) (by unfold maxLen; omega) rfl) rfl ad R.length cap (rowVals R) rfl (row_len R) (HSRC.out _) (row_one R) (by omega) (by simp) ?_
               intro v3 w3 hown hgrow hat
               rw [Nat.zero_add, List.nil_append] at hown
               have k3 : K w w3 := K.thenGrown (K.refl w) hgrow (made_lo w)
               obtain ⟨g3, cap3, hv3⟩ := own_some hown (by rcases hat with e | e <;> rw [e] <;> rfl)
               subst hv3
               obtain ⟨_, hne, hge, hR4, k4⟩ := HT.out.copy k3 hown
               have hd3 := k3.block HT.out.hd
               have e2 : w3.cell? ⟨br, 4, none⟩ = some (.slice ad R.length cap) := by simp [World.cell?, hd3]
               have q2 : w3.frozen? ⟨br, 4, none⟩ = false := by simp [World.frozen?, hd3]
               clear hown hgrow hat hd3 k3 c2)
  generalize w3.setCell ⟨br, 4, none⟩ (.slice (some ⟨g3, 0, none⟩) R.length cap3) = W at *
  clear e2 q2
  have HR4 : Aside _ := hR4
  have K4 : Aside _ := k4
  clear hR4 k4
  go_loopg [6] R.length (fun gh t wx => ∃ i : Nat, i + gh = R.length ∧ t = .int .i64 i ∧ Aside (∀ (j : Nat) (s : Sl), j < i → R[j]? = some s → fr z s = false) ∧ K W wx)
  case atStart => exact ⟨0, by omega, rfl, fun j s hj => by omega, K.refl _⟩
  case round =>
    obtain ⟨i, hig, rfl, HF, hk⟩ := hrel
    have hR := HR4.out.keep hk
    have c0 := hR.c0
    have c1 := hR.c1
    have c2 := hR.c2
    have b2 := hR.fz 2
    have hbr4 := hR.lt
    by_cases hlt : i < R.length
    · obtain ⟨s, hs⟩ : ∃ s, R[i]? = some s := ⟨_, List.getElem?_eq_getElem hlt⟩
      have hix := run_ixr g3 R.length cap3 i hlt
      obtain ⟨d0, d1, d2, fz⟩ := hR.at hs
      obtain ⟨s0, s1, _⟩ := gen_of HR4.out.wf hs
      have hfl := fr_lt HR4.out.wf hs
      have HS : Aside _ := hs
      have HR : Aside _ := hR
      clear hs hR
      by_cases hfr : fr z s = true
      · have ho : s.o = false := by
          simp [fr] at hfr
          exact hfr.1
        have hgz : s.g < z := by
          rw [hfl, ho] at hfr
          simpa using hfr
        have hfa := freeAt_of HS.out hfr HF.out
        have E : Hid (openL q z R a = (nm (i + 1) (s.g + 1), 0, R.set i ⟨true, s.g + 1, a⟩)) := openL_free A0.out hfa HS.out
        have hwf := wf_openR HR4.out.wf (a := a) a1
        rw [E.out] at hwf
        have HWF : Aside _ := hwf
        have hnm : ∀ w, _ := fun w => rName_any (w := w) ((i : Int) + 1) (s.g + 1) (by omega) (by omega) (by omega) (by omega)
        have f0 := fz (i * 3)
        have f1 := fz (i * 3 + 1)
        have f2 := fz (i * 3 + 2)
        rw [ho] at d0
        have P : Aside (∀ m, RfPost Y w B br q z (.slice ad R.length cap) (R.set i ⟨true, s.g + 1, a⟩) (Hd.set3 (wr.drewN m) g3 i ⟨true, s.g + 1, a⟩)) := fun m => by
          have kd : K wr (wr.drewN m) := (K.refl wr).drewN m
          have kw : Kept (fun j => j = g3) W (wr.drewN m) := (hk.trans kd).kept _
          have k1 : Kept (fun j => j = g3) W ((wr.drewN m).setCell ⟨g3, i * 3, none⟩ (.bool true)) := kw.setCell _ (.inl rfl)
          have k2 : Kept (fun j => j = g3) W (((wr.drewN m).setCell ⟨g3, i * 3, none⟩ (.bool true)).setCell ⟨g3, i * 3 + 1, none⟩ (.int .u32 (s.g + 1))) := k1.setCell _ (.inl rfl)
          have k3 : Kept (fun j => j = g3) W (Hd.set3 (wr.drewN m) g3 i ⟨true, s.g + 1, a⟩) := k2.setCell (p := ⟨g3, i * 3 + 2, none⟩) (.int .i64 a) (.inl rfl)
          exact RfPost.of (K.refl w) K4.out k3 hge ((HR.out.keep kd).set3 hlt HWF.out)
        clear ho hfr hfl hfa hwf fz
        go_wp2
        go_quiet (fail)
        go_wp2
        go_region
        all_goals
          go_wp2_with (go_at_call 104; refine (hnm _).mono ?_; rintro e w1 ⟨rfl, rfl⟩)
          go_ret2
          exact ⟨by rw [E.out]; rfl, by rw [E.out]; exact P.out _⟩
      · have hfr2 : fr z s = false := by simpa using hfr
        have HFR : Aside _ := hfr2
        have step : ∀ wx : World, K wr wx → ∃ i' : Nat, i' + (R.length - (i + 1)) = R.length ∧ Value.int .i64 ((i : Int) + 1) = .int .i64 i' ∧ Aside (∀ (j : Nat) (s : Sl), j < i' → R[j]? = some s → fr z s = false) ∧ K W wx := fun wx k => by
          refine ⟨i + 1, by omega, by simp, fun j t hj ht => ?_, hk.trans k⟩
          by_cases e : j = i
          · subst e
            obtain rfl : s = t := Option.some.inj (HS.out.symm.trans ht)
            exact HFR.out
          · exact HF.out j t (by omega) ht
        have STEP : Aside _ := step
        cases ho : s.o with
        | true =>
          rw [ho] at d0
          clear ho hfr hfr2 hfl fz step
          go_wp2
          go_quiet (fail)
          go_wp2
          go_roundg (R.length - (i + 1))
          case measure => omega
          case rel => exact STEP.out _ ((K.refl _).drewN _)
        | false =>
          have hgz : ¬ s.g < z := by
            rw [hfl, ho] at hfr2
            simpa using hfr2
          rw [ho] at d0
          clear ho hfr hfr2 hfl fz step
          go_wp2
          go_quiet (fail)
          go_wp2
          go_roundg (R.length - (i + 1))
          case measure => omega
          case rel => exact STEP.out _ ((K.refl _).drewN _)
    · have hnone : freeAt z R = none := freeAt_none.2 fun s hs => by
        obtain ⟨j, hj⟩ := List.getElem?_of_mem hs
        exact HF.out j s (by have := (List.getElem?_eq_some_iff.1 hj).1; omega) hj
      have HR : Aside _ := hR
      by_cases hq : q ≤ (R.length : Int)
      · have E : Hid (openL q z R a = (0, 10, R)) := openL_full A0.out hnone hq
        have P : Aside (∀ wx, K wr wx → RfPost Y w B br q z (.slice ad R.length cap) R wx) := fun wx k => RfPost.of (K.refl w) K4.out ((hk.trans k).kept _) hge (HR.out.keep k)
        clear hnone HF hR
        go_wp2
        go_quiet (fail)
        go_wp2
        go_ret2
        exact ⟨by rw [E.out]; rfl, by rw [E.out]; exact P.out _ ((K.refl _).drewN _)⟩
      · have E : Hid (openL q z R a = (nm (R.length + 1) 1, 0, R ++ [⟨true, 1, a⟩])) := openL_new A0.out hnone (by omega)
        have hwf := wf_openR HR4.out.wf (a := a) a1
        rw [E.out] at hwf
        have HWF : Aside _ := hwf
        have hnm : ∀ w, _ := fun w => rName_any (w := w) ((R.length : Int) + 1) 1 (by omega) (by omega) (by omega) (by omega)
        have hBw : B ≤ w.heap.size := by have := HT.out.lo; omega
        have hWw := K4.out.size
        have hWr := Kept.size hk
        clear hnone HF hR hwf
        go_wp2
        go_quiet (fail)
        have hRX := HR.out.keep ((K.refl wr).drewN nq)
        have cX := hRX.c2
        have lX := hRX.lt
        have hrowX := hRX.row
        have hszX : wr.heap.size ≤ (wr.drewN nq).heap.size := Kept.size ((K.refl wr).drewN nq)
        have HX : Aside _ := hRX
        have HKX : Aside (K W (wr.drewN nq)) := hk.drewN _
        clear hRX c0 c1 c2 b2 hbr4 hk
        generalize wr.drewN nq = X at *
        go_wp2_with (first
          | (at_builtin
             refine wpList_append_own_at _ rfl _ _ 32 rfl B 181 i0 zz 3 16 Tryz.underlying32 HI.out.1 HI.out.2.2.2.1 HI.out.2.1 HI.out.2.2.1 HI.out.2.2.2.2 (by decide) _ R.length (rowVals R) rfl (hrowX.alloc _) ⟨X.heap.size, 0, none⟩ 1 1 (slVals ⟨true, 1, a⟩) rfl rfl (src_one X #[.bool true, .int .u32 1, .int .i64 a] 181) (row_one [⟨true, 1, a⟩]) (by unfold maxLen; omega) (by omega) (by simp; omega) ?_
             intro v5 w5 hown hgrow _ hat
             obtain ⟨g5, cap5, hv5⟩ := own_form hown
             subst hv5
             obtain ⟨e5, q5, hR5, hP5⟩ := HX.out.app hown hgrow hat HWF.out hge HKX.out K4.out hWw (v := .slice ad R.length cap)
             have P : Aside _ := hP5
             clear hown hgrow hat hR5 hP5 cX)
          | (go_at_call 104; refine (hnm _).mono ?_; rintro e w1 ⟨rfl, rfl⟩))
        go_ret2
        exact ⟨by rw [E.out]; rfl, by rw [E.out]; exact P.out⟩

end Hd
end Go.Proofs.YtlmfojkhfipdnaaGreatDoor
