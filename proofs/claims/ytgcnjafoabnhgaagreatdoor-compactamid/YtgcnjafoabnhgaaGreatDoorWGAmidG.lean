/-
  compact: two stores with like records, a row of handles, and a box beside them, in one fact; each pair of calls keeps it.
-/
import Derived.Test.YtgcnjafoabnhgaaGreatDoorWGAmidS
import Derived.Test.YtgcnjafoabnhgaaGreatDoorWGWordsW
import Derived.Test.YtgcnjafoabnhgaaGreatDoorWGTwo
namespace Go.Proofs.YtgcnjafoabnhgaaGreatDoor
open Go.RowKit Go.Maps
namespace Co
open Hp (Kept K No Pg BlR Wl liveL granted lt_of_cell)
open Hd (U64 findL encU)
open Go.Proofs.YtgcnjafoabnhgaaGreatDoor.So (Ad sp Stp Sw lE foot)
variable {w0 w w' : World} {c c2 nb : Nat} {A A2 : Ad} {vl u : Value} {hs : List Int} {g : Int} {ob : Obj}

/-- Two stores with like records, which have at most g pages each, and a row of handles. -/
def Ag (w0 w : World) (A : Ad) (c : Nat) (A2 : Ad) (c2 : Nat) (vl : Value) (hs : List Int) (g : Int) : Prop :=
  ∃ pg W L v T pg2 W2 L2 v2 T2, Am w0 w A c pg W L v T A2 c2 pg2 W2 L2 v2 T2 vl hs ∧ Al T W T2 W2 ∧ granted L ≤ g ∧ granted L2 ≤ g
/-- And a block of one's own beside all that. -/
def Ab (w0 w : World) (A : Ad) (c : Nat) (A2 : Ad) (c2 : Nat) (vl : Value) (hs : List Int) (g : Int) (nb : Nat) (ob : Obj) : Prop :=
  ∃ pg W L v T pg2 W2 L2 v2 T2, (Am w0 w A c pg W L v T A2 c2 pg2 W2 L2 v2 T2 vl hs ∧ Al T W T2 W2 ∧ granted L ≤ g ∧ granted L2 ≤ g) ∧ w.heap[nb]? = some ob ∧ ¬ foot A pg v nb ∧ ¬ foot A2 pg2 v2 nb

theorem Ag.keep (h : Ag w0 w A c A2 c2 vl hs g) (k : K w w') : Ag w0 w' A c A2 c2 vl hs g := by
  obtain ⟨pg, W, L, v, T, pg2, W2, L2, v2, T2, a, r⟩ := h
  exact ⟨pg, W, L, v, T, pg2, W2, L2, v2, T2, a.keep k, r⟩
theorem Ab.keep (h : Ab w0 w A c A2 c2 vl hs g nb ob) (k : K w w') : Ab w0 w' A c A2 c2 vl hs g nb ob := by
  obtain ⟨pg, W, L, v, T, pg2, W2, L2, v2, T2, ⟨a, r⟩, hb, f⟩ := h
  exact ⟨pg, W, L, v, T, pg2, W2, L2, v2, T2, ⟨a.keep k, r⟩, k.block hb, f⟩
theorem Ag.k (h : Ag w0 w A c A2 c2 vl hs g) : K w0 w := by
  obtain ⟨pg, W, L, v, T, pg2, W2, L2, v2, T2, a, r⟩ := h
  exact a.tw.n1.rn.k
theorem Ag.row (h : Ag w0 w A c A2 c2 vl hs g) : w.ownsRow w0.heap.size 43 1 vl hs.length (hs.map encU) ∧ ∀ x ∈ hs, U64 x := by
  obtain ⟨pg, W, L, v, T, pg2, W2, L2, v2, T2, a, r⟩ := h
  exact ⟨a.row, a.u⟩
theorem Ag.up (h : Ag w0 w A c A2 c2 vl hs g) {g' : Int} (hg : g ≤ g') : Ag w0 w A c A2 c2 vl hs g' := by
  obtain ⟨pg, W, L, v, T, pg2, W2, L2, v2, T2, a, al, g1, g2⟩ := h
  exact ⟨pg, W, L, v, T, pg2, W2, L2, v2, T2, a, al, Int.le_trans g1 hg, Int.le_trans g2 hg⟩
theorem Ag.new (h : Ag w0 w A c A2 c2 vl hs g) (ob : Obj) : Ab w0 (w.alloc ob) A c A2 c2 vl hs g w.heap.size ob := by
  obtain ⟨pg, W, L, v, T, pg2, W2, L2, v2, T2, a, r⟩ := h
  exact ⟨pg, W, L, v, T, pg2, W2, L2, v2, T2, ⟨a.keep ((K.refl w).alloc ob), r⟩, World.alloc_heap_new _ _, fun hf => by have := a.tw.n1.rn.s.b.flt hf; omega, fun hf => by have := a.tw.n2.rn.s.b.flt hf; omega⟩
theorem Ab.ag (h : Ab w0 w A c A2 c2 vl hs g nb ob) : Ag w0 w A c A2 c2 vl hs g := by
  obtain ⟨pg, W, L, v, T, pg2, W2, L2, v2, T2, a, _⟩ := h
  exact ⟨pg, W, L, v, T, pg2, W2, L2, v2, T2, a⟩
theorem Ab.box (h : Ab w0 w A c A2 c2 vl hs g nb ob) : w.heap[nb]? = some ob := by
  obtain ⟨pg, W, L, v, T, pg2, W2, L2, v2, T2, _, hb, _⟩ := h
  exact hb
theorem blk_lt {k : Nat} {o : Obj} (h : w.heap[k]? = some o) : k < w.heap.size := (Array.getElem?_eq_some_iff.1 h).1

/-- Make of both. -/
theorem Ab.make (h : Ab w0 w A c A2 c2 vl hs g nb ob) (hq : A.q = 262144) (hq2 : A2.q = 262144) (hm : A2.m = A.m) (hz : A2.z = A.z) (hg : g ≤ 3900) (n : Int) : Calls Tryz.prog 7 #[sp A.st, .int .i64 n] w fun e w1 => ∃ y er, e = .returned (.tuple #[.int .u64 y, .int .i64 er]) ∧ w1.heap[nb]? = some ob ∧ Aside (U64 y ∧ Calls Tryz.prog 7 #[sp A2.st, .int .i64 n] w1 fun e w2 => e = .returned (.tuple #[.int .u64 y, .int .i64 er]) ∧ Aside (Ag w0 w2 A c A2 c2 vl hs (g + if er = 0 then 63 else 0))) := by
  obtain ⟨pg, W, L, v, T, pg2, W2, L2, v2, T2, ⟨a, al, g1, g2⟩, hb, f1, f2⟩ := h
  refine (a.tw.n1.makeA (by rw [hq]; omega) n).mono ?_
  rintro e w1 ⟨rfl, pg', W', L', v', T', n1, st, gr, hy, mk⟩
  have a1 := a.call n1 st
  refine ⟨_, _, rfl, st.k.block hb f1, hy, ?_⟩
  refine (a1.tw.n2.makeA (by rw [hq2]; omega) n).mono ?_
  rintro e w2 ⟨rfl, pg2', W2', L2', v2', T2', n2, st2, gr2, _, mk2⟩
  have e1 : mkA A2.m A2.z T2 n = mkA A.m A.z T n := by rw [hm, hz]; exact al_mkA al n
  rw [e1] at gr2 ⊢
  rw [hm, hz] at mk2
  exact ⟨rfl, pg', W', L', v', T', pg2', W2', L2', v2', T2', (a1.swap.call n2 st2).swap, al.mk mk mk2, by omega, by omega⟩

/-- Drop of both. -/
theorem Ab.drop (h : Ab w0 w A c A2 c2 vl hs g nb ob) (x : Int) (hx : U64 x) : Calls Tryz.prog 8 #[sp A.st, .int .u64 x] w fun e w1 => ∃ er, e = .returned (.int .i64 er) ∧ Aside (Calls Tryz.prog 8 #[sp A2.st, .int .u64 x] w1 fun e w2 => e = .returned (.int .i64 er) ∧ Aside (Ag w0 w2 A c A2 c2 vl hs g)) := by
  obtain ⟨pg, W, L, v, T, pg2, W2, L2, v2, T2, ⟨a, al, g1, g2⟩, hb, f1, f2⟩ := h
  refine (a.tw.n1.dropA x hx).mono ?_
  rintro e w1 ⟨rfl, pg', W', L', T', n1, st, gr, dk⟩
  have a1 := a.call n1 st
  refine ⟨_, rfl, ?_⟩
  refine (a1.tw.n2.dropA x hx).mono ?_
  rintro e w2 ⟨rfl, pg2', W2', L2', T2', n2, st2, gr2, dk2⟩
  have e1 : lE T2 x = lE T x := by unfold lE; rw [al.find x]
  rw [e1]
  exact ⟨rfl, pg', W', L', v, T', pg2', W2', L2', v2, T2', (a1.swap.call n2 st2).swap, al.dk dk dk2, by omega, by omega⟩

/-- Put of both. -/
theorem Ab.put (h : Ab w0 w A c A2 c2 vl hs g nb ob) (x k y : Int) (hx : U64 x) (hy : Sl.WordOk y) : Calls Tryz.prog 9 #[sp A.st, .int .u64 x, .int .i64 k, .int .u64 y] w fun e w1 => ∃ er, e = .returned (.int .i64 er) ∧ w1.heap[nb]? = some ob ∧ Aside (Calls Tryz.prog 9 #[sp A2.st, .int .u64 x, .int .i64 k, .int .u64 y] w1 fun e w2 => e = .returned (.int .i64 er) ∧ w2.heap[nb]? = some ob ∧ Aside (Ag w0 w2 A c A2 c2 vl hs g)) := by
  obtain ⟨pg, W, L, v, T, pg2, W2, L2, v2, T2, ⟨a, al, g1, g2⟩, hb, f1, f2⟩ := h
  refine (a.tw.n1.putA x k y hx hy).mono ?_
  rintro e w1 ⟨rfl, n1, st⟩
  have a1 := a.call n1 st
  have hb1 := st.k.block hb f1
  refine ⟨_, rfl, hb1, ?_⟩
  refine (a1.tw.n2.putA x k y hx hy).mono ?_
  rintro e w2 ⟨rfl, n2, st2⟩
  rw [al.wE x k]
  exact ⟨rfl, st2.k.block hb1 f2, pg, _, L, v, T, pg2, _, L2, v2, T2, (a1.swap.call n2 st2).swap, al.put a.tw.n1.rn.s.b.wl a.tw.n1.rn.s.r a.tw.n1.rn.s.b.tl a.tw.n2.rn.s.b.wl a.tw.n2.rn.s.r x k y, g1, g2⟩

/-- Run of the first one. -/
theorem Ag.run (h : Ag w0 w A c A2 c2 vl hs g) {bu : Int} (b0 : 0 ≤ bu) (b1 : bu ≤ 9223372036854775807) : Calls Tryz.prog 10 #[cp c, .int .i64 bu] w fun e w' => ∃ n b, e = .returned (.tuple #[.int .i64 n, .bool b, .int .i64 0]) ∧ Aside (Ag w0 w' A c A2 c2 vl hs g) := by
  obtain ⟨pg, W, L, v, T, pg2, W2, L2, v2, T2, a, al, g1, g2⟩ := h
  refine (a.tw.n1.runA b0 b1).mono ?_
  rintro e w1 ⟨n, b, rfl, pg', W', L', v', T', n1, st, gr, al'⟩
  exact ⟨n, b, rfl, pg', W', L', v', T', pg2, W2, L2, v2, T2, a.call n1 st, al'.symm.trans al, by omega, g2⟩

/-- The row grows. -/
theorem Ag.app {o : Obj} (h : Ag w0 w A c A2 c2 vl hs g) {x : Int} (hx : U64 x) (hown : w'.ownsRow w0.heap.size 43 1 u (hs.length + 1) (hs.map encU ++ [encU x])) (hg : (w.alloc o).grownBy w' vl.ownBlock) (hat : u.ownBlock = vl.ownBlock ∨ u.ownBlock = some (w.alloc o).heap.size) : Ag w0 w' A c A2 c2 u (hs ++ [x]) g := by
  obtain ⟨pg, W, L, v, T, pg2, W2, L2, v2, T2, a, r⟩ := h
  exact ⟨pg, W, L, v, T, pg2, W2, L2, v2, T2, a.app hx hown hg hat, r⟩

/-- What both tell of a handle: the same row of words. -/
theorem Ag.words (h : Ag w0 w A c A2 c2 vl hs g) : ∃ f : Int → List Int, ∀ x, U64 x → (0 < (f x).length ∧ (f x).length ≤ 4000) ∧ ∀ wx, K w wx → (Calls Tryz.prog 11 #[sp A.st, .int .u64 x] wx fun e w' => ∃ u, e = .returned u ∧ Aside (w'.ownsRow wx.heap.size 40 1 u (f x).length ((f x).map encU)) ∧ K wx w') ∧ (Calls Tryz.prog 11 #[sp A2.st, .int .u64 x] wx fun e w' => ∃ u, e = .returned u ∧ Aside (w'.ownsRow wx.heap.size 40 1 u (f x).length ((f x).map encU)) ∧ K wx w') := by
  obtain ⟨pg, W, L, v, T, pg2, W2, L2, v2, T2, a, al, r⟩ := h
  refine ⟨wds T W, fun x hx => ⟨?_, fun wx k => ?_⟩⟩
  · obtain ⟨h0, h1⟩ := lN_rng a.tw.n1.rn.s x
    have h2 := wdK_len T W x (So.lN T W x).toNat
    change (wds T W x).length = _ at h2
    omega
  have a1 := a.keep k
  have w2 := words_any a1.tw.n2.rn.s x hx
  rw [al.wds x] at w2
  exact ⟨words_any a1.tw.n1.rn.s x hx, w2⟩

/-- What is asked at the end. -/
theorem Ag.ends (h : Ag w0 w A c A2 c2 vl hs g) : ∃ q, q ≤ g ∧ 0 ≤ q ∧ ∀ wx, K w wx → (Calls Tryz.prog 12 #[sp A.st] wx fun e w' => e = .returned (.int .i64 (64 * q)) ∧ K wx w') ∧ (Calls Tryz.prog 13 #[sp A.st] wx fun e w' => e = .returned (.int .i64 0) ∧ K wx w') := by
  obtain ⟨pg, W, L, v, T, pg2, W2, L2, v2, T2, a, al, g1, g2⟩ := h
  refine ⟨granted L, g1, So.granted_pos a.tw.n1.rn.s.b.wl, fun wx k => ?_⟩
  have a1 := a.keep k
  exact ⟨So.words_any a1.tw.n1.rn.s.b, So.audit_ok a1.tw.n1.rn.s⟩

end Co
end Go.Proofs.YtgcnjafoabnhgaaGreatDoor
