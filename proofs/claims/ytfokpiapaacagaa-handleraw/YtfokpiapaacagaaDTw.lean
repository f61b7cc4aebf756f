/-
  Two tables made since w0, and a row of handles of one's own beside them.
-/
import Derived.Test.YtfokpiapaacagaaDOf
import Derived.Test.YtfokpiapaacagaaDNth
namespace Go.Proofs.Ytfokpiapaacagaa
open Go.RowKit Go.Maps
namespace Hd
open Hp (Kept K No)
variable {w0 w w' : World} {bt bu : Nat} {q z : Int} {vt vu vt' v1 v' : Value} {Lt Lu Lt' Lu' : List Sl} {Hs : List Int}

structure Tw (w0 w : World) (bt : Nat) (vt : Value) (bu : Nat) (vu : Value) (q z : Int) (Lt Lu : List Sl) (v1 : Value) (Hs : List Int) : Prop where
  t : Tab w w0.heap.size bt q z vt Lt
  u : Tab w w0.heap.size bu q z vu Lu
  rh : w.ownsRow w0.heap.size 39 1 v1 Hs.length (Hs.map encU)
  k : K w0 w
  tu : ∀ g, foot bt vt g → ¬ foot bu vu g
  t1 : ∀ g, some g = v1.ownBlock → ¬ foot bt vt g
  u1 : ∀ g, some g = v1.ownBlock → ¬ foot bu vu g

theorem Tw.swap (h : Tw w0 w bt vt bu vu q z Lt Lu v1 Hs) : Tw w0 w bu vu bt vt q z Lu Lt v1 Hs := ⟨h.u, h.t, h.rh, h.k, fun g hu ht => h.tu g ht hu, h.u1, h.t1⟩
theorem Tw.keep (h : Tw w0 w bt vt bu vu q z Lt Lu v1 Hs) (k : K w w') : Tw w0 w' bt vt bu vu q z Lt Lu v1 Hs :=
  ⟨h.t.keep k, h.u.keep k, ownsRow_kept (O := No) h.rh k (fun _ _ x => x), h.k.trans k, h.tu, h.t1, h.u1⟩
theorem Tw.step (h : Tw w0 w bt vt bu vu q z Lt Lu v1 Hs) (t : Tab w' w0.heap.size bt q z vt' Lt') (k : Kept (foot bt vt) w w') (hf : ∀ k, foot bt vt' k → foot bt vt k ∨ w.heap.size ≤ k) : Tw w0 w' bt vt' bu vu q z Lt' Lu v1 Hs := by
  refine ⟨t, h.u.kept k (fun g hu ht => h.tu g ht hu), ownsRow_kept h.rh k h.t1, K.thenFoot h.k h.t k, fun g hg hu => ?_, fun g hg hx => ?_, h.u1⟩
  · rcases hf g hg with h1 | h1
    · exact h.tu g h1 hu
    · have := (h.u.foot_lt hu).2
      omega
  · rcases hf g hx with h1 | h1
    · exact h.t1 g hg h1
    · have := (own_lt h.rh hg).2
      omega

theorem Tw.app (h : Tw w0 w bt vt bu vu q z Lt Lu v1 Hs) {x : Int} {o : Obj} (hown : w'.ownsRow w0.heap.size 39 1 v' (Hs.length + 1) (Hs.map encU ++ [encU x])) (hgrow : (w.alloc o).grownBy w' v1.ownBlock) (hat : v'.ownBlock = v1.ownBlock ∨ v'.ownBlock = some (w.alloc o).heap.size) : Tw w0 w' bt vt bu vu q z Lt Lu v' (Hs ++ [x]) := by
  have kk := grown_kept hgrow
  refine ⟨h.t.kept kk (fun g hg e => h.t1 g e hg), h.u.kept kk (fun g hg e => h.u1 g e hg), ?_, K.thenGrown h.k hgrow (fun g hg => (own_lt h.rh hg).1), h.tu, fun g hg hx => ?_, fun g hg hx => ?_⟩
  · rw [List.length_append, List.map_append]
    exact hown
  · rcases hat with e | e
    · exact h.t1 g (by rw [← e]; exact hg) hx
    · rw [e] at hg
      simp at hg
      have := (h.t.foot_lt hx).2
      omega
  · rcases hat with e | e
    · exact h.u1 g (by rw [← e]; exact hg) hx
    · rw [e] at hg
      simp at hg
      have := (h.u.foot_lt hx).2
      omega

/-- The second table, made behind the first one and the row. -/
theorem Tw.make (h : St w0 w bt q z vt Lt v1 Hs (.slice none 0 0) []) (k : K w w') (hu : Tab w' w.heap.size bu q z vu Lu) : Tw w0 w' bt vt bu vu q z Lt Lu v1 Hs := by
  have h2 := h.keep k
  have hB : w0.heap.size ≤ w.heap.size := h.rn.k.size
  have hup : ∀ g, foot bu vu g → w.heap.size ≤ g := fun g hg => (hu.foot_lt hg).1
  refine ⟨h2.rn.tb, ⟨hu.hd, ⟨hu.row.1, ?_⟩, hu.ap, hu.wf, Nat.le_trans hB hu.lo⟩, h2.rh, h2.rn.k, fun g hg hgu => ?_, h2.a1, fun g hg hgu => ?_⟩
  · rcases hu.row.2 with h3 | ⟨g, cap, cur, e, hb, rest⟩
    · exact .inl h3
    · exact .inr ⟨g, cap, cur, e, Nat.le_trans hB hb, rest⟩
  · have h3 := hup g hgu
    have h4 := (h.rn.tb.foot_lt hg).2
    omega
  · have h3 := hup g hgu
    have h4 := (own_lt h.rh hg).2
    omega

theorem Tw.openT (h : Tw w0 w bt vt bu vu q z Lt Lu v1 Hs) (a x er : Int) (L' : List Sl) (a1 : a ≤ 9223372036854775807) (e : openL q z Lt a = (x, er, L')) : Calls Try.prog 17 #[tp bt, .int .i64 a] w fun e w' => e = .returned (.tuple #[.int .u64 x, .int .i64 er]) ∧ ∃ vt', Tw w0 w' bt vt' bu vu q z L' Lu v1 Hs := by
  have := open_any h.t a a1
  rw [e] at this
  refine this.mono ?_
  rintro e w1 ⟨rfl, v', t, k, hf⟩
  exact ⟨rfl, v', h.step t k hf⟩
theorem Tw.openU (h : Tw w0 w bt vt bu vu q z Lt Lu v1 Hs) (a x er : Int) (L' : List Sl) (a1 : a ≤ 9223372036854775807) (e : openL q z Lu a = (x, er, L')) : Calls Try.prog 17 #[tp bu, .int .i64 a] w fun e w' => e = .returned (.tuple #[.int .u64 x, .int .i64 er]) ∧ ∃ vu', Tw w0 w' bt vt bu vu' q z Lt L' v1 Hs := by
  refine (h.swap.openT a x er L' a1 e).mono ?_
  rintro e w1 ⟨rfl, v', t⟩
  exact ⟨rfl, v', t.swap⟩
theorem Tw.closeT (h : Tw w0 w bt vt bu vu q z Lt Lu v1 Hs) (x er : Int) (L' : List Sl) (hx : U64 x) (e : closeL Lt x = (er, L')) : Calls Try.prog 20 #[tp bt, .int .u64 x] w fun e w' => e = .returned (.int .i64 er) ∧ Tw w0 w' bt vt bu vu q z L' Lu v1 Hs := by
  have := close_any h.t x hx
  rw [e] at this
  refine this.mono ?_
  rintro e w1 ⟨rfl, t, k⟩
  exact ⟨rfl, h.step t k (fun _ hk => .inl hk)⟩
theorem Tw.closeU (h : Tw w0 w bt vt bu vu q z Lt Lu v1 Hs) (x er : Int) (L' : List Sl) (hx : U64 x) (e : closeL Lu x = (er, L')) : Calls Try.prog 20 #[tp bu, .int .u64 x] w fun e w' => e = .returned (.int .i64 er) ∧ Tw w0 w' bt vt bu vu q z Lt L' v1 Hs := by
  refine (h.swap.closeT x er L' hx e).mono ?_
  rintro e w1 ⟨rfl, t⟩
  exact ⟨rfl, t.swap⟩
theorem Tw.moveT (h : Tw w0 w bt vt bu vu q z Lt Lu v1 Hs) (x a er : Int) (L' : List Sl) (hx : U64 x) (a1 : a ≤ 9223372036854775807) (e : moveL Lt x a = (er, L')) : Calls Try.prog 19 #[tp bt, .int .u64 x, .int .i64 a] w fun e w' => e = .returned (.int .i64 er) ∧ Tw w0 w' bt vt bu vu q z L' Lu v1 Hs := by
  have := move_any h.t x a hx a1
  rw [e] at this
  refine this.mono ?_
  rintro e w1 ⟨rfl, t, k⟩
  exact ⟨rfl, h.step t k (fun _ hk => .inl hk)⟩
theorem Tw.moveU (h : Tw w0 w bt vt bu vu q z Lt Lu v1 Hs) (x a er : Int) (L' : List Sl) (hx : U64 x) (a1 : a ≤ 9223372036854775807) (e : moveL Lu x a = (er, L')) : Calls Try.prog 19 #[tp bu, .int .u64 x, .int .i64 a] w fun e w' => e = .returned (.int .i64 er) ∧ Tw w0 w' bt vt bu vu q z Lt L' v1 Hs := by
  refine (h.swap.moveT x a er L' hx a1 e).mono ?_
  rintro e w1 ⟨rfl, t⟩
  exact ⟨rfl, t.swap⟩
theorem Tw.atT (h : Tw w0 w bt vt bu vu q z Lt Lu v1 Hs) (x a er : Int) (hx : U64 x) (e : atL Lt x = (a, er)) : Calls Try.prog 18 #[tp bt, .int .u64 x] w fun e w' => e = .returned (.tuple #[.int .i64 a, .int .i64 er]) ∧ Tw w0 w' bt vt bu vu q z Lt Lu v1 Hs := by
  have := at_any h.t x hx
  rw [e] at this
  refine this.mono ?_
  rintro e w1 ⟨rfl, k⟩
  exact ⟨rfl, h.keep k⟩
theorem Tw.atU (h : Tw w0 w bt vt bu vu q z Lt Lu v1 Hs) (x a er : Int) (hx : U64 x) (e : atL Lu x = (a, er)) : Calls Try.prog 18 #[tp bu, .int .u64 x] w fun e w' => e = .returned (.tuple #[.int .i64 a, .int .i64 er]) ∧ Tw w0 w' bt vt bu vu q z Lt Lu v1 Hs := by
  refine (h.swap.atT x a er hx e).mono ?_
  rintro e w1 ⟨rfl, t⟩
  exact ⟨rfl, t.swap⟩

/-- Of, of slots that came in, and Raw of what it tells. -/
theorem of_all {a : Option Addr} {b off n cap : Nat} {L : List Sl} (q z : Int) (h : Src w a b off n cap L) (q0 : 1 ≤ q) (q1 : q ≤ 65536) (z0 : 1 ≤ z) (z1 : z ≤ 4294967295) (hn : n ≤ 100) (hL : ∀ s ∈ L, 0 ≤ s.g ∧ s.a ≤ 9223372036854775807) : Calls Try.prog 21 #[.int .i64 q, .int .u32 z, .slice a n cap] w fun e w' => ∃ sv f, e = .returned (.tuple #[sv, .int .i64 f]) ∧ K w w' ∧ ((f = 0 ∧ ∃ bs v, sv = tp bs ∧ Tab w' w.heap.size bs q z v L) ∨ ((f == 0) = false ∧ sv = .pointer none)) := by
  by_cases hl : (n : Int) ≤ q
  · refine (of_in q z h q0 q1 z0 z1 hl hL).mono ?_
    rintro e w1 (⟨_, rfl, k⟩ | ⟨_, v, rfl, t, k⟩)
    · exact ⟨_, _, rfl, k, .inr ⟨rfl, rfl⟩⟩
    · exact ⟨_, _, rfl, k, .inl ⟨rfl, _, v, rfl, t⟩⟩
  · refine (of_long q z w q0 q1 z0 z1 (by omega) (by omega)).mono ?_
    rintro e w1 ⟨rfl, k⟩
    exact ⟨_, _, rfl, k, .inr ⟨rfl, rfl⟩⟩

theorem raw_nil (w : World) : Calls Try.prog 22 #[.pointer none] w fun e w' => e = .returned (.slice none 0 0) ∧ w = w' := by
  have hm : Calls Try.prog 28 #[.pointer none] w fun e w' => e = .returned (.bool false) ∧ w = w' := by
    go_enter Try.func28, Try.ntmps28
    go_wp2
    go_ret
    exact ⟨rfl, rfl⟩
  go_enter Try.func22, Try.ntmps22
  go_wp2_with (go_at_call 28; refine hm.mono ?_; rintro e w' ⟨rfl, rfl⟩)
  go_ret
  exact ⟨rfl, rfl⟩

theorem raw_all {B : Nat} {L : List Sl} {sv : Value} {f : Int} (h : (f = 0 ∧ ∃ bs v, sv = tp bs ∧ Tab w B bs q z v L) ∨ ((f == 0) = false ∧ sv = .pointer none)) : Calls Try.prog 22 #[sv] w fun e w' => ∃ rv, e = .returned rv ∧ K w w' ∧ ((f = 0 ∧ w'.ownsRow w.heap.size 62 3 rv L.length (rowVals L)) ∨ (f == 0) = false) := by
  rcases h with ⟨hf, bs, v, rfl, t⟩ | ⟨hf, rfl⟩
  · refine (raw_any t).mono ?_
    rintro e w1 ⟨rv, rfl, ho, k⟩
    exact ⟨rv, rfl, k, .inl ⟨hf, ho⟩⟩
  · refine (raw_nil w).mono ?_
    rintro e w1 ⟨rfl, rfl⟩
    exact ⟨_, rfl, K.refl _, .inr hf⟩

theorem neq_slot (w : World) (s : Sl) : (binOp .neq 62 (.agg #[.bool s.o, .int .u32 s.g, .int .i64 s.a]) (.agg #[.bool s.o, .int .u32 s.g, .int .i64 s.a])).run Try.prog w = .ok (.bool false) w := by
  rw [run_neq_struct, run_equalIn_agg w 9999 62 _ _ (by kernel_rfl) (by kernel_rfl)]
  have u1 := Try.underlying4
  have u2 := Try.underlying22
  have u3 := Try.underlying3
  simp only [Program.fieldsOf, Try.underlying62, Op.eqFields]
  simp [go_sem, u1, u2, u3]

end Hd
end Go.Proofs.Ytfokpiapaacagaa
