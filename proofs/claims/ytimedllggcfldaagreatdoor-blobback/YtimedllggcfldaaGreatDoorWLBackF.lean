/-
  Blobs in a store with a compactor, beside a row of handles and a row of marks.
-/
import Derived.Test.YtimedllggcfldaaGreatDoorWLVals
import Derived.Test.YtimedllggcfldaaGreatDoorK1
import Derived.Test.YtimedllggcfldaaGreatDoorG6
namespace Go.Proofs.YtimedllggcfldaaGreatDoor
open Go.RowKit Go.Maps
namespace Bb
open Hp (Kept K No Pg Wl granted)
open Hd (U64 findL)
open Co (Wk pass cp)
open Go.Proofs.YtimedllggcfldaaGreatDoor.So (Ad Rec Rn Stp sp Hr Bx)
variable {w0 w w' : World} {A : Ad} {c : Nat} {pg pg' : List (Int × Nat)} {W W' : Int → Int} {L L' : List Pg} {v v' vl vb u : Value} {T T' : List Hd.Sl} {hs : List Int} {bs : List Bool} {gone : Nat → Bool} {ts : Nat → ByteArray} {i n : Nat}

theorem wk_slot (h : Wk T W T' W') {i : Nat} {s : Hd.Sl} (hi : T[i]? = some s) : ∃ t, T'[i]? = some t ∧ t.o = s.o ∧ t.g = s.g := by
  obtain ⟨h1, h2⟩ := h.2 i s hi
  cases so : s.o with
  | false => exact ⟨s, h1 so, so, rfl⟩
  | true =>
    obtain ⟨b, hb, _⟩ := h2 so
    exact ⟨_, hb, rfl, rfl⟩
theorem wk_find (h : Wk T W T' W') (x : Int) : findL T' x = findL T x := by
  unfold findL
  split
  · rfl
  · cases hi : T[(x % 4294967296 - 1).toNat]? with
    | none =>
      have : T'[(x % 4294967296 - 1).toNat]? = none := by
        rw [List.getElem?_eq_none_iff] at hi ⊢
        rw [h.1]
        exact hi
      rw [this]
    | some s =>
      obtain ⟨t, ht, ho, hg⟩ := wk_slot h hi
      rw [ht]
      simp only [ho, hg]
theorem Ho.wk (r : Rec L W T) (h : Wk T W T' W') {y : Int} {ws : List Int} (ho : Ho T W y ws) : Ho T' W' y ws := by
  obtain ⟨h1, h2⟩ := ho
  obtain ⟨j, hj⟩ := Option.isSome_iff_exists.1 h1
  obtain ⟨s, hs, so, _, _⟩ := Hd.findL_some hj
  obtain ⟨_, n0, n1, _⟩ := r.nm j s hs so
  obtain ⟨b, hb, hw⟩ := (h.2 j s hs).2 so
  refine ⟨by rw [wk_find h]; exact h1, ?_⟩
  rw [rwI_some (by rw [wk_find h]; exact hj) hb, ← h2, rwI_some hj hs]
  refine wdA_eq (hw 1 (by omega) (by omega)) fun k k0 k1 => ?_
  have := hw (2 + k) (by omega) (by omega)
  rw [Int.add_assoc, Int.add_assoc]
  exact this
theorem Bv.wk (b : Bv T W hs gone ts) (r : Rec L W T) (h : Wk T W T' W') : Bv T' W' hs gone ts :=
  ⟨b.u, fun k x hx hg => ⟨(b.live k x hx hg).1, (b.live k x hx hg).2.wk r h⟩, fun k x hx hg => by rw [wk_find h]; exact b.dead k x hx hg, b.nd⟩

/-- Behind i Puts. -/
structure Pt (w0 w : World) (A : Ad) (c : Nat) (vl : Value) (hs : List Int) (gone : Nat → Bool) (ts : Nat → ByteArray) (i : Nat) : Prop where
  ex : ∃ pg W L v T, Rn w0 w A pg W L v T ∧ Hr w0 w A pg v vl hs ∧ Bx A pg v w c 110 (sp A.st) ∧ granted L ≤ 63 * i ∧ T.length ≤ i ∧ Bv T W hs gone ts
  ln : hs.length = i
  nc : some c ≠ vl.ownBlock
theorem Pt.k (h : Pt w0 w A c vl hs gone ts i) : K w0 w := by
  obtain ⟨pg, W, L, v, T, rn, _⟩ := h.ex
  exact rn.k
theorem Pt.keep (h : Pt w0 w A c vl hs gone ts i) (k : K w w') : Pt w0 w' A c vl hs gone ts i := by
  obtain ⟨pg, W, L, v, T, rn, hr, cb, hg, ht, b⟩ := h.ex
  exact ⟨⟨pg, W, L, v, T, rn.keep k, hr.keep k, cb.keep k, hg, ht, b⟩, h.ln, h.nc⟩

/-- A handle is told, and not yet in the row. -/
structure Pq (w0 w : World) (A : Ad) (c : Nat) (vl : Value) (hs : List Int) (x : Int) (gone : Nat → Bool) (ts : Nat → ByteArray) (i : Nat) : Prop where
  ex : ∃ pg W L v T, Rn w0 w A pg W L v T ∧ Hr w0 w A pg v vl hs ∧ Bx A pg v w c 110 (sp A.st) ∧ granted L ≤ 63 * (i + 1) ∧ T.length ≤ i + 1 ∧ Bv T W (hs ++ [x]) gone ts
  ln : hs.length = i
  nc : some c ≠ vl.ownBlock
theorem Pq.row {x : Int} (h : Pq w0 w A c vl hs x gone ts i) : w.ownsRow w0.heap.size 49 1 vl i (hs.map Hd.encU) ∧ w0.heap.size ≤ w.heap.size ∧ K w0 w := by
  obtain ⟨pg, W, L, v, T, rn, hr, _⟩ := h.ex
  have := hr.rl
  rw [h.ln] at this
  exact ⟨this, rn.k.size, rn.k⟩
theorem Pq.app {x : Int} {o : Obj} (h : Pq w0 w A c vl hs x gone ts i) (z0 : 0 < w0.heap.size) (hown : w'.ownsRow w0.heap.size 49 1 u (i + 1) (hs.map Hd.encU ++ [Hd.encU x])) (hg : (w.alloc o).grownBy w' vl.ownBlock) (hat : u.ownBlock = vl.ownBlock ∨ u.ownBlock = some (w.alloc o).heap.size) : Pt w0 w' A c u (hs ++ [x]) gone ts (i + 1) := by
  obtain ⟨pg, W, L, v, T, rn, hr, cb, hgr, ht, b⟩ := h.ex
  obtain ⟨h1, h2⟩ := hr.app (x := x) rn z0 (by rw [h.ln]; exact hown) hg hat
  have hlt := cb.lt
  have cb2 : Bx A pg v w' c 110 (sp A.st) := ⟨by rw [hg.block c (by simp; omega) h.nc, Below.heap_alloc w o c hlt]; exact cb.hb, cb.off⟩
  refine ⟨⟨pg, W, L, v, T, h2, h1, cb2, by omega, ht, b⟩, by rw [List.length_append, h.ln]; rfl, ?_⟩
  rcases hat with e | e
  · rw [e]; exact h.nc
  · rw [e]
    intro e2
    have := Option.some.inj e2
    simp at this
    omega

theorem Pt.put (h : Pt w0 w A c vl hs gone ts i) (hq : A.q = 262144) (hm : A.m = 100) (hi : i < 30) (ht : (ts i).size ≤ 1000) (hg : gone i = false) (hz : ∀ (k : Nat) y, hs[k]? = some y → gone k = true → y = 0) :
    Calls Tryz.prog 14 #[sp A.st, .string (ts i)] w fun e w' => ∃ x, e = .returned (.tuple #[.int .u64 x, .int .i64 0]) ∧ Aside (Pq w0 w' A c vl hs x gone ts i ∧ x ≠ 0) := by
  obtain ⟨pg, W, L, v, T, rn, hr, cb, hgr, htl, b⟩ := h.ex
  refine (put_room rn (ts i) ht (by rw [hq]; omega) (by rw [hm]; omega)).mono ?_
  rintro e w2 ⟨x, rfl, hx⟩
  obtain ⟨h1, h2, L', pg', W', v', T', hg', f⟩ := hx.out
  exact ⟨x, rfl, ⟨⟨pg', W', L', v', T', f.rn, hr.step f.st, cb.step f.st, by omega, by have := f.len; omega, b.put ht f h1 h2 hz (by rw [h.ln]; exact hg) (by rw [h.ln])⟩, h.ln, h.nc⟩, h2⟩
theorem Pt.long (h : Pt w0 w A c vl hs gone ts i) (ht : 1000 < (ts i).size) (hg : gone i = true) :
    Calls Tryz.prog 14 #[sp A.st, .string (ts i)] w fun e w' => e = .returned (.tuple #[.int .u64 0, .int .i64 4]) ∧ Aside (Pq w0 w' A c vl hs 0 gone ts i) := by
  obtain ⟨pg, W, L, v, T, rn, hr, cb, hgr, htl, b⟩ := h.ex
  refine (put_long rn.s (ts i) ht).mono ?_
  rintro e w2 ⟨rfl, k⟩
  exact ⟨rfl, ⟨⟨pg, W, L, v, T, rn.keep k, hr.keep k, cb.keep k, by omega, by omega, b.none (by rw [h.ln]; exact hg)⟩, h.ln, h.nc⟩⟩

/-- Marks: the texts that are too long, and those that are dropped. -/
def gm (bs : List Bool) (g0 : Nat → Bool) : Nat → Bool := fun j => bs.getD j false || g0 j
theorem gm_nil (n : Nat) (g0 : Nat → Bool) : gm (List.replicate n false) g0 = g0 := by
  funext j
  unfold gm
  rw [List.getD_eq_getElem?_getD, List.getElem?_replicate]
  split <;> simp
theorem gm_set {bs : List Bool} {g0 : Nat → Bool} {k : Nat} (hk : k < bs.length) : gm (bs.set k true) g0 = fun j => if j = k then true else gm bs g0 j := by
  funext j
  unfold gm
  by_cases e : j = k
  · subst e
    rw [if_pos rfl, List.getD_eq_getElem?_getD, List.getElem?_set_self hk]
    rfl
  · rw [if_neg e, List.getD_eq_getElem?_getD, List.getElem?_set_ne (Ne.symm e), ← List.getD_eq_getElem?_getD]
theorem gm_same {bs : List Bool} {g0 : Nat → Bool} {k : Nat} (hk : k < bs.length) (h : gm bs g0 k = true) : gm (bs.set k true) g0 = gm bs g0 := by
  rw [gm_set hk]
  funext j
  by_cases e : j = k
  · subst e
    rw [if_pos rfl, h]
  · rw [if_neg e]

abbrev encB (b : Bool) : Value := .bool b
/-- All of it: the rows of handles and of marks, the compactor. -/
structure Bk (w0 w : World) (A : Ad) (c : Nat) (vl vb : Value) (hs : List Int) (bs : List Bool) (g0 : Nat → Bool) (ts : Nat → ByteArray) (n : Nat) : Prop where
  ex : ∃ pg W L v T, Rn w0 w A pg W L v T ∧ Hr w0 w A pg v vl hs ∧ Bx A pg v w c 110 (sp A.st) ∧ (∀ b, some b = vb.ownBlock → ¬ So.foot A pg v b ∧ b ≠ A.bh ∧ b ≠ A.st) ∧ T.length ≤ n ∧ Bv T W hs (gm bs g0) ts
  rb : w.ownsRow w0.heap.size 4 1 vb n (bs.map encB)
  ln : hs.length = n
  lb : bs.length = n
  n1 : ∀ b, some b = vb.ownBlock → some b ≠ vl.ownBlock ∧ b ≠ c
theorem Bk.k {g0 : Nat → Bool} (h : Bk w0 w A c vl vb hs bs g0 ts n) : K w0 w := by
  obtain ⟨pg, W, L, v, T, rn, _⟩ := h.ex
  exact rn.k
theorem Bk.keep {g0 : Nat → Bool} (h : Bk w0 w A c vl vb hs bs g0 ts n) (k : K w w') : Bk w0 w' A c vl vb hs bs g0 ts n := by
  obtain ⟨pg, W, L, v, T, rn, hr, cb, nb, ht, b⟩ := h.ex
  exact ⟨⟨pg, W, L, v, T, rn.keep k, hr.keep k, cb.keep k, nb, ht, b⟩, Hd.ownsRow_kept h.rb k (fun _ _ z => z), h.ln, h.lb, h.n1⟩

/-- The marks are made. -/
theorem Pt.marks {g0 : Nat → Bool} (h : Pt w0 w A c vl hs g0 ts n) (hown : w'.ownsRow w0.heap.size 4 1 (.slice (some ⟨w.heap.size, 0, none⟩) n n) n ((List.replicate n false).map encB)) (hg : w.grownBy w' none) : Bk w0 w' A c vl (.slice (some ⟨w.heap.size, 0, none⟩) n n) hs (List.replicate n false) g0 ts n := by
  have k : K w w' := Tx.K.grown (K.refl w) hg (fun g hg => by cases hg)
  obtain ⟨pg, W, L, v, T, rn, hr, cb, hgr, ht, b⟩ := h.ex
  have own : ∀ b, some b = (Value.slice (some ⟨w.heap.size, 0, none⟩) n n).ownBlock → b = w.heap.size := fun b hb => by simpa [Value.ownBlock] using hb
  refine ⟨⟨pg, W, L, v, T, rn.keep k, hr.keep k, cb.keep k, fun b hb => ?_, ht, by rw [gm_nil]; exact b⟩, hown, h.ln, by simp, fun b hb => ?_⟩
  · have e := own b hb
    have h1 : A.bh < w.heap.size := Hp.lt_of_cell rn.s.b.hp.hw.c0
    have h2 := rn.s.b.lt
    exact ⟨fun hf => by have := rn.s.b.flt hf; omega, by omega, by omega⟩
  · have e := own b hb
    refine ⟨fun e2 => ?_, ?_⟩
    · have := (Hd.own_lt hr.rl e2).2
      omega
    · have := cb.lt
      omega

/-- A mark is set. -/
theorem Bk.mark {g0 : Nat → Bool} {gb cap k : Nat} (rb : w.ownsRow w0.heap.size 4 1 (.slice (some ⟨gb, 0, none⟩) n cap) n (bs.map encB)) (ln : hs.length = n) (lb : bs.length = n) (n1 : ∀ b, some b = (Value.slice (some ⟨gb, 0, none⟩) n cap).ownBlock → some b ≠ vl.ownBlock ∧ b ≠ c) (z0 : 0 < w0.heap.size) (hb : ∃ pg W L v T, Rn w0 w A pg W L v T ∧ Hr w0 w A pg v vl hs ∧ Bx A pg v w c 110 (sp A.st) ∧ (∀ b, some b = (Value.slice (some ⟨gb, 0, none⟩) n cap).ownBlock → ¬ So.foot A pg v b ∧ b ≠ A.bh ∧ b ≠ A.st) ∧ T.length ≤ n ∧ Bv T W hs (gm (bs.set k true) g0) ts) : Bk w0 (w.setCell ⟨gb, k, none⟩ (.bool true)) A c vl (.slice (some ⟨gb, 0, none⟩) n cap) hs (bs.set k true) g0 ts n := by
  obtain ⟨pg, W, L, v, T, rn, hr, cb, nb, ht, b⟩ := hb
  have own : some gb = (Value.slice (some ⟨gb, 0, none⟩) n cap).ownBlock := rfl
  obtain ⟨f1, f2, f3⟩ := nb gb own
  obtain ⟨m1, m2⟩ := n1 gb own
  have lo := (Hd.own_lt rb own).1
  have kk : Kept (fun j => j = gb) w (w.setCell ⟨gb, k, none⟩ (.bool true)) := (Kept.refl _ _).setCell _ (.inl rfl)
  refine ⟨⟨pg, W, L, v, T, ⟨⟨rn.s.b.kept kk (fun j hj => by subst hj; exact ⟨f1, f2, by omega, f3⟩), rn.s.r⟩, kthen rn.k kk (fun j hj => by omega)⟩, ⟨Hd.ownsRow_kept hr.rl kk (fun g hg e => by subst e; exact m1 hg), hr.ap⟩, ⟨kk.block cb.hb (fun e => m2 e.symm), cb.off⟩, nb, ht, b⟩, ?_, ln, by rw [List.length_set]; exact lb, n1⟩
  rw [List.map_set]
  exact (World.ownsRow.stored rb k (.bool true)).1

/-- A drop in the middle of all. -/
theorem Bk.dropped {g0 : Nat → Bool} {k : Nat} {x : Int} (h : Bk w0 w A c vl vb hs bs g0 ts n) (hk : hs[k]? = some x) :
    Calls Tryz.prog 17 #[sp A.st, .int .u64 x] w fun e w' => e = .returned (.int .i64 (if gm bs g0 k = true then 7 else 0)) ∧ Aside (w'.ownsRow w0.heap.size 4 1 vb n (bs.map encB) ∧ ∃ pg W L v T, Rn w0 w' A pg W L v T ∧ Hr w0 w' A pg v vl hs ∧ Bx A pg v w' c 110 (sp A.st) ∧ (∀ b, some b = vb.ownBlock → ¬ So.foot A pg v b ∧ b ≠ A.bh ∧ b ≠ A.st) ∧ T.length ≤ n ∧ Bv T W hs (gm (bs.set k true) g0) ts) := by
  obtain ⟨pg, W, L, v, T, rn, hr, cb, nb, ht, b⟩ := h.ex
  have hkb : k < bs.length := by rw [h.lb, ← h.ln]; exact (List.getElem?_eq_some_iff.1 hk).1
  cases g : gm bs g0 k with
  | true =>
    refine (b.dropNo rn hk g).mono ?_
    rintro e w2 ⟨rfl, k2⟩
    exact ⟨rfl, Hd.ownsRow_kept h.rb k2 (fun _ _ z => z), pg, W, L, v, T, rn.keep k2, hr.keep k2, cb.keep k2, nb, ht, by rw [gm_same hkb g]; exact b⟩
  | false =>
    refine (b.dropOk rn hk g).mono ?_
    rintro e w2 ⟨rfl, hx⟩
    obtain ⟨pg', W', L', T', rn', hl, b', st⟩ := hx.out
    refine ⟨rfl, Hd.ownsRow_kept h.rb st.k (fun g hg => (nb g hg).1), pg', W', L', v, T', rn', hr.step st, cb.step st, fun q hq => ⟨st.off (Hd.own_lt h.rb hq).2 (nb q hq).1, (nb q hq).2⟩, by omega, by rw [gm_set hkb]; exact b'⟩

/-- A run of the compactor. -/
theorem Bk.run {g0 : Nat → Bool} {bu : Int} (h : Bk w0 w A c vl vb hs bs g0 ts n) (b0 : 0 ≤ bu) (b1 : bu ≤ 9223372036854775807) :
    Calls Tryz.prog 19 #[cp c, .int .i64 bu] w fun e w' => (∃ x y z, e = .returned (.tuple #[.int .i64 x, .bool y, .int .i64 z])) ∧ Aside (Bk w0 w' A c vl vb hs bs g0 ts n) := by
  obtain ⟨pg, W, L, v, T, rn, hr, cb, nb, ht, b⟩ := h.ex
  refine (Co.run_any rn.s rn.k.size cb b0 b1).mono ?_
  rintro e w2 ⟨rfl, pg', W', v', sw, wk, st⟩
  exact ⟨⟨_, _, _, rfl⟩, ⟨pg', W', _, v', _, ⟨sw, rn.kst st⟩, hr.step st, cb.step st, fun q hq => ⟨st.off (Hd.own_lt h.rb hq).2 (nb q hq).1, (nb q hq).2⟩, by rw [wk.1]; exact ht, b.wk rn.s.r wk⟩, Hd.ownsRow_kept h.rb st.k (fun g hg => (nb g hg).1), h.ln, h.lb, h.n1⟩

theorem Bk.get {g0 : Nat → Bool} {k : Nat} {x : Int} (h : Bk w0 w A c vl vb hs bs g0 ts n) (hk : hs[k]? = some x) : Calls Tryz.prog 15 #[sp A.st, .int .u64 x] w fun e w' => e = .returned (.tuple #[.string (if gm bs g0 k = true then ⟨#[]⟩ else ts k), .int .i64 (if gm bs g0 k = true then 7 else 0)]) ∧ K w w' := by
  obtain ⟨pg, W, L, v, T, rn, hr, cb, nb, ht, b⟩ := h.ex
  exact b.get rn hk
theorem Bk.audit {g0 : Nat → Bool} (h : Bk w0 w A c vl vb hs bs g0 ts n) : Calls Tryz.prog 13 #[sp A.st] w fun e w' => e = .returned (.int .i64 0) ∧ K w w' := by
  obtain ⟨pg, W, L, v, T, rn, _⟩ := h.ex
  exact So.audit_ok rn.s

end Bb
end Go.Proofs.YtimedllggcfldaaGreatDoor
