/-
  A heap and its reference, side by side: neither's call turns the other.
-/
import Derived.Test.YtkjjobafbcdmoaaGreatDoorR8
import Derived.Test.YtkjjobafbcdmoaaGreatDoorH5
import Derived.Test.YtkjjobafbcdmoaaGreatDoorH6
namespace Go.Proofs.YtkjjobafbcdmoaaGreatDoor
open Go.RowKit Go.Maps
namespace Hp
variable {w w' : World} {bh bs bm br : Nat} {q q' : Int} {pg pg' : List (Int × Nat)} {W : Int → Int} {L : List Pg} {a : Option Addr} {cap : Nat} {E : List Re}

/-- A block of entries, or of the reference's struct, is none of the heap's. -/
theorem St.off (h : St w bh bs bm q pg W L) {k : Nat} {c : Array Value} {ty : TypeId} {f : Nat × Nat} (hk : w.heap[k]? = some (.cells c ty f)) (h1 : ty ≠ 55) (h2 : ty ≠ 58) (h3 : ty ≠ 64) : ¬ Sl.foot bs bm pg k ∧ k ≠ bh := by
  refine ⟨?_, fun e => ?_⟩
  · rintro (rfl | rfl | ⟨p, hp, rfl⟩)
    · have := h.hw.ar.s0
      rw [hk] at this
      injection this with this
      injection this with _ e _
      exact h1 e
    · obtain ⟨_, _, hm⟩ := Sl.PMap.isMap h.hw.ar.pm
      rw [hk] at hm
      cases hm
    · have := h.hw.ar.page p hp
      rw [hk] at this
      injection this with this
      injection this with _ e _
      exact h2 e
  · subst e
    have := h.hw.hd
    rw [hk] at this
    injection this with this
    injection this with _ e _
    exact h3 e

/-- The heap's step leaves the reference. -/
theorem Rf.step (r : Rf w br q' a cap E) (h : St w bh bs bm q pg W L) (s : Sl.Step bs bm pg pg' w w') : Rf w' br q' a cap E := by
  have hb := (h.off r.s0 (by decide) (by decide) (by decide)).1
  refine ⟨(s.kept br r.lt hb).trans r.s0, r.row.1, ?_⟩
  rcases r.row.2 with h2 | ⟨g, c, cur, hv, hg, hh, hr⟩
  · exact .inl h2
  · have hf := (h.off hh (by decide) (by decide) (by decide)).1
    exact .inr ⟨g, c, cur, hv, hg, (s.kept g (Array.getElem?_eq_some_iff.1 hh).1 hf).trans hh, hr⟩
/-- The reference's step leaves the heap. -/
theorem St.ref (h : St w bh bs bm q pg W L) (r : Rf w br q' a cap E) (k : RSt br w w') : St w' bh bs bm q pg W L := by
  refine ⟨h.hw.kept k fun j hj => ?_, h.ly⟩
  obtain rfl : j = br := hj
  have hb := h.off r.s0 (by decide) (by decide) (by decide)
  refine ⟨hb.1, hb.2, fun e => ?_⟩
  subst e
  have h1 := h.hw.tab 1 (by decide)
  rw [r.c1] at h1
  cases h1

end Hp
end Go.Proofs.YtkjjobafbcdmoaaGreatDoor

/-
  The calls of a pair: the heap's, the reference's.
-/
namespace Go.Proofs.YtkjjobafbcdmoaaGreatDoor
open Go.RowKit Go.Maps
namespace Hp
variable {w0 w w' : World} {bh bs bm br : Nat} {q q' : Int} {pg pg' : List (Int × Nat)} {W : Int → Int} {L M : List Pg} {a : Option Addr} {cap : Nat} {E : List Re}

/-- A heap with the entries L, and its reference with the entries M. -/
structure Pm (w0 w : World) (bh bs bm br : Nat) (q : Int) (pg : List (Int × Nat)) (W : Int → Int) (L : List Pg) (a : Option Addr) (cap : Nat) (E : List Re) : Prop where
  rn : Rn w0 w bh bs bm q pg W L
  rf : Rf w br q a cap E
  eo : Eo E
  lo : w0.heap.size ≤ br
  q1 : q ≤ 4000
def Pe (w0 w : World) (bh bs bm br : Nat) (q : Int) (L M : List Pg) : Prop := ∃ pg W a cap E, Pm w0 w bh bs bm br q pg W L a cap E ∧ entsR E = M

theorem Pm.keep (h : Pm w0 w bh bs bm br q pg W L a cap E) (k : K w w') : Pm w0 w' bh bs bm br q pg W L a cap E := ⟨h.rn.keep k, h.rf.keep k, h.eo, h.lo, h.q1⟩
theorem Pe.keep (h : Pe w0 w bh bs bm br q L M) (k : K w w') : Pe w0 w' bh bs bm br q L M := by
  obtain ⟨pg, W, a, cap, E, hp, he⟩ := h
  exact ⟨pg, W, a, cap, E, hp.keep k, he⟩
theorem Pe.k (h : Pe w0 w bh bs bm br q L M) : K w0 w := by
  obtain ⟨_, _, _, _, _, hp, _⟩ := h
  exact hp.rn.k
theorem Pm.heap {W' : Int → Int} {L' : List Pg} (h : Pm w0 w bh bs bm br q pg W L a cap E) (s : St w' bh bs bm q pg' W' L') (t : Sl.Step bs bm pg pg' w w') : Pm w0 w' bh bs bm br q pg' W' L' a cap E :=
  ⟨h.rn.step s t, h.rf.step h.rn.st t, h.eo, h.lo, h.q1⟩
theorem Pm.nb (h : Pm w0 w bh bs bm br q pg W L a cap E) : Nb (entsR E) := fun r hr => by
  obtain ⟨e, he, rfl⟩ := List.mem_map.1 hr
  exact h.eo.n1 e he
theorem St.full (h : St w bh bs bm q pg W L) (hq : q ≤ 4000) : granted L * 64 ≤ 4000 := by
  have h1 := h.hw.ar.full
  have h2 := h.len
  omega
/-- Behind the reference's call both have the same entries. -/
theorem Pm.ref (h : Pm w0 w bh bs bm br q pg W L a cap E) (hn : Nb L) {E' : List Re} (he : entsR E' = L) (p : RPost w br q E' w') : Pe w0 w' bh bs bm br q L L := by
  obtain ⟨a', cap', r, k⟩ := p
  have hst := h.rn.st
  have hb := hst.off h.rf.s0 (by decide) (by decide) (by decide)
  have h0 : br ≠ 0 := fun e => by
    have h1 := hst.hw.tab 1 (by decide)
    rw [← e, h.rf.c1] at h1
    cases h1
  have rn' : Rn w0 w' bh bs bm q pg W L := h.rn.kept k fun j hj => by
    obtain rfl : j = br := hj
    exact ⟨hb.1, hb.2, h0, h.lo⟩
  exact ⟨pg, W, a', cap', E', ⟨rn', r, eo_of rn'.st.wl hn (rn'.st.full h.q1) he, h.lo, h.q1⟩, he⟩

theorem Pe.alloc_h (h : Pe w0 w bh bs bm br q L M) (x : Int) : Calls Tryz.prog 15 #[hp bh, .int .i64 x] w fun e w' => e = .returned (.tuple #[.int .i64 (allocL q L x).1, .int .i64 (allocL q L x).2.1]) ∧ Pe w0 w' bh bs bm br q (allocL q L x).2.2 M ∧ ∀ (k : Nat) (c : Array Value), w.heap[k]? = some (Obj.cells c 50) → w'.heap[k]? = some (Obj.cells c 50) := by
  obtain ⟨pg, W, a, cap, E, hp, he⟩ := h
  refine (alloc_any hp.rn.st x).mono fun e w' hh => ?_
  obtain ⟨h1, pg', W', h2, h3, _⟩ := hh
  exact ⟨h1, ⟨pg', W', a, cap, E, hp.heap h2 h3, he⟩, fun k c hk => (h3.kept k (Array.getElem?_eq_some_iff.1 hk).1 (hp.rn.st.off hk (by decide) (by decide) (by decide)).1).trans hk⟩
theorem Pe.alloc_r {x : Int} (h : Pe w0 w bh bs bm br q (allocL q M x).2.2 M) : Calls Tryz.prog 32 #[.pointer (some ⟨br, 0, none⟩), .int .i64 x] w fun e w' => e = .returned (.tuple #[.int .i64 (allocL q M x).1, .int .i64 (allocL q M x).2.1]) ∧ Pe w0 w' bh bs bm br q (allocL q M x).2.2 (allocL q M x).2.2 := by
  obtain ⟨pg, W, a, cap, E, hp, rfl⟩ := h
  refine (rAlloc_call hp.rf hp.eo x).mono fun e w' hh => ?_
  obtain ⟨h1, E', h2, h3⟩ := hh
  exact ⟨h1, hp.ref (nb_alloc hp.eo.wl hp.nb hp.q1 x) h2 h3⟩

theorem Pe.free_h (h : Pe w0 w bh bs bm br q L M) (x : Int) (hx : In64 x) : Calls Tryz.prog 16 #[hp bh, .int .i64 x] w fun e w' => e = .returned (.int .i64 (freeL L x).1) ∧ Pe w0 w' bh bs bm br q (freeL L x).2 M := by
  obtain ⟨pg, W, a, cap, E, hp, he⟩ := h
  refine (free_any hp.rn.st x hx).mono fun e w' hh => ?_
  obtain ⟨h1, h2⟩ := hh
  refine ⟨h1, ?_⟩
  rcases h2 with ⟨h2, k⟩ | ⟨p, s, h2, pg', W', h3, h4, _⟩
  · have : (freeL L x).2 = L := by unfold freeL; rw [h2]
    rw [this]
    exact ⟨pg, W, a, cap, E, hp.keep k, he⟩
  · have : (freeL L x).2 = dropL L p s := by unfold freeL; rw [h2]
    rw [this]
    exact ⟨pg', W', a, cap, E, hp.heap h3 h4, he⟩
theorem Pe.free_r {x : Int} (h : Pe w0 w bh bs bm br q (freeL M x).2 M) : Calls Tryz.prog 33 #[.pointer (some ⟨br, 0, none⟩), .int .i64 x] w fun e w' => e = .returned (.int .i64 (freeL M x).1) ∧ Pe w0 w' bh bs bm br q (freeL M x).2 (freeL M x).2 := by
  obtain ⟨pg, W, a, cap, E, hp, rfl⟩ := h
  refine (rFree_call hp.rf hp.eo x).mono fun e w' hh => ?_
  obtain ⟨h1, E', h2, h3⟩ := hh
  exact ⟨h1, hp.ref (nb_free hp.nb x) h2 h3⟩

theorem Pe.slide_h (h : Pe w0 w bh bs bm br q L M) (x : Int) (hx : In64 x) : Calls Tryz.prog 17 #[hp bh, .int .i64 x] w fun e w' => e = .returned (.tuple #[.int .i64 (slideL L x).1, .int .i64 (slideL L x).2.1]) ∧ Pe w0 w' bh bs bm br q (slideL L x).2.2 M := by
  obtain ⟨pg, W, a, cap, E, hp, he⟩ := h
  refine (slide_any hp.rn.st x hx).mono fun e w' hh => ?_
  obtain ⟨h1, h2⟩ := hh
  refine ⟨h1, ?_⟩
  rcases h2 with ⟨h2, k⟩ | ⟨p, s, h2, (⟨h3, k⟩ | ⟨pg', W', h3, h4, _⟩)⟩
  · have : (slideL L x).2.2 = L := by unfold slideL; rw [h2]
    rw [this]
    exact ⟨pg, W, a, cap, E, hp.keep k, he⟩
  · rw [h3]
    exact ⟨pg, W, a, cap, E, hp.keep k, he⟩
  · exact ⟨pg', W', a, cap, E, hp.heap h3 h4, he⟩
theorem Pe.slide_r {x : Int} (h : Pe w0 w bh bs bm br q (slideL M x).2.2 M) : Calls Tryz.prog 34 #[.pointer (some ⟨br, 0, none⟩), .int .i64 x] w fun e w' => e = .returned (.tuple #[.int .i64 (slideL M x).1, .int .i64 (slideL M x).2.1]) ∧ Pe w0 w' bh bs bm br q (slideL M x).2.2 (slideL M x).2.2 := by
  obtain ⟨pg, W, a, cap, E, hp, rfl⟩ := h
  refine (rSlide_call hp.rf hp.eo x).mono fun e w' hh => ?_
  obtain ⟨h1, E', h2, h3⟩ := hh
  exact ⟨h1, hp.ref (nb_slide hp.eo hp.nb x) h2 h3⟩

theorem Pe.room_h (h : Pe w0 w bh bs bm br q L M) (x : Int) (hx : In64 x) : Calls Tryz.prog 10 #[hp bh, .int .i64 x] w fun e w' => e = .returned (.tuple #[.int .i64 (roomL L x).1, .int .i64 (roomL L x).2]) ∧ Pe w0 w' bh bs bm br q L M := by
  have h0 := h
  obtain ⟨pg, W, a, cap, E, hp, he⟩ := h
  exact (room_call hp.rn.st x hx).mono fun e w' hh => ⟨hh.1, h0.keep hh.2⟩
/-- The reference's struct, as it is handed by value. -/
theorem Pe.val (h : Pe w0 w bh bs bm br q L M) : ∃ (a : Option Addr) (cap : Nat) (E : List Re), w.heap[br]? = some (.cells #[.int .i64 q, .slice a E.length cap] 46) ∧ entsR E = M ∧ Eo E ∧ ∃ g, RowE w g a cap E := by
  obtain ⟨pg, W, a, cap, E, hp, he⟩ := h
  obtain ⟨g, hr, _⟩ := hp.rf.form
  exact ⟨a, cap, E, hp.rf.s0, he, hp.eo, g, hr⟩

end Hp
end Go.Proofs.YtkjjobafbcdmoaaGreatDoor

/-
  The law's play, on a heap and its reference.
-/
namespace Go.Proofs.YtkjjobafbcdmoaaGreatDoor
open Go.RowKit Go.Maps
namespace Hp
variable {w0 w w' : World} {bh bs bm br : Nat} {q : Int} {L M : List Pg} {E : List Re}

theorem slots_lt {p : Pg} (hp : Ent p) {k : Int} (hk : k ∈ slotsOf p) : 0 ≤ k ∧ k < nslI p := by
  have hn := nsl_range hp
  rcases mem_slots.1 hk with ⟨h2, rfl⟩ | ⟨h1, h3, h4, _⟩
  · exact ⟨by omega, by omega⟩
  · refine ⟨h3, ?_⟩
    unfold nslI
    rw [if_neg (by omega)]
    exact h4
theorem live_small (hE : Eo E) : ∀ x ∈ liveL (entsR E), 0 ≤ x ∧ x ≤ 300000 := by
  intro x hx
  obtain ⟨p, hp, hx⟩ := List.mem_flatMap.1 hx
  obtain ⟨k, hk, rfl⟩ := List.mem_map.1 hx
  obtain ⟨e, he, rfl⟩ := List.mem_map.1 hp
  have hent := hE.wl.ent _ hp
  have hn0 := hE.wl.n0 _ hp
  have hn1 := hE.n1 e he
  obtain ⟨k0, k1⟩ := slots_lt hent hk
  have hr := nsl_range hent
  unfold addrI atI
  split
  · omega
  · have := pla_range e.1.cls k
    omega
theorem live_few (hE : Eo E) : (liveL (entsR E)).length ≤ 100000 := by
  have key : ∀ L : List Pg, (∀ p ∈ L, Ent p) → (liveL L).length ≤ L.length * 31 := by
    intro L
    induction L with
    | nil => intro _; simp [liveL]
    | cons p l ih =>
      intro h
      have h1 := ih fun r hr => h r (by simp [hr])
      have h2 : (liveP p (slotsOf p)).length ≤ 31 := by
        have hp := h p (by simp)
        have h3 : (slotsOf p).length ≤ 31 := by
          rw [← takenE_all hp]
          have := takenE_len p (nslI p).toNat
          have := nsl_range hp
          omega
        simpa [liveP] using h3
      have : liveL (p :: l) = liveP p (slotsOf p) ++ liveL l := by simp [liveL]
      rw [this, List.length_append, List.length_cons]
      omega
  have h := key _ hE.wl.ent
  have : (entsR E).length = E.length := by simp [entsR]
  have := hE.len
  omega
theorem nth_in (hE : Eo E) (x : Int) : In64 (nthI (liveL (entsR E)) x) := by
  by_cases h : 0 < (liveL (entsR E)).length
  · have := live_small hE _ (nthI_mem (x := x) h)
    exact ⟨by omega, by omega⟩
  · have : liveL (entsR E) = [] := List.eq_nil_of_length_eq_zero (by omega)
    rw [this]
    show In64 (-1)
    exact ⟨by decide, by decide⟩

theorem Pe.free_pair (h : Pe w0 w bh bs bm br q L L) (x : Int) (hx : In64 x) : Calls Tryz.prog 16 #[hp bh, .int .i64 x] w fun e w' => e = .returned (.int .i64 (freeL L x).1) ∧ Pe w0 w' bh bs bm br q (freeL L x).2 L := h.free_h x hx

set_option maxRecDepth 100000 in
set_option maxHeartbeats 4000000 in
theorem play_alloc (h : Pe w0 w bh bs bm br q L L) (n : Int) : Calls Tryz.prog 13 #[hp bh, .pointer (some ⟨br, 0, none⟩), .agg #[.int .i64 1, .int .i64 n]] w fun e w' => e = .returned (.bool true) ∧ ∃ L', Pe w0 w' bh bs bm br q L' L' := by
  have hb : (w.alloc (.cells #[.int .i64 1, .int .i64 n] 50)).heap[w.heap.size]? = some (.cells #[.int .i64 1, .int .i64 n] 50) := (MapKept.heap_alloc w _).1
  have HP : Aside (Pe w0 (w.alloc (.cells #[.int .i64 1, .int .i64 n] 50)) bh bs bm br q L L) := h.keep ((K.refl _).alloc _)
  have RB : Aside (∀ wx : World, wx.heap[w.heap.size]? = some (.cells #[.int .i64 1, .int .i64 n] 50) → wx.cell? ⟨w.heap.size, 0, none⟩ = some (.int .i64 1) ∧ wx.cell? ⟨w.heap.size, 1, none⟩ = some (.int .i64 n)) := fun wx hw => by
    constructor <;> simp [World.cell?, hw]
  have ca := HP.out.alloc_h n
  clear h
  go_enter Tryz.func13, Tryz.ntmps13
  go_wp2_with fail
  refine ca.mono ?_
  rintro e w1 ⟨rfl, P1, B1⟩
  obtain ⟨b0, b1⟩ := RB.out _ (B1 _ _ hb)
  have cr := Pe.alloc_r P1
  clear ca P1 B1 hb
  generalize (allocL q L n).1 = r1 at *
  generalize (allocL q L n).2.1 = r2 at *
  go_wp2_with fail
  refine cr.mono ?_
  rintro e w2 ⟨rfl, P2⟩
  clear cr
  go_wp2
  go_ret
  exact ⟨rfl, _, P2⟩

set_option maxRecDepth 100000 in
set_option maxHeartbeats 4000000 in
theorem play_free4 (h : Pe w0 w bh bs bm br q L L) (n : Int) (hn : In64 n) : Calls Tryz.prog 13 #[hp bh, .pointer (some ⟨br, 0, none⟩), .agg #[.int .i64 4, .int .i64 n]] w fun e w' => e = .returned (.bool true) ∧ ∃ L', Pe w0 w' bh bs bm br q L' L' := by
  have HP : Aside (Pe w0 (w.alloc (.cells #[.int .i64 4, .int .i64 n] 50)) bh bs bm br q L L) := h.keep ((K.refl _).alloc _)
  have ca := HP.out.free_h n hn
  clear h
  go_enter Tryz.func13, Tryz.ntmps13
  go_wp2_with fail
  refine ca.mono ?_
  rintro e w1 ⟨rfl, P1⟩
  have cr := Pe.free_r P1
  clear ca P1
  generalize (freeL L n).1 = r1 at *
  go_wp2_with fail
  refine cr.mono ?_
  rintro e w2 ⟨rfl, P2⟩
  clear cr
  go_wp2
  go_ret
  exact ⟨rfl, _, P2⟩

set_option maxRecDepth 100000 in
set_option maxHeartbeats 4000000 in
theorem play_slide5 (h : Pe w0 w bh bs bm br q L L) (n : Int) (hn : In64 n) : Calls Tryz.prog 13 #[hp bh, .pointer (some ⟨br, 0, none⟩), .agg #[.int .i64 5, .int .i64 n]] w fun e w' => e = .returned (.bool true) ∧ ∃ L', Pe w0 w' bh bs bm br q L' L' := by
  have HP : Aside (Pe w0 (w.alloc (.cells #[.int .i64 5, .int .i64 n] 50)) bh bs bm br q L L) := h.keep ((K.refl _).alloc _)
  have ca := HP.out.slide_h n hn
  clear h
  go_enter Tryz.func13, Tryz.ntmps13
  go_wp2_with fail
  refine ca.mono ?_
  rintro e w1 ⟨rfl, P1⟩
  have cr := Pe.slide_r P1
  clear ca P1
  generalize (slideL L n).1 = r1 at *
  generalize (slideL L n).2.1 = r2 at *
  go_wp2_with fail
  refine cr.mono ?_
  rintro e w2 ⟨rfl, P2⟩
  clear cr
  go_wp2
  go_ret
  exact ⟨rfl, _, P2⟩

end Hp
end Go.Proofs.YtkjjobafbcdmoaaGreatDoor
