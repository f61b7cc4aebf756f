/-
  The walk of package heap's slideLarge: a large block goes to the least pages that it may have.
-/
import Derived.Test.YtckofhbfdfmnoabGreatDoorH4
namespace Go.Proofs.YtckofhbfdfmnoabGreatDoor
open Go.RowKit
attribute [local go_sem ↓] Go.wp_at_zero Go.wp_at_succ
namespace Hp
variable {w w' : World} {bh bs bm : Nat} {q : Int} {pg pg' : List (Int × Nat)} {W W' : Int → Int} {L : List Pg}

/-- The entry at another page. -/
def atN (p : Pg) (r : Int) : Pg := { p with n := r }

theorem granted_del : ∀ {L : List Pg}, Srt L → (∀ x ∈ L, 1 ≤ x.span) → ∀ {p : Pg}, p ∈ L → granted (delL L p.n) + p.span = granted L
  | [], _, _, _, hp => by cases hp
  | x :: l, hs, h1, p, hp => by
    obtain ⟨a1, a2⟩ := List.pairwise_cons.1 hs
    have hx := h1 x (by simp)
    have hl : ∀ y ∈ l, 1 ≤ y.span := fun y hy => h1 y (List.mem_cons_of_mem _ hy)
    by_cases e : x.n = p.n
    · have hpx : p = x := by
        rcases List.mem_cons.1 hp with h | h
        · exact h
        · have := a1 p h
          omega
      subst hpx
      have hd : delL (p :: l) p.n = l := by
        have : delL l p.n = l := by
          unfold delL
          rw [List.filter_eq_self]
          intro y hy
          have := a1 y hy
          have hne : y.n ≠ p.n := by omega
          simp [hne]
        unfold delL at this ⊢
        simp [this]
      rw [hd]
      show granted l + p.span = p.span + granted l
      omega
    · have hp' : p ∈ l := by
        rcases List.mem_cons.1 hp with h | h
        · rw [h] at e; exact absurd rfl e
        · exact h
      have ih := granted_del a2 hl hp'
      have hd : delL (x :: l) p.n = x :: delL l p.n := by
        unfold delL
        simp [e]
      rw [hd]
      show x.span + granted (delL l p.n) + p.span = x.span + granted l
      omega

theorem ent_atN {p : Pg} (he : Ent p) (r : Int) : Ent (atN p r) := he

/-- The words behind the slide. -/
def slW (W : Int → Int) (p : Pg) (r : Int) (n : Nat) : Int → Int := Sl.laid (Sl.zr W p.n p.span) (64 * r) (fun i => W (64 * p.n + i)) n

theorem Lay.slide (l : Lay pg W L) {p : Pg} (hp : p ∈ L) {pg3 pg4 : List (Int × Nat)} (g : Sl.Gone pg pg3 p.n p.span) {r : Int} (g4 : Got pg3 pg4 r p.span) {n : Nat} (hn : (n : Int) = p.span * 64) : Lay pg4 (slW W p r n) (insL (atN p r) (delL L p.n)) := by
  have l3 := l.gone hp g
  have hs := (l.ent p hp).span
  refine l3.ins (p := atN p r) (ent_atN (l.ent p hp) r) g4.cov g4.free ?_ ?_ (fun y hy hne => ?_)
  · show slW W p r n (64 * r) = _
    unfold slW Sl.laid
    rw [if_pos (by omega), show (64 * r - 64 * r).toNat = 0 from by omega]
    show W (64 * p.n + ((0 : Nat) : Int)) = markI p
    rw [show (64 * p.n + ((0 : Nat) : Int)) = 64 * p.n from by omega]
    exact l.m p hp
  · show slW W p r n (64 * r + 1) = _
    unfold slW Sl.laid
    rw [if_pos (by omega), show (64 * r + 1 - 64 * r).toNat = 1 from by omega]
    exact l.h p hp
  · have hy1 := (l3.ent y hy).span
    have h2 : y.n + y.span ≤ r ∨ r + p.span ≤ y.n := by
      by_cases h : y.n + y.span ≤ r ∨ r + p.span ≤ y.n
      · exact h
      · exfalso
        by_cases h3 : r ≤ y.n
        · have := l3.has hy 0 (by omega) (by omega)
          rw [g4.free (y.n + 0) (by omega) (by omega)] at this
          cases this
        · have := l3.has hy (r - y.n) (by omega) (by omega)
          rw [g4.free (y.n + (r - y.n)) (by omega) (by omega)] at this
          cases this
    unfold slW Sl.laid
    rw [if_neg (by omega), if_neg (by omega)]
    exact ⟨rfl, rfl⟩

theorem slW_other (l : Lay pg W L) {p : Pg} (hp : p ∈ L) {pg3 pg4 : List (Int × Nat)} (g : Sl.Gone pg pg3 p.n p.span) {r : Int} (g4 : Got pg3 pg4 r p.span) {n : Nat} (hn : (n : Int) = p.span * 64) {y : Pg} (hy : y ∈ L) (hne : y ≠ p) {k i : Int} (hk : k ∈ slotsOf y) (i0 : 0 ≤ i) (i1 : i < roomI y) :
    slW W p r n (addrI y k + i) = W (addrI y k + i) := by
  have l3 := l.gone hp g
  have hy3 : y ∈ delL L p.n := mem_delL.2 ⟨hy, fun e => hne (l.inj hy hp e)⟩
  have h1 := l3.word_off g4.free hy3 hk i0 i1
  have h2 := l.gone_same hp hy hne hk i0 i1
  unfold slW Sl.laid
  rw [if_neg (by omega)]
  exact h2
theorem slW_moved {p : Pg} (he : Ent p) (h2 : p.kind = 2) {r : Int} {n : Nat} (hn : (n : Int) = p.span * 64) {i : Int} (i0 : 0 ≤ i) (i1 : i < roomI p) : slW W p r n (addrI (atN p r) 0 + i) = W (addrI p 0 + i) := by
  have hpl := place_in he (s := 0) (fun h => by omega)
  have e1 : atI p 0 = 2 := by unfold atI; rw [if_pos h2]
  have e2 : addrI (atN p r) 0 = r * 64 + 2 := by
    show r * 64 + atI (atN p r) 0 = _
    have : atI (atN p r) 0 = atI p 0 := rfl
    rw [this, e1]
  have e3 : addrI p 0 = p.n * 64 + 2 := by unfold addrI; rw [e1]
  rw [e2, e3]
  unfold slW Sl.laid
  rw [if_pos (by omega)]
  show W (64 * p.n + ((r * 64 + 2 + i - 64 * r).toNat : Int)) = _
  congr 1
  omega

theorem laid_succ (W : Int → Int) (to : Int) (F : Nat → Int) (k : Nat) : Sl.upd (Sl.laid W to F k) (to + k) (F k) = Sl.laid W to F (k + 1) := by
  funext x
  unfold Sl.upd Sl.laid
  by_cases e : x = to + k
  · rw [if_pos e, if_pos (by omega), show (x - to).toNat = k from by omega]
  · rw [if_neg e]
    by_cases e2 : to ≤ x ∧ x < to + k
    · rw [if_pos e2, if_pos (by omega)]
    · rw [if_neg e2, if_neg (by omega)]

/-- What is so behind Slide of a block to another place. -/
def SlidePost (w : World) (bh bs bm : Nat) (q : Int) (pg : List (Int × Nat)) (W : Int → Int) (L : List Pg) (p : Pg) (s a : Int) (L' : List Pg) (w' : World) : Prop :=
  ∃ pg' W', St w' bh bs bm q pg' W' L' ∧ Sl.Step bs bm pg pg' w w' ∧ SameBut L p s W W' ∧ ∀ i, 0 ≤ i → i < roomI p → W' (a + i) = W (addrI p s + i)

end Hp
end Go.Proofs.YtckofhbfdfmnoabGreatDoor

/-
  Walks of package heap's slideSmall and Slide.
-/
namespace Go.Proofs.YtckofhbfdfmnoabGreatDoor
open Go.RowKit
attribute [local go_sem ↓] Go.wp_at_zero Go.wp_at_succ
namespace Hp
variable {w w' : World} {bh bs bm : Nat} {q : Int} {pg pg' : List (Int × Nat)} {W W' : Int → Int} {L : List Pg}

theorem withT_T (p : Pg) (t u : Int) : withT (withT p t) u = withT p u := rfl

theorem Lay.setH (l : Lay pg W L) {p : Pg} (hp : p ∈ L) (h1 : p.kind = 1) {t : Int} (ht : t ≠ 0) (hU : Bt.U t) (hc : Bt.cutI (Cl.sloI p.cls) t = t) :
    Lay pg (hdW W p.n (1 + 256 * p.cls) t) (updL L p.n (withT p t)) := by
  have he := l.ent p hp
  refine l.upd hp rfl rfl ?_ ?_ ?_ (fun r hr hn => ?_)
  · rcases he with ⟨a, b, c, _, _, _, d, e⟩ | ⟨h, _⟩
    · exact .inl ⟨a, b, c, ht, hU, hc, d, e⟩
    · omega
  · show hdW W p.n _ t (64 * p.n) = if p.kind = 1 then _ else _
    rw [if_pos h1]
    unfold hdW Sl.upd
    rw [if_neg (by omega), if_pos rfl]
    rfl
  · show hdW W p.n _ t (64 * p.n + 1) = if p.kind = 1 then _ else _
    rw [if_pos h1]
    unfold hdW Sl.upd
    rw [if_pos rfl]
    rfl
  · unfold hdW Sl.upd
    rw [if_neg (by omega), if_neg (by omega), if_neg (by omega), if_neg (by omega)]
    exact ⟨rfl, rfl⟩

/-- The entry of p behind the taking of a slot of p2. -/
def turnP (p p2 : Pg) (s2 : Int) : Pg := if p.n = p2.n then withT p2 (Bt.setI p2.taken s2) else p
/-- What a slide of a small block makes of the entries. -/
def slideS (L : List Pg) (p : Pg) (s : Int) (p2 : Pg) (s2 : Int) : List Pg := dropL (updL L p2.n (withT p2 (Bt.setI p2.taken s2))) (turnP p p2 s2) s

theorem mem_turn {p2 : Pg} {s2 : Int} {r : Pg} (hr : r ∈ L) : turnP r p2 s2 ∈ updL L p2.n (withT p2 (Bt.setI p2.taken s2)) := List.mem_map.2 ⟨r, hr, by unfold turnP; rfl⟩

/-- Taken slots stay taken; their places too. -/
theorem turn_slot (l : Lay pg W L) {p2 : Pg} (hp2 : p2 ∈ L) (h2 : p2.kind = 1) {s2 : Int} (hs2 : 0 ≤ s2 ∧ s2 < Cl.sloI p2.cls) {r : Pg} (hr : r ∈ L) {k : Int} (hk : k ∈ slotsOf r) :
    k ∈ slotsOf (turnP r p2 s2) ∧ addrI (turnP r p2 s2) k = addrI r k ∧ roomI (turnP r p2 s2) = roomI r := by
  unfold turnP
  by_cases e : r.n = p2.n
  · have := l.inj hr hp2 e
    subst this
    rw [if_pos rfl]
    refine ⟨?_, rfl, rfl⟩
    rcases mem_slots.1 hk with ⟨h3, _⟩ | ⟨h3, h4, h5, h6⟩
    · omega
    · refine mem_slots.2 (.inr ⟨h3, h4, h5, ?_⟩)
      have hr := slo_range r.cls
      show Bt.hasI (Bt.setI r.taken s2) k = true
      rw [has_set (N_of hs2.1 hs2.2 hr.2) (N_of h4 h5 hr.2), h6]
      rfl
  · rw [if_neg e]
    exact ⟨hk, rfl, rfl⟩

theorem span_one {x n : Int} (h0 : 0 ≤ x) (hn0 : 0 < n) (hn1 : n ≤ 64) (hx : x / 64 = (x + n - 1) / 64) (hx1 : x < 67108864) (hb : (Sl.blk pg (x / 64)).isSome = true) : Sl.isSpanB x n = true ∧ Sl.spanIn pg x n = true := by
  refine ⟨by simp [Sl.isSpanB]; omega, ?_⟩
  unfold Sl.spanIn
  rw [if_neg (by omega), ← hx]
  refine Sl.allIn_iff.2 fun i hi => ?_
  obtain rfl : i = 0 := by omega
  simpa using hb

theorem and14 {w' : World} {B D : Nat} {p p2 : Pg} {s s2 : Int} (hD : w'.heap[D]? = some (.cells (cellsB p2 s2) 104)) (hB : w'.heap[B]? = some (.cells (cellsB p s) 104)) :
    w'.cell? ⟨D, 0, none⟩ = some (.int .i64 p2.n) ∧ w'.cell? ⟨D, 1, none⟩ = some (.int .i64 p2.kind) ∧ w'.cell? ⟨D, 2, none⟩ = some (.int .i64 p2.cls) ∧ w'.cell? ⟨D, 3, none⟩ = some (.int .u64 p2.taken) ∧ w'.cell? ⟨D, 4, none⟩ = some (.int .i64 p2.words) ∧ w'.cell? ⟨D, 5, none⟩ = some (.int .i64 p2.span) ∧ w'.cell? ⟨D, 6, none⟩ = some (.int .i64 s2) ∧ w'.cell? ⟨B, 0, none⟩ = some (.int .i64 p.n) ∧ w'.cell? ⟨B, 1, none⟩ = some (.int .i64 p.kind) ∧ w'.cell? ⟨B, 2, none⟩ = some (.int .i64 p.cls) ∧ w'.cell? ⟨B, 3, none⟩ = some (.int .u64 p.taken) ∧ w'.cell? ⟨B, 4, none⟩ = some (.int .i64 p.words) ∧ w'.cell? ⟨B, 5, none⟩ = some (.int .i64 p.span) ∧ w'.cell? ⟨B, 6, none⟩ = some (.int .i64 s) := by
  obtain ⟨⟨y0, y1, y2, y3, y4, y5, y6⟩, _⟩ := seven hD
  obtain ⟨⟨x0, x1, x2, x3, x4, x5, x6⟩, _⟩ := seven hB
  exact ⟨y0, y1, y2, y3, y4, y5, y6, x0, x1, x2, x3, x4, x5, x6⟩

/-- What Slide answers, and makes of the entries. -/
def slideL (L : List Pg) (a : Int) : Int × Int × List Pg :=
  match findB L a with
  | none => (0, 5, L)
  | some (p, s) =>
    if p.kind = 2 then (addrI (atN p (fit p.span 0 (delL L p.n))) 0, 0, insL (atN p (fit p.span 0 (delL L p.n))) (delL L p.n))
    else match freeB L p.cls with
      | none => (a, 0, L)
      | some (p2, s2) => if a < addrI p2 s2 then (a, 0, L) else (addrI p2 s2, 0, slideS L p s p2 s2)

/-- What is so behind Slide. -/
def SlideAll (w : World) (bh bs bm : Nat) (q : Int) (pg : List (Int × Nat)) (W : Int → Int) (L : List Pg) (a : Int) (w' : World) : Prop :=
  (findB L a = none ∧ K w w') ∨ ∃ p s, findB L a = some (p, s) ∧ ((slideL L a = (a, 0, L) ∧ K w w') ∨ SlidePost w bh bs bm q pg W L p s (slideL L a).1 (slideL L a).2.2 w')

end Hp
end Go.Proofs.YtckofhbfdfmnoabGreatDoor

/-
  Walks of package heap's New, and of the statements' fixed example.
-/
namespace Go.Proofs.YtckofhbfdfmnoabGreatDoor
open Go.RowKit
attribute [local go_sem ↓] Go.wp_at_zero Go.wp_at_succ
namespace Hp
variable {w w' : World} {bh bs bm : Nat} {q : Int} {pg pg' : List (Int × Nat)} {W W' : Int → Int} {L : List Pg}

theorem new_any (ha : Sl.Arena w bs bm q pg W) (hT : Bt.Tab w) (h0 : ¬ Sl.foot bs bm pg 0) :
    Calls Tryz.prog 32 #[.pointer (some ⟨bs, 0, none⟩)] w fun e w' => (audI (heads pg W) = 0 → e = .returned (.tuple #[hp w.heap.size, .int .i64 0])) ∧ (audI (heads pg W) ≠ 0 → e = .returned (.tuple #[.pointer none, .int .i64 8])) ∧ Hw w' w.heap.size bs bm q pg W ∧ K w w' := by
  have k1 : K w (w.alloc (.cells #[.pointer (some ⟨bs, 0, none⟩)] 109)) := (K.refl w).alloc _
  have h1 : Hw (w.alloc (.cells #[.pointer (some ⟨bs, 0, none⟩)] 109)) w.heap.size bs bm q pg W :=
    ⟨ha.stays fun j hj => k1.same j (ha.foot_lt hj) (fun x => x), World.alloc_heap_new _ _, hT.keep k1.toBt, h0, fun hf => by have := ha.foot_lt hf; omega⟩
  have rd := Sl.read_any ha 0
  have re : Sl.readE pg 0 = 0 ∨ Sl.readE pg 0 = 5 := by
    unfold Sl.readE
    rw [if_pos (by decide)]
    split
    · exact .inl rfl
    · exact .inr rfl
  have re1 : (Sl.readE pg 0 == 1) = false := by rcases re with e | e <;> rw [e] <;> decide
  have au := audit_any h1
  clear re
  generalize Sl.readE pg 0 = er at *
  generalize Sl.readV pg W 0 = v at *
  have hcs : audI (heads pg W) = 0 ∨ audI (heads pg W) = 8 := by
    unfold audI
    split
    · exact .inr rfl
    · exact .inl rfl
  rcases hcs with hc | hc
  · rw [hc] at au ⊢
    go_enter Tryz.func32, Tryz.ntmps32
    go_wp2_with (first | (go_at_call 27; refine rd.mono ?_; rintro e w' ⟨rfl, rfl⟩) | (go_at_call 60; refine au.mono ?_; rintro e w2 ⟨rfl, k2⟩))
    go_ret2
    exact ⟨fun _ => rfl, fun h => absurd rfl h, h1.keep k2, k1.trans k2⟩
  · rw [hc] at au ⊢
    go_enter Tryz.func32, Tryz.ntmps32
    go_wp2_with (first | (go_at_call 27; refine rd.mono ?_; rintro e w' ⟨rfl, rfl⟩) | (go_at_call 60; refine au.mono ?_; rintro e w2 ⟨rfl, k2⟩))
    go_ret2
    exact ⟨fun h => (by cases h), fun _ => rfl, h1.keep k2, k1.trans k2⟩

/-- A heap that was made since w0: nothing that was there has turned. -/
structure Rn (w0 w : World) (bh bs bm : Nat) (q : Int) (pg : List (Int × Nat)) (W : Int → Int) (L : List Pg) : Prop where
  st : St w bh bs bm q pg W L
  k : K w0 w
  lo : ∀ k, Sl.foot bs bm pg k → w0.heap.size ≤ k

theorem Rn.keep {w0 : World} (h : Rn w0 w bh bs bm q pg W L) (k : K w w') : Rn w0 w' bh bs bm q pg W L := ⟨h.st.keep k, h.k.trans k, h.lo⟩
theorem Rn.step {w0 : World} {L' : List Pg} (h : Rn w0 w bh bs bm q pg W L) (s : St w' bh bs bm q pg' W' L') (t : Sl.Step bs bm pg pg' w w') : Rn w0 w' bh bs bm q pg' W' L' :=
  ⟨s, ⟨t.os.trans h.k.os, t.tape.trans h.k.tape, t.output.trans h.k.output, Nat.le_trans h.k.size t.size, fun j hj hn => (t.kept j (Nat.lt_of_lt_of_le hj h.k.size) (fun hf => by have := h.lo j hf; omega)).trans (h.k.same j hj hn)⟩, fun j hj => by
    rcases t.inn j hj with h2 | h2
    · exact h.lo j h2
    · exact Nat.le_trans h.k.size h2⟩

theorem aw1 : allocL 640 [] 2 = (2, 0, [⟨0, 1, 0, 1, 0, 1⟩]) := by decide +kernel
theorem aw2 : allocL 640 [⟨0, 1, 0, 1, 0, 1⟩] 2 = (4, 0, [⟨0, 1, 0, 3, 0, 1⟩]) := by decide +kernel
theorem aw3 : allocL 640 [⟨0, 1, 0, 3, 0, 1⟩] 28 = (66, 0, [⟨0, 1, 0, 3, 0, 1⟩, ⟨1, 1, 7, 1, 0, 1⟩]) := by decide +kernel
theorem aw4 : allocL 640 [⟨0, 1, 0, 3, 0, 1⟩, ⟨1, 1, 7, 1, 0, 1⟩] 100 = (130, 0, [⟨0, 1, 0, 3, 0, 1⟩, ⟨1, 1, 7, 1, 0, 1⟩, ⟨2, 2, 0, 0, 100, 2⟩]) := by decide +kernel
theorem aw5 : findB [⟨0, 1, 0, 3, 0, 1⟩, ⟨1, 1, 7, 1, 0, 1⟩, ⟨2, 2, 0, 0, 100, 2⟩] 4 = some (⟨0, 1, 0, 3, 0, 1⟩, 1) := by decide +kernel
theorem aw5' : dropL [⟨0, 1, 0, 3, 0, 1⟩, ⟨1, 1, 7, 1, 0, 1⟩, ⟨2, 2, 0, 0, 100, 2⟩] ⟨0, 1, 0, 3, 0, 1⟩ 1 = [⟨0, 1, 0, 1, 0, 1⟩, ⟨1, 1, 7, 1, 0, 1⟩, ⟨2, 2, 0, 0, 100, 2⟩] := by decide +kernel
theorem aw6 : findB [⟨0, 1, 0, 1, 0, 1⟩, ⟨1, 1, 7, 1, 0, 1⟩, ⟨2, 2, 0, 0, 100, 2⟩] 66 = some (⟨1, 1, 7, 1, 0, 1⟩, 0) := by decide +kernel
theorem aw6' : dropL [⟨0, 1, 0, 1, 0, 1⟩, ⟨1, 1, 7, 1, 0, 1⟩, ⟨2, 2, 0, 0, 100, 2⟩] ⟨1, 1, 7, 1, 0, 1⟩ 0 = [⟨0, 1, 0, 1, 0, 1⟩, ⟨2, 2, 0, 0, 100, 2⟩] := by decide +kernel
theorem aw7 : slideL [⟨0, 1, 0, 1, 0, 1⟩, ⟨2, 2, 0, 0, 100, 2⟩] 130 = (66, 0, [⟨0, 1, 0, 1, 0, 1⟩, ⟨1, 2, 0, 0, 100, 2⟩]) := by decide +kernel

end Hp
end Go.Proofs.YtckofhbfdfmnoabGreatDoor
