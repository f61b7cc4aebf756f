/-
  The walk of package heap's slideLarge: a large block goes to the least pages that it may have.
-/
import Derived.Test.YtlpdgomoepinjaaDoorHWords
namespace Go.Proofs.YtlpdgomoepinjaaDoor
open Go.RowKit
attribute [local go_sem ↓] Go.wp_at_zero Go.wp_at_succ
namespace Hp
variable {w w' : World} {bh bs bm : Nat} {q : Int} {pg pg' : List (Int × Nat)} {W W' : Int → Int} {L : List Pg}

/-- The entry at another page. -/
def atN (p : Pg) (r : Int) : Pg := { p with n := r }

theorem granted_del : ∀ {L : List Pg}, Srt L → (∀ x ∈ L, 1 ≤ x.span) → ∀ {p : Pg}, p ∈ L → granted (delL L p.n) + p.span = granted L
  | [], _, _, _, hp => by cases hp
  | x :: l, hs, h1, p, hp => by
    obtain ⟨a1, a2⟩ := List.pairwise_cons.1 hs
    have hx := h1 x (by simp)
    have hl : ∀ y ∈ l, 1 ≤ y.span := fun y hy => h1 y (List.mem_cons_of_mem _ hy)
    by_cases e : x.n = p.n
    · have hpx : p = x := by
        rcases List.mem_cons.1 hp with h | h
        · exact h
        · have := a1 p h
          omega
      subst hpx
      have hd : delL (p :: l) p.n = l := by
        have : delL l p.n = l := by
          unfold delL
          rw [List.filter_eq_self]
          intro y hy
          have := a1 y hy
          have hne : y.n ≠ p.n := by omega
          simp [hne]
        unfold delL at this ⊢
        simp [this]
      rw [hd]
      show granted l + p.span = p.span + granted l
      omega
    · have hp' : p ∈ l := by
        rcases List.mem_cons.1 hp with h | h
        · rw [h] at e; exact absurd rfl e
        · exact h
      have ih := granted_del a2 hl hp'
      have hd : delL (x :: l) p.n = x :: delL l p.n := by
        unfold delL
        simp [e]
      rw [hd]
      show x.span + granted (delL l p.n) + p.span = x.span + granted l
      omega

theorem ent_atN {p : Pg} (he : Ent p) (r : Int) : Ent (atN p r) := he

/-- The words behind the slide. -/
def slW (W : Int → Int) (p : Pg) (r : Int) (n : Nat) : Int → Int := Sl.laid (Sl.zr W p.n p.span) (64 * r) (fun i => W (64 * p.n + i)) n

theorem Lay.slide (l : Lay pg W L) {p : Pg} (hp : p ∈ L) {pg3 pg4 : List (Int × Nat)} (g : Sl.Gone pg pg3 p.n p.span) {r : Int} (g4 : Got pg3 pg4 r p.span) {n : Nat} (hn : (n : Int) = p.span * 64) : Lay pg4 (slW W p r n) (insL (atN p r) (delL L p.n)) := by
  have l3 := l.gone hp g
  have hs := (l.ent p hp).span
  refine l3.ins (p := atN p r) (ent_atN (l.ent p hp) r) g4.cov g4.free ?_ ?_ (fun y hy hne => ?_)
  · show slW W p r n (64 * r) = _
    unfold slW Sl.laid
    rw [if_pos (by omega), show (64 * r - 64 * r).toNat = 0 from by omega]
    show W (64 * p.n + ((0 : Nat) : Int)) = markI p
    rw [show (64 * p.n + ((0 : Nat) : Int)) = 64 * p.n from by omega]
    exact l.m p hp
  · show slW W p r n (64 * r + 1) = _
    unfold slW Sl.laid
    rw [if_pos (by omega), show (64 * r + 1 - 64 * r).toNat = 1 from by omega]
    exact l.h p hp
  · have hy1 := (l3.ent y hy).span
    have h2 : y.n + y.span ≤ r ∨ r + p.span ≤ y.n := by
      by_cases h : y.n + y.span ≤ r ∨ r + p.span ≤ y.n
      · exact h
      · exfalso
        by_cases h3 : r ≤ y.n
        · have := l3.has hy 0 (by omega) (by omega)
          rw [g4.free (y.n + 0) (by omega) (by omega)] at this
          cases this
        · have := l3.has hy (r - y.n) (by omega) (by omega)
          rw [g4.free (y.n + (r - y.n)) (by omega) (by omega)] at this
          cases this
    unfold slW Sl.laid
    rw [if_neg (by omega), if_neg (by omega)]
    exact ⟨rfl, rfl⟩

theorem slW_other (l : Lay pg W L) {p : Pg} (hp : p ∈ L) {pg3 pg4 : List (Int × Nat)} (g : Sl.Gone pg pg3 p.n p.span) {r : Int} (g4 : Got pg3 pg4 r p.span) {n : Nat} (hn : (n : Int) = p.span * 64) {y : Pg} (hy : y ∈ L) (hne : y ≠ p) {k i : Int} (hk : k ∈ slotsOf y) (i0 : 0 ≤ i) (i1 : i < roomI y) :
    slW W p r n (addrI y k + i) = W (addrI y k + i) := by
  have l3 := l.gone hp g
  have hy3 : y ∈ delL L p.n := mem_delL.2 ⟨hy, fun e => hne (l.inj hy hp e)⟩
  have h1 := l3.word_off g4.free hy3 hk i0 i1
  have h2 := l.gone_same hp hy hne hk i0 i1
  unfold slW Sl.laid
  rw [if_neg (by omega)]
  exact h2
theorem slW_moved {p : Pg} (he : Ent p) (h2 : p.kind = 2) {r : Int} {n : Nat} (hn : (n : Int) = p.span * 64) {i : Int} (i0 : 0 ≤ i) (i1 : i < roomI p) : slW W p r n (addrI (atN p r) 0 + i) = W (addrI p 0 + i) := by
  have hpl := place_in he (s := 0) (fun h => by omega)
  have e1 : atI p 0 = 2 := by unfold atI; rw [if_pos h2]
  have e2 : addrI (atN p r) 0 = r * 64 + 2 := by
    show r * 64 + atI (atN p r) 0 = _
    have : atI (atN p r) 0 = atI p 0 := rfl
    rw [this, e1]
  have e3 : addrI p 0 = p.n * 64 + 2 := by unfold addrI; rw [e1]
  rw [e2, e3]
  unfold slW Sl.laid
  rw [if_pos (by omega)]
  show W (64 * p.n + ((r * 64 + 2 + i - 64 * r).toNat : Int)) = _
  congr 1
  omega

theorem laid_succ (W : Int → Int) (to : Int) (F : Nat → Int) (k : Nat) : Sl.upd (Sl.laid W to F k) (to + k) (F k) = Sl.laid W to F (k + 1) := by
  funext x
  unfold Sl.upd Sl.laid
  by_cases e : x = to + k
  · rw [if_pos e, if_pos (by omega), show (x - to).toNat = k from by omega]
  · rw [if_neg e]
    by_cases e2 : to ≤ x ∧ x < to + k
    · rw [if_pos e2, if_pos (by omega)]
    · rw [if_neg e2, if_neg (by omega)]

/-- What is so behind Slide of a block to another place. -/
def SlidePost (w : World) (bh bs bm : Nat) (q : Int) (pg : List (Int × Nat)) (W : Int → Int) (L : List Pg) (p : Pg) (s a : Int) (L' : List Pg) (w' : World) : Prop :=
  ∃ pg' W', St w' bh bs bm q pg' W' L' ∧ Sl.Step bs bm pg pg' w w' ∧ SameBut L p s W W' ∧ ∀ i, 0 ≤ i → i < roomI p → W' (a + i) = W (addrI p s + i)

set_option maxRecDepth 100000 in
set_option maxHeartbeats 2000000 in
theorem slideLarge_any (h : St w bh bs bm q pg W L) {p : Pg} (hm : p ∈ L) (h2 : p.kind = 2) :
    Calls Tryd.prog 23 #[hp bh, bkV p 0] w fun e w' => e = .returned (.int .i64 (addrI (atN p (fit p.span 0 (delL L p.n))) 0)) ∧ SlidePost w bh bs bm q pg W L p 0 (addrI (atN p (fit p.span 0 (delL L p.n))) 0) (insL (atN p (fit p.span 0 (delL L p.n))) (delL L p.n)) w' := by
  have he := h.ly.ent p hm
  have hsp := he.span
  have hrg := h.range hm
  have rg0 := hrg.1
  have rg1 := hrg.2
  have sp0 := hsp.1
  have sp1 := hsp.2
  obtain ⟨n, hn⟩ : ∃ n : Nat, (n : Int) = p.span * 64 := ⟨(p.span * 64).toNat, by omega⟩
  obtain ⟨w1, hw1⟩ : ∃ w1, w1 = w.alloc (.cells (cellsB p 0) 58) := ⟨_, rfl⟩
  have k1 : K w w1 := by rw [hw1]; exact (K.refl w).alloc _
  have hB1 : w1.heap[w.heap.size]? = some (.cells (cellsB p 0) 58) := by rw [hw1]; exact World.alloc_heap_new _ _
  have wo := wordsOf_any (h.hw.keep k1) p n hn rg0 rg1 sp0 sp1 (fun i i0 i1 => h.ly.has hm i i0 i1)
  have HN : Hid ((n : Int) = p.span * 64) := hn
  have n0 : (0 : Int) ≤ n := by omega
  have n1 : (n : Int) ≤ 4032 := by omega
  have hrel := h.rel hm
  have rl := fun w2 (kk : K w w2) => Sl.release_ok (h.hw.keep kk).ar p.n p.span hrel
  have hqf : (granted (delL L p.n) + p.span) * 64 ≤ q := by
    have a := granted_del h.ly.srt (fun x hx => (h.ly.ent x hx).span.1) hm
    have b := h.len
    have c := h.hw.ar.full
    omega
  have HST : Aside (∀ w3 pg3, Sl.Gone pg pg3 p.n p.span → Hw w3 bh bs bm q pg3 (Sl.zr W p.n p.span) → St w3 bh bs bm q pg3 (Sl.zr W p.n p.span) (delL L p.n)) := fun w3 pg3 g hw3 => ⟨hw3, h.ly.gone hm g⟩
  have HGR : Aside (∀ w3 pg3, St w3 bh bs bm q pg3 (Sl.zr W p.n p.span) (delL L p.n) → _) := fun w3 pg3 (st : St w3 bh bs bm q pg3 (Sl.zr W p.n p.span) (delL L p.n)) => st.grant p.span sp0 sp1 hqf
  have HF : Aside (∀ pg3 pg4 r, Sl.Gone pg pg3 p.n p.span → Got pg3 pg4 r p.span → Lay pg4 (slW W p r n) (insL (atN p r) (delL L p.n)) ∧ SameBut L p 0 W (slW W p r n) ∧ ∀ i, 0 ≤ i → i < roomI p → slW W p r n (addrI (atN p r) 0 + i) = W (addrI p 0 + i)) := fun pg3 pg4 r g g4 =>
    ⟨h.ly.slide hm g g4 hn, fun y hy k hk hne i i0 i1 => slW_other h.ly hm g g4 hn hy (fun e => by
      subst e
      rcases hne with hne | hne
      · exact hne rfl
      · rcases mem_slots.1 hk with ⟨_, e1⟩ | ⟨e1, _⟩
        · exact hne e1
        · omega) hk i0 i1, fun i i0 i1 => slW_moved he h2 hn i0 i1⟩
  have HOK : Aside (∀ a, Sl.WordOk (W a)) := h.hw.ar.ww
  have ca := fun (r : Int) (r0 : 0 ≤ r) (r1 : r ≤ 1048575) w => addr_any (atN p r) 0 r0 r1 w
  dsimp only [atN, bkV] at ca
  have HCA : Aside _ := ca
  have e3 : ∀ (r k : Int), 0 ≤ r → r ≤ 1048575 → 0 ≤ k → k ≤ 4032 → IntKind.i64.wrap (r * 64 + k) = r * 64 + k := fun r k a b c d => wrap_i64 (by omega) (by omega)
  have e4 : ∀ (r : Int), 0 ≤ r → r ≤ 1048575 → IntKind.i64.wrap (r * 64) = r * 64 := fun r a b => wrap_i64 (by omega) (by omega)
  have hn0 := nf_new h.hw (Nat.le_refl w.heap.size)
  have hnh := h.hw.nfh
  clear hn hrel hqf h2 he hsp hrg ca
  generalize hr : Hp.fit p.span 0 (delL L p.n) = r at *
  clear hr
  obtain ⟨⟨x0, x1, x2, x3, x4, x5, x6⟩, _⟩ := seven hB1
  go_enter Tryd.func23, Tryd.ntmps23
  go_wp2_with fail
  rw [← hw1]
  refine wo.mono ?_
  rintro e w2 ⟨rfl, k2, hR2⟩
  have hsz1 : w.heap.size < w1.heap.size := (Array.getElem?_eq_some_iff.1 hB1).1
  have k12 := k1.trans k2
  have hB2 := k2.block hB1
  have hG2 : w1.heap.size + 1 < w2.heap.size := (Array.getElem?_eq_some_iff.1 hR2).1
  have hnG := nf_new h.hw (show w.heap.size ≤ w1.heap.size + 1 by omega)
  clear x0 x1 x2 x3 x4 x5 x6 hw1 wo
  obtain ⟨⟨x0, x1, x2, x3, x4, x5, x6⟩, _⟩ := seven hB2
  have c2 := (h.hw.keep k12).c0
  have rl2 := rl _ k12.drew
  have hw2d := h.hw.keep k12.drew
  have hwsz : Hid (w.heap.size ≤ w.heap.size) := Nat.le_refl _
  clear rl
  generalize hB : w.heap.size = B at *
  generalize hG : w1.heap.size + 1 = G at *
  go_wp2
  go_region_held3 (fun w' => w'.cell? ⟨bh, 0, none⟩ = some (.pointer (some ⟨bs, 0, none⟩)) ∧ w'.cell? ⟨B, 0, none⟩ = some (.int .i64 p.n) ∧ w'.cell? ⟨B, 5, none⟩ = some (.int .i64 p.span))
    (first | exact ⟨c2, x0, x5⟩ | exact ⟨Step.cell s3 c2 hnh, Step.cell s3 x0 hn0, Step.cell s3 x5 hn0⟩)
    (first | (go_at_call 21; refine rl2.mono ?_; rintro e w3 ⟨rfl, pg3, g3, a3, s3⟩))
  have h3 := HST.out w3 pg3 g3 (hw2d.step a3 s3)
  have h3d := h3.keep (K.drew (K.refl w3))
  have gr := HGR.out w3.drew pg3 h3d
  have hB3 : w3.heap[B]? = some (.cells (cellsB p 0) 58) := (s3.kept _ (Array.getElem?_eq_some_iff.1 hB2).1 hn0).trans hB2
  have hR3 := (s3.kept _ (Array.getElem?_eq_some_iff.1 hR2).1 hnG).trans hR2
  have hn3 : ¬ Sl.foot bs bm pg3 B := fun hf => by
    rcases s3.inn _ hf with h | h
    · exact hn0 h
    · have : B < w2.heap.size := (Array.getElem?_eq_some_iff.1 hB2).1
      have e : w2.drew.heap.size = w2.heap.size := rfl
      omega
  have hnG3 : ¬ Sl.foot bs bm pg3 G := fun hf => by
    rcases s3.inn _ hf with h | h
    · exact hnG h
    · have e : w2.drew.heap.size = w2.heap.size := rfl
      omega
  have hnh3 := h3.hw.nfh
  clear x0 x1 x2 x3 x4 x5 x6
  obtain ⟨⟨x0, x1, x2, x3, x4, x5, x6⟩, xf⟩ := seven hB3
  have c3 := h3.hw.c0
  go_wp2
  go_region_held3 (fun w' => w'.cell? ⟨bh, 0, none⟩ = some (.pointer (some ⟨bs, 0, none⟩)) ∧ w'.cell? ⟨B, 5, none⟩ = some (.int .i64 p.span))
    (first | exact ⟨c3, x5⟩ | exact ⟨Step.cell s4 c3 hnh3, Step.cell s4 x5 hn3⟩ | exact hKS)
    (first | (go_at_call 30; refine gr.mono ?_; rintro e w4 ⟨rfl, pg4, g4, h4, s4⟩
              have hB4 : w4.heap[B]? = some (.cells (cellsB p 0) 58) := (s4.kept _ (Array.getElem?_eq_some_iff.1 hB3).1 hn3).trans hB3
              obtain ⟨⟨y0, y1, y2, y3, y4, y5, y6⟩, yf⟩ := seven hB4
              have hB5 := Sl.heap_setCell_same (i := 0) hB4 (.int .i64 r)
              have hKS : (w4.setCell ⟨B, 0, none⟩ (.int .i64 r)).cell? ⟨bh, 0, none⟩ = some (.pointer (some ⟨bs, 0, none⟩)) ∧ (w4.setCell ⟨B, 0, none⟩ (.int .i64 r)).cell? ⟨B, 5, none⟩ = some (.int .i64 p.span) := ⟨((Kept.refl (fun j => j = B) w4).setCell (p := ⟨B, 0, none⟩) (.int .i64 r) (.inl rfl)).cell (Step.cell s4 c3 hnh3) (fun e => by have e : bh = B := e; have : bh < w.heap.size := lt_of_cell h.hw.c0; omega), (seven (v0 := .int .i64 r) hB5).1.2.2.2.2.2.1⟩))
  have r0 := g4.lo
  have r1 := g4.hi
  have kst := (Kept.refl (fun j => j = B) w4).setCell (p := ⟨B, 0, none⟩) (.int .i64 r) (.inl rfl)
  have hbhB : bh < B := by have : bh < w.heap.size := lt_of_cell h.hw.c0; omega
  have hB0 : B ≠ 0 := by have := lt0 h.hw.tab; omega
  have hBlt2 : B < w2.heap.size := (Array.getElem?_eq_some_iff.1 hB2).1
  have hd1 : w2.drew.heap.size = w2.heap.size := rfl
  have hd3 : w3.drew.heap.size = w3.heap.size := rfl
  have hs3z := s3.size
  have hn4 : ¬ Sl.foot bs bm pg4 B := fun hf => by
    rcases s4.inn _ hf with h | h
    · exact hn3 h
    · omega
  have hnG4 : ¬ Sl.foot bs bm pg4 G := fun hf => by
    rcases s4.inn _ hf with h | h
    · exact hnG3 h
    · omega
  have h5 := h4.kept kst (fun j hj => by subst hj; exact ⟨hn4, by omega, hB0⟩)
  have hR4 := (s4.kept _ (Array.getElem?_eq_some_iff.1 hR3).1 hnG3).trans hR3
  have hR5 := kst.block hR4 (show ¬ G = B by omega)
  have s5 : Sl.Step bs bm pg pg4 w (w4.setCell ⟨B, 0, none⟩ (.int .i64 r)) := Step.thenKept ((k12.drew.thenStep s3).trans ((K.drew (K.refl w3)).thenStep s4)) kst (fun j hj => by subst hj; omega)
  clear kst hKS yf y0 y1 y2 y3 y4 y5 y6 x0 x1 x2 x3 x4 x5 x6 xf
  go_wp2
  generalize hw5 : w4.setCell ⟨B, 0, none⟩ (.int .i64 r) = w5 at *
  clear hw5
  go_loopw [6, 7, 38] (fun _ _ i wr => ∃ k : Nat, k ≤ n ∧ i = .int .i64 (k : Int) ∧ Hw wr bh bs bm q pg4 (Sl.laid (Sl.zr W p.n p.span) (64 * r) (fun i => W (64 * p.n + i)) k) ∧ Sl.Step bs bm pg pg4 w wr ∧ wr.heap[B]? = some (.cells (cellsB (atN p r) 0) 58) ∧ wr.heap[G]? = some (.cells (Sl.rowOf (fun i => W (64 * p.n + i)) n n) 34)) (fun _ _ i _ => n - (intOf i).toNat)
  case atStart => exact ⟨0, Nat.zero_le _, rfl, by rw [Sl.laid_zero]; exact h5, s5, hB5, hR5⟩
  case round =>
    obtain ⟨k, hk, rfl, hh, hst, hBr, hRr⟩ := hrel
    obtain ⟨⟨z0, z1, z2, z3, z4, z5, z6⟩, _⟩ := seven hBr
    by_cases hlt : k < n
    · have cr := hh.c0
      have hhd := hh.keep (K.drew (K.refl wr))
      have ki0 : (0 : Int) ≤ k := by omega
      have ki1 : (k : Int) < n := by omega
      have hrow : wr.cell? ⟨G, k, none⟩ = some (.int .u64 (W (64 * p.n + k))) := by
        have := Sl.row_get (fun i => W (64 * p.n + i)) n n k hlt
        rw [if_pos hlt] at this
        simp only [World.cell?, hRr]
        simpa using this
      have hre : Sl.readE pg4 (r * 64 + k) = 0 := readE_page hh.ar.rng (by
        refine (g4.cov _).2 (.inr ?_)
        have := HN.out
        omega)
      have wr1 := Sl.write_ok hhd.ar (r * 64 + k) (W (64 * p.n + k)) hre (HOK.out _)
      rw [show r * 64 + (k : Int) = 64 * r + k from by omega, laid_succ] at wr1
      rw [show 64 * r + (k : Int) = r * 64 + k from by omega] at wr1
      have e5 := e3 r k r0 (by omega) (by omega) (by omega)
      have e6 := e4 r r0 (by omega)
      have hnh4 := hh.nfh
      dsimp only [atN] at z0
      clear hre
      generalize W (64 * p.n + k) = v at *
      go_wp2
      go_region_held3 (fun w' => w'.cell? ⟨bh, 0, none⟩ = some (.pointer (some ⟨bs, 0, none⟩)) ∧ w'.cell? ⟨B, 0, none⟩ = some (.int .i64 r))
        (first | exact ⟨cr, z0⟩ | exact ⟨Step.cell s6 cr hnh4, Step.cell s6 z0 hn4⟩)
        (first | (go_at_call 8; refine wr1.mono ?_; rintro e w6 ⟨rfl, a6, s6⟩))
      go_wp2
      go_roundw
      case rel => exact ⟨k + 1, by omega, by go_num, hhd.step a6 s6, hst.trans ((K.drew (K.refl wr)).thenStep s6), (s6.kept _ (lt_of_cell z0) hn4).trans hBr, (s6.kept _ (lt_of_cell hrow) hnG4).trans hRr⟩
      case measure => simp [intOf]; omega
    · obtain rfl : k = n := by omega
      have ca := HCA.out r r0 (by omega)
      dsimp only [atN] at z0 z1 z2 z3 z4 z5
      go_wp2_with fail
      refine (ca _).mono ?_
      rintro e w6 ⟨rfl, k6⟩
      go_wp2
      go_ret
      obtain ⟨f1, f2, f3⟩ := HF.out pg3 pg4 r g3 g4
      exact ⟨rfl, pg4, _, ⟨hh.keep k6, f1⟩, Step.thenK hst k6, f2, f3⟩

end Hp
end Go.Proofs.YtlpdgomoepinjaaDoor
