/-
  The walk of package heap's slideLarge: a large block goes to the least pages that it may have.
-/
import Derived.Test.YtlmfojkhfipdnaaGreatDoorH4
namespace Go.Proofs.YtlmfojkhfipdnaaGreatDoor
open Go.RowKit
attribute [local go_sem ↓] Go.wp_at_zero Go.wp_at_succ
namespace Hp
variable {w w' : World} {bh bs bm : Nat} {q : Int} {pg pg' : List (Int × Nat)} {W W' : Int → Int} {L : List Pg}

/-- The entry at another page. -/
def atN (p : Pg) (r : Int) : Pg := { p with n := r }

theorem granted_del : ∀ {L : List Pg}, Srt L → (∀ x ∈ L, 1 ≤ x.span) → ∀ {p : Pg}, p ∈ L → granted (delL L p.n) + p.span = granted L
  | [], _, _, _, hp => by cases hp
  | x :: l, hs, h1, p, hp => by
    obtain ⟨a1, a2⟩ := List.pairwise_cons.1 hs
    have hx := h1 x (by simp)
    have hl : ∀ y ∈ l, 1 ≤ y.span := fun y hy => h1 y (List.mem_cons_of_mem _ hy)
    by_cases e : x.n = p.n
    · have hpx : p = x := by
        rcases List.mem_cons.1 hp with h | h
        · exact h
        · have := a1 p h
          omega
      subst hpx
      have hd : delL (p :: l) p.n = l := by
        have : delL l p.n = l := by
          unfold delL
          rw [List.filter_eq_self]
          intro y hy
          have := a1 y hy
          have hne : y.n ≠ p.n := by omega
          simp [hne]
        unfold delL at this ⊢
        simp [this]
      rw [hd]
      show granted l + p.span = p.span + granted l
      omega
    · have hp' : p ∈ l := by
        rcases List.mem_cons.1 hp with h | h
        · rw [h] at e; exact absurd rfl e
        · exact h
      have ih := granted_del a2 hl hp'
      have hd : delL (x :: l) p.n = x :: delL l p.n := by
        unfold delL
        simp [e]
      rw [hd]
      show x.span + granted (delL l p.n) + p.span = x.span + granted l
      omega

theorem ent_atN {p : Pg} (he : Ent p) (r : Int) : Ent (atN p r) := he

/-- The words behind the slide. -/
def slW (W : Int → Int) (p : Pg) (r : Int) (n : Nat) : Int → Int := Sl.laid (Sl.zr W p.n p.span) (64 * r) (fun i => W (64 * p.n + i)) n

theorem Lay.slide (l : Lay pg W L) {p : Pg} (hp : p ∈ L) {pg3 pg4 : List (Int × Nat)} (g : Sl.Gone pg pg3 p.n p.span) {r : Int} (g4 : Got pg3 pg4 r p.span) {n : Nat} (hn : (n : Int) = p.span * 64) : Lay pg4 (slW W p r n) (insL (atN p r) (delL L p.n)) := by
  have l3 := l.gone hp g
  have hs := (l.ent p hp).span
  refine l3.ins (p := atN p r) (ent_atN (l.ent p hp) r) g4.cov g4.free ?_ ?_ (fun y hy hne => ?_)
  · show slW W p r n (64 * r) = _
    unfold slW Sl.laid
    rw [if_pos (by omega), show (64 * r - 64 * r).toNat = 0 from by omega]
    show W (64 * p.n + ((0 : Nat) : Int)) = markI p
    rw [show (64 * p.n + ((0 : Nat) : Int)) = 64 * p.n from by omega]
    exact l.m p hp
  · show slW W p r n (64 * r + 1) = _
    unfold slW Sl.laid
    rw [if_pos (by omega), show (64 * r + 1 - 64 * r).toNat = 1 from by omega]
    exact l.h p hp
  · have hy1 := (l3.ent y hy).span
    have h2 : y.n + y.span ≤ r ∨ r + p.span ≤ y.n := by
      by_cases h : y.n + y.span ≤ r ∨ r + p.span ≤ y.n
      · exact h
      · exfalso
        by_cases h3 : r ≤ y.n
        · have := l3.has hy 0 (by omega) (by omega)
          rw [g4.free (y.n + 0) (by omega) (by omega)] at this
          cases this
        · have := l3.has hy (r - y.n) (by omega) (by omega)
          rw [g4.free (y.n + (r - y.n)) (by omega) (by omega)] at this
          cases this
    unfold slW Sl.laid
    rw [if_neg (by omega), if_neg (by omega)]
    exact ⟨rfl, rfl⟩

theorem slW_other (l : Lay pg W L) {p : Pg} (hp : p ∈ L) {pg3 pg4 : List (Int × Nat)} (g : Sl.Gone pg pg3 p.n p.span) {r : Int} (g4 : Got pg3 pg4 r p.span) {n : Nat} (hn : (n : Int) = p.span * 64) {y : Pg} (hy : y ∈ L) (hne : y ≠ p) {k i : Int} (hk : k ∈ slotsOf y) (i0 : 0 ≤ i) (i1 : i < roomI y) :
    slW W p r n (addrI y k + i) = W (addrI y k + i) := by
  have l3 := l.gone hp g
  have hy3 : y ∈ delL L p.n := mem_delL.2 ⟨hy, fun e => hne (l.inj hy hp e)⟩
  have h1 := l3.word_off g4.free hy3 hk i0 i1
  have h2 := l.gone_same hp hy hne hk i0 i1
  unfold slW Sl.laid
  rw [if_neg (by omega)]
  exact h2
theorem slW_moved {p : Pg} (he : Ent p) (h2 : p.kind = 2) {r : Int} {n : Nat} (hn : (n : Int) = p.span * 64) {i : Int} (i0 : 0 ≤ i) (i1 : i < roomI p) : slW W p r n (addrI (atN p r) 0 + i) = W (addrI p 0 + i) := by
  have hpl := place_in he (s := 0) (fun h => by omega)
  have e1 : atI p 0 = 2 := by unfold atI; rw [if_pos h2]
  have e2 : addrI (atN p r) 0 = r * 64 + 2 := by
    show r * 64 + atI (atN p r) 0 = _
    have : atI (atN p r) 0 = atI p 0 := rfl
    rw [this, e1]
  have e3 : addrI p 0 = p.n * 64 + 2 := by unfold addrI; rw [e1]
  rw [e2, e3]
  unfold slW Sl.laid
  rw [if_pos (by omega)]
  show W (64 * p.n + ((r * 64 + 2 + i - 64 * r).toNat : Int)) = _
  congr 1
  omega

theorem laid_succ (W : Int → Int) (to : Int) (F : Nat → Int) (k : Nat) : Sl.upd (Sl.laid W to F k) (to + k) (F k) = Sl.laid W to F (k + 1) := by
  funext x
  unfold Sl.upd Sl.laid
  by_cases e : x = to + k
  · rw [if_pos e, if_pos (by omega), show (x - to).toNat = k from by omega]
  · rw [if_neg e]
    by_cases e2 : to ≤ x ∧ x < to + k
    · rw [if_pos e2, if_pos (by omega)]
    · rw [if_neg e2, if_neg (by omega)]

/-- What is so behind Slide of a block to another place. -/
def SlidePost (w : World) (bh bs bm : Nat) (q : Int) (pg : List (Int × Nat)) (W : Int → Int) (L : List Pg) (p : Pg) (s a : Int) (L' : List Pg) (w' : World) : Prop :=
  ∃ pg' W', St w' bh bs bm q pg' W' L' ∧ Sl.Step bs bm pg pg' w w' ∧ SameBut L p s W W' ∧ ∀ i, 0 ≤ i → i < roomI p → W' (a + i) = W (addrI p s + i)

set_option maxRecDepth 100000 in
set_option maxHeartbeats 2000000 in
theorem slideLarge_any (h : St w bh bs bm q pg W L) {p : Pg} (hm : p ∈ L) (h2 : p.kind = 2) :
    Calls Tryz.prog 105 #[hp bh, bkV p 0] w fun e w' => e = .returned (.int .i64 (addrI (atN p (fit p.span 0 (delL L p.n))) 0)) ∧ SlidePost w bh bs bm q pg W L p 0 (addrI (atN p (fit p.span 0 (delL L p.n))) 0) (insL (atN p (fit p.span 0 (delL L p.n))) (delL L p.n)) w' := by
  have he := h.ly.ent p hm
  have hsp := he.span
  have hrg := h.range hm
  have rg0 := hrg.1
  have rg1 := hrg.2
  have sp0 := hsp.1
  have sp1 := hsp.2
  obtain ⟨n, hn⟩ : ∃ n : Nat, (n : Int) = p.span * 64 := ⟨(p.span * 64).toNat, by omega⟩
  obtain ⟨w1, hw1⟩ : ∃ w1, w1 = w.alloc (.cells (cellsB p 0) 129) := ⟨_, rfl⟩
  have k1 : K w w1 := by rw [hw1]; exact (K.refl w).alloc _
  have hB1 : w1.heap[w.heap.size]? = some (.cells (cellsB p 0) 129) := by rw [hw1]; exact World.alloc_heap_new _ _
  have wo := wordsOf_any (h.hw.keep k1) p n hn rg0 rg1 sp0 sp1 (fun i i0 i1 => h.ly.has hm i i0 i1)
  have HN : Hid ((n : Int) = p.span * 64) := hn
  have n0 : (0 : Int) ≤ n := by omega
  have n1 : (n : Int) ≤ 4032 := by omega
  have hrel := h.rel hm
  have rl := fun w2 (kk : K w w2) => Sl.release_ok (h.hw.keep kk).ar p.n p.span hrel
  have hqf : (granted (delL L p.n) + p.span) * 64 ≤ q := by
    have a := granted_del h.ly.srt (fun x hx => (h.ly.ent x hx).span.1) hm
    have b := h.len
    have c := h.hw.ar.full
    omega
  have HST : Aside (∀ w3 pg3, Sl.Gone pg pg3 p.n p.span → Hw w3 bh bs bm q pg3 (Sl.zr W p.n p.span) → St w3 bh bs bm q pg3 (Sl.zr W p.n p.span) (delL L p.n)) := fun w3 pg3 g hw3 => ⟨hw3, h.ly.gone hm g⟩
  have HGR : Aside (∀ w3 pg3, St w3 bh bs bm q pg3 (Sl.zr W p.n p.span) (delL L p.n) → _) := fun w3 pg3 (st : St w3 bh bs bm q pg3 (Sl.zr W p.n p.span) (delL L p.n)) => st.grant p.span sp0 sp1 hqf
  have HF : Aside (∀ pg3 pg4 r, Sl.Gone pg pg3 p.n p.span → Got pg3 pg4 r p.span → Lay pg4 (slW W p r n) (insL (atN p r) (delL L p.n)) ∧ SameBut L p 0 W (slW W p r n) ∧ ∀ i, 0 ≤ i → i < roomI p → slW W p r n (addrI (atN p r) 0 + i) = W (addrI p 0 + i)) := fun pg3 pg4 r g g4 =>
    ⟨h.ly.slide hm g g4 hn, fun y hy k hk hne i i0 i1 => slW_other h.ly hm g g4 hn hy (fun e => by
      subst e
      rcases hne with hne | hne
      · exact hne rfl
      · rcases mem_slots.1 hk with ⟨_, e1⟩ | ⟨e1, _⟩
        · exact hne e1
        · omega) hk i0 i1, fun i i0 i1 => slW_moved he h2 hn i0 i1⟩
  have HOK : Aside (∀ a, Sl.WordOk (W a)) := h.hw.ar.ww
  have ca := fun (r : Int) (r0 : 0 ≤ r) (r1 : r ≤ 1048575) w => addr_any (atN p r) 0 r0 r1 w
  dsimp only [atN, bkV] at ca
  have HCA : Aside _ := ca
  have e3 : ∀ (r k : Int), 0 ≤ r → r ≤ 1048575 → 0 ≤ k → k ≤ 4032 → IntKind.i64.wrap (r * 64 + k) = r * 64 + k := fun r k a b c d => wrap_i64 (by omega) (by omega)
  have e4 : ∀ (r : Int), 0 ≤ r → r ≤ 1048575 → IntKind.i64.wrap (r * 64) = r * 64 := fun r a b => wrap_i64 (by omega) (by omega)
  have hn0 := nf_new h.hw (Nat.le_refl w.heap.size)
  have hnh := h.hw.nfh
  clear hn hrel hqf h2 he hsp hrg ca
  generalize hr : Hp.fit p.span 0 (delL L p.n) = r at *
  clear hr
  obtain ⟨⟨x0, x1, x2, x3, x4, x5, x6⟩, _⟩ := seven hB1
  go_enter Tryz.func105, Tryz.ntmps105
  go_wp2_with fail
  rw [← hw1]
  refine wo.mono ?_
  rintro e w2 ⟨rfl, k2, hR2⟩
  have hsz1 : w.heap.size < w1.heap.size := (Array.getElem?_eq_some_iff.1 hB1).1
  have k12 := k1.trans k2
  have hB2 := k2.block hB1
  have hG2 : w1.heap.size + 1 < w2.heap.size := (Array.getElem?_eq_some_iff.1 hR2).1
  have hnG := nf_new h.hw (show w.heap.size ≤ w1.heap.size + 1 by omega)
  clear x0 x1 x2 x3 x4 x5 x6 hw1 wo
  obtain ⟨⟨x0, x1, x2, x3, x4, x5, x6⟩, _⟩ := seven hB2
  have c2 := (h.hw.keep k12).c0
  have rl2 := rl _ k12.drew
  have hw2d := h.hw.keep k12.drew
  have hwsz : Hid (w.heap.size ≤ w.heap.size) := Nat.le_refl _
  clear rl
  generalize hB : w.heap.size = B at *
  generalize hG : w1.heap.size + 1 = G at *
  go_wp2
  go_region_held3 (fun w' => w'.cell? ⟨bh, 0, none⟩ = some (.pointer (some ⟨bs, 0, none⟩)) ∧ w'.cell? ⟨B, 0, none⟩ = some (.int .i64 p.n) ∧ w'.cell? ⟨B, 5, none⟩ = some (.int .i64 p.span))
    (first | exact ⟨c2, x0, x5⟩ | exact ⟨Step.cell s3 c2 hnh, Step.cell s3 x0 hn0, Step.cell s3 x5 hn0⟩)
    (first | (go_at_call 124; refine rl2.mono ?_; rintro e w3 ⟨rfl, pg3, g3, a3, s3⟩))
  have h3 := HST.out w3 pg3 g3 (hw2d.step a3 s3)
  have h3d := h3.keep (K.drew (K.refl w3))
  have gr := HGR.out w3.drew pg3 h3d
  have hB3 : w3.heap[B]? = some (.cells (cellsB p 0) 129) := (s3.kept _ (Array.getElem?_eq_some_iff.1 hB2).1 hn0).trans hB2
  have hR3 := (s3.kept _ (Array.getElem?_eq_some_iff.1 hR2).1 hnG).trans hR2
  have hn3 : ¬ Sl.foot bs bm pg3 B := fun hf => by
    rcases s3.inn _ hf with h | h
    · exact hn0 h
    · have : B < w2.heap.size := (Array.getElem?_eq_some_iff.1 hB2).1
      have e : w2.drew.heap.size = w2.heap.size := rfl
      omega
  have hnG3 : ¬ Sl.foot bs bm pg3 G := fun hf => by
    rcases s3.inn _ hf with h | h
    · exact hnG h
    · have e : w2.drew.heap.size = w2.heap.size := rfl
      omega
  have hnh3 := h3.hw.nfh
  clear x0 x1 x2 x3 x4 x5 x6
  obtain ⟨⟨x0, x1, x2, x3, x4, x5, x6⟩, xf⟩ := seven hB3
  have c3 := h3.hw.c0
  go_wp2
  go_region_held3 (fun w' => w'.cell? ⟨bh, 0, none⟩ = some (.pointer (some ⟨bs, 0, none⟩)) ∧ w'.cell? ⟨B, 5, none⟩ = some (.int .i64 p.span))
    (first | exact ⟨c3, x5⟩ | exact ⟨Step.cell s4 c3 hnh3, Step.cell s4 x5 hn3⟩ | exact hKS)
    (first | (go_at_call 130; refine gr.mono ?_; rintro e w4 ⟨rfl, pg4, g4, h4, s4⟩
              have hB4 : w4.heap[B]? = some (.cells (cellsB p 0) 129) := (s4.kept _ (Array.getElem?_eq_some_iff.1 hB3).1 hn3).trans hB3
              obtain ⟨⟨y0, y1, y2, y3, y4, y5, y6⟩, yf⟩ := seven hB4
              have hB5 := Sl.heap_setCell_same (i := 0) hB4 (.int .i64 r)
              have hKS : (w4.setCell ⟨B, 0, none⟩ (.int .i64 r)).cell? ⟨bh, 0, none⟩ = some (.pointer (some ⟨bs, 0, none⟩)) ∧ (w4.setCell ⟨B, 0, none⟩ (.int .i64 r)).cell? ⟨B, 5, none⟩ = some (.int .i64 p.span) := ⟨((Kept.refl (fun j => j = B) w4).setCell (p := ⟨B, 0, none⟩) (.int .i64 r) (.inl rfl)).cell (Step.cell s4 c3 hnh3) (fun e => by have e : bh = B := e; have : bh < w.heap.size := lt_of_cell h.hw.c0; omega), (seven (v0 := .int .i64 r) hB5).1.2.2.2.2.2.1⟩))
  have r0 := g4.lo
  have r1 := g4.hi
  have kst := (Kept.refl (fun j => j = B) w4).setCell (p := ⟨B, 0, none⟩) (.int .i64 r) (.inl rfl)
  have hbhB : bh < B := by have : bh < w.heap.size := lt_of_cell h.hw.c0; omega
  have hB0 : B ≠ 0 := by have := lt0 h.hw.tab; omega
  have hBlt2 : B < w2.heap.size := (Array.getElem?_eq_some_iff.1 hB2).1
  have hd1 : w2.drew.heap.size = w2.heap.size := rfl
  have hd3 : w3.drew.heap.size = w3.heap.size := rfl
  have hs3z := s3.size
  have hn4 : ¬ Sl.foot bs bm pg4 B := fun hf => by
    rcases s4.inn _ hf with h | h
    · exact hn3 h
    · omega
  have hnG4 : ¬ Sl.foot bs bm pg4 G := fun hf => by
    rcases s4.inn _ hf with h | h
    · exact hnG3 h
    · omega
  have h5 := h4.kept kst (fun j hj => by subst hj; exact ⟨hn4, by omega, hB0⟩)
  have hR4 := (s4.kept _ (Array.getElem?_eq_some_iff.1 hR3).1 hnG3).trans hR3
  have hR5 := kst.block hR4 (show ¬ G = B by omega)
  have s5 : Sl.Step bs bm pg pg4 w (w4.setCell ⟨B, 0, none⟩ (.int .i64 r)) := Step.thenKept ((k12.drew.thenStep s3).trans ((K.drew (K.refl w3)).thenStep s4)) kst (fun j hj => by subst hj; omega)
  clear kst hKS yf y0 y1 y2 y3 y4 y5 y6 x0 x1 x2 x3 x4 x5 x6 xf
  go_wp2
  generalize hw5 : w4.setCell ⟨B, 0, none⟩ (.int .i64 r) = w5 at *
  clear hw5
  go_loopw [6, 7, 38] (fun _ _ i wr => ∃ k : Nat, k ≤ n ∧ i = .int .i64 (k : Int) ∧ Hw wr bh bs bm q pg4 (Sl.laid (Sl.zr W p.n p.span) (64 * r) (fun i => W (64 * p.n + i)) k) ∧ Sl.Step bs bm pg pg4 w wr ∧ wr.heap[B]? = some (.cells (cellsB (atN p r) 0) 129) ∧ wr.heap[G]? = some (.cells (Sl.rowOf (fun i => W (64 * p.n + i)) n n) 41)) (fun _ _ i _ => n - (intOf i).toNat)
  case atStart => exact ⟨0, Nat.zero_le _, rfl, by rw [Sl.laid_zero]; exact h5, s5, hB5, hR5⟩
  case round =>
    obtain ⟨k, hk, rfl, hh, hst, hBr, hRr⟩ := hrel
    obtain ⟨⟨z0, z1, z2, z3, z4, z5, z6⟩, _⟩ := seven hBr
    by_cases hlt : k < n
    · have cr := hh.c0
      have hhd := hh.keep (K.drew (K.refl wr))
      have ki0 : (0 : Int) ≤ k := by omega
      have ki1 : (k : Int) < n := by omega
      have hrow : wr.cell? ⟨G, k, none⟩ = some (.int .u64 (W (64 * p.n + k))) := by
        have := Sl.row_get (fun i => W (64 * p.n + i)) n n k hlt
        rw [if_pos hlt] at this
        simp only [World.cell?, hRr]
        simpa using this
      have hre : Sl.readE pg4 (r * 64 + k) = 0 := readE_page hh.ar.rng (by
        refine (g4.cov _).2 (.inr ?_)
        have := HN.out
        omega)
      have wr1 := Sl.write_ok hhd.ar (r * 64 + k) (W (64 * p.n + k)) hre (HOK.out _)
      rw [show r * 64 + (k : Int) = 64 * r + k from by omega, laid_succ] at wr1
      rw [show 64 * r + (k : Int) = r * 64 + k from by omega] at wr1
      have e5 := e3 r k r0 (by omega) (by omega) (by omega)
      have e6 := e4 r r0 (by omega)
      have hnh4 := hh.nfh
      dsimp only [atN] at z0
      clear hre
      generalize W (64 * p.n + k) = v at *
      go_wp2
      go_region_held3 (fun w' => w'.cell? ⟨bh, 0, none⟩ = some (.pointer (some ⟨bs, 0, none⟩)) ∧ w'.cell? ⟨B, 0, none⟩ = some (.int .i64 r))
        (first | exact ⟨cr, z0⟩ | exact ⟨Step.cell s6 cr hnh4, Step.cell s6 z0 hn4⟩)
        (first | (go_at_call 53; refine wr1.mono ?_; rintro e w6 ⟨rfl, a6, s6⟩))
      go_wp2
      go_roundw
      case rel => exact ⟨k + 1, by omega, by go_num, hhd.step a6 s6, hst.trans ((K.drew (K.refl wr)).thenStep s6), (s6.kept _ (lt_of_cell z0) hn4).trans hBr, (s6.kept _ (lt_of_cell hrow) hnG4).trans hRr⟩
      case measure => simp [intOf]; omega
    · obtain rfl : k = n := by omega
      have ca := HCA.out r r0 (by omega)
      dsimp only [atN] at z0 z1 z2 z3 z4 z5
      go_wp2_with fail
      refine (ca _).mono ?_
      rintro e w6 ⟨rfl, k6⟩
      go_wp2
      go_ret
      obtain ⟨f1, f2, f3⟩ := HF.out pg3 pg4 r g3 g4
      exact ⟨rfl, pg4, _, ⟨hh.keep k6, f1⟩, Step.thenK hst k6, f2, f3⟩

end Hp
end Go.Proofs.YtlmfojkhfipdnaaGreatDoor

/-
  Walks of package heap's slideSmall and Slide.
-/
namespace Go.Proofs.YtlmfojkhfipdnaaGreatDoor
open Go.RowKit
attribute [local go_sem ↓] Go.wp_at_zero Go.wp_at_succ
namespace Hp
variable {w w' : World} {bh bs bm : Nat} {q : Int} {pg pg' : List (Int × Nat)} {W W' : Int → Int} {L : List Pg}

theorem Lay.setH (l : Lay pg W L) {p : Pg} (hp : p ∈ L) (h1 : p.kind = 1) {t : Int} (ht : t ≠ 0) (hU : Bt.U t) (hc : Bt.cutI (Cl.sloI p.cls) t = t) :
    Lay pg (hdW W p.n (1 + 256 * p.cls) t) (updL L p.n (withT p t)) := by
  have he := l.ent p hp
  refine l.upd hp rfl rfl ?_ ?_ ?_ (fun r hr hn => ?_)
  · rcases he with ⟨a, b, c, _, _, _, d, e⟩ | ⟨h, _⟩
    · exact .inl ⟨a, b, c, ht, hU, hc, d, e⟩
    · omega
  · show hdW W p.n _ t (64 * p.n) = if p.kind = 1 then _ else _
    rw [if_pos h1]
    unfold hdW Sl.upd
    rw [if_neg (by omega), if_pos rfl]
    rfl
  · show hdW W p.n _ t (64 * p.n + 1) = if p.kind = 1 then _ else _
    rw [if_pos h1]
    unfold hdW Sl.upd
    rw [if_pos rfl]
    rfl
  · unfold hdW Sl.upd
    rw [if_neg (by omega), if_neg (by omega), if_neg (by omega), if_neg (by omega)]
    exact ⟨rfl, rfl⟩

/-- The entry of p behind the taking of a slot of p2. -/
def turnP (p p2 : Pg) (s2 : Int) : Pg := if p.n = p2.n then withT p2 (Bt.setI p2.taken s2) else p
/-- What a slide of a small block makes of the entries. -/
def slideS (L : List Pg) (p : Pg) (s : Int) (p2 : Pg) (s2 : Int) : List Pg := dropL (updL L p2.n (withT p2 (Bt.setI p2.taken s2))) (turnP p p2 s2) s

theorem mem_turn {p2 : Pg} {s2 : Int} {r : Pg} (hr : r ∈ L) : turnP r p2 s2 ∈ updL L p2.n (withT p2 (Bt.setI p2.taken s2)) := List.mem_map.2 ⟨r, hr, by unfold turnP; rfl⟩

/-- Taken slots stay taken; their places too. -/
theorem turn_slot (l : Lay pg W L) {p2 : Pg} (hp2 : p2 ∈ L) (h2 : p2.kind = 1) {s2 : Int} (hs2 : 0 ≤ s2 ∧ s2 < Cl.sloI p2.cls) {r : Pg} (hr : r ∈ L) {k : Int} (hk : k ∈ slotsOf r) :
    k ∈ slotsOf (turnP r p2 s2) ∧ addrI (turnP r p2 s2) k = addrI r k ∧ roomI (turnP r p2 s2) = roomI r := by
  unfold turnP
  by_cases e : r.n = p2.n
  · have := l.inj hr hp2 e
    subst this
    rw [if_pos rfl]
    refine ⟨?_, rfl, rfl⟩
    rcases mem_slots.1 hk with ⟨h3, _⟩ | ⟨h3, h4, h5, h6⟩
    · omega
    · refine mem_slots.2 (.inr ⟨h3, h4, h5, ?_⟩)
      have hr := slo_range r.cls
      show Bt.hasI (Bt.setI r.taken s2) k = true
      rw [has_set (N_of hs2.1 hs2.2 hr.2) (N_of h4 h5 hr.2), h6]
      rfl
  · rw [if_neg e]
    exact ⟨hk, rfl, rfl⟩

theorem span_one {x n : Int} (h0 : 0 ≤ x) (hn0 : 0 < n) (hn1 : n ≤ 64) (hx : x / 64 = (x + n - 1) / 64) (hx1 : x < 67108864) (hb : (Sl.blk pg (x / 64)).isSome = true) : Sl.isSpanB x n = true ∧ Sl.spanIn pg x n = true := by
  refine ⟨by simp [Sl.isSpanB]; omega, ?_⟩
  unfold Sl.spanIn
  rw [if_neg (by omega), ← hx]
  refine Sl.allIn_iff.2 fun i hi => ?_
  obtain rfl : i = 0 := by omega
  simpa using hb

theorem and14 {w' : World} {B D : Nat} {p p2 : Pg} {s s2 : Int} (hD : w'.heap[D]? = some (.cells (cellsB p2 s2) 129)) (hB : w'.heap[B]? = some (.cells (cellsB p s) 129)) :
    w'.cell? ⟨D, 0, none⟩ = some (.int .i64 p2.n) ∧ w'.cell? ⟨D, 1, none⟩ = some (.int .i64 p2.kind) ∧ w'.cell? ⟨D, 2, none⟩ = some (.int .i64 p2.cls) ∧ w'.cell? ⟨D, 3, none⟩ = some (.int .u64 p2.taken) ∧ w'.cell? ⟨D, 4, none⟩ = some (.int .i64 p2.words) ∧ w'.cell? ⟨D, 5, none⟩ = some (.int .i64 p2.span) ∧ w'.cell? ⟨D, 6, none⟩ = some (.int .i64 s2) ∧ w'.cell? ⟨B, 0, none⟩ = some (.int .i64 p.n) ∧ w'.cell? ⟨B, 1, none⟩ = some (.int .i64 p.kind) ∧ w'.cell? ⟨B, 2, none⟩ = some (.int .i64 p.cls) ∧ w'.cell? ⟨B, 3, none⟩ = some (.int .u64 p.taken) ∧ w'.cell? ⟨B, 4, none⟩ = some (.int .i64 p.words) ∧ w'.cell? ⟨B, 5, none⟩ = some (.int .i64 p.span) ∧ w'.cell? ⟨B, 6, none⟩ = some (.int .i64 s) := by
  obtain ⟨⟨y0, y1, y2, y3, y4, y5, y6⟩, _⟩ := seven hD
  obtain ⟨⟨x0, x1, x2, x3, x4, x5, x6⟩, _⟩ := seven hB
  exact ⟨y0, y1, y2, y3, y4, y5, y6, x0, x1, x2, x3, x4, x5, x6⟩

set_option maxRecDepth 100000 in
set_option maxHeartbeats 1000000 in
theorem slideSmall_go (h : St w bh bs bm q pg W L) {p : Pg} (hm : p ∈ L) (h1 : p.kind = 1) {s : Int} (hs : s ∈ slotsOf p) {p2 : Pg} {s2 : Int} (hf : freeB L p.cls = some (p2, s2)) (hlt : addrI p2 s2 ≤ addrI p s) :
    Calls Tryz.prog 106 #[hp bh, bkV p s] w fun e w' => e = .returned (.int .i64 (addrI p2 s2)) ∧ SlidePost w bh bs bm q pg W L p s (addrI p2 s2) (slideS L p s p2 s2) w' := by
  obtain ⟨hm2, hk2, hc2, s20, s21, hfr⟩ := freeB_some hf
  have he := h.ly.ent p hm
  have he2 := h.ly.ent p2 hm2
  have hsm := he.small h1
  have hsm2 := he2.small hk2
  have hrg := h.range hm
  have hrg2 := h.range hm2
  have hs0 := slot_ok hs h1
  have hs2r : 0 ≤ s2 ∧ s2 < Cl.sloI p2.cls := ⟨s20, by rw [hc2]; exact s21⟩
  have hr2 := slo_range p2.cls
  have hN2 := N_of hs2r.1 hs2r.2 hr2.2
  have hroom : roomI p = Cl.sizI p.cls := by unfold roomI; rw [if_neg (by omega)]
  have hroom2 : roomI p2 = Cl.sizI p.cls := by unfold roomI; rw [if_neg (by omega), hc2]
  have hpl := place_in he (s := s) (fun _ => hs0)
  have hpl2 := place_in he2 (s := s2) (fun _ => hs2r)
  have hsp1 := hsm.2.2.2.2.2.2
  have hsp2 := hsm2.2.2.2.2.2.2
  have hA : addrI p s = p.n * 64 + atI p s := rfl
  have hA2 : addrI p2 s2 = p2.n * 64 + atI p2 s2 := rfl
  -- the other blocks are apart from the free slot
  have hap : ∀ r ∈ L, ∀ k ∈ slotsOf r, ∀ i, 0 ≤ i → i < roomI r → addrI r k + i < addrI p2 s2 ∨ addrI p2 s2 + roomI p2 ≤ addrI r k + i := fun r hr k hk i i0 i1 => by
    have hw := word_page (h.ly.ent r hr) (slot_ok hk) i0 i1
    by_cases e : r = p2
    · subst e
      have hne : k ≠ s2 := by
        rintro rfl
        rcases mem_slots.1 hk with ⟨h3, _⟩ | ⟨_, _, _, h4⟩
        · omega
        · rw [hfr] at h4; cases h4
      have := slots_apart he2 hk2 (slot_ok hk hk2) hs2r hne
      have hA3 : addrI r k = r.n * 64 + atI r k := rfl
      omega
    · have := srt_apart h.ly.srt hr hm2 e
      omega
  have hst : Bt.cutI (Cl.sloI p2.cls) (Bt.setI p2.taken s2) = Bt.setI p2.taken s2 := cut_set hsm2.2.2.2.1 hr2.1 hr2.2 hsm2.2.2.2.2.1 hs2r.1 hs2r.2
  have l1 := h.ly.setH hm2 hk2 (set_ne p2.taken s2) (Bt.setI_U hsm2.2.2.2.1 hN2) hst
  have l2 : Lay pg (Sl.mv (hdW W p2.n (1 + 256 * p2.cls) (Bt.setI p2.taken s2)) (addrI p2 s2) (addrI p s) (roomI p)) (updL L p2.n (withT p2 (Bt.setI p2.taken s2))) := l1.words fun r hr => by
    unfold Sl.mv
    rw [if_neg (by omega), if_neg (by omega)]
    exact ⟨rfl, rfl⟩
  have hmv : Sl.moveE pg (addrI p2 s2) (addrI p s) (roomI p) = 0 := by
    have a := span_one (pg := pg) (x := addrI p2 s2) (n := roomI p) (by omega) (by omega) (by omega) (by omega) (by omega) (by rw [show addrI p2 s2 / 64 = p2.n from by omega]; exact h.ly.has0 hm2)
    have b := span_one (pg := pg) (x := addrI p s) (n := roomI p) (by omega) (by omega) (by omega) (by omega) (by omega) (by rw [show addrI p s / 64 = p.n from by omega]; exact h.ly.has0 hm)
    unfold Sl.moveE
    rw [if_pos ⟨a.1, b.1⟩, if_pos ⟨a.2, b.2⟩]
  have hsT := turn_slot h.ly hm2 hk2 hs2r hm hs
  have hkT : (turnP p p2 s2).kind = 1 := by unfold turnP; split <;> assumption
  -- the entry that is left is the same page, with another set at most
  have hTp : ∃ t, turnP p p2 s2 = withT p t := by
    unfold turnP
    split
    · rename_i e
      have := h.ly.inj hm hm2 e
      subst this
      exact ⟨_, rfl⟩
    · exact ⟨p.taken, rfl⟩
  obtain ⟨tT, hTp⟩ := hTp
  have hTT : withT (turnP p p2 s2) p.taken = p := by rw [hTp]; rfl
  have lv : ∀ w4 W4, St w4 bh bs bm q pg W4 (updL L p2.n (withT p2 (Bt.setI p2.taken s2))) → Calls Tryz.prog 125 #[hp bh, bkV p s] w4 fun e w' => e = .returned (.tuple #[]) ∧ FreePost w4 bh bs bm q pg W4 (updL L p2.n (withT p2 (Bt.setI p2.taken s2))) (turnP p p2 s2) s w' := fun w4 W4 st => by
    have := leave_any st (mem_turn hm) hkT hsT.1 p.taken
    rw [hTT] at this
    exact this
  have hin2 : s2 ∈ slotsOf (withT p2 (Bt.setI p2.taken s2)) := mem_slots.2 (.inr ⟨hk2, hs2r.1, hs2r.2, by
    show Bt.hasI (Bt.setI p2.taken s2) s2 = true
    rw [has_set hN2 hN2]
    simp⟩)
  have hne2 : ¬ (p2.n = p.n ∧ s2 = s) := fun ⟨e1, e2⟩ => by
    have := h.ly.inj hm2 hm e1
    subst this
    subst e2
    rcases mem_slots.1 hs with ⟨h3, _⟩ | ⟨_, _, _, h4⟩
    · omega
    · rw [hfr] at h4; cases h4
  have HP : Aside (∀ W5, SameBut (updL L p2.n (withT p2 (Bt.setI p2.taken s2))) (turnP p p2 s2) s (Sl.mv (hdW W p2.n (1 + 256 * p2.cls) (Bt.setI p2.taken s2)) (addrI p2 s2) (addrI p s) (roomI p)) W5 → SameBut L p s W W5 ∧ ∀ i, 0 ≤ i → i < roomI p → W5 (addrI p2 s2 + i) = W (addrI p s + i)) := fun W5 hsb => by
    refine ⟨fun r hr k hk hne i i0 i1 => ?_, fun i i0 i1 => ?_⟩
    · obtain ⟨t1, t2, t3⟩ := turn_slot h.ly hm2 hk2 hs2r hr hk
      have := hsb _ (mem_turn hr) k t1 (by
        by_cases e : k = s
        · left
          intro e2
          rcases hne with hne | hne
          · apply hne
            refine h.ly.inj hr hm ?_
            have a1 : (turnP r p2 s2).n = r.n := by unfold turnP; split <;> rename_i e3 <;> first | exact e3.symm | rfl
            have a2 : (turnP p p2 s2).n = p.n := by unfold turnP; split <;> rename_i e3 <;> first | exact e3.symm | rfl
            rw [← a1, e2, a2]
          · exact hne e
        · exact .inr e) i i0 (by rw [t3]; exact i1)
      rw [t2] at this
      rw [this]
      have hx := hap r hr k hk i i0 i1
      have hw := word_page (h.ly.ent r hr) (slot_ok hk) i0 i1
      unfold Sl.mv
      rw [if_neg (by omega)]
      unfold hdW Sl.upd
      have hn1 : addrI r k + i ≠ 64 * p2.n + 1 ∧ addrI r k + i ≠ 64 * p2.n := by
        by_cases e : r = p2
        · subst e; omega
        · have := srt_apart h.ly.srt hr hm2 e
          omega
      rw [if_neg hn1.1, if_neg hn1.2]
    · have := hsb (withT p2 (Bt.setI p2.taken s2)) (List.mem_map.2 ⟨p2, hm2, by rw [if_pos rfl]⟩) s2 hin2 (by
        by_cases e : s2 = s
        · left
          intro e2
          apply hne2
          refine ⟨?_, e⟩
          have a2 : (turnP p p2 s2).n = p.n := by unfold turnP; split <;> rename_i e3 <;> first | exact e3.symm | rfl
          rw [← a2, ← e2]
          rfl
        · exact .inr e) i i0 (show i < roomI p2 by omega)
      have e0 : addrI (withT p2 (Bt.setI p2.taken s2)) s2 = addrI p2 s2 := rfl
      rw [e0] at this
      rw [this]
      unfold Sl.mv
      rw [if_pos (by omega), show addrI p2 s2 + i - addrI p2 s2 + addrI p s = addrI p s + i from by omega]
      have hw := word_page he (fun _ => hs0) i0 i1
      have hn1 : addrI p s + i ≠ 64 * p2.n + 1 ∧ addrI p s + i ≠ 64 * p2.n := by
        by_cases e : p = p2
        · subst e; omega
        · have := srt_apart h.ly.srt hm hm2 e
          omega
      unfold hdW Sl.upd
      rw [if_neg hn1.1, if_neg hn1.2]
  have lf := fun w1 (k : K w w1) => leastFree_any (h.hw.keep k) p.cls
  rw [h.heads, hf] at lf
  have tk := fun w2 (kk : K w w2) => take_any (h.hw.keep kk) p2 s2 hrg2.1 (by omega) (h.ly.has0 hm2) hsm2.1 hsm2.2.1 hsm2.2.2.2.1 hN2
  have ca := fun w => addr_any p s hrg.1 (by omega) w
  have ca2 := fun w => addr_any p2 s2 hrg2.1 (by omega) w
  have cr := fun w => room_any p s w
  have mvk := fun w4 (hw4 : Hw w4 bh bs bm q pg (hdW W p2.n (1 + 256 * p2.cls) (Bt.setI p2.taken s2))) => Sl.move_ok hw4.ar (addrI p2 s2) (addrI p s) (roomI p) hmv
  have HL2 : Aside _ := l2
  have hng : (decide (addrI p s < addrI p2 s2)) = false := by simp; omega
  clear l1 l2 hmv hsT hkT hTp hTT hin2 hne2 hap hst hA hA2 hroom hroom2 hsp1 hsp2 hc2 hk2 h1 hsm hsm2 hf hfr
  generalize hAe : addrI p s = A at *
  generalize addrI p2 s2 = A2 at *
  generalize hRe : roomI p = R at *
  have HAE : Hid _ := hAe
  have HRE : Hid _ := hRe
  clear hAe hRe
  obtain ⟨w1, hw1⟩ : ∃ w1, w1 = w.alloc (.cells (cellsB p s) 129) := ⟨_, rfl⟩
  have k1 : K w w1 := by rw [hw1]; exact (K.refl w).alloc _
  have hB1 : w1.heap[w.heap.size]? = some (.cells (cellsB p s) 129) := by rw [hw1]; exact World.alloc_heap_new _ _
  have hn0 := nf_new h.hw (Nat.le_refl w.heap.size)
  obtain ⟨⟨x0, x1, x2, x3, x4, x5, x6⟩, _⟩ := seven hB1
  go_enter Tryz.func106, Tryz.ntmps106
  go_wp2_with fail
  rw [← hw1]
  refine (lf _ k1).mono ?_
  rintro e w2 ⟨rfl, k2⟩
  dsimp only [lfV]
  obtain ⟨w3, hw3⟩ : ∃ w3, w3 = w2.alloc (.cells (cellsB p2 s2) 129) := ⟨_, rfl⟩
  have k3 : K w2 w3 := by rw [hw3]; exact (K.refl w2).alloc _
  have hD3 : w3.heap[w2.heap.size]? = some (.cells (cellsB p2 s2) 129) := by rw [hw3]; exact World.alloc_heap_new _ _
  have hB3 := k3.block (k2.block hB1)
  have k13 := (k1.trans k2).trans k3
  have hnD := nf_new h.hw (show w.heap.size ≤ w2.heap.size from (k1.trans k2).size)
  have hsz : w.heap.size < w2.heap.size := (Array.getElem?_eq_some_iff.1 (k2.block hB1)).1
  clear x0 x1 x2 x3 x4 x5 x6
  obtain ⟨⟨x0, x1, x2, x3, x4, x5, x6⟩, _⟩ := seven hB3
  obtain ⟨⟨y0, y1, y2, y3, y4, y5, y6⟩, _⟩ := seven hD3
  go_wp2
  rw [show w2.alloc (.cells #[.int .i64 p2.n, .int .i64 p2.kind, .int .i64 p2.cls, .int .u64 p2.taken, .int .i64 p2.words, .int .i64 p2.span, .int .i64 s2] 129) = w3 from hw3.symm]
  clear hw3 hw1
  generalize hB : w.heap.size = B at *
  generalize hD : w2.heap.size = D at *
  go_region_held3 (fun w' => w'.cell? ⟨D, 0, none⟩ = some (.int .i64 p2.n) ∧ w'.cell? ⟨D, 1, none⟩ = some (.int .i64 p2.kind) ∧ w'.cell? ⟨D, 2, none⟩ = some (.int .i64 p2.cls) ∧ w'.cell? ⟨D, 3, none⟩ = some (.int .u64 p2.taken) ∧ w'.cell? ⟨D, 4, none⟩ = some (.int .i64 p2.words) ∧ w'.cell? ⟨D, 5, none⟩ = some (.int .i64 p2.span) ∧ w'.cell? ⟨D, 6, none⟩ = some (.int .i64 s2) ∧ w'.cell? ⟨B, 0, none⟩ = some (.int .i64 p.n) ∧ w'.cell? ⟨B, 1, none⟩ = some (.int .i64 p.kind) ∧ w'.cell? ⟨B, 2, none⟩ = some (.int .i64 p.cls) ∧ w'.cell? ⟨B, 3, none⟩ = some (.int .u64 p.taken) ∧ w'.cell? ⟨B, 4, none⟩ = some (.int .i64 p.words) ∧ w'.cell? ⟨B, 5, none⟩ = some (.int .i64 p.span) ∧ w'.cell? ⟨B, 6, none⟩ = some (.int .i64 s))
    (first | exact and14 (k6.block (k5.block hD3)) (k6.block (k5.block hB3)) | exact and14 (k5.block hD3) (k5.block hB3) | exact and14 hD3 hB3)
    (first | (have _t := k5; go_at_call 66; refine (ca _).mono ?_; rintro e w6 ⟨rfl, k6⟩) | (go_at_call 66; refine (ca2 _).mono ?_; rintro e w5 ⟨rfl, k5⟩))
  have k16 := (k13.drew.trans k5).trans k6
  have hD6 := k6.block (k5.block hD3)
  have hB6 := k6.block (k5.block hB3)
  clear x0 x1 x2 x3 x4 x5 x6 y0 y1 y2 y3 y4 y5 y6
  obtain ⟨⟨y0, y1, y2, y3, y4, y5, y6⟩, _⟩ := seven hD6
  go_wp2_with fail
  refine (tk _ k16).mono ?_
  rintro e w7 ⟨rfl, h7, s7⟩
  have hD7 := (s7.kept _ (Array.getElem?_eq_some_iff.1 hD6).1 hnD).trans hD6
  have hB7 := (s7.kept _ (Array.getElem?_eq_some_iff.1 hB6).1 hn0).trans hB6
  have c7 := h7.c0
  have hnh := h7.nfh
  clear y0 y1 y2 y3 y4 y5 y6
  go_wp2
  go_region_held3 (fun w' => w'.cell? ⟨bh, 0, none⟩ = some (.pointer (some ⟨bs, 0, none⟩)) ∧ w'.cell? ⟨D, 0, none⟩ = some (.int .i64 p2.n) ∧ w'.cell? ⟨D, 1, none⟩ = some (.int .i64 p2.kind) ∧ w'.cell? ⟨D, 2, none⟩ = some (.int .i64 p2.cls) ∧ w'.cell? ⟨D, 3, none⟩ = some (.int .u64 p2.taken) ∧ w'.cell? ⟨D, 4, none⟩ = some (.int .i64 p2.words) ∧ w'.cell? ⟨D, 5, none⟩ = some (.int .i64 p2.span) ∧ w'.cell? ⟨D, 6, none⟩ = some (.int .i64 s2) ∧ w'.cell? ⟨B, 0, none⟩ = some (.int .i64 p.n) ∧ w'.cell? ⟨B, 1, none⟩ = some (.int .i64 p.kind) ∧ w'.cell? ⟨B, 2, none⟩ = some (.int .i64 p.cls) ∧ w'.cell? ⟨B, 3, none⟩ = some (.int .u64 p.taken) ∧ w'.cell? ⟨B, 4, none⟩ = some (.int .i64 p.words) ∧ w'.cell? ⟨B, 5, none⟩ = some (.int .i64 p.span) ∧ w'.cell? ⟨B, 6, none⟩ = some (.int .i64 s))
    (first
      | exact ⟨Step.cell s11 (ka.cell (k9.cell (k8.cell c7))) hnh, and14 ((s11.kept _ (Array.getElem?_eq_some_iff.1 (ka.block (k9.block (k8.block hD7)))).1 hnD).trans (ka.block (k9.block (k8.block hD7)))) ((s11.kept _ (Array.getElem?_eq_some_iff.1 (ka.block (k9.block (k8.block hB7)))).1 hn0).trans (ka.block (k9.block (k8.block hB7))))⟩
      | exact ⟨ka.cell (k9.cell (k8.cell c7)), and14 (ka.block (k9.block (k8.block hD7))) (ka.block (k9.block (k8.block hB7)))⟩
      | exact ⟨k9.cell (k8.cell c7), and14 (k9.block (k8.block hD7)) (k9.block (k8.block hB7))⟩
      | exact ⟨k8.cell c7, and14 (k8.block hD7) (k8.block hB7)⟩
      | exact ⟨c7, and14 hD7 hB7⟩)
    (first
      | (have _t := k8; go_at_call 66; refine (ca _).mono ?_; rintro e w9 ⟨rfl, k9⟩)
      | (go_at_call 66; refine (ca2 _).mono ?_; rintro e w8 ⟨rfl, k8⟩)
      | (go_at_call 71; refine (cr _).mono ?_; rintro e wa ⟨rfl, ka⟩)
      | (go_at_call 141; refine (mvk _ ((((h7.keep (K.drew (K.refl w7))).keep k8).keep k9).keep ka)).mono ?_; rintro e w11 ⟨rfl, a11, s11⟩))
  have hD11 : w11.heap[D]? = some (.cells (cellsB p2 s2) 129) := (s11.kept _ (Array.getElem?_eq_some_iff.1 (ka.block (k9.block (k8.block hD7)))).1 hnD).trans (ka.block (k9.block (k8.block hD7)))
  have hB11 : w11.heap[B]? = some (.cells (cellsB p s) 129) := (s11.kept _ (Array.getElem?_eq_some_iff.1 (ka.block (k9.block (k8.block hB7)))).1 hn0).trans (ka.block (k9.block (k8.block hB7)))
  have h11 := ((((h7.keep (K.drew (K.refl w7))).keep k8).keep k9).keep ka).step a11 s11
  have lv2 := lv w11 _ ⟨h11, HL2.out⟩
  obtain ⟨⟨x0, x1, x2, x3, x4, x5, x6⟩, _⟩ := seven hB11
  go_wp2_with fail
  refine lv2.mono ?_
  rintro e w12 ⟨rfl, pg12, W12, h12, s12, sb12⟩
  have hlt11 : D < w11.heap.size := (Array.getElem?_eq_some_iff.1 hD11).1
  have hD12 := (s12.kept _ hlt11 hnD).trans hD11
  clear x0 x1 x2 x3 x4 x5 x6
  obtain ⟨⟨y0, y1, y2, y3, y4, y5, y6⟩, _⟩ := seven hD12
  go_wp2_with fail
  refine (ca2 _).mono ?_
  rintro e w13 ⟨rfl, k13b⟩
  go_wp2
  go_ret
  obtain ⟨q1, q2⟩ := HP.out W12 sb12
  exact ⟨rfl, pg12, W12, h12.keep k13b, Step.thenK ((((k16.thenStep s7).trans ((((K.drew (K.refl w7)).trans k8).trans k9).trans ka |>.thenStep s11))).trans s12) k13b, q1, fun i i0 i1 => by rw [HAE.out]; exact q2 i i0 (by rw [← HRE.out]; exact i1)⟩

set_option maxRecDepth 100000 in
theorem slideSmall_stay (h : St w bh bs bm q pg W L) {p : Pg} (hm : p ∈ L) {s : Int} (hst : freeB L p.cls = none ∨ ∃ p2 s2, freeB L p.cls = some (p2, s2) ∧ addrI p s < addrI p2 s2) :
    Calls Tryz.prog 106 #[hp bh, bkV p s] w fun e w' => e = .returned (.int .i64 (addrI p s)) ∧ K w w' := by
  have hrg := h.range hm
  have hsp := (h.ly.ent p hm).span
  have ca := fun w => addr_any p s hrg.1 (by omega) w
  have lf := fun w1 (k : K w w1) => leastFree_any (h.hw.keep k) p.cls
  rw [h.heads] at lf
  obtain ⟨w1, hw1⟩ : ∃ w1, w1 = w.alloc (.cells (cellsB p s) 129) := ⟨_, rfl⟩
  have k1 : K w w1 := by rw [hw1]; exact (K.refl w).alloc _
  have hB1 : w1.heap[w.heap.size]? = some (.cells (cellsB p s) 129) := by rw [hw1]; exact World.alloc_heap_new _ _
  obtain ⟨⟨x0, x1, x2, x3, x4, x5, x6⟩, _⟩ := seven hB1
  rcases hst with hf | ⟨p2, s2, hf, hlt⟩
  · rw [hf] at lf
    generalize addrI p s = A at *
    clear hf
    go_enter Tryz.func106, Tryz.ntmps106
    go_wp2_with fail
    rw [← hw1]
    refine (lf _ k1).mono ?_
    rintro e w2 ⟨rfl, k2⟩
    dsimp only [lfV]
    obtain ⟨w3, hw3⟩ : ∃ w3, w3 = w2.alloc (.cells zeroB 129) := ⟨_, rfl⟩
    have k3 : K w2 w3 := by rw [hw3]; exact (K.refl w2).alloc _
    have hD3 : w3.heap[w2.heap.size]? = some (.cells zeroB 129) := by rw [hw3]; exact World.alloc_heap_new _ _
    have hB3 := k3.block (k2.block hB1)
    clear x0 x1 x2 x3 x4 x5 x6
    obtain ⟨⟨x0, x1, x2, x3, x4, x5, x6⟩, _⟩ := seven hB3
    go_wp2
    rw [show w2.alloc (.cells zeroB 129) = w3 from hw3.symm]
    clear hw3 hw1
    have hq := fun nq => (seven (show (w3.drewN nq).heap[w.heap.size]? = some (.cells (cellsB p s) 129) from hB3)).1
    have z0 := fun nq => (hq nq).1
    have z1 := fun nq => (hq nq).2.1
    have z2 := fun nq => (hq nq).2.2.1
    have z3 := fun nq => (hq nq).2.2.2.1
    have z4 := fun nq => (hq nq).2.2.2.2.1
    have z5 := fun nq => (hq nq).2.2.2.2.2.1
    have z6 := fun nq => (hq nq).2.2.2.2.2.2
    have k13 := (k1.trans k2).trans k3
    clear hq
    go_quiet (fail)
    go_wp2_with fail
    refine (ca _).mono ?_
    rintro e w4 ⟨rfl, k4⟩
    go_wp2
    go_ret
    exact ⟨rfl, (k13.drewN _).trans k4⟩
  · rw [hf] at lf
    have hm2 := (freeB_some hf).1
    have hrg2 := h.range hm2
    have hsp2 := (h.ly.ent p2 hm2).span
    have ca2 := fun w => addr_any p2 s2 hrg2.1 (by omega) w
    have hng : (decide (addrI p s < addrI p2 s2)) = true := by simp; omega
    generalize addrI p s = A at *
    generalize addrI p2 s2 = A2 at *
    clear hf
    go_enter Tryz.func106, Tryz.ntmps106
    go_wp2_with fail
    rw [← hw1]
    refine (lf _ k1).mono ?_
    rintro e w2 ⟨rfl, k2⟩
    dsimp only [lfV]
    obtain ⟨w3, hw3⟩ : ∃ w3, w3 = w2.alloc (.cells (cellsB p2 s2) 129) := ⟨_, rfl⟩
    have k3 : K w2 w3 := by rw [hw3]; exact (K.refl w2).alloc _
    have hD3 : w3.heap[w2.heap.size]? = some (.cells (cellsB p2 s2) 129) := by rw [hw3]; exact World.alloc_heap_new _ _
    have hB3 := k3.block (k2.block hB1)
    clear x0 x1 x2 x3 x4 x5 x6
    go_wp2
    rw [show w2.alloc (.cells #[.int .i64 p2.n, .int .i64 p2.kind, .int .i64 p2.cls, .int .u64 p2.taken, .int .i64 p2.words, .int .i64 p2.span, .int .i64 s2] 129) = w3 from hw3.symm]
    have k13 := (k1.trans k2).trans k3
    clear hw3 hw1
    generalize hB : w.heap.size = B at *
    generalize hD : w2.heap.size = D at *
    go_region_held3 (fun w' => w'.cell? ⟨D, 0, none⟩ = some (.int .i64 p2.n) ∧ w'.cell? ⟨D, 1, none⟩ = some (.int .i64 p2.kind) ∧ w'.cell? ⟨D, 2, none⟩ = some (.int .i64 p2.cls) ∧ w'.cell? ⟨D, 3, none⟩ = some (.int .u64 p2.taken) ∧ w'.cell? ⟨D, 4, none⟩ = some (.int .i64 p2.words) ∧ w'.cell? ⟨D, 5, none⟩ = some (.int .i64 p2.span) ∧ w'.cell? ⟨D, 6, none⟩ = some (.int .i64 s2) ∧ w'.cell? ⟨B, 0, none⟩ = some (.int .i64 p.n) ∧ w'.cell? ⟨B, 1, none⟩ = some (.int .i64 p.kind) ∧ w'.cell? ⟨B, 2, none⟩ = some (.int .i64 p.cls) ∧ w'.cell? ⟨B, 3, none⟩ = some (.int .u64 p.taken) ∧ w'.cell? ⟨B, 4, none⟩ = some (.int .i64 p.words) ∧ w'.cell? ⟨B, 5, none⟩ = some (.int .i64 p.span) ∧ w'.cell? ⟨B, 6, none⟩ = some (.int .i64 s))
      (first | exact and14 (k6.block (k5.block hD3)) (k6.block (k5.block hB3)) | exact and14 (k5.block hD3) (k5.block hB3) | exact and14 hD3 hB3)
      (first | (have _t := k5; go_at_call 66; refine (ca _).mono ?_; rintro e w6 ⟨rfl, k6⟩) | (go_at_call 66; refine (ca2 _).mono ?_; rintro e w5 ⟨rfl, k5⟩))
    have k16 := (k13.drew.trans k5).trans k6
    have hB6 := k6.block (k5.block hB3)
    obtain ⟨⟨z0, z1, z2, z3, z4, z5, z6⟩, _⟩ := seven hB6
    go_wp2_with fail
    refine (ca _).mono ?_
    rintro e w7 ⟨rfl, k7⟩
    go_wp2
    go_ret
    exact ⟨rfl, k16.trans k7⟩

/-- What Slide answers, and makes of the entries. -/
def slideL (L : List Pg) (a : Int) : Int × Int × List Pg :=
  match findB L a with
  | none => (0, 5, L)
  | some (p, s) =>
    if p.kind = 2 then (addrI (atN p (fit p.span 0 (delL L p.n))) 0, 0, insL (atN p (fit p.span 0 (delL L p.n))) (delL L p.n))
    else match freeB L p.cls with
      | none => (a, 0, L)
      | some (p2, s2) => if a < addrI p2 s2 then (a, 0, L) else (addrI p2 s2, 0, slideS L p s p2 s2)

/-- What is so behind Slide. -/
def SlideAll (w : World) (bh bs bm : Nat) (q : Int) (pg : List (Int × Nat)) (W : Int → Int) (L : List Pg) (a : Int) (w' : World) : Prop :=
  (findB L a = none ∧ K w w') ∨ ∃ p s, findB L a = some (p, s) ∧ ((slideL L a = (a, 0, L) ∧ K w w') ∨ SlidePost w bh bs bm q pg W L p s (slideL L a).1 (slideL L a).2.2 w')

set_option maxRecDepth 100000 in
theorem slide_any (h : St w bh bs bm q pg W L) (a : Int) (ha : In64 a) : Calls Tryz.prog 58 #[hp bh, .int .i64 a] w fun e w' => e = .returned (.tuple #[.int .i64 (slideL L a).1, .int .i64 (slideL L a).2.1]) ∧ SlideAll w bh bs bm q pg W L a w' := by
  have fd := find_any h.hw a ha
  rw [h.heads] at fd
  cases hf : findB L a with
  | none =>
    rw [hf] at fd
    have hsl : slideL L a = (0, 5, L) := by unfold slideL; rw [hf]
    unfold SlideAll
    rw [hsl, hf]
    go_enter Tryz.func58, Tryz.ntmps58
    go_wp2_with fail
    refine fd.mono ?_
    rintro e w1 ⟨rfl, k1⟩
    dsimp only [fdV]
    go_wp2
    go_ret2
    exact ⟨rfl, .inl ⟨trivial, k1.alloc _⟩⟩
  | some ps =>
    obtain ⟨p, s⟩ := ps
    rw [hf] at fd
    obtain ⟨hm, hs, haa⟩ := findB_some hf
    rcases (h.ly.ent p hm).kind with hk | hk
    · have key : ∀ w1, K w w1 → Calls Tryz.prog 106 #[hp bh, bkV p s] w1 fun e w' => e = .returned (.int .i64 (slideL L a).1) ∧ SlideAll w bh bs bm q pg W L a w' := fun w1 k1 => by
        have hk2 : ¬ p.kind = 2 := by omega
        cases hfb : freeB L p.cls with
        | none =>
          have hsl : slideL L a = (a, 0, L) := by unfold slideL; rw [hf]; simp only [hk2, if_false, hfb]
          refine (slideSmall_stay (h.keep k1) hm (s := s) (.inl hfb)).mono ?_
          rintro e w2 ⟨rfl, k2⟩
          rw [hsl]
          exact ⟨by rw [haa], .inr ⟨p, s, hf, .inl ⟨hsl, k1.trans k2⟩⟩⟩
        | some p2s =>
          obtain ⟨p2, s2⟩ := p2s
          by_cases hlt : a < addrI p2 s2
          · have hsl : slideL L a = (a, 0, L) := by unfold slideL; rw [hf]; simp only [hk2, if_false, hfb]; rw [if_pos hlt]
            refine (slideSmall_stay (h.keep k1) hm (s := s) (.inr ⟨p2, s2, hfb, by rw [haa]; exact hlt⟩)).mono ?_
            rintro e w2 ⟨rfl, k2⟩
            rw [hsl]
            exact ⟨by rw [haa], .inr ⟨p, s, hf, .inl ⟨hsl, k1.trans k2⟩⟩⟩
          · have hsl : slideL L a = (addrI p2 s2, 0, slideS L p s p2 s2) := by unfold slideL; rw [hf]; simp only [hk2, if_false, hfb]; rw [if_neg hlt]
            refine (slideSmall_go (h.keep k1) hm hk hs hfb (by rw [haa]; omega)).mono ?_
            rintro e w2 ⟨rfl, pg2, W2, h2, s2', sb, mv⟩
            rw [hsl]
            refine ⟨rfl, .inr ⟨p, s, hf, .inr ?_⟩⟩
            rw [hsl]
            exact ⟨pg2, W2, h2, k1.thenStep s2', sb, mv⟩
      have hsl2 : (slideL L a).2.1 = 0 := by
        unfold slideL
        rw [hf]
        dsimp only
        rw [if_neg (by omega)]
        cases freeB L p.cls with
        | none => rfl
        | some p2s => dsimp only; split <;> rfl
      have hk2 : (p.kind == 2) = false := by rw [hk]; decide
      rw [hsl2]
      generalize (slideL L a).1 = ra at *
      clear hsl2 hk hf haa
      go_enter Tryz.func58, Tryz.ntmps58
      go_wp2_with fail
      refine fd.mono ?_
      rintro e w1 ⟨rfl, k1⟩
      dsimp only [fdV]
      go_wp2_with fail
      refine (key _ (k1.alloc _)).mono ?_
      rintro e w2 ⟨rfl, sa⟩
      go_wp2
      go_ret2
      exact ⟨rfl, sa⟩
    · have hs0 : s = 0 := by
        rcases mem_slots.1 hs with ⟨_, e⟩ | ⟨e, _⟩
        · exact e
        · omega
      subst hs0
      have hsl : slideL L a = (addrI (atN p (fit p.span 0 (delL L p.n))) 0, 0, insL (atN p (fit p.span 0 (delL L p.n))) (delL L p.n)) := by unfold slideL; rw [hf]; simp only [hk, if_true]
      have key : ∀ w1, K w w1 → Calls Tryz.prog 105 #[hp bh, bkV p 0] w1 fun e w' => e = .returned (.int .i64 (slideL L a).1) ∧ SlideAll w bh bs bm q pg W L a w' := fun w1 k1 => by
        refine (slideLarge_any (h.keep k1) hm hk).mono ?_
        rintro e w2 ⟨rfl, pg2, W2, h2, s2', sb, mv⟩
        rw [hsl]
        refine ⟨rfl, .inr ⟨p, 0, hf, .inr ?_⟩⟩
        rw [hsl]
        exact ⟨pg2, W2, h2, k1.thenStep s2', sb, mv⟩
      have hsl2 : (slideL L a).2.1 = 0 := by rw [hsl]
      have hk2 : (p.kind == 2) = true := by rw [hk]; decide
      rw [hsl2]
      clear hsl
      generalize (slideL L a).1 = ra at *
      clear hsl2 hk hf haa
      go_enter Tryz.func58, Tryz.ntmps58
      go_wp2_with fail
      refine fd.mono ?_
      rintro e w1 ⟨rfl, k1⟩
      dsimp only [fdV]
      go_wp2_with fail
      refine (key _ (k1.alloc _)).mono ?_
      rintro e w2 ⟨rfl, sa⟩
      go_wp2
      go_ret2
      exact ⟨rfl, sa⟩

end Hp
end Go.Proofs.YtlmfojkhfipdnaaGreatDoor

/-
  Walks of package heap's New, and of the statements' fixed example.
-/
namespace Go.Proofs.YtlmfojkhfipdnaaGreatDoor
open Go.RowKit
attribute [local go_sem ↓] Go.wp_at_zero Go.wp_at_succ
namespace Hp
variable {w w' : World} {bh bs bm : Nat} {q : Int} {pg pg' : List (Int × Nat)} {W W' : Int → Int} {L : List Pg}

theorem new_any (ha : Sl.Arena w bs bm q pg W) (hT : Bt.Tab w) (h0 : ¬ Sl.foot bs bm pg 0) :
    Calls Tryz.prog 42 #[.pointer (some ⟨bs, 0, none⟩)] w fun e w' => (audI (heads pg W) = 0 → e = .returned (.tuple #[hp w.heap.size, .int .i64 0])) ∧ (audI (heads pg W) ≠ 0 → e = .returned (.tuple #[.pointer none, .int .i64 8])) ∧ Hw w' w.heap.size bs bm q pg W ∧ K w w' := by
  have k1 : K w (w.alloc (.cells #[.pointer (some ⟨bs, 0, none⟩)] 162)) := (K.refl w).alloc _
  have h1 : Hw (w.alloc (.cells #[.pointer (some ⟨bs, 0, none⟩)] 162)) w.heap.size bs bm q pg W :=
    ⟨ha.stays fun j hj => k1.same j (ha.foot_lt hj) (fun x => x), World.alloc_heap_new _ _, hT.keep k1.toBt, h0, fun hf => by have := ha.foot_lt hf; omega⟩
  have rd := Sl.read_any ha 0
  have re : Sl.readE pg 0 = 0 ∨ Sl.readE pg 0 = 5 := by
    unfold Sl.readE
    rw [if_pos (by decide)]
    split
    · exact .inl rfl
    · exact .inr rfl
  have re1 : (Sl.readE pg 0 == 1) = false := by rcases re with e | e <;> rw [e] <;> decide
  have au := audit_any h1
  clear re
  generalize Sl.readE pg 0 = er at *
  generalize Sl.readV pg W 0 = v at *
  have hcs : audI (heads pg W) = 0 ∨ audI (heads pg W) = 8 := by
    unfold audI
    split
    · exact .inr rfl
    · exact .inl rfl
  rcases hcs with hc | hc
  · rw [hc] at au ⊢
    go_enter Tryz.func42, Tryz.ntmps42
    go_wp2_with (first | (go_at_call 74; refine rd.mono ?_; rintro e w' ⟨rfl, rfl⟩) | (go_at_call 27; refine au.mono ?_; rintro e w2 ⟨rfl, k2⟩))
    go_ret2
    exact ⟨fun _ => rfl, fun h => absurd rfl h, h1.keep k2, k1.trans k2⟩
  · rw [hc] at au ⊢
    go_enter Tryz.func42, Tryz.ntmps42
    go_wp2_with (first | (go_at_call 74; refine rd.mono ?_; rintro e w' ⟨rfl, rfl⟩) | (go_at_call 27; refine au.mono ?_; rintro e w2 ⟨rfl, k2⟩))
    go_ret2
    exact ⟨fun h => (by cases h), fun _ => rfl, h1.keep k2, k1.trans k2⟩

/-- A heap that was made since w0: nothing that was there has turned. -/
structure Rn (w0 w : World) (bh bs bm : Nat) (q : Int) (pg : List (Int × Nat)) (W : Int → Int) (L : List Pg) : Prop where
  st : St w bh bs bm q pg W L
  k : K w0 w
  lo : ∀ k, Sl.foot bs bm pg k → w0.heap.size ≤ k

theorem Rn.keep {w0 : World} (h : Rn w0 w bh bs bm q pg W L) (k : K w w') : Rn w0 w' bh bs bm q pg W L := ⟨h.st.keep k, h.k.trans k, h.lo⟩
theorem Rn.step {w0 : World} {L' : List Pg} (h : Rn w0 w bh bs bm q pg W L) (s : St w' bh bs bm q pg' W' L') (t : Sl.Step bs bm pg pg' w w') : Rn w0 w' bh bs bm q pg' W' L' :=
  ⟨s, ⟨t.os.trans h.k.os, t.tape.trans h.k.tape, t.output.trans h.k.output, Nat.le_trans h.k.size t.size, fun j hj hn => (t.kept j (Nat.lt_of_lt_of_le hj h.k.size) (fun hf => by have := h.lo j hf; omega)).trans (h.k.same j hj hn)⟩, fun j hj => by
    rcases t.inn j hj with h2 | h2
    · exact h.lo j h2
    · exact Nat.le_trans h.k.size h2⟩

theorem aw1 : allocL 640 [] 2 = (2, 0, [⟨0, 1, 0, 1, 0, 1⟩]) := by decide +kernel
/-- A call's word on the entries, at their values. -/
theorem Rn.alloc {w0 : World} (h : Rn w0 w bh bs bm q pg W L) (x a er : Int) (L' : List Pg) (e : allocL q L x = (a, er, L')) : Calls Tryz.prog 49 #[hp bh, .int .i64 x] w fun e w' => e = .returned (.tuple #[.int .i64 a, .int .i64 er]) ∧ ∃ pg' W', Rn w0 w' bh bs bm q pg' W' L' := by
  have := alloc_any h.st x
  rw [e] at this
  refine this.mono ?_
  rintro e w1 ⟨rfl, pg1, W1, s1, t1, _, _⟩
  exact ⟨rfl, pg1, W1, h.step s1 t1⟩
theorem Rn.free {w0 : World} (h : Rn w0 w bh bs bm q pg W L) (a : Int) (ha : In64 a) (p : Pg) (s : Int) (L' : List Pg) (e : findB L a = some (p, s)) (e2 : dropL L p s = L') : Calls Tryz.prog 86 #[hp bh, .int .i64 a] w fun e w' => e = .returned (.int .i64 0) ∧ ∃ pg' W', Rn w0 w' bh bs bm q pg' W' L' := by
  have hfr : (freeL L a).1 = 0 := by unfold freeL; rw [e]
  have := free_any h.st a ha
  rw [hfr] at this
  refine this.mono ?_
  rintro e3 w1 ⟨rfl, (⟨h1, _⟩ | ⟨p', s', h1, pg1, W1, s1, t1, _⟩)⟩
  · rw [e] at h1; cases h1
  · rw [e] at h1
    obtain ⟨rfl, rfl⟩ := Prod.mk.inj (Option.some.inj h1)
    rw [e2] at s1
    exact ⟨rfl, pg1, W1, h.step s1 t1⟩
theorem Rn.slide {w0 : World} (h : Rn w0 w bh bs bm q pg W L) (a : Int) (ha : In64 a) (b er : Int) (L' : List Pg) (e : slideL L a = (b, er, L')) : Calls Tryz.prog 58 #[hp bh, .int .i64 a] w fun e w' => e = .returned (.tuple #[.int .i64 b, .int .i64 er]) ∧ ∃ pg' W', Rn w0 w' bh bs bm q pg' W' L' := by
  have := slide_any h.st a ha
  rw [e] at this
  refine this.mono ?_
  rintro e3 w1 ⟨rfl, (⟨h1, k1⟩ | ⟨p', s', h1, (⟨h2, k1⟩ | ⟨pg1, W1, s1, t1, _⟩)⟩)⟩
  · have e4 : slideL L a = (0, 5, L) := by unfold slideL; rw [h1]
    rw [e] at e4
    obtain ⟨_, e5⟩ := Prod.mk.inj e4
    obtain ⟨_, e6⟩ := Prod.mk.inj e5
    subst e6
    exact ⟨rfl, pg, W, h.keep k1⟩
  · rw [e] at h2
    obtain ⟨_, e5⟩ := Prod.mk.inj h2
    obtain ⟨_, e6⟩ := Prod.mk.inj e5
    subst e6
    exact ⟨rfl, pg, W, h.keep k1⟩
  · rw [e] at s1
    exact ⟨rfl, pg1, W1, h.step s1 t1⟩

end Hp
end Go.Proofs.YtlmfojkhfipdnaaGreatDoor
