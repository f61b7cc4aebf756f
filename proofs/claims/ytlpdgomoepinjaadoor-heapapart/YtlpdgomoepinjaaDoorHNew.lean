/-
  Walks of package heap's allocSmall on a new page, allocLarge and Alloc.
-/
import Derived.Test.YtlpdgomoepinjaaDoorHAlloc
namespace Go.Proofs.YtlpdgomoepinjaaDoor
open Go.RowKit
attribute [local go_sem ↓] Go.wp_at_zero Go.wp_at_succ
namespace Hp
variable {w w' : World} {bh bs bm : Nat} {q : Int} {pg pg' : List (Int × Nat)} {W W' : Int → Int} {L : List Pg}

/-- Pages have come. -/
structure Got (pg pg' : List (Int × Nat)) (r m : Int) : Prop where
  lo : 0 ≤ r
  hi : r + m ≤ 1048576
  cov : ∀ k, (Sl.blk pg' k).isSome = true ↔ (Sl.blk pg k).isSome = true ∨ (r ≤ k ∧ k < r + m)
  free : ∀ k, r ≤ k → k < r + m → Sl.blk pg k = none

theorem St.grant (h : St w bh bs bm q pg W L) (m : Int) (h0 : 1 ≤ m) (h1 : m ≤ 63) (hq : (granted L + m) * 64 ≤ q) :
    Calls Tryd.prog 30 #[.pointer (some ⟨bs, 0, none⟩), .int .i64 m] w fun e w' => e = .returned (.tuple #[.int .i64 (fit m 0 L), .int .i64 0]) ∧ ∃ pg', Got pg pg' (fit m 0 L) m ∧ Hw w' bh bs bm q pg' W ∧ Sl.Step bs bm pg pg' w w' := by
  have hlen := h.len
  have hl := h.hw.ar.len
  have hc : Sl.isCountB m = true := by simp [Sl.isCountB]; omega
  have he : Sl.grantE q pg m = 0 := by
    unfold Sl.grantE
    rw [hc, hlen, if_neg (by decide), if_pos hq]
  refine (Sl.grant_ok h.hw.ar m he).mono ?_
  rintro e w1 (⟨r, rfl, hle, pg1, hadd, ha, hs⟩ | ⟨_, hno, _⟩)
  · have e1 := h.ly.fit h.hw.ar.rng h0 hle
    subst e1
    refine ⟨rfl, pg1, ⟨hle.lo, hle.hi, fun k => ?_, fun k k1 k2 => hle.run k k1 k2⟩, h.hw.step ha hs, hs⟩
    by_cases hk : Hp.fit m 0 L ≤ k ∧ k < Hp.fit m 0 L + m
    · exact ⟨fun _ => .inr hk, fun _ => hadd.new k hk.1 hk.2⟩
    · rw [hadd.old k (by omega)]
      exact ⟨fun x => .inl x, fun x => x.elim (fun y => y) (fun y => absurd y hk)⟩
  · refine absurd hno (Sl.not_nowhere h0 ?_)
    have : m * ((pg.length : Int) + 1) ≤ 63 * ((pg.length : Int) + 1) := Int.mul_le_mul_of_nonneg_right h1 (by omega)
    omega

theorem St.grant_no (h : St w bh bs bm q pg W L) (m : Int) (h0 : 1 ≤ m) (h1 : m ≤ 63) (hq : ¬ (granted L + m) * 64 ≤ q) :
    Calls Tryd.prog 30 #[.pointer (some ⟨bs, 0, none⟩), .int .i64 m] w fun e w' => e = .returned (.tuple #[.int .i64 0, .int .i64 3]) ∧ K w w' := by
  have hlen := h.len
  have hc : Sl.isCountB m = true := by simp [Sl.isCountB]; omega
  have he : Sl.grantE q pg m = 3 := by
    unfold Sl.grantE
    rw [hc, hlen, if_neg (by decide), if_neg hq]
  have := Sl.grant_no h.hw.ar m (by rw [he]; decide)
  rw [he] at this
  refine this.mono ?_
  rintro e w1 ⟨rfl, k, rfl⟩
  exact ⟨rfl, (K.refl w).drewN k⟩

theorem Step.thenKept {O : Nat → Prop} {w1 w2 : World} (s : Sl.Step bs bm pg pg' w w1) (k : Kept O w1 w2) (hO : ∀ j, O j → w.heap.size ≤ j) : Sl.Step bs bm pg pg' w w2 :=
  ⟨k.os.trans s.os, k.tape.trans s.tape, k.output.trans s.output, Nat.le_trans s.size k.size, fun j hj hf => (k.same j (Nat.lt_of_lt_of_le hj s.size) (fun o => by have := hO j o; omega)).trans (s.kept j hj hf), s.inn⟩

/-- A page of small places comes. -/
theorem Lay.newS (l : Lay pg W L) {pg' : List (Int × Nat)} {r c : Int} (c0 : 0 ≤ c) (c1 : c ≤ 7) (g : Got pg pg' r 1) :
    Lay pg' (wipeW (hdW W r (1 + 256 * c) 1) (addrI (smallPg r c) 0) (Cl.sizI c)) (insL (smallPg r c) L) := by
  have he := ent_smallPg r c0 c1
  have hpl := place_in he (s := 0) (fun _ => ⟨Int.le_refl _, by have := (Cl.siz_in (errC_in c0 c1)); show 0 < Cl.sloI c; rcases Cl.siz_cases c with ⟨_, _, _, a⟩ | ⟨_, _, _, a⟩ | ⟨_, _, _, a⟩ | ⟨_, _, _, a⟩ | ⟨_, _, _, a⟩ | ⟨_, _, _, a⟩ | ⟨_, _, _, a⟩ | ⟨_, _, _, a⟩ | ⟨a, _, _, _⟩ <;> first | omega | exact absurd ⟨c0, c1⟩ a⟩)
  have hA : 64 * r + 2 ≤ addrI (smallPg r c) 0 ∧ addrI (smallPg r c) 0 + Cl.sizI c ≤ 64 * r + 64 := by
    have e1 : roomI (smallPg r c) = Cl.sizI c := rfl
    have e2 : (smallPg r c).span = 1 := rfl
    have e3 : (smallPg r c).n = r := rfl
    unfold addrI
    rw [e3]
    rw [e1, e2] at hpl
    omega
  refine l.ins he g.cov g.free ?_ ?_ (fun x _ hn => wh_other hA.1 hA.2 hn)
  · exact (wh_self hA.1).1
  · exact (wh_self hA.1).2

theorem slo_pos {c : Int} (c0 : 0 ≤ c) (c1 : c ≤ 7) : 0 < Cl.sloI c := by
  rcases Cl.siz_cases c with ⟨_, _, _, a⟩ | ⟨_, _, _, a⟩ | ⟨_, _, _, a⟩ | ⟨_, _, _, a⟩ | ⟨_, _, _, a⟩ | ⟨_, _, _, a⟩ | ⟨_, _, _, a⟩ | ⟨_, _, _, a⟩ | ⟨a, _, _, _⟩ <;> first | omega | exact absurd ⟨c0, c1⟩ a

/-- Words of blocks are on no page that comes. -/
theorem Lay.word_off (l : Lay pg W L) {r m : Int} (hf : ∀ k, r ≤ k → k < r + m → Sl.blk pg k = none) {p : Pg} (hp : p ∈ L) {s : Int} (hs : s ∈ slotsOf p) {i : Int} (i0 : 0 ≤ i) (i1 : i < roomI p) : addrI p s + i < 64 * r ∨ 64 * (r + m) ≤ addrI p s + i := by
  have hw := word_page (l.ent p hp) (slot_ok hs) i0 i1
  by_cases h : addrI p s + i < 64 * r ∨ 64 * (r + m) ≤ addrI p s + i
  · exact h
  · exfalso
    have h1 := l.has hp ((addrI p s + i) / 64 - p.n) (by omega) (by omega)
    rw [show p.n + ((addrI p s + i) / 64 - p.n) = (addrI p s + i) / 64 from by omega, hf _ (by omega) (by omega)] at h1
    cases h1

set_option maxRecDepth 100000 in
theorem allocSmall_new (h : St w bh bs bm q pg W L) {c : Int} (c0 : 0 ≤ c) (c1 : c ≤ 7) (hf : freeB L c = none) (hq : (granted L + 1) * 64 ≤ q) :
    Calls Tryd.prog 17 #[hp bh, .int .i64 c] w fun e w' => e = .returned (.tuple #[.int .i64 (addrI (smallPg (fit 1 0 L) c) 0), .int .i64 0]) ∧ ∃ pg' W', St w' bh bs bm q pg' W' (insL (smallPg (fit 1 0 L) c) L) ∧ Sl.Step bs bm pg pg' w w' ∧ Same L W W' ∧ ∀ i, 0 ≤ i → i < Cl.sizI c → W' (addrI (smallPg (fit 1 0 L) c) 0 + i) = 0 := by
  have lf := leastFree_any h.hw c
  rw [h.heads, hf] at lf
  have gr := fun w2 (kk : K w w2) => (h.keep kk).grant 1 (by omega) (by omega) hq
  have sp := slo_pos c0 c1
  clear hf hq
  generalize fit 1 0 L = r at *
  go_enter Tryd.func17, Tryd.ntmps17
  go_wp2_with fail
  refine lf.mono ?_
  rintro e w1 ⟨rfl, k1⟩
  dsimp only [lfV]
  obtain ⟨w2, hw2⟩ : ∃ w2, w2 = w1.alloc (.cells zeroB 58) := ⟨_, rfl⟩
  have k2 : K w1 w2 := by rw [hw2]; exact (K.refl w1).alloc _
  have hB2 : w2.heap[w1.heap.size]? = some (.cells zeroB 58) := by rw [hw2]; exact World.alloc_heap_new _ _
  have hn := nf_new (h.hw.keep k1) (Nat.le_refl w1.heap.size)
  have hh2 := h.keep (k1.trans k2)
  have c0' := hh2.hw.c0
  have hb1 := (h.hw.keep k1).c0
  have hltb := lt_of_cell hb1
  go_wp2_with fail
  rw [← hw2]
  refine (gr _ (k1.trans k2)).mono ?_
  rintro e w3 ⟨rfl, pg3, g3, h3, s3⟩
  have hlt2 := (Array.getElem?_eq_some_iff.1 hB2).1
  have hB3 : w3.heap[w1.heap.size]? = some (.cells zeroB 58) := (s3.kept _ hlt2 hn).trans hB2
  have hn3 : ¬ Sl.foot bs bm pg3 w1.heap.size := fun hf => by
    rcases s3.inn _ hf with h | h
    · exact hn h
    · omega
  obtain ⟨⟨x0, x1, x2, x3, x4, x5, x6⟩, xf⟩ := seven hB3
  have k34 := (Kept.refl (fun k => k = w1.heap.size) w3).put7 (b := w1.heap.size) (.inl rfl) (.int .i64 r) (.int .i64 1) (.int .i64 c) (.int .u64 0) (.int .i64 0) (.int .i64 1) (.int .i64 0)
  have hB4 := set7 hB3 (.int .i64 r) (.int .i64 1) (.int .i64 c) (.int .u64 0) (.int .i64 0) (.int .i64 1) (.int .i64 0)
  have hbh : bh ≠ w1.heap.size := by have := lt_of_cell hb1; intro e; omega
  have h04 : w1.heap.size ≠ 0 := by have := lt0 (h.hw.keep k1).tab; omega
  have h4 := h3.kept k34 (fun k hk => by subst hk; exact ⟨hn3, fun e => hbh e.symm, h04⟩)
  have s4 := Step.thenKept ((k1.trans k2).thenStep s3) k34 (fun j hj => by subst hj; exact k1.size)
  have hgr : (Sl.blk pg3 r).isSome = true := (g3.cov r).2 (.inr ⟨Int.le_refl _, by omega⟩)
  have r0 := g3.lo
  have r1 := g3.hi
  have hl4 : Lay pg3 _ _ := h.ly.newS c0 c1 g3
  have HS : Aside (Same L W (wipeW (hdW W r (1 + 256 * c) 1) (addrI (smallPg r c) 0) (Cl.sizI c))) := fun p hp s hs i i0 i1 => by
    have ho := h.ly.word_off g3.free hp hs i0 i1
    have hpl := place_in (ent_smallPg r c0 c1) (s := 0) (fun _ => ⟨Int.le_refl _, sp⟩)
    have e1 : roomI (smallPg r c) = Cl.sizI c := rfl
    have e2 : (smallPg r c).span = 1 := rfl
    have e3 : addrI (smallPg r c) 0 = r * 64 + atI (smallPg r c) 0 := rfl
    rw [e1, e2] at hpl
    exact wh_word (by omega) (by omega) (by omega)
  have HFr : Aside (∀ i, 0 ≤ i → i < Cl.sizI c → wipeW (hdW W r (1 + 256 * c) 1) (addrI (smallPg r c) 0) (Cl.sizI c) (addrI (smallPg r c) 0 + i) = 0) := fun i i0 i1 => fresh_wipe _ _ i0 i1
  have tk := take_any h4 ⟨r, 1, c, 0, 0, 1⟩ 0 r0 (show r ≤ 1048575 by omega) hgr c0 c1 (show Bt.U 0 from ⟨by decide, by decide⟩) ⟨by decide, by decide⟩
  rw [show Bt.setI (⟨r, 1, c, 0, 0, 1⟩ : Pg).taken 0 = 1 from (show Bt.setI 0 0 = 1 by decide)] at tk
  have HL4 : Aside _ := hl4
  clear hw2 hl4 hgr
  go_wp2_with fail
  refine tk.mono ?_
  rintro e w5 ⟨rfl, h5, s5⟩
  have hB5 := (s5.kept _ (Array.getElem?_eq_some_iff.1 hB4).1 hn3).trans hB4
  have HR : ∀ i, 0 ≤ i → i < roomI ⟨r, 1, c, 0, 0, 1⟩ → Sl.readE pg3 (addrI ⟨r, 1, c, 0, 0, 1⟩ 0 + i) = 0 := fun i i0 i1 => St.reads ⟨h5, (HL4.out).words (W' := hdW W r (1 + 256 * c) 1) (fun p hp => by
    have hpl := place_in (ent_smallPg r c0 c1) (s := 0) (fun _ => ⟨Int.le_refl _, sp⟩)
    have e3 : addrI (smallPg r c) 0 = r * 64 + atI (smallPg r c) 0 := rfl
    have e1 : roomI (smallPg r c) = Cl.sizI c := rfl
    have e2 : (smallPg r c).span = 1 := rfl
    rw [e1, e2] at hpl
    unfold wipeW
    rw [if_neg (by omega), if_neg (by omega)]
    exact ⟨rfl, rfl⟩)⟩ (p := smallPg r c) (mem_insL.2 (.inl rfl)) (fun _ => ⟨Int.le_refl _, sp⟩) i0 i1
  have hsz := (Cl.siz_in (errC_in c0 c1))
  have wp := wipe_any h5 ⟨r, 1, c, 0, 0, 1⟩ 0 r0 (show r ≤ 1048575 by omega) (show 0 ≤ Cl.sizI c by omega) (show Cl.sizI c ≤ 5000 by omega) HR
  have ca := fun w => addr_any ⟨r, 1, c, 0, 0, 1⟩ 0 r0 (show r ≤ 1048575 by omega) w
  obtain ⟨⟨y0, y1, y2, y3, y4, y5, y6⟩, _⟩ := seven hB5
  clear hsz HR x0 x1 x2 x3 x4 x5 x6 xf
  go_wp2_with fail
  refine wp.mono ?_
  rintro e w6 ⟨rfl, h6, s6⟩
  have hB6 := (s6.kept _ (Array.getElem?_eq_some_iff.1 hB5).1 hn3).trans hB5
  clear y0 y1 y2 y3 y4 y5 y6
  obtain ⟨⟨y0, y1, y2, y3, y4, y5, y6⟩, _⟩ := seven hB6
  go_wp2_with fail
  refine (ca _).mono ?_
  rintro e w7 ⟨rfl, k7⟩
  go_wp2
  go_ret2
  exact ⟨rfl, pg3, _, ⟨h6.keep k7, HL4.out⟩, Step.thenK ((s4.trans s5).trans s6) k7, HS.out, HFr.out⟩

set_option maxRecDepth 100000 in
theorem allocSmall_no (h : St w bh bs bm q pg W L) {c : Int} (hf : freeB L c = none) (hq : ¬ (granted L + 1) * 64 ≤ q) :
    Calls Tryd.prog 17 #[hp bh, .int .i64 c] w fun e w' => e = .returned (.tuple #[.int .i64 0, .int .i64 3]) ∧ K w w' := by
  have lf := leastFree_any h.hw c
  rw [h.heads, hf] at lf
  have gr := fun w2 (kk : K w w2) => (h.keep kk).grant_no 1 (by omega) (by omega) hq
  clear hf hq
  go_enter Tryd.func17, Tryd.ntmps17
  go_wp2_with fail
  refine lf.mono ?_
  rintro e w1 ⟨rfl, k1⟩
  dsimp only [lfV]
  have hb1 := (h.hw.keep k1).c0
  have hltb := lt_of_cell hb1
  go_wp2_with fail
  refine (gr _ (k1.alloc _)).mono ?_
  rintro e w3 ⟨rfl, k3⟩
  go_wp2
  go_ret2
  exact ⟨rfl, (k1.alloc _).trans k3⟩

/-- A large block comes. -/
theorem Lay.newL (l : Lay pg W L) {pg' : List (Int × Nat)} {r x : Int} (h0 : 1 ≤ x) (h1 : x ≤ 4000) (hs : Cl.smaI x = false) (g : Got pg pg' r (Cl.pagI x)) : Lay pg' (hdW W r (2 + 256 * Cl.pagI x) x) (insL (largePg r x) L) := by
  refine l.ins (ent_largePg r h0 h1 hs) g.cov g.free ?_ ?_ (fun y _ hn => ?_)
  · show hdW W r _ x (64 * r) = 2 + 256 * Cl.pagI x
    unfold hdW Sl.upd
    rw [if_neg (by omega), if_pos rfl]
  · show hdW W r _ x (64 * r + 1) = x
    unfold hdW Sl.upd
    rw [if_pos rfl]
  · have hn : y.n ≠ r := hn
    show hdW W r _ x _ = _ ∧ hdW W r _ x _ = _
    unfold hdW Sl.upd
    rw [if_neg (by omega), if_neg (by omega), if_neg (by omega), if_neg (by omega)]
    exact ⟨rfl, rfl⟩

set_option maxRecDepth 100000 in
theorem allocLarge_ok (h : St w bh bs bm q pg W L) {x : Int} (h0 : 1 ≤ x) (h1 : x ≤ 4000) (hs : Cl.smaI x = false) (hq : (granted L + Cl.pagI x) * 64 ≤ q) :
    Calls Tryd.prog 18 #[hp bh, .int .i64 x] w fun e w' => e = .returned (.tuple #[.int .i64 (addrI (largePg (fit (Cl.pagI x) 0 L) x) 0), .int .i64 0]) ∧ ∃ pg' W', St w' bh bs bm q pg' W' (insL (largePg (fit (Cl.pagI x) 0 L) x) L) ∧ Sl.Step bs bm pg pg' w w' ∧ Same L W W' ∧ ∀ i, 0 ≤ i → i < x → W' (addrI (largePg (fit (Cl.pagI x) 0 L) x) 0 + i) = 0 := by
  have pr := pag_range h0 h1
  have pr0 := pr.1
  have pr1 := pr.2
  have cp := Cl.pages_any x w
  rw [Cl.errW_in ⟨h0, h1⟩] at cp
  have gr := fun w2 (kk : K w w2) => (h.keep kk).grant (Cl.pagI x) pr0 pr1 hq
  have HN : Aside (∀ pg' r, Got pg pg' r (Cl.pagI x) → Lay pg' (hdW W r (2 + 256 * Cl.pagI x) x) (insL (largePg r x) L)) := fun pg' r g => h.ly.newL h0 h1 hs g
  have hpx : Hid (64 * Cl.pagI x ≥ x + 2) := by show 64 * Cl.pagI x ≥ x + 2; rw [Cl.pagI_in ⟨h0, h1⟩]; omega
  have HZ : Aside (∀ pg' r, Got pg pg' r (Cl.pagI x) → Same L W (hdW W r (2 + 256 * Cl.pagI x) x) ∧ ∀ i, 0 ≤ i → i < x → hdW W r (2 + 256 * Cl.pagI x) x (addrI (largePg r x) 0 + i) = 0) := fun pg' r g => by
    refine ⟨fun p hp s hs i i0 i1 => ?_, fun i i0 i1 => ?_⟩
    · have ho := h.ly.word_off g.free hp hs i0 i1
      unfold hdW Sl.upd
      rw [if_neg (by omega), if_neg (by omega)]
    · have e : addrI (largePg r x) 0 = r * 64 + 2 := rfl
      have := hpx.out
      rw [e]
      unfold hdW Sl.upd
      rw [if_neg (by omega), if_neg (by omega)]
      exact h.hw.ar.z _ (g.free _ (by omega) (by omega))
  have ch := fun w => largeHead_any x (Cl.pagI x) (by omega) (by omega) (by omega) (by omega) w
  have ca := fun (r : Int) (r0 : 0 ≤ r) (r1 : r ≤ 1048575) w => addr_any (largePg r x) 0 r0 r1 w
  dsimp only [largePg, bkV] at ca
  have c0 := h.hw.c0
  clear hs hq pr
  generalize hm : Cl.pagI x = m at *
  have Hm : Hid _ := hm
  clear hm
  generalize Hp.fit m 0 L = r at *
  go_enter Tryd.func18, Tryd.ntmps18
  go_wp2_with fail
  refine cp.mono ?_
  rintro e w1 ⟨rfl, k1⟩
  have k1 := K.cl k1
  have hb1 := (h.hw.keep k1).c0
  go_wp2_with fail
  refine (gr _ k1).mono ?_
  rintro e w3 ⟨rfl, pg3, g3, h3, s3⟩
  have r0 := g3.lo
  have r1 := g3.hi
  have hgr : (Sl.blk pg3 r).isSome = true := (g3.cov r).2 (.inr ⟨Int.le_refl _, by omega⟩)
  have st := fun w4 (kk : K w3 w4) => setHead_any (h3.keep kk) r (2 + 256 * m) x r0 (by omega) hgr (ok_of_U ⟨by omega, by omega⟩) (ok_of_U ⟨by omega, by omega⟩)
  go_wp2_with (first | (go_at_call 35; refine (ch _).mono ?_; rintro e w4 ⟨rfl, k4⟩) | (go_at_call 34; refine (st _ k4).mono ?_; rintro e w5 ⟨rfl, h5, s5⟩) | (go_at_call 27; refine (ca r r0 (by omega) _).mono ?_; rintro e w6 ⟨rfl, k6⟩))
  go_ret2
  obtain ⟨hz1, hz2⟩ := HZ.out pg3 r g3
  exact ⟨rfl, pg3, _, ⟨h5.keep k6, HN.out pg3 r g3⟩, Step.thenK (((k1.thenStep s3).trans (k4.thenStep s5))) k6, hz1, hz2⟩

set_option maxRecDepth 100000 in
theorem allocLarge_no (h : St w bh bs bm q pg W L) {x : Int} (h0 : 1 ≤ x) (h1 : x ≤ 4000) (hq : ¬ (granted L + Cl.pagI x) * 64 ≤ q) :
    Calls Tryd.prog 18 #[hp bh, .int .i64 x] w fun e w' => e = .returned (.tuple #[.int .i64 0, .int .i64 3]) ∧ K w w' := by
  have pr := pag_range h0 h1
  have cp := Cl.pages_any x w
  rw [Cl.errW_in ⟨h0, h1⟩] at cp
  have gr := fun w2 (kk : K w w2) => (h.keep kk).grant_no (Cl.pagI x) pr.1 pr.2 hq
  clear hq pr
  generalize Cl.pagI x = m at *
  go_enter Tryd.func18, Tryd.ntmps18
  go_wp2_with fail
  refine cp.mono ?_
  rintro e w1 ⟨rfl, k1⟩
  have k1 := K.cl k1
  have hb1 := (h.hw.keep k1).c0
  go_wp2_with fail
  refine (gr _ k1).mono ?_
  rintro e w3 ⟨rfl, k3⟩
  go_wp2
  go_ret2
  exact ⟨rfl, k1.trans k3⟩

end Hp
end Go.Proofs.YtlpdgomoepinjaaDoor
