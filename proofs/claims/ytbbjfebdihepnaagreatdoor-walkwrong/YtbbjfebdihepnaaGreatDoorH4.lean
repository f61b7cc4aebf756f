/-
  Walks of package heap's allocSmall, allocLarge and Alloc.
-/
import Derived.Test.YtbbjfebdihepnaaGreatDoorH3
import Derived.Test.YtbbjfebdihepnaaGreatDoorS2
namespace Go.Proofs.YtbbjfebdihepnaaGreatDoor
open Go.RowKit
attribute [local go_sem ↓] Go.wp_at_zero Go.wp_at_succ
namespace Hp
variable {w w' : World} {bh bs bm : Nat} {q : Int} {pg pg' : List (Int × Nat)} {W W' : Int → Int} {L : List Pg}

/-- A heap whose pages are the entries L. -/
structure St (w : World) (bh bs bm : Nat) (q : Int) (pg : List (Int × Nat)) (W : Int → Int) (L : List Pg) : Prop where
  hw : Hw w bh bs bm q pg W
  ly : Lay pg W L

theorem St.keep (h : St w bh bs bm q pg W L) (k : K w w') : St w' bh bs bm q pg W L := ⟨h.hw.keep k, h.ly⟩
theorem St.heads (h : St w bh bs bm q pg W L) : heads pg W = L := h.ly.heads h.hw.ar.rise h.hw.ar.rng
theorem St.len (h : St w bh bs bm q pg W L) : (pg.length : Int) = granted L := h.ly.len h.hw.ar.rise
theorem St.range (h : St w bh bs bm q pg W L) {p : Pg} (hp : p ∈ L) : 0 ≤ p.n ∧ p.n + p.span ≤ 1048576 := by
  have hs := (h.ly.ent p hp).span
  have h1 := h.ly.range h.hw.ar.rng hp 0 (by omega) (by omega)
  have h2 := h.ly.range h.hw.ar.rng hp (p.span - 1) (by omega) (by omega)
  omega

theorem readE_page (hr : ∀ p ∈ pg, 0 ≤ p.1 ∧ p.1 ≤ 1048575) {x : Int} (hb : (Sl.blk pg (x / 64)).isSome = true) : Sl.readE pg x = 0 := by
  obtain ⟨y, hy, e⟩ := List.mem_map.1 (mem_keys.2 hb)
  have h1 := hr y hy
  have h2 := readE_in (by omega) (by omega) hb (x % 64) (by omega) (by omega)
  rw [show 64 * (x / 64) + x % 64 = x from by omega] at h2
  exact h2

/-- The words of a block may be read. -/
theorem St.reads (h : St w bh bs bm q pg W L) {p : Pg} (hp : p ∈ L) {s i : Int} (hs : p.kind = 1 → 0 ≤ s ∧ s < Cl.sloI p.cls) (i0 : 0 ≤ i) (i1 : i < roomI p) : Sl.readE pg (addrI p s + i) = 0 := by
  have h1 := word_page (h.ly.ent p hp) hs i0 i1
  refine readE_page h.hw.ar.rng ?_
  have h2 := h.ly.has hp ((addrI p s + i) / 64 - p.n) (by omega) (by omega)
  rw [show p.n + ((addrI p s + i) / 64 - p.n) = (addrI p s + i) / 64 from by omega] at h2
  exact h2

theorem Ent.small {p : Pg} (he : Ent p) (h1 : p.kind = 1) : 0 ≤ p.cls ∧ p.cls ≤ 7 ∧ p.taken ≠ 0 ∧ Bt.U p.taken ∧ Bt.cutI (Cl.sloI p.cls) p.taken = p.taken ∧ p.words = 0 ∧ p.span = 1 := by
  rcases he with ⟨_, h⟩ | ⟨h, _⟩
  · exact h
  · omega
theorem Ent.large {p : Pg} (he : Ent p) (h1 : p.kind = 2) : p.cls = 0 ∧ p.taken = 0 ∧ 1 ≤ p.words ∧ p.words ≤ 4000 ∧ Cl.smaI p.words = false ∧ p.span = Cl.pagI p.words := by
  rcases he with ⟨h, _⟩ | ⟨_, h⟩
  · omega
  · exact h

/-- What freeB tells. -/
theorem freeB_some {c : Int} {p : Pg} {s : Int} (h : freeB L c = some (p, s)) : p ∈ L ∧ p.kind = 1 ∧ p.cls = c ∧ 0 ≤ s ∧ s < Cl.sloI c ∧ Bt.hasI p.taken s = false := by
  obtain ⟨x, hx, hf⟩ := List.exists_of_findSome?_eq_some h
  unfold freeOf at hf
  split at hf
  · rename_i hk
    simp only [Bool.and_eq_true, beq_iff_eq] at hk
    split at hf
    · rename_i h0
      obtain ⟨rfl, rfl⟩ := Prod.mk.inj (Option.some.inj hf)
      have hr := slo_range x.cls
      rcases free_cases (t := x.taken) hr.1 hr.2 with ⟨a, _⟩ | ⟨a, b, d, _⟩
      · omega
      · exact ⟨hx, hk.1, hk.2, a, by rw [← hk.2]; exact b, d⟩
    · cases hf
  · cases hf

theorem wh_other {n m t A R k : Int} (ha : 64 * n + 2 ≤ A) (hb : A + R ≤ 64 * n + 64) (hk : k ≠ n) : wipeW (hdW W n m t) A R (64 * k) = W (64 * k) ∧ wipeW (hdW W n m t) A R (64 * k + 1) = W (64 * k + 1) := by
  unfold wipeW hdW Sl.upd
  refine ⟨?_, ?_⟩
  · rw [if_neg (by omega), if_neg (by omega), if_neg (by omega)]
  · rw [if_neg (by omega), if_neg (by omega), if_neg (by omega)]
theorem wh_self {n m t A R : Int} (ha : 64 * n + 2 ≤ A) : wipeW (hdW W n m t) A R (64 * n) = m ∧ wipeW (hdW W n m t) A R (64 * n + 1) = t := by
  unfold wipeW hdW Sl.upd
  refine ⟨?_, ?_⟩
  · rw [if_neg (by omega), if_neg (by omega), if_pos rfl]
  · rw [if_neg (by omega), if_pos rfl]
theorem wh_word {n m t A R x : Int} (h1 : x ≠ 64 * n) (h2 : x ≠ 64 * n + 1) (h3 : x < A ∨ A + R ≤ x) : wipeW (hdW W n m t) A R x = W x := by
  unfold wipeW hdW Sl.upd
  rw [if_neg (by omega), if_neg h2, if_neg h1]

/-- A page of small places gets another set. -/
def withT (p : Pg) (t : Int) : Pg := { p with taken := t }

theorem Lay.setT (l : Lay pg W L) {p : Pg} (hp : p ∈ L) (h1 : p.kind = 1) {s t : Int} (hs : 0 ≤ s ∧ s < Cl.sloI p.cls) (ht : t ≠ 0) (hU : Bt.U t) (hc : Bt.cutI (Cl.sloI p.cls) t = t) :
    Lay pg (wipeW (hdW W p.n (1 + 256 * p.cls) t) (addrI p s) (roomI p)) (updL L p.n (withT p t)) := by
  have he := l.ent p hp
  have hpl := place_in he (s := s) (fun _ => hs)
  have hsp : p.span = 1 := by
    rcases he with ⟨_, _, _, _, _, _, _, h⟩ | ⟨h, _⟩
    · exact h
    · omega
  have hA : 64 * p.n + 2 ≤ addrI p s ∧ addrI p s + roomI p ≤ 64 * p.n + 64 := by unfold addrI; omega
  refine l.upd hp rfl rfl ?_ ?_ ?_ (fun r hr hn => wh_other hA.1 hA.2 hn)
  · rcases he with ⟨a, b, c, _, _, _, d, e⟩ | ⟨h, _⟩
    · exact .inl ⟨a, b, c, ht, hU, hc, d, e⟩
    · omega
  · rw [(wh_self hA.1).1]
    show _ = if p.kind = 1 then _ else _
    rw [if_pos h1]
    rfl
  · rw [(wh_self hA.1).2]
    show _ = if p.kind = 1 then _ else _
    rw [if_pos h1]
    rfl

/-- The words of all other blocks stay. -/
theorem Lay.setT_same (l : Lay pg W L) {p : Pg} (hp : p ∈ L) (h1 : p.kind = 1) {s t : Int} (hs : 0 ≤ s ∧ s < Cl.sloI p.cls) {r : Pg} (hr : r ∈ L) {k : Int} (hk : k ∈ slotsOf r) (hne : r ≠ p ∨ k ≠ s) {i : Int} (i0 : 0 ≤ i) (i1 : i < roomI r) :
    wipeW (hdW W p.n (1 + 256 * p.cls) t) (addrI p s) (roomI p) (addrI r k + i) = W (addrI r k + i) := by
  have he := l.ent p hp
  have her := l.ent r hr
  have hpl := place_in he (s := s) (fun _ => hs)
  have hwp := word_page her (slot_ok hk) i0 i1
  have hsp : p.span = 1 := by
    rcases he with ⟨_, _, _, _, _, _, _, h⟩ | ⟨h, _⟩
    · exact h
    · omega
  have hA : addrI p s = p.n * 64 + atI p s := rfl
  by_cases e : r = p
  · subst e
    have hks : k ≠ s := by
      rcases hne with h | h
      · exact absurd rfl h
      · exact h
    have hap := slots_apart he h1 (slot_ok hk h1) hs hks
    have hA2 : addrI r k = r.n * 64 + atI r k := rfl
    refine wh_word (by omega) (by omega) ?_
    omega
  · have hap := srt_apart l.srt hr hp e
    refine wh_word (by omega) (by omega) ?_
    omega

theorem fresh_wipe (A R : Int) {i : Int} (i0 : 0 ≤ i) (i1 : i < R) : wipeW W A R (A + i) = 0 := by
  unfold wipeW
  rw [if_pos (by omega)]

set_option maxRecDepth 100000 in
theorem allocSmall_some (h : St w bh bs bm q pg W L) {c s : Int} {p : Pg} (hf : freeB L c = some (p, s)) :
    Calls Tryz.prog 120 #[hp bh, .int .i64 c] w fun e w' => e = .returned (.tuple #[.int .i64 (addrI p s), .int .i64 0]) ∧ ∃ W', St w' bh bs bm q pg W' (updL L p.n (withT p (Bt.setI p.taken s))) ∧ Sl.Step bs bm pg pg w w' ∧ Same L W W' ∧ ∀ i, 0 ≤ i → i < Cl.sizI c → W' (addrI p s + i) = 0 := by
  obtain ⟨hm, hk1, hcl, s0, s1, hfr⟩ := freeB_some hf
  subst hcl
  have he := h.ly.ent p hm
  have hsm := he.small hk1
  have c0 := hsm.1
  have c1 := hsm.2.1
  have hU := hsm.2.2.2.1
  have hcut := hsm.2.2.2.2.1
  have hrg := h.range hm
  have hsp := he.span
  have hslr := slo_range p.cls
  have hN : Bt.N s := N_of s0 s1 hslr.2
  have lf := leastFree_any h.hw p.cls
  rw [h.heads, hf] at lf
  have hroom : roomI p = Cl.sizI p.cls := by unfold roomI; rw [if_neg (by omega)]
  have hpl := place_in he (s := s) (fun _ => ⟨s0, s1⟩)
  have L1 := h.ly.setT hm hk1 ⟨s0, s1⟩ (set_ne p.taken s) (Bt.setI_U hU hN) (cut_set hU hslr.1 hslr.2 hcut s0 s1)
  have HR : ∀ i, 0 ≤ i → i < roomI p → Sl.readE pg (addrI p s + i) = 0 := fun i i0 i1 => h.reads hm (fun _ => ⟨s0, s1⟩) i0 i1
  have tk := fun w2 (kk : K w w2) => take_any (h.hw.keep kk) p s hrg.1 (by omega) (h.ly.has0 hm) c0 c1 hU hN
  have ca := fun w => addr_any p s hrg.1 (by omega) w
  have HF : Aside (Same L W (wipeW (hdW W p.n (1 + 256 * p.cls) (Bt.setI p.taken s)) (addrI p s) (roomI p))) := fun r hr k hk i i0 i1 => h.ly.setT_same hm hk1 ⟨s0, s1⟩ hr hk (by
    by_cases e : r = p
    · subst e
      right
      rintro rfl
      rcases mem_slots.1 hk with ⟨h3, _⟩ | ⟨_, _, _, h4⟩
      · omega
      · rw [hfr] at h4; cases h4
    · exact .inl e) i0 i1
  have HFr : Aside (∀ i, 0 ≤ i → i < Cl.sizI p.cls → wipeW (hdW W p.n (1 + 256 * p.cls) (Bt.setI p.taken s)) (addrI p s) (roomI p) (addrI p s + i) = 0) := fun i i0 i1 => fresh_wipe _ _ i0 (by rw [hroom]; exact i1)
  clear hroom hf hfr hcut hsm hk1
  go_enter Tryz.func120, Tryz.ntmps120
  go_wp2_with fail
  refine lf.mono ?_
  rintro e w1 ⟨rfl, k1⟩
  dsimp only [lfV]
  obtain ⟨w2, hw2⟩ : ∃ w2, w2 = w1.alloc (.cells (cellsB p s) 128) := ⟨_, rfl⟩
  have k2 : K w1 w2 := by rw [hw2]; exact (K.refl w1).alloc _
  have hB2 : w2.heap[w1.heap.size]? = some (.cells (cellsB p s) 128) := by rw [hw2]; exact World.alloc_heap_new _ _
  have hn := nf_new (h.hw.keep k1) (Nat.le_refl w1.heap.size)
  go_wp2_with fail
  rw [← hw2]
  refine (tk _ (k1.trans k2)).mono ?_
  rintro e w3 ⟨rfl, h3, s3⟩
  have hB3 : w3.heap[w1.heap.size]? = some (.cells (cellsB p s) 128) := (s3.kept _ (Array.getElem?_eq_some_iff.1 hB2).1 hn).trans hB2
  obtain ⟨⟨x0, x1, x2, x3, x4, x5, x6⟩, _⟩ := seven hB3
  have wp := wipe_any h3 p s hrg.1 (by omega) (by omega) (by omega) HR
  clear hw2
  go_wp2_with fail
  refine wp.mono ?_
  rintro e w4 ⟨rfl, h4, s4⟩
  have hB4 : w4.heap[w1.heap.size]? = some (.cells (cellsB p s) 128) := (s4.kept _ (Array.getElem?_eq_some_iff.1 hB3).1 hn).trans hB3
  clear x0 x1 x2 x3 x4 x5 x6
  obtain ⟨⟨x0, x1, x2, x3, x4, x5, x6⟩, _⟩ := seven hB4
  go_wp2_with fail
  refine (ca _).mono ?_
  rintro e w5 ⟨rfl, k5⟩
  go_wp2
  go_ret2
  exact ⟨rfl, _, ⟨h4.keep k5, L1⟩, Step.thenK (((k1.trans k2).thenStep s3).trans s4) k5, HF.out, HFr.out⟩

end Hp
end Go.Proofs.YtbbjfebdihepnaaGreatDoor

/-
  Walks of package heap's allocSmall on a new page, allocLarge and Alloc.
-/
namespace Go.Proofs.YtbbjfebdihepnaaGreatDoor
open Go.RowKit
attribute [local go_sem ↓] Go.wp_at_zero Go.wp_at_succ
namespace Hp
variable {w w' : World} {bh bs bm : Nat} {q : Int} {pg pg' : List (Int × Nat)} {W W' : Int → Int} {L : List Pg}

/-- Pages have come. -/
structure Got (pg pg' : List (Int × Nat)) (r m : Int) : Prop where
  lo : 0 ≤ r
  hi : r + m ≤ 1048576
  cov : ∀ k, (Sl.blk pg' k).isSome = true ↔ (Sl.blk pg k).isSome = true ∨ (r ≤ k ∧ k < r + m)
  free : ∀ k, r ≤ k → k < r + m → Sl.blk pg k = none

theorem St.grant (h : St w bh bs bm q pg W L) (m : Int) (h0 : 1 ≤ m) (h1 : m ≤ 63) (hq : (granted L + m) * 64 ≤ q) :
    Calls Tryz.prog 154 #[.pointer (some ⟨bs, 0, none⟩), .int .i64 m] w fun e w' => e = .returned (.tuple #[.int .i64 (fit m 0 L), .int .i64 0]) ∧ ∃ pg', Got pg pg' (fit m 0 L) m ∧ Hw w' bh bs bm q pg' W ∧ Sl.Step bs bm pg pg' w w' := by
  have hlen := h.len
  have hl := h.hw.ar.len
  have hc : Sl.isCountB m = true := by simp [Sl.isCountB]; omega
  have he : Sl.grantE q pg m = 0 := by
    unfold Sl.grantE
    rw [hc, hlen, if_neg (by decide), if_pos hq]
  refine (Sl.grant_ok h.hw.ar m he).mono ?_
  rintro e w1 (⟨r, rfl, hle, pg1, hadd, ha, hs⟩ | ⟨_, hno, _⟩)
  · have e1 := h.ly.fit h.hw.ar.rng h0 hle
    subst e1
    refine ⟨rfl, pg1, ⟨hle.lo, hle.hi, fun k => ?_, fun k k1 k2 => hle.run k k1 k2⟩, h.hw.step ha hs, hs⟩
    by_cases hk : Hp.fit m 0 L ≤ k ∧ k < Hp.fit m 0 L + m
    · exact ⟨fun _ => .inr hk, fun _ => hadd.new k hk.1 hk.2⟩
    · rw [hadd.old k (by omega)]
      exact ⟨fun x => .inl x, fun x => x.elim (fun y => y) (fun y => absurd y hk)⟩
  · refine absurd hno (Sl.not_nowhere h0 ?_)
    have : m * ((pg.length : Int) + 1) ≤ 63 * ((pg.length : Int) + 1) := Int.mul_le_mul_of_nonneg_right h1 (by omega)
    omega

theorem St.grant_no (h : St w bh bs bm q pg W L) (m : Int) (h0 : 1 ≤ m) (h1 : m ≤ 63) (hq : ¬ (granted L + m) * 64 ≤ q) :
    Calls Tryz.prog 154 #[.pointer (some ⟨bs, 0, none⟩), .int .i64 m] w fun e w' => e = .returned (.tuple #[.int .i64 0, .int .i64 3]) ∧ K w w' := by
  have hlen := h.len
  have hc : Sl.isCountB m = true := by simp [Sl.isCountB]; omega
  have he : Sl.grantE q pg m = 3 := by
    unfold Sl.grantE
    rw [hc, hlen, if_neg (by decide), if_neg hq]
  have := Sl.grant_no h.hw.ar m (by rw [he]; decide)
  rw [he] at this
  refine this.mono ?_
  rintro e w1 ⟨rfl, k, rfl⟩
  exact ⟨rfl, (K.refl w).drewN k⟩

theorem Step.thenKept {O : Nat → Prop} {w1 w2 : World} (s : Sl.Step bs bm pg pg' w w1) (k : Kept O w1 w2) (hO : ∀ j, O j → w.heap.size ≤ j) : Sl.Step bs bm pg pg' w w2 :=
  ⟨k.os.trans s.os, k.tape.trans s.tape, k.output.trans s.output, Nat.le_trans s.size k.size, fun j hj hf => (k.same j (Nat.lt_of_lt_of_le hj s.size) (fun o => by have := hO j o; omega)).trans (s.kept j hj hf), s.inn⟩

/-- A page of small places comes. -/
theorem Lay.newS (l : Lay pg W L) {pg' : List (Int × Nat)} {r c : Int} (c0 : 0 ≤ c) (c1 : c ≤ 7) (g : Got pg pg' r 1) :
    Lay pg' (wipeW (hdW W r (1 + 256 * c) 1) (addrI (smallPg r c) 0) (Cl.sizI c)) (insL (smallPg r c) L) := by
  have he := ent_smallPg r c0 c1
  have hpl := place_in he (s := 0) (fun _ => ⟨Int.le_refl _, by have := (Cl.siz_in (errC_in c0 c1)); show 0 < Cl.sloI c; rcases Cl.siz_cases c with ⟨_, _, _, a⟩ | ⟨_, _, _, a⟩ | ⟨_, _, _, a⟩ | ⟨_, _, _, a⟩ | ⟨_, _, _, a⟩ | ⟨_, _, _, a⟩ | ⟨_, _, _, a⟩ | ⟨_, _, _, a⟩ | ⟨a, _, _, _⟩ <;> first | omega | exact absurd ⟨c0, c1⟩ a⟩)
  have hA : 64 * r + 2 ≤ addrI (smallPg r c) 0 ∧ addrI (smallPg r c) 0 + Cl.sizI c ≤ 64 * r + 64 := by
    have e1 : roomI (smallPg r c) = Cl.sizI c := rfl
    have e2 : (smallPg r c).span = 1 := rfl
    have e3 : (smallPg r c).n = r := rfl
    unfold addrI
    rw [e3]
    rw [e1, e2] at hpl
    omega
  refine l.ins he g.cov g.free ?_ ?_ (fun x _ hn => wh_other hA.1 hA.2 hn)
  · exact (wh_self hA.1).1
  · exact (wh_self hA.1).2

theorem slo_pos {c : Int} (c0 : 0 ≤ c) (c1 : c ≤ 7) : 0 < Cl.sloI c := by
  rcases Cl.siz_cases c with ⟨_, _, _, a⟩ | ⟨_, _, _, a⟩ | ⟨_, _, _, a⟩ | ⟨_, _, _, a⟩ | ⟨_, _, _, a⟩ | ⟨_, _, _, a⟩ | ⟨_, _, _, a⟩ | ⟨_, _, _, a⟩ | ⟨a, _, _, _⟩ <;> first | omega | exact absurd ⟨c0, c1⟩ a

/-- Words of blocks are on no page that comes. -/
theorem Lay.word_off (l : Lay pg W L) {r m : Int} (hf : ∀ k, r ≤ k → k < r + m → Sl.blk pg k = none) {p : Pg} (hp : p ∈ L) {s : Int} (hs : s ∈ slotsOf p) {i : Int} (i0 : 0 ≤ i) (i1 : i < roomI p) : addrI p s + i < 64 * r ∨ 64 * (r + m) ≤ addrI p s + i := by
  have hw := word_page (l.ent p hp) (slot_ok hs) i0 i1
  by_cases h : addrI p s + i < 64 * r ∨ 64 * (r + m) ≤ addrI p s + i
  · exact h
  · exfalso
    have h1 := l.has hp ((addrI p s + i) / 64 - p.n) (by omega) (by omega)
    rw [show p.n + ((addrI p s + i) / 64 - p.n) = (addrI p s + i) / 64 from by omega, hf _ (by omega) (by omega)] at h1
    cases h1

set_option maxRecDepth 100000 in
theorem allocSmall_new (h : St w bh bs bm q pg W L) {c : Int} (c0 : 0 ≤ c) (c1 : c ≤ 7) (hf : freeB L c = none) (hq : (granted L + 1) * 64 ≤ q) :
    Calls Tryz.prog 120 #[hp bh, .int .i64 c] w fun e w' => e = .returned (.tuple #[.int .i64 (addrI (smallPg (fit 1 0 L) c) 0), .int .i64 0]) ∧ ∃ pg' W', St w' bh bs bm q pg' W' (insL (smallPg (fit 1 0 L) c) L) ∧ Sl.Step bs bm pg pg' w w' ∧ Same L W W' ∧ ∀ i, 0 ≤ i → i < Cl.sizI c → W' (addrI (smallPg (fit 1 0 L) c) 0 + i) = 0 := by
  have lf := leastFree_any h.hw c
  rw [h.heads, hf] at lf
  have gr := fun w2 (kk : K w w2) => (h.keep kk).grant 1 (by omega) (by omega) hq
  have sp := slo_pos c0 c1
  clear hf hq
  generalize fit 1 0 L = r at *
  go_enter Tryz.func120, Tryz.ntmps120
  go_wp2_with fail
  refine lf.mono ?_
  rintro e w1 ⟨rfl, k1⟩
  dsimp only [lfV]
  obtain ⟨w2, hw2⟩ : ∃ w2, w2 = w1.alloc (.cells zeroB 128) := ⟨_, rfl⟩
  have k2 : K w1 w2 := by rw [hw2]; exact (K.refl w1).alloc _
  have hB2 : w2.heap[w1.heap.size]? = some (.cells zeroB 128) := by rw [hw2]; exact World.alloc_heap_new _ _
  have hn := nf_new (h.hw.keep k1) (Nat.le_refl w1.heap.size)
  have hh2 := h.keep (k1.trans k2)
  have c0' := hh2.hw.c0
  have hb1 := (h.hw.keep k1).c0
  have hltb := lt_of_cell hb1
  go_wp2_with fail
  rw [← hw2]
  refine (gr _ (k1.trans k2)).mono ?_
  rintro e w3 ⟨rfl, pg3, g3, h3, s3⟩
  have hlt2 := (Array.getElem?_eq_some_iff.1 hB2).1
  have hB3 : w3.heap[w1.heap.size]? = some (.cells zeroB 128) := (s3.kept _ hlt2 hn).trans hB2
  have hn3 : ¬ Sl.foot bs bm pg3 w1.heap.size := fun hf => by
    rcases s3.inn _ hf with h | h
    · exact hn h
    · omega
  obtain ⟨⟨x0, x1, x2, x3, x4, x5, x6⟩, xf⟩ := seven hB3
  have k34 := (Kept.refl (fun k => k = w1.heap.size) w3).put7 (b := w1.heap.size) (.inl rfl) (.int .i64 r) (.int .i64 1) (.int .i64 c) (.int .u64 0) (.int .i64 0) (.int .i64 1) (.int .i64 0)
  have hB4 := set7 hB3 (.int .i64 r) (.int .i64 1) (.int .i64 c) (.int .u64 0) (.int .i64 0) (.int .i64 1) (.int .i64 0)
  have hbh : bh ≠ w1.heap.size := by have := lt_of_cell hb1; intro e; omega
  have h04 : w1.heap.size ≠ 1 := by have := lt0 (h.hw.keep k1).tab; omega
  have h4 := h3.kept k34 (fun k hk => by subst hk; exact ⟨hn3, fun e => hbh e.symm, h04⟩)
  have s4 := Step.thenKept ((k1.trans k2).thenStep s3) k34 (fun j hj => by subst hj; exact k1.size)
  have hgr : (Sl.blk pg3 r).isSome = true := (g3.cov r).2 (.inr ⟨Int.le_refl _, by omega⟩)
  have r0 := g3.lo
  have r1 := g3.hi
  have hl4 : Lay pg3 _ _ := h.ly.newS c0 c1 g3
  have HS : Aside (Same L W (wipeW (hdW W r (1 + 256 * c) 1) (addrI (smallPg r c) 0) (Cl.sizI c))) := fun p hp s hs i i0 i1 => by
    have ho := h.ly.word_off g3.free hp hs i0 i1
    have hpl := place_in (ent_smallPg r c0 c1) (s := 0) (fun _ => ⟨Int.le_refl _, sp⟩)
    have e1 : roomI (smallPg r c) = Cl.sizI c := rfl
    have e2 : (smallPg r c).span = 1 := rfl
    have e3 : addrI (smallPg r c) 0 = r * 64 + atI (smallPg r c) 0 := rfl
    rw [e1, e2] at hpl
    exact wh_word (by omega) (by omega) (by omega)
  have HFr : Aside (∀ i, 0 ≤ i → i < Cl.sizI c → wipeW (hdW W r (1 + 256 * c) 1) (addrI (smallPg r c) 0) (Cl.sizI c) (addrI (smallPg r c) 0 + i) = 0) := fun i i0 i1 => fresh_wipe _ _ i0 i1
  have tk := take_any h4 ⟨r, 1, c, 0, 0, 1⟩ 0 r0 (show r ≤ 1048575 by omega) hgr c0 c1 (show Bt.U 0 from ⟨by decide, by decide⟩) ⟨by decide, by decide⟩
  rw [show Bt.setI (⟨r, 1, c, 0, 0, 1⟩ : Pg).taken 0 = 1 from (show Bt.setI 0 0 = 1 by decide)] at tk
  have HL4 : Aside _ := hl4
  clear hw2 hl4 hgr
  go_wp2_with fail
  refine tk.mono ?_
  rintro e w5 ⟨rfl, h5, s5⟩
  have hB5 := (s5.kept _ (Array.getElem?_eq_some_iff.1 hB4).1 hn3).trans hB4
  have HR : ∀ i, 0 ≤ i → i < roomI ⟨r, 1, c, 0, 0, 1⟩ → Sl.readE pg3 (addrI ⟨r, 1, c, 0, 0, 1⟩ 0 + i) = 0 := fun i i0 i1 => St.reads ⟨h5, (HL4.out).words (W' := hdW W r (1 + 256 * c) 1) (fun p hp => by
    have hpl := place_in (ent_smallPg r c0 c1) (s := 0) (fun _ => ⟨Int.le_refl _, sp⟩)
    have e3 : addrI (smallPg r c) 0 = r * 64 + atI (smallPg r c) 0 := rfl
    have e1 : roomI (smallPg r c) = Cl.sizI c := rfl
    have e2 : (smallPg r c).span = 1 := rfl
    rw [e1, e2] at hpl
    unfold wipeW
    rw [if_neg (by omega), if_neg (by omega)]
    exact ⟨rfl, rfl⟩)⟩ (p := smallPg r c) (mem_insL.2 (.inl rfl)) (fun _ => ⟨Int.le_refl _, sp⟩) i0 i1
  have hsz := (Cl.siz_in (errC_in c0 c1))
  have wp := wipe_any h5 ⟨r, 1, c, 0, 0, 1⟩ 0 r0 (show r ≤ 1048575 by omega) (show 0 ≤ Cl.sizI c by omega) (show Cl.sizI c ≤ 5000 by omega) HR
  have ca := fun w => addr_any ⟨r, 1, c, 0, 0, 1⟩ 0 r0 (show r ≤ 1048575 by omega) w
  obtain ⟨⟨y0, y1, y2, y3, y4, y5, y6⟩, _⟩ := seven hB5
  clear hsz HR x0 x1 x2 x3 x4 x5 x6 xf
  go_wp2_with fail
  refine wp.mono ?_
  rintro e w6 ⟨rfl, h6, s6⟩
  have hB6 := (s6.kept _ (Array.getElem?_eq_some_iff.1 hB5).1 hn3).trans hB5
  clear y0 y1 y2 y3 y4 y5 y6
  obtain ⟨⟨y0, y1, y2, y3, y4, y5, y6⟩, _⟩ := seven hB6
  go_wp2_with fail
  refine (ca _).mono ?_
  rintro e w7 ⟨rfl, k7⟩
  go_wp2
  go_ret2
  exact ⟨rfl, pg3, _, ⟨h6.keep k7, HL4.out⟩, Step.thenK ((s4.trans s5).trans s6) k7, HS.out, HFr.out⟩

set_option maxRecDepth 100000 in
theorem allocSmall_no (h : St w bh bs bm q pg W L) {c : Int} (hf : freeB L c = none) (hq : ¬ (granted L + 1) * 64 ≤ q) :
    Calls Tryz.prog 120 #[hp bh, .int .i64 c] w fun e w' => e = .returned (.tuple #[.int .i64 0, .int .i64 3]) ∧ K w w' := by
  have lf := leastFree_any h.hw c
  rw [h.heads, hf] at lf
  have gr := fun w2 (kk : K w w2) => (h.keep kk).grant_no 1 (by omega) (by omega) hq
  clear hf hq
  go_enter Tryz.func120, Tryz.ntmps120
  go_wp2_with fail
  refine lf.mono ?_
  rintro e w1 ⟨rfl, k1⟩
  dsimp only [lfV]
  have hb1 := (h.hw.keep k1).c0
  have hltb := lt_of_cell hb1
  go_wp2_with fail
  refine (gr _ (k1.alloc _)).mono ?_
  rintro e w3 ⟨rfl, k3⟩
  go_wp2
  go_ret2
  exact ⟨rfl, (k1.alloc _).trans k3⟩

/-- A large block comes. -/
theorem Lay.newL (l : Lay pg W L) {pg' : List (Int × Nat)} {r x : Int} (h0 : 1 ≤ x) (h1 : x ≤ 4000) (hs : Cl.smaI x = false) (g : Got pg pg' r (Cl.pagI x)) : Lay pg' (hdW W r (2 + 256 * Cl.pagI x) x) (insL (largePg r x) L) := by
  refine l.ins (ent_largePg r h0 h1 hs) g.cov g.free ?_ ?_ (fun y _ hn => ?_)
  · show hdW W r _ x (64 * r) = 2 + 256 * Cl.pagI x
    unfold hdW Sl.upd
    rw [if_neg (by omega), if_pos rfl]
  · show hdW W r _ x (64 * r + 1) = x
    unfold hdW Sl.upd
    rw [if_pos rfl]
  · have hn : y.n ≠ r := hn
    show hdW W r _ x _ = _ ∧ hdW W r _ x _ = _
    unfold hdW Sl.upd
    rw [if_neg (by omega), if_neg (by omega), if_neg (by omega), if_neg (by omega)]
    exact ⟨rfl, rfl⟩

set_option maxRecDepth 100000 in
theorem allocLarge_ok (h : St w bh bs bm q pg W L) {x : Int} (h0 : 1 ≤ x) (h1 : x ≤ 4000) (hs : Cl.smaI x = false) (hq : (granted L + Cl.pagI x) * 64 ≤ q) :
    Calls Tryz.prog 121 #[hp bh, .int .i64 x] w fun e w' => e = .returned (.tuple #[.int .i64 (addrI (largePg (fit (Cl.pagI x) 0 L) x) 0), .int .i64 0]) ∧ ∃ pg' W', St w' bh bs bm q pg' W' (insL (largePg (fit (Cl.pagI x) 0 L) x) L) ∧ Sl.Step bs bm pg pg' w w' ∧ Same L W W' ∧ ∀ i, 0 ≤ i → i < x → W' (addrI (largePg (fit (Cl.pagI x) 0 L) x) 0 + i) = 0 := by
  have pr := pag_range h0 h1
  have pr0 := pr.1
  have pr1 := pr.2
  have cp := Cl.pages_any x w
  rw [Cl.errW_in ⟨h0, h1⟩] at cp
  have gr := fun w2 (kk : K w w2) => (h.keep kk).grant (Cl.pagI x) pr0 pr1 hq
  have HN : Aside (∀ pg' r, Got pg pg' r (Cl.pagI x) → Lay pg' (hdW W r (2 + 256 * Cl.pagI x) x) (insL (largePg r x) L)) := fun pg' r g => h.ly.newL h0 h1 hs g
  have hpx : Hid (64 * Cl.pagI x ≥ x + 2) := by show 64 * Cl.pagI x ≥ x + 2; rw [Cl.pagI_in ⟨h0, h1⟩]; omega
  have HZ : Aside (∀ pg' r, Got pg pg' r (Cl.pagI x) → Same L W (hdW W r (2 + 256 * Cl.pagI x) x) ∧ ∀ i, 0 ≤ i → i < x → hdW W r (2 + 256 * Cl.pagI x) x (addrI (largePg r x) 0 + i) = 0) := fun pg' r g => by
    refine ⟨fun p hp s hs i i0 i1 => ?_, fun i i0 i1 => ?_⟩
    · have ho := h.ly.word_off g.free hp hs i0 i1
      unfold hdW Sl.upd
      rw [if_neg (by omega), if_neg (by omega)]
    · have e : addrI (largePg r x) 0 = r * 64 + 2 := rfl
      have := hpx.out
      rw [e]
      unfold hdW Sl.upd
      rw [if_neg (by omega), if_neg (by omega)]
      exact h.hw.ar.z _ (g.free _ (by omega) (by omega))
  have ch := fun w => largeHead_any x (Cl.pagI x) (by omega) (by omega) (by omega) (by omega) w
  have ca := fun (r : Int) (r0 : 0 ≤ r) (r1 : r ≤ 1048575) w => addr_any (largePg r x) 0 r0 r1 w
  dsimp only [largePg, bkV] at ca
  have c0 := h.hw.c0
  clear hs hq pr
  generalize hm : Cl.pagI x = m at *
  have Hm : Hid _ := hm
  clear hm
  generalize Hp.fit m 0 L = r at *
  go_enter Tryz.func121, Tryz.ntmps121
  go_wp2_with fail
  refine cp.mono ?_
  rintro e w1 ⟨rfl, k1⟩
  have k1 := K.cl k1
  have hb1 := (h.hw.keep k1).c0
  go_wp2_with fail
  refine (gr _ k1).mono ?_
  rintro e w3 ⟨rfl, pg3, g3, h3, s3⟩
  have r0 := g3.lo
  have r1 := g3.hi
  have hgr : (Sl.blk pg3 r).isSome = true := (g3.cov r).2 (.inr ⟨Int.le_refl _, by omega⟩)
  have st := fun w4 (kk : K w3 w4) => setHead_any (h3.keep kk) r (2 + 256 * m) x r0 (by omega) hgr (ok_of_U ⟨by omega, by omega⟩) (ok_of_U ⟨by omega, by omega⟩)
  go_wp2_with (first | (go_at_call 157; refine (ch _).mono ?_; rintro e w4 ⟨rfl, k4⟩) | (go_at_call 130; refine (st _ k4).mono ?_; rintro e w5 ⟨rfl, h5, s5⟩) | (go_at_call 66; refine (ca r r0 (by omega) _).mono ?_; rintro e w6 ⟨rfl, k6⟩))
  go_ret2
  obtain ⟨hz1, hz2⟩ := HZ.out pg3 r g3
  exact ⟨rfl, pg3, _, ⟨h5.keep k6, HN.out pg3 r g3⟩, Step.thenK (((k1.thenStep s3).trans (k4.thenStep s5))) k6, hz1, hz2⟩

set_option maxRecDepth 100000 in
theorem allocLarge_no (h : St w bh bs bm q pg W L) {x : Int} (h0 : 1 ≤ x) (h1 : x ≤ 4000) (hq : ¬ (granted L + Cl.pagI x) * 64 ≤ q) :
    Calls Tryz.prog 121 #[hp bh, .int .i64 x] w fun e w' => e = .returned (.tuple #[.int .i64 0, .int .i64 3]) ∧ K w w' := by
  have pr := pag_range h0 h1
  have cp := Cl.pages_any x w
  rw [Cl.errW_in ⟨h0, h1⟩] at cp
  have gr := fun w2 (kk : K w w2) => (h.keep kk).grant_no (Cl.pagI x) pr.1 pr.2 hq
  clear hq pr
  generalize Cl.pagI x = m at *
  go_enter Tryz.func121, Tryz.ntmps121
  go_wp2_with fail
  refine cp.mono ?_
  rintro e w1 ⟨rfl, k1⟩
  have k1 := K.cl k1
  have hb1 := (h.hw.keep k1).c0
  go_wp2_with fail
  refine (gr _ k1).mono ?_
  rintro e w3 ⟨rfl, k3⟩
  go_wp2
  go_ret2
  exact ⟨rfl, k1.trans k3⟩

end Hp
end Go.Proofs.YtbbjfebdihepnaaGreatDoor

/-
  Walks of package heap's Alloc, Room, Free and New, told of the entries.
-/
namespace Go.Proofs.YtbbjfebdihepnaaGreatDoor
open Go.RowKit
attribute [local go_sem ↓] Go.wp_at_zero Go.wp_at_succ
namespace Hp
variable {w w' : World} {bh bs bm : Nat} {q : Int} {pg pg' : List (Int × Nat)} {W W' : Int → Int} {L : List Pg}

/-- What Alloc answers, and makes of the entries. -/
def allocL (q : Int) (L : List Pg) (x : Int) : Int × Int × List Pg :=
  if 1 ≤ x ∧ x ≤ 4000 then
    if Cl.smaI x = true then
      match freeB L (Cl.clsI x) with
      | some (p, s) => (addrI p s, 0, updL L p.n (withT p (Bt.setI p.taken s)))
      | none => if (granted L + 1) * 64 ≤ q then (addrI (smallPg (fit 1 0 L) (Cl.clsI x)) 0, 0, insL (smallPg (fit 1 0 L) (Cl.clsI x)) L) else (0, 3, L)
    else if (granted L + Cl.pagI x) * 64 ≤ q then (addrI (largePg (fit (Cl.pagI x) 0 L) x) 0, 0, insL (largePg (fit (Cl.pagI x) 0 L) x) L) else (0, 3, L)
  else (0, 2, L)

theorem cls_in {x : Int} (h : 1 ≤ x ∧ x ≤ 4000) (hs : Cl.smaI x = true) : 0 ≤ Cl.clsI x ∧ Cl.clsI x ≤ 7 ∧ x ≤ Cl.sizI (Cl.clsI x) := by
  rcases Cl.of_cases x h with ⟨a, b, _⟩ | ⟨_, a, b, _⟩ | ⟨_, a, b, _⟩ | ⟨_, a, b, _⟩ | ⟨_, a, b, _⟩ | ⟨_, a, b, _⟩ | ⟨_, a, b, _⟩ | ⟨_, a, b, _⟩ | ⟨_, _, b⟩
  case inr.inr.inr.inr.inr.inr.inr.inr => rw [hs] at b; cases b
  all_goals
    rw [b]
    refine ⟨by decide, by decide, ?_⟩
    first
      | (rw [show Cl.sizI 0 = 2 by decide]; omega)
      | (rw [show Cl.sizI 1 = 3 by decide]; omega)
      | (rw [show Cl.sizI 2 = 4 by decide]; omega)
      | (rw [show Cl.sizI 3 = 6 by decide]; omega)
      | (rw [show Cl.sizI 4 = 9 by decide]; omega)
      | (rw [show Cl.sizI 5 = 13 by decide]; omega)
      | (rw [show Cl.sizI 6 = 19 by decide]; omega)
      | (rw [show Cl.sizI 7 = 28 by decide]; omega)

theorem Same.refl (L : List Pg) (W : Int → Int) : Same L W W := fun _ _ _ _ _ _ _ => rfl

/-- What is so behind Alloc. -/
def AllocPost (w : World) (bh bs bm : Nat) (q : Int) (pg : List (Int × Nat)) (W : Int → Int) (L : List Pg) (x : Int) (r : Int × Int × List Pg) (e : Ending) (w' : World) : Prop :=
  e = .returned (.tuple #[.int .i64 r.1, .int .i64 r.2.1]) ∧ ∃ pg' W', St w' bh bs bm q pg' W' r.2.2 ∧ Sl.Step bs bm pg pg' w w' ∧ Same L W W' ∧ (r.2.1 = 0 → ∀ i, 0 ≤ i → i < x → W' (r.1 + i) = 0)

theorem alloc_core (h : St w bh bs bm q pg W L) (x : Int) (R : Int × Int × List Pg) (hR : allocL q L x = R) : Calls Tryz.prog 85 #[hp bh, .int .i64 x] w (AllocPost w bh bs bm q pg W L x R) := by
  have hm := made_yes bh bs w h.hw.c0
  have co := Cl.of_any x w
  unfold allocL at hR
  by_cases hx : 1 ≤ x ∧ x ≤ 4000
  · rw [if_pos hx] at hR
    rw [Cl.errW_in hx] at co
    cases hs : Cl.smaI x with
    | true =>
      rw [hs] at hR co
      simp only [if_true] at hR
      obtain ⟨c0, c1, c2⟩ := cls_in hx hs
      have key : ∀ w1, K w w1 → Calls Tryz.prog 120 #[hp bh, .int .i64 (Cl.clsI x)] w1 (AllocPost w bh bs bm q pg W L x R) := fun w1 k1 => by
        cases hf : freeB L (Cl.clsI x) with
        | some ps =>
          obtain ⟨p, s⟩ := ps
          rw [hf] at hR
          refine (allocSmall_some (h.keep k1) hf).mono ?_
          rintro e w2 ⟨rfl, W2, h2, s2, hs2, hz⟩
          subst hR
          exact ⟨rfl, pg, W2, h2, k1.thenStep s2, hs2, fun _ i i0 i1 => hz i i0 (by omega)⟩
        | none =>
          rw [hf] at hR
          dsimp only at hR
          by_cases hq : (granted L + 1) * 64 ≤ q
          · rw [if_pos hq] at hR
            refine (allocSmall_new (h.keep k1) c0 c1 hf hq).mono ?_
            rintro e w2 ⟨rfl, pg2, W2, h2, s2, hs2, hz⟩
            subst hR
            exact ⟨rfl, pg2, W2, h2, k1.thenStep s2, hs2, fun _ i i0 i1 => hz i i0 (by omega)⟩
          · rw [if_neg hq] at hR
            refine (allocSmall_no (h.keep k1) hf hq).mono ?_
            rintro e w2 ⟨rfl, k2⟩
            subst hR
            exact ⟨rfl, pg, W, h.keep (k1.trans k2), K.step bs bm pg (k1.trans k2), Same.refl _ _, fun h => by cases h⟩
      clear hR hs
      generalize Cl.clsI x = c at *
      go_enter Tryz.func85, Tryz.ntmps85
      go_wp2_with (first | (go_at_call 63; refine hm.mono ?_; rintro e w' ⟨rfl, rfl⟩) | (go_at_call 119; refine co.mono ?_; rintro e w1 ⟨rfl, k1⟩))
      refine (key _ (K.cl k1)).mono ?_
      rintro e w2 ⟨rfl, pg2, W2, rest⟩
      go_wp2
      go_ret2
      exact ⟨rfl, pg2, W2, rest⟩
    | false =>
      rw [hs] at hR co
      simp only [Bool.false_eq_true, if_false] at hR
      have key : ∀ w1, K w w1 → Calls Tryz.prog 121 #[hp bh, .int .i64 x] w1 (AllocPost w bh bs bm q pg W L x R) := fun w1 k1 => by
        by_cases hq : (granted L + Cl.pagI x) * 64 ≤ q
        · rw [if_pos hq] at hR
          refine (allocLarge_ok (h.keep k1) hx.1 hx.2 hs hq).mono ?_
          rintro e w2 ⟨rfl, pg2, W2, h2, s2, hs2, hz⟩
          subst hR
          exact ⟨rfl, pg2, W2, h2, k1.thenStep s2, hs2, fun _ i i0 i1 => hz i i0 i1⟩
        · rw [if_neg hq] at hR
          refine (allocLarge_no (h.keep k1) hx.1 hx.2 hq).mono ?_
          rintro e w2 ⟨rfl, k2⟩
          subst hR
          exact ⟨rfl, pg, W, h.keep (k1.trans k2), K.step bs bm pg (k1.trans k2), Same.refl _ _, fun h => by cases h⟩
      clear hR hs
      generalize Cl.clsI x = c at *
      go_enter Tryz.func85, Tryz.ntmps85
      go_wp2_with (first | (go_at_call 63; refine hm.mono ?_; rintro e w' ⟨rfl, rfl⟩) | (go_at_call 119; refine co.mono ?_; rintro e w1 ⟨rfl, k1⟩))
      refine (key _ (K.cl k1)).mono ?_
      rintro e w2 ⟨rfl, pg2, W2, rest⟩
      go_wp2
      go_ret2
      exact ⟨rfl, pg2, W2, rest⟩
  · rw [if_neg hx] at hR
    rw [Cl.errW_out hx] at co
    clear hx
    generalize Cl.clsI x = c at *
    generalize Cl.smaI x = sm at *
    go_enter Tryz.func85, Tryz.ntmps85
    go_wp2_with (first | (go_at_call 63; refine hm.mono ?_; rintro e w' ⟨rfl, rfl⟩) | (go_at_call 119; refine co.mono ?_; rintro e w1 ⟨rfl, k1⟩))
    go_ret2
    subst hR
    exact ⟨rfl, pg, W, h.keep (K.cl k1), K.step bs bm pg (K.cl k1), Same.refl _ _, fun h => by cases h⟩

theorem alloc_any (h : St w bh bs bm q pg W L) (x : Int) : Calls Tryz.prog 85 #[hp bh, .int .i64 x] w (AllocPost w bh bs bm q pg W L x (allocL q L x)) := alloc_core h x _ rfl

theorem findB_some {a : Int} {p : Pg} {s : Int} (h : findB L a = some (p, s)) : p ∈ L ∧ s ∈ slotsOf p ∧ addrI p s = a := by
  unfold findB at h
  cases hp : pgOf a L with
  | none => rw [hp] at h; cases h
  | some r =>
    rw [hp] at h
    cases hs : slOf a r (slotsOf r) with
    | none => simp [hs] at h
    | some k =>
      simp [hs] at h
      obtain ⟨rfl, rfl⟩ := h
      have h1 := List.find?_some hs
      simp at h1
      exact ⟨List.mem_of_find?_eq_some hp, List.mem_of_find?_eq_some hs, h1⟩

/-- What Room answers. -/
def roomL (L : List Pg) (a : Int) : Int × Int := match findB L a with | none => (0, 5) | some (p, _) => (roomI p, 0)

theorem room_call (h : St w bh bs bm q pg W L) (a : Int) (ha : In64 a) : Calls Tryz.prog 110 #[hp bh, .int .i64 a] w fun e w' => e = .returned (.tuple #[.int .i64 (roomL L a).1, .int .i64 (roomL L a).2]) ∧ K w w' := by
  have fd := find_any h.hw a ha
  rw [h.heads] at fd
  unfold roomL
  cases hf : findB L a with
  | none =>
    rw [hf] at fd
    go_enter Tryz.func110, Tryz.ntmps110
    go_wp2_with fail
    refine fd.mono ?_
    rintro e w1 ⟨rfl, k1⟩
    dsimp only [fdV]
    go_wp2
    go_ret2
    exact ⟨rfl, k1.alloc _⟩
  | some ps =>
    obtain ⟨p, s⟩ := ps
    rw [hf] at fd
    have cr := fun w => room_any p s w
    clear hf
    go_enter Tryz.func110, Tryz.ntmps110
    go_wp2_with fail
    refine fd.mono ?_
    rintro e w1 ⟨rfl, k1⟩
    dsimp only [fdV]
    go_wp2_with (go_at_call 147; refine (cr _).mono ?_; rintro e w2 ⟨rfl, k2⟩)
    go_ret2
    exact ⟨rfl, (k1.alloc _).trans k2⟩

/-- What Free answers, and makes of the entries. -/
def dropL (L : List Pg) (p : Pg) (s : Int) : List Pg := if p.kind = 2 then delL L p.n else if Bt.clrI p.taken s = 0 then delL L p.n else updL L p.n (withT p (Bt.clrI p.taken s))
def freeL (L : List Pg) (a : Int) : Int × List Pg := match findB L a with | none => (5, L) | some (p, s) => (0, dropL L p s)

/-- The words of all blocks but one stay. -/
def SameBut (L : List Pg) (p : Pg) (s : Int) (W W' : Int → Int) : Prop := ∀ r ∈ L, ∀ k ∈ slotsOf r, (r ≠ p ∨ k ≠ s) → ∀ i, 0 ≤ i → i < roomI r → W' (addrI r k + i) = W (addrI r k + i)

theorem gone_cov {n m : Int} (g : Sl.Gone pg pg' n m) (k : Int) : (Sl.blk pg' k).isSome = true ↔ (Sl.blk pg k).isSome = true ∧ ¬ (n ≤ k ∧ k < n + m) := by
  by_cases h : n ≤ k ∧ k < n + m
  · rw [g.gone k h.1 h.2]
    simp [h]
  · rw [g.old k (by omega)]
    simp [h]

theorem zr_off {n m x : Int} (h : x < 64 * n ∨ 64 * (n + m) ≤ x) : Sl.zr W n m x = W x := by
  unfold Sl.zr
  rw [if_neg (by omega)]

/-- An entry's pages are released. -/
theorem Lay.gone (l : Lay pg W L) {p : Pg} (hp : p ∈ L) (g : Sl.Gone pg pg' p.n p.span) : Lay pg' (Sl.zr W p.n p.span) (delL L p.n) := by
  refine l.del hp (gone_cov g) fun r hr hn => ?_
  have hne : r ≠ p := fun e => hn (by rw [e])
  have h1 := (l.ent r hr).span
  have h2 := srt_apart l.srt hr hp hne
  exact ⟨zr_off (by omega), zr_off (by omega)⟩
theorem Lay.gone_same (l : Lay pg W L) {p : Pg} (hp : p ∈ L) {r : Pg} (hr : r ∈ L) (hne : r ≠ p) {k i : Int} (hk : k ∈ slotsOf r) (i0 : 0 ≤ i) (i1 : i < roomI r) : Sl.zr W p.n p.span (addrI r k + i) = W (addrI r k + i) := by
  have hw := word_page (l.ent r hr) (slot_ok hk) i0 i1
  have h2 := srt_apart l.srt hr hp hne
  exact zr_off (by omega)

/-- The last slot of its page: no other one is taken. -/
theorem clr_zero {p : Pg} (he : Ent p) (h1 : p.kind = 1) {s : Int} (hs : s ∈ slotsOf p) (hz : Bt.clrI p.taken s = 0) {k : Int} (hk : k ∈ slotsOf p) : k = s := by
  have hsm := he.small h1
  have hr := slo_range p.cls
  have s0 := slot_ok hs h1
  have k0 := slot_ok hk h1
  rcases mem_slots.1 hk with ⟨h2, _⟩ | ⟨_, _, _, hh⟩
  · omega
  · have := has_clr (t := p.taken) (N_of s0.1 s0.2 hr.2) (N_of k0.1 k0.2 hr.2)
    rw [hz, hh] at this
    have e0 : Bt.hasI 0 k = false := by rw [Bt.hasI_N (N_of k0.1 k0.2 hr.2)]; simp
    rw [e0] at this
    simp at this
    exact this.symm ▸ rfl

/-- What is so behind Free of a block. -/
def FreePost (w : World) (bh bs bm : Nat) (q : Int) (pg : List (Int × Nat)) (W : Int → Int) (L : List Pg) (p : Pg) (s : Int) (w' : World) : Prop :=
  ∃ pg' W', St w' bh bs bm q pg' W' (dropL L p s) ∧ Sl.Step bs bm pg pg' w w' ∧ SameBut L p s W W'

theorem leave_any (h : St w bh bs bm q pg W L) {p : Pg} (hm : p ∈ L) (h1 : p.kind = 1) {s : Int} (hs : s ∈ slotsOf p) (t0 : Int) : Calls Tryz.prog 93 #[hp bh, bkV (withT p t0) s] w fun e w' => e = .returned (.tuple #[]) ∧ FreePost w bh bs bm q pg W L p s w' := by
  have he := h.ly.ent p hm
  have hsm := he.small h1
  have hrg := h.range hm
  have hsp := he.span
  have hr := slo_range p.cls
  have s0 := slot_ok hs h1
  have hN := N_of s0.1 s0.2 hr.2
  have hh : W (64 * p.n + 1) = p.taken := by rw [h.ly.h p hm]; unfold heldI; rw [if_pos h1]
  unfold FreePost dropL
  rw [if_neg (by omega)]
  by_cases hz : Bt.clrI p.taken s = 0
  · rw [if_pos hz]
    refine (leave_none h.hw (withT p t0) s hrg.1 (show p.n ≤ 1048575 by omega) (show (Sl.blk pg p.n).isSome = true from h.ly.has0 hm) hN (show Bt.clrI (W (64 * p.n + 1)) s = 0 by rw [hh]; exact hz)).mono ?_
    rintro e w1 ⟨rfl, pg1, g1, h2, s2⟩
    have g1' : Sl.Gone pg pg1 p.n p.span := by rw [hsm.2.2.2.2.2.2]; exact g1
    have e1 : Sl.zr W (withT p t0).n 1 = Sl.zr W p.n p.span := by rw [hsm.2.2.2.2.2.2]; rfl
    refine ⟨rfl, pg1, _, ⟨h2, by rw [e1]; exact h.ly.gone hm g1'⟩, s2, fun r hr2 k hk hne i i0 i1 => ?_⟩
    rw [e1]
    refine h.ly.gone_same hm hr2 (fun e => ?_) hk i0 i1
    subst e
    rcases hne with hne | hne
    · exact hne rfl
    · exact hne (clr_zero he h1 hs hz hk)
  · rw [if_neg hz]
    have hpl := place_in he (s := s) (fun _ => s0)
    have lv := leave_some h.hw (withT p t0) s hrg.1 (show p.n ≤ 1048575 by omega) (show (Sl.blk pg p.n).isSome = true from h.ly.has0 hm) hsm.1 hsm.2.1 hN (show Bt.clrI (W (64 * p.n + 1)) s ≠ 0 by rw [hh]; exact hz) (show 0 ≤ roomI p by omega) (show roomI p ≤ 5000 by omega) (fun i i0 i1 => h.reads hm (fun _ => s0) i0 i1)
    have hh' : W (64 * (withT p t0).n + 1) = p.taken := hh
    rw [hh'] at lv
    refine lv.mono ?_
    rintro e w1 ⟨rfl, h2, s2⟩
    exact ⟨rfl, pg, _, ⟨h2, h.ly.setT hm h1 s0 hz (Bt.clrI_U hsm.2.2.2.1) (cut_clr hsm.2.2.2.1 hr.1 hr.2 hsm.2.2.2.2.1 s0.1 s0.2)⟩, s2, fun r hr2 k hk hne i i0 i1 => h.ly.setT_same hm h1 s0 hr2 hk hne i0 i1⟩

/-- An entry's pages may be released. -/
theorem St.rel (h : St w bh bs bm q pg W L) {p : Pg} (hm : p ∈ L) : Sl.relE pg p.n p.span = 0 := by
  have hrg := h.range hm
  have hsp := (h.ly.ent p hm).span
  have a1 : Sl.isPageB p.n = true := by simp [Sl.isPageB]; omega
  have a2 : Sl.isPageB (p.n + p.span - 1) = true := by simp [Sl.isPageB]; omega
  have a4 : Sl.isCountB p.span = true := by simp [Sl.isCountB]; omega
  have a3 : Sl.allIn pg p.n p.span.toNat = true := Sl.allIn_iff.2 fun i hi => h.ly.has hm i (by omega) (by omega)
  unfold Sl.relE
  rw [if_pos ⟨a1, a4, a2⟩, if_pos a3]

set_option maxRecDepth 100000 in
theorem free_any (h : St w bh bs bm q pg W L) (a : Int) (ha : In64 a) : Calls Tryz.prog 61 #[hp bh, .int .i64 a] w fun e w' => e = .returned (.int .i64 (freeL L a).1) ∧ ((findB L a = none ∧ K w w') ∨ ∃ p s, findB L a = some (p, s) ∧ FreePost w bh bs bm q pg W L p s w') := by
  have fd := find_any h.hw a ha
  rw [h.heads] at fd
  unfold freeL
  cases hf : findB L a with
  | none =>
    rw [hf] at fd
    go_enter Tryz.func61, Tryz.ntmps61
    go_wp2_with fail
    refine fd.mono ?_
    rintro e w1 ⟨rfl, k1⟩
    dsimp only [fdV]
    go_wp2
    go_ret
    exact ⟨rfl, .inl ⟨trivial, k1.alloc _⟩⟩
  | some ps =>
    obtain ⟨p, s⟩ := ps
    rw [hf] at fd
    obtain ⟨hm, hs, _⟩ := findB_some hf
    clear hf
    rcases (h.ly.ent p hm).kind with hk | hk
    · have lv := fun w1 (k1 : K w w1) => leave_any (h.keep k1) hm hk hs p.taken
      have hk2 : (p.kind == 2) = false := by rw [hk]; decide
      clear hk
      go_enter Tryz.func61, Tryz.ntmps61
      go_wp2_with fail
      refine fd.mono ?_
      rintro e w1 ⟨rfl, k1⟩
      dsimp only [fdV]
      go_wp2_with fail
      refine (lv _ (k1.alloc _)).mono ?_
      rintro e w2 ⟨rfl, pg2, W2, h2, s2, sb⟩
      go_wp2
      go_ret
      exact ⟨rfl, .inr ⟨p, s, rfl, pg2, W2, h2, (k1.alloc _).thenStep s2, sb⟩⟩
    · have hdl : Hid (dropL L p s = delL L p.n) := by show _ = _; unfold dropL; rw [if_pos hk]
      have rl := fun w1 (k1 : K w w1) => Sl.release_ok (h.hw.keep k1).ar p.n p.span (h.rel hm)
      have hgo := fun pg1 (g : Sl.Gone pg pg1 p.n p.span) => h.ly.gone hm g
      have HG : Aside _ := hgo
      have hk2 : (p.kind == 2) = true := by rw [hk]; decide
      have HS : Aside (SameBut L p s W (Sl.zr W p.n p.span)) := fun r hr2 k hkk hne i i0 i1 => by
        refine h.ly.gone_same hm hr2 (fun e => ?_) hkk i0 i1
        subst e
        rcases hne with hne | hne
        · exact hne rfl
        · refine hne ?_
          rcases mem_slots.1 hkk with ⟨_, e1⟩ | ⟨e1, _⟩
          · rcases mem_slots.1 hs with ⟨_, e2⟩ | ⟨e2, _⟩
            · rw [e1, e2]
            · omega
          · omega
      clear hk hgo
      go_enter Tryz.func61, Tryz.ntmps61
      go_wp2_with fail
      refine fd.mono ?_
      rintro e w1 ⟨rfl, k1⟩
      dsimp only [fdV]
      obtain ⟨w2, hw2⟩ : ∃ w2, w2 = w1.alloc (.cells (cellsB p s) 128) := ⟨_, rfl⟩
      have k2 : K w1 w2 := by rw [hw2]; exact (K.refl w1).alloc _
      have hB2 : w2.heap[w1.heap.size]? = some (.cells (cellsB p s) 128) := by rw [hw2]; exact World.alloc_heap_new _ _
      have hn := nf_new (h.hw.keep k1) (Nat.le_refl w1.heap.size)
      have hn2 := h.hw.nfh
      obtain ⟨⟨x0, x1, x2, x3, x4, x5, x6⟩, _⟩ := seven hB2
      have k12 := k1.trans k2
      have c0 := (h.hw.keep k12).c0
      have rl2 := rl _ k12.drew
      have hwd := h.hw.keep k12.drew
      clear rl
      go_wp2
      rw [← hw2]
      clear hw2
      generalize w1.heap.size = B at *
      go_region_held3 (fun w' => w'.cell? ⟨bh, 0, none⟩ = some (.pointer (some ⟨bs, 0, none⟩)) ∧ w'.cell? ⟨B, 0, none⟩ = some (.int .i64 p.n) ∧ w'.cell? ⟨B, 5, none⟩ = some (.int .i64 p.span))
        (first | exact ⟨c0, x0, x5⟩ | exact ⟨Step.cell s3 c0 hn2, Step.cell s3 x0 hn, Step.cell s3 x5 hn⟩)
        (first | (go_at_call 92; refine rl2.mono ?_; rintro e w3 ⟨rfl, pg3, g3, a3, s3⟩))
      go_wp2
      go_ret
      exact ⟨rfl, .inr ⟨p, s, rfl, pg3, _, ⟨hwd.step a3 s3, by rw [hdl.out]; exact HG.out pg3 g3⟩, k12.drew.thenStep s3, HS.out⟩⟩

end Hp
end Go.Proofs.YtbbjfebdihepnaaGreatDoor

/-
  The walk of package heap's wordsOf: a copy of the words of a large block's pages.
-/
namespace Go.Proofs.YtbbjfebdihepnaaGreatDoor
open Go.RowKit
attribute [local go_sem ↓] Go.wp_at_zero Go.wp_at_succ
namespace Hp
variable {w w' : World} {bh bs bm : Nat} {q : Int} {pg pg' : List (Int × Nat)} {W W' : Int → Int} {L : List Pg}

theorem row_set (F : Nat → Int) (n k : Nat) : (Sl.rowOf F n k).setIfInBounds k (.int .u64 (F k)) = Sl.rowOf F n (k + 1) := by
  apply Array.ext_getElem?
  intro j
  rw [Array.getElem?_setIfInBounds]
  have hs : (Sl.rowOf F n k).size = n := by simp [Sl.rowOf]
  by_cases hj : j < n
  · by_cases e : k = j
    · subst e
      rw [if_pos rfl, if_pos (by rw [hs]; exact hj), Sl.row_get _ _ _ _ hj, if_pos (by omega)]
    · rw [if_neg e, Sl.row_get _ _ _ _ hj, Sl.row_get _ _ _ _ hj]
      by_cases h2 : j < k
      · rw [if_pos h2, if_pos (by omega)]
      · rw [if_neg h2, if_neg (by omega)]
  · have h1 : (Sl.rowOf F n k)[j]? = none := Array.getElem?_eq_none (by rw [hs]; omega)
    have h2 : (Sl.rowOf F n (k + 1))[j]? = none := Array.getElem?_eq_none (by simp [Sl.rowOf]; omega)
    rw [h1, h2]
    split
    · rw [if_neg (by rw [hs]; omega)]
    · rfl

end Hp
end Go.Proofs.YtbbjfebdihepnaaGreatDoor
