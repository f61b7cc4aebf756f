/-
  Heads of any words: where none is wrong, they are a heap's entries; blocks' addresses rise. No Go text is named here.
-/
import Derived.Test.YtkjjobafbcdmoaaGreatDoorH6
import Derived.Test.YtkjjobafbcdmoaaGreatDoorR10
namespace Go.Proofs.YtkjjobafbcdmoaaGreatDoor
namespace Hp
variable {pg : List (Int × Nat)} {W : Int → Int} {L : List Pg}

theorem scanAny_mem {f : Int → Pg} (hs : ∀ n, 1 ≤ (f n).span) : ∀ (ks : List Int) (b : Int), ∀ p ∈ scan f ks b, ∃ n ∈ ks, p = f n ∧ b ≤ n
  | [], _ => fun p hp => by cases hp
  | n :: r, b => fun p hp => by
    by_cases h : n < b
    · rw [scan_skip _ _ _ _ h] at hp
      obtain ⟨m, hm, e, hb⟩ := scanAny_mem hs r b p hp
      exact ⟨m, List.mem_cons_of_mem _ hm, e, hb⟩
    · rw [scan_take _ _ _ _ h] at hp
      rcases List.mem_cons.1 hp with rfl | hp
      · exact ⟨n, by simp, rfl, by omega⟩
      · obtain ⟨m, hm, e, hb⟩ := scanAny_mem hs r _ p hp
        have := hs n
        exact ⟨m, List.mem_cons_of_mem _ hm, e, by omega⟩

theorem scan_srt {f : Int → Pg} (hs : ∀ n, 1 ≤ (f n).span) (hn : ∀ n, (f n).n = n) : ∀ (ks : List Int) (b : Int), Srt (scan f ks b)
  | [], _ => List.Pairwise.nil
  | n :: r, b => by
    by_cases h : n < b
    · rw [scan_skip _ _ _ _ h]
      exact scan_srt hs hn r b
    · rw [scan_take _ _ _ _ h]
      refine List.Pairwise.cons (fun p hp => ?_) (scan_srt hs hn r _)
      obtain ⟨m, _, rfl, hb⟩ := scanAny_mem hs r _ p hp
      rw [hn, hn]
      exact hb

theorem scan_cov {f : Int → Pg} (hs : ∀ n, 1 ≤ (f n).span) (hn : ∀ n, (f n).n = n) : ∀ (ks : List Int) (b : Int), ks.Pairwise (fun x y => x < y) → ∀ k ∈ ks, k < b ∨ In (scan f ks b) k
  | [], _, _ => fun k hk => by cases hk
  | n :: r, b, hp => fun k hk => by
    obtain ⟨h1, h2⟩ := List.pairwise_cons.1 hp
    by_cases h : n < b
    · rw [scan_skip _ _ _ _ h]
      rcases List.mem_cons.1 hk with rfl | hk
      · exact .inl h
      · exact scan_cov hs hn r b h2 k hk
    · rw [scan_take _ _ _ _ h]
      right
      have s0 := hs n
      rcases List.mem_cons.1 hk with rfl | hk
      · exact ⟨f k, by simp, by rw [hn]; omega, by rw [hn]; omega⟩
      · have := h1 k hk
        rcases scan_cov hs hn r _ h2 k hk with h3 | ⟨p, hp, h3⟩
        · exact ⟨f n, by simp, by rw [hn]; omega, by rw [hn]; omega⟩
        · exact ⟨p, List.mem_cons_of_mem _ hp, h3⟩

/-- An entry that is not wrong is right. -/
theorem lookAny_ent (hw : ∀ a, Sl.WordOk (W a)) {n : Int} (hb : (Sl.blk pg n).isSome = true) (hk : (look pg W n).kind ≠ 0) : Ent (look pg W n) ∧ W (64 * n) = markI (look pg W n) ∧ W (64 * n + 1) = heldI (look pg W n) ∧ ∀ k, n ≤ k → k < n + (look pg W n).span → (Sl.blk pg k).isSome = true := by
  unfold look at hk ⊢
  split
  · next h =>
    obtain ⟨h1, h2, h3, h4⟩ := classOk_inv h
    obtain ⟨c0, c1⟩ := C_of h1
    refine ⟨.inl ⟨rfl, c0, c1, h2, U_of_ok (hw _), h4, rfl, rfl⟩, ?_, ?_, fun k k0 k1 => ?_⟩
    · show W (64 * n) = markI _
      unfold markI
      rw [if_pos rfl]
      exact h3
    · show W (64 * n + 1) = heldI _
      unfold heldI
      rw [if_pos rfl]
    · have : k = n := by
        have : k < n + 1 := k1
        omega
      rw [this]
      exact hb
  · next h =>
    rw [if_neg h] at hk
    split
    · next h2 =>
      simp only [Bool.and_eq_true] at h2
      obtain ⟨h3, h4, h5, h6⟩ := largeOk_inv h2.1
      have hp := pag_range h3 h4
      refine ⟨.inr ⟨rfl, rfl, rfl, h3, h4, h5, rfl⟩, ?_, ?_, fun k k0 k1 => ?_⟩
      · show W (64 * n) = markI _
        unfold markI
        rw [if_neg (show ¬ (2 : Int) = 1 by decide)]
        exact h6
      · show W (64 * n + 1) = heldI _
        unfold heldI
        rw [if_neg (show ¬ (2 : Int) = 1 by decide)]
      · have k2 : k < n + Cl.pagI (W (64 * n + 1)) := k1
        have := Sl.allIn_iff.1 h2.2 (k - n).toNat (by omega)
        rw [show n + ((k - n).toNat : Int) = k by omega] at this
        exact this
    · next h2 =>
      rw [if_neg h2] at hk
      exact absurd rfl hk

theorem lay_heads (hr : Sl.Rising pg) (h1 : ∀ p ∈ pg, 0 ≤ p.1) (hw : ∀ a, Sl.WordOk (W a)) (h0 : audI (heads pg W) = 0) : Lay pg W (heads pg W) := by
  have hs := fun n => (look_span pg W n).1
  have hn := look_n pg W
  have nk : ∀ p ∈ heads pg W, p.kind ≠ 0 := by
    intro p hp hk
    unfold audI at h0
    rw [if_pos] at h0
    · cases h0
    · simp only [List.any_eq_true, beq_iff_eq]
      exact ⟨p, hp, hk⟩
  have hm : ∀ n, n ∈ (pg.map fun p => p.1) ↔ (Sl.blk pg n).isSome = true := fun n => by
    rw [Option.isSome_iff_ne_none, Ne, Sl.blk_none_iff]
    simp only [List.mem_map]
    constructor
    · rintro ⟨p, hp, rfl⟩ h
      exact h p hp rfl
    · intro h
      exact Classical.byContradiction fun hn => h fun p hp e => hn ⟨p, hp, e⟩
  have hp : (pg.map fun p => p.1).Pairwise (fun x y => x < y) := by
    rw [List.pairwise_map]
    exact hr
  have key : ∀ p ∈ heads pg W, ∃ n, p = look pg W n ∧ (Sl.blk pg n).isSome = true := fun p hp => by
    obtain ⟨n, h1, h2, _⟩ := scanAny_mem hs _ _ p hp
    exact ⟨n, h2, (hm n).1 h1⟩
  refine ⟨fun p hp => ?_, fun p hp => ?_, fun p hp => ?_, scan_srt hs hn _ _, fun k => ?_⟩
  · obtain ⟨n, rfl, hb⟩ := key p hp
    exact (lookAny_ent hw hb (nk _ hp)).1
  · obtain ⟨n, rfl, hb⟩ := key p hp
    rw [hn]
    exact (lookAny_ent hw hb (nk _ hp)).2.1
  · obtain ⟨n, rfl, hb⟩ := key p hp
    rw [hn]
    exact (lookAny_ent hw hb (nk _ hp)).2.2.1
  · constructor
    · intro h
      have hk := (hm k).2 h
      obtain ⟨p, hp', rfl⟩ := List.mem_map.1 hk
      have := h1 p hp'
      rcases scan_cov hs hn _ 0 hp p.1 hk with h3 | h3
      · omega
      · exact h3
    · rintro ⟨p, hp, k0, k1⟩
      obtain ⟨n, rfl, hb⟩ := key p hp
      rw [hn] at k0 k1
      exact (lookAny_ent hw hb (nk _ hp)).2.2.2 k k0 k1

theorem at_monoH {p : Pg} (he : Ent p) (h1 : p.kind = 1) {s t : Int} (hs : 0 ≤ s) (hst : s ≤ t) (ht : t < Cl.sloI p.cls) : atI p s ≤ atI p t := by
  rcases he with ⟨_, h2, h3, _⟩ | ⟨h, _⟩
  · unfold atI
    rw [if_neg (by omega), if_neg (by omega)]
    have hsl : Cl.Sl p.cls s := ⟨hs, by omega⟩
    have htl : Cl.Sl p.cls t := ⟨by omega, ht⟩
    rw [Cl.plaI_in hsl, Cl.plaI_in htl]
    have hz := (Cl.siz_in (Hp.errC_in h2 h3)).1
    have := Int.mul_le_mul_of_nonneg_right hst (show 0 ≤ Cl.sizI p.cls by omega)
    omega
  · omega

theorem slots_riseH (p : Pg) : (slotsOf p).Pairwise (fun x y => x < y) := by
  unfold slotsOf
  split
  · simp
  · split
    · unfold takenTo
      refine List.Pairwise.filter _ ?_
      rw [List.pairwise_map]
      exact List.pairwise_lt_range.imp (fun h => by omega)
    · simp

theorem live_riseH : ∀ {L : List Pg}, (∀ p ∈ L, Ent p) → Srt L → (liveL L).Pairwise (fun x y => x < y)
  | [], _, _ => List.Pairwise.nil
  | p :: L, le, ls => by
    obtain ⟨a1, a2⟩ := List.pairwise_cons.1 ls
    have e : liveL (p :: L) = liveP p (slotsOf p) ++ liveL L := by simp [liveL]
    rw [e, List.pairwise_append]
    have ep := le p (by simp)
    refine ⟨?_, live_riseH (fun q hq => le q (List.mem_cons_of_mem _ hq)) a2, fun x hx y hy => ?_⟩
    · unfold liveP
      rw [List.pairwise_map]
      refine (slots_riseH p).imp_of_mem fun {s t} hs ht hst => ?_
      rcases ep.kind with k | k
      · have o1 := slot_ok hs k
        have o2 := slot_ok ht k
        have h1 := at_monoH ep k o1.1 (by omega) o2.2
        have h2 := slots_apart ep k o1 o2 (by omega)
        have h3 := place_in ep (s := s) (fun _ => o1)
        unfold addrI
        omega
      · have m1 := mem_slots.1 hs
        have m2 := mem_slots.1 ht
        omega
    · obtain ⟨s, hs, rfl⟩ := List.mem_map.1 hx
      obtain ⟨q, hq, hy2⟩ := List.mem_flatMap.1 hy
      obtain ⟨t, ht, rfl⟩ := List.mem_map.1 hy2
      have h1 := a1 q hq
      have h2 := word_page ep (slot_ok hs) (i := 0) (by omega) (by have := place_in ep (slot_ok hs); omega)
      have h3 := word_page (le q (List.mem_cons_of_mem _ hq)) (slot_ok ht) (i := 0) (by omega) (by have := place_in (le q (List.mem_cons_of_mem _ hq)) (slot_ok ht); omega)
      omega

end Hp
end Go.Proofs.YtkjjobafbcdmoaaGreatDoor

/-
  An arena alone, made since: Claim, Write; blocks as any words tell them.
-/
namespace Go.Proofs.YtkjjobafbcdmoaaGreatDoor
open Go.RowKit Go.Maps
attribute [local go_sem ↓] Go.wp_at_zero Go.wp_at_succ
namespace Hp
variable {w0 w w' : World} {bh bs bm : Nat} {q : Int} {pg pg' : List (Int × Nat)} {W W' : Int → Int} {L : List Pg}

structure Ra (w0 w : World) (bs bm : Nat) (q : Int) (pg : List (Int × Nat)) (W : Int → Int) : Prop where
  ar : Sl.Arena w bs bm q pg W
  k : K w0 w
  lo : ∀ k, Sl.foot bs bm pg k → w0.heap.size ≤ k
/-- An arena made since, whatever its pages and words are. -/
def Rea (w0 w : World) (bs bm : Nat) (q : Int) : Prop := ∃ pg W, Ra w0 w bs bm q pg W

theorem Ra.step (h : Ra w0 w bs bm q pg W) (a : Sl.Arena w' bs bm q pg' W') (s : Sl.Step bs bm pg pg' w w') : Ra w0 w' bs bm q pg' W' :=
  ⟨a, ⟨s.os.trans h.k.os, s.tape.trans h.k.tape, s.output.trans h.k.output, Nat.le_trans h.k.size s.size, fun j hj hn => (s.kept j (Nat.lt_of_lt_of_le hj h.k.size) (fun hf => by have := h.lo j hf; omega)).trans (h.k.same j hj hn)⟩, fun j hj => by
    rcases s.inn j hj with h1 | h1
    · exact h.lo j h1
    · exact Nat.le_trans h.k.size h1⟩
theorem Ra.keep (h : Ra w0 w bs bm q pg W) (k : K w w') : Ra w0 w' bs bm q pg W := ⟨h.ar.stays fun j hj => k.same j (h.ar.foot_lt hj) (fun x => x), h.k.trans k, h.lo⟩
theorem Rea.keep (h : Rea w0 w bs bm q) (k : K w w') : Rea w0 w' bs bm q := by
  obtain ⟨pg, W, r⟩ := h
  exact ⟨pg, W, r.keep k⟩
theorem Rea.k (h : Rea w0 w bs bm q) : K w0 w := by
  obtain ⟨pg, W, r⟩ := h
  exact r.k

theorem wrap_same {x : Int} (h0 : 0 ≤ x) (h1 : x ≤ 9223372036854775807) : IntKind.i64.wrap x = x := by
  rw [IntKind.wrap_i64]
  omega

theorem wf_i64 {a : Int} (h : In64 a) : (Lit.int .i64 a).wf = true := by
  have e1 : IntKind.i64.min = -9223372036854775808 := rfl
  have e2 : IntKind.i64.max = 9223372036854775807 := rfl
  obtain ⟨h1, h2⟩ := h
  simp only [Lit.wf, Bool.and_eq_true, decide_eq_true_eq]
  omega

theorem rea_new (n : Int) (w : World) (h0 : 0 ≤ n) (h1 : n ≤ 262144) : Calls Tryz.prog 5 #[.int .i64 n] w fun e w' => ∃ bs bm, e = .returned (.tuple #[.pointer (some ⟨bs, 0, none⟩), .int .i64 0]) ∧ Aside (Rea w w' bs bm n) := by
  refine (Sl.new_ok n w h0 h1).mono ?_
  rintro e w2 ⟨rfl, ha, hb⟩
  refine ⟨_, _, rfl, [], _, ha, K.of_below hb, fun k hk => ?_⟩
  rcases hk with rfl | rfl | ⟨p, hp, rfl⟩
  · omega
  · exact Nat.le_refl _
  · simp at hp
theorem Rea.claim (h : Rea w0 w bs bm q) (p : Int) (hp : In64 p) : Calls Tryz.prog 6 #[.pointer (some ⟨bs, 0, none⟩), .int .i64 p] w fun e w' => (∃ x, e = .returned (.int .i64 x)) ∧ Aside (Rea w0 w' bs bm q) := by
  obtain ⟨pg, W, r⟩ := h
  by_cases he : Sl.claimE q pg p = 0
  · refine (Sl.claim_ok r.ar p he).mono ?_
    rintro e w2 ⟨rfl, b, ha, hs⟩
    exact ⟨⟨_, rfl⟩, _, _, r.step ha hs⟩
  · refine (Sl.claim_no r.ar p (wf_i64 hp) he).mono ?_
    rintro e w2 ⟨rfl, k, rfl⟩
    exact ⟨⟨_, rfl⟩, pg, W, r.keep (K.drewN (K.refl w) k)⟩
theorem Rea.write (h : Rea w0 w bs bm q) (a x : Int) (hx : Sl.WordOk x) : Calls Tryz.prog 7 #[.pointer (some ⟨bs, 0, none⟩), .int .i64 a, .int .u64 x] w fun e w' => (∃ y, e = .returned (.int .i64 y)) ∧ Aside (Rea w0 w' bs bm q) := by
  obtain ⟨pg, W, r⟩ := h
  by_cases he : Sl.readE pg a = 0
  · refine (Sl.write_ok r.ar a x he hx).mono ?_
    rintro e w2 ⟨rfl, ha, hs⟩
    exact ⟨⟨_, rfl⟩, _, _, r.step ha hs⟩
  · refine (Sl.write_no r.ar a x he).mono ?_
    rintro e w2 ⟨rfl, rfl⟩
    exact ⟨⟨_, rfl⟩, pg, W, r⟩

theorem slots_lenH (p : Pg) : (slotsOf p).length ≤ 31 := by
  unfold slotsOf
  split
  · simp
  · split
    · unfold takenTo
      refine Nat.le_trans (List.length_filter_le _ _) ?_
      rw [List.length_map, List.length_range]
      have := slo_le p.cls
      omega
    · simp
theorem live_leH : ∀ L : List Pg, (liveL L).length ≤ 31 * L.length
  | [] => by simp [liveL]
  | p :: L => by
    have ih := live_leH L
    have h1 := slots_lenH p
    simp only [liveL, liveP, List.flatMap_cons, List.length_append, List.length_map, List.length_cons] at ih ⊢
    omega
theorem len_grantedH : ∀ L : List Pg, (∀ p ∈ L, 1 ≤ p.span) → (L.length : Int) ≤ granted L
  | [], _ => by simp [granted]
  | p :: L, h => by
    have ih := len_grantedH L (fun r hr => h r (by simp [hr]))
    have := h p (by simp)
    simp only [granted, List.length_cons, List.map_cons, List.sum_cons] at ih ⊢
    omega
theorem St.few (h : St w bh bs bm q pg W L) : (liveL L).length ≤ 200000 := by
  have h1 := live_leH L
  have h2 := len_grantedH L (fun p hp => (h.ly.ent p hp).span.1)
  have h3 := h.len
  have h4 := h.hw.ar.len
  omega

/-- What is so of a block. -/
theorem St.block (h : St w bh bs bm q pg W L) {a : Int} (ha : a ∈ liveL L) : ∃ r, roomL L a = (r, 0) ∧ 1 ≤ r ∧ r ≤ 4000 ∧ 2 ≤ a ∧ a ≤ 67108864 ∧ (Sl.blk pg (a / 64)).isSome = true ∧ (Sl.blk pg ((a + r - 1) / 64)).isSome = true := by
  obtain ⟨p, hp, ha2⟩ := List.mem_flatMap.1 ha
  obtain ⟨s, hs, rfl⟩ := List.mem_map.1 ha2
  have ep := h.ly.ent p hp
  have hr := place_in ep (slot_ok hs)
  have h0 := word_page ep (slot_ok hs) (i := 0) (by omega) (by omega)
  have h1 := word_page ep (slot_ok hs) (i := roomI p - 1) (by omega) (by omega)
  have hf := h.wl.find hp hs
  have hc := fun k (k0 : p.n ≤ k) (k1 : k < p.n + p.span) => (h.ly.cov k).2 ⟨p, hp, k0, k1⟩
  have hn0 := h.wl.n0 p hp
  have hc1 := hc ((addrI p s + roomI p - 1) / 64) (by omega) (by omega)
  have hrng : (addrI p s + roomI p - 1) / 64 ≤ 1048575 := by
    obtain ⟨b, hb⟩ := Option.isSome_iff_exists.1 hc1
    have hm := Sl.blk_mem hb
    exact (h.hw.ar.rng _ hm).2
  refine ⟨roomI p, ?_, hr.2.1, hr.2.2.1, by omega, by omega, hc _ (by omega) (by omega), hc1⟩
  unfold roomL
  rw [hf]

end Hp
end Go.Proofs.YtkjjobafbcdmoaaGreatDoor

/-
  A heap of any words, and one made anew over an arena that has blocks: what is told of each.
-/
namespace Go.Proofs.YtkjjobafbcdmoaaGreatDoor
open Go.RowKit Go.Maps
namespace Hp
variable {w0 w w' : World} {bh bs bm br : Nat} {q : Int} {pg : List (Int × Nat)} {W : Int → Int} {L : List Pg}

theorem Rea.new (h : Rea w0 w bs bm q) (hT : Bt.Tab w0) : ∃ pg W, Sl.Arena w bs bm q pg W ∧ (audI (heads pg W) = 0 ∨ audI (heads pg W) ≠ 0) ∧ Calls Tryz.prog 8 #[.pointer (some ⟨bs, 0, none⟩)] w fun e w' => (audI (heads pg W) = 0 → e = .returned (.tuple #[hp w.heap.size, .int .i64 0])) ∧ (audI (heads pg W) ≠ 0 → e = .returned (.tuple #[.pointer none, .int .i64 8])) ∧ Hw w' w.heap.size bs bm q pg W ∧ K w w' := by
  obtain ⟨pg, W, r⟩ := h
  refine ⟨pg, W, r.ar, Classical.em _, new_any r.ar (hT.keep ⟨r.k.below⟩) fun hf => ?_⟩
  have := r.lo 0 hf
  have := lt0 hT
  omega

/-- Of a heap: its blocks, in a row of one's own; and each. -/
structure Bs (w : World) (b bs : Nat) (X : List Int) : Prop where
  live : ∀ wx, K w wx → Calls Tryz.prog 9 #[hp b] wx fun e w2 => ∃ v, e = .returned v ∧ Aside (w2.ownsRow wx.heap.size 3 1 v X.length (X.map encI)) ∧ K wx w2
  room : ∀ a ∈ X, ∃ r, 1 ≤ r ∧ r ≤ 4000 ∧ 2 ≤ a ∧ a ≤ 67108864 ∧ (∀ wx, K w wx → Calls Tryz.prog 10 #[hp b, .int .i64 a] wx fun e w2 => e = .returned (.tuple #[.int .i64 r, .int .i64 0]) ∧ K wx w2) ∧ ∀ wx, K w wx → (Calls Tryz.prog 11 #[.pointer (some ⟨bs, 0, none⟩), .int .i64 (a / 64)] wx fun e w2 => e = .returned (.bool true) ∧ w2 = wx) ∧ Calls Tryz.prog 11 #[.pointer (some ⟨bs, 0, none⟩), .int .i64 ((a + r - 1) / 64)] wx fun e w2 => e = .returned (.bool true) ∧ w2 = wx
  rise : X.Pairwise (fun x y => x < y)
  few : X.length ≤ 65536

theorem St.told (h : St w bh bs bm q pg W L) (hq : q ≤ 4000) : Bs w bh bs (liveL L) := by
  refine ⟨fun wx k => (live_any (h.keep k) h.few).mono fun e w2 h2 => ?_, fun a ha => ?_, live_riseH h.ly.ent h.ly.srt, ?_⟩
  · obtain ⟨v, h3, h4, h5⟩ := h2
    exact ⟨v, h3, h4, h5⟩
  · obtain ⟨r, h1, h2, h3, h4, h5, h6, h7⟩ := h.block ha
    refine ⟨r, h2, h3, h4, h5, fun wx k => ?_, fun wx k => ⟨?_, ?_⟩⟩
    · have := room_call (h.keep k) a ⟨by omega, by omega⟩
      rw [h1] at this
      exact this
    · have := Sl.is_any (h.keep k).hw.ar (a / 64) (wf_i64 ⟨by omega, by omega⟩)
      rw [h6] at this
      exact this.mono fun e w2 h => ⟨h.1, h.2.symm⟩
    · have := Sl.is_any (h.keep k).hw.ar ((a + r - 1) / 64) (wf_i64 ⟨by omega, by omega⟩)
      rw [h7] at this
      exact this.mono fun e w2 h => ⟨h.1, h.2.symm⟩
  · have h1 := live_leH L
    have h2 := len_grantedH L (fun p hp => (h.ly.ent p hp).span.1)
    have h3 := h.len
    have h4 := h.hw.ar.full
    omega

theorem start_pe {w1 : World} {bh bs bm : Nat} (h : Rn w0 w1 bh bs bm q [] (fun _ => 0) []) (hq : q ≤ 4000) : Pe w0 (w1.alloc (.cells #[.int .i64 q, .slice none 0 0] 46)) bh bs bm w1.heap.size q [] [] :=
  ⟨[], fun _ => 0, none, 0, [], ⟨h.keep ((K.refl _).alloc _), ⟨World.alloc_heap_new _ _, World.ownsRow_nil _ _ _ _⟩, ⟨h.st.wl, by simp, fun e he => (by cases he)⟩, h.k.size, hq⟩, rfl⟩

/-- A heap made anew over the arena of one that has blocks. -/
theorem Pe.renew {M : List Pg} (h : Pe w0 w bh bs bm br q L M) (hq : q ≤ 4000) : Calls Tryz.prog 8 #[.pointer (some ⟨bs, 0, none⟩)] w fun e w' => e = .returned (.tuple #[hp w.heap.size, .int .i64 0]) ∧ Aside (Bs w' w.heap.size bs (liveL L) ∧ Bs w' bh bs (liveL L) ∧ K w0 w') := by
  obtain ⟨pg, W, a, cap, E, hp', he⟩ := h
  have st := hp'.rn.st
  have h0 : audI (heads pg W) = 0 := by
    rw [st.heads]
    unfold audI
    rw [if_neg]
    simp only [List.any_eq_true, beq_iff_eq, not_exists, not_and]
    intro p hp'' h0
    rcases (st.ly.ent p hp'').kind with h | h <;> omega
  refine (new_any st.hw.ar st.hw.tab st.hw.nf0).mono ?_
  rintro e w2 ⟨h1, _, h3, k⟩
  exact ⟨h1 h0, St.told ⟨h3, st.ly⟩ hq, (st.keep k).told hq, hp'.rn.k.trans k⟩

end Hp
end Go.Proofs.YtkjjobafbcdmoaaGreatDoor
