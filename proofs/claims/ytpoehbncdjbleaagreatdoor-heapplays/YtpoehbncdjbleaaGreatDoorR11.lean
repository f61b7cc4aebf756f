/-
  The other calls of the statement, heap and reference side by side: Live, Pages, Audit, Spare.
-/
import Derived.Test.YtpoehbncdjbleaaGreatDoorR10
import Derived.Test.YtpoehbncdjbleaaGreatDoorR8
import Derived.Test.YtpoehbncdjbleaaGreatDoorH7
namespace Go.Proofs.YtpoehbncdjbleaaGreatDoor
open Go.RowKit Go.Maps Go.Shelf
attribute [local go_sem ↓] Go.wp_at_zero Go.wp_at_succ
namespace Hp
variable {w0 w w' : World} {bh bs bm br : Nat} {q : Int} {L M : List Pg}

variable {E : List Re} in
theorem live_fewer (hE : Eo E) : (liveL (entsR E)).length ≤ 65536 := by
  have key : ∀ L : List Pg, (∀ p ∈ L, Ent p) → (liveL L).length ≤ L.length * 31 := by
    intro L
    induction L with
    | nil => intro _; simp [liveL]
    | cons p l ih =>
      intro h
      have h1 := ih fun r hr => h r (by simp [hr])
      have h2 : (liveP p (slotsOf p)).length ≤ 31 := by
        have hp := h p (by simp)
        have h3 : (slotsOf p).length ≤ 31 := by
          rw [← takenE_all hp]
          have := takenE_len p (nslI p).toNat
          have := nsl_range hp
          omega
        simpa [liveP] using h3
      have : liveL (p :: l) = liveP p (slotsOf p) ++ liveL l := by simp [liveL]
      rw [this, List.length_append, List.length_cons]
      omega
  have h := key _ hE.wl.ent
  have : (entsR E).length = E.length := by simp [entsR]
  have := hE.len
  omega
theorem Pe.few (h : Pe w0 w bh bs bm br q L M) : (liveL M).length ≤ 65536 := by
  obtain ⟨pg, W, a, cap, E, hp, rfl⟩ := h
  exact live_fewer hp.eo

/-- The pages of the arena, in a row of one's own. -/
theorem pages_own {pg : List (Int × Nat)} {W : Int → Int} (h : Sl.Arena w bs bm q pg W) : Calls Tryz.prog 10 #[.pointer (some ⟨bs, 0, none⟩)] w fun e w' => ∃ v, e = .returned v ∧ Aside (w'.ownsRow w.heap.size 3 1 v pg.length ((pg.map fun p => p.1).map encI)) ∧ K w w' := by
  have c1 := h.c1
  have hm := Sl.made_yes bs bm w c1
  have hlen := h.len
  have hk := Sl.keys_any (some bm) w
  have hsz : Maps.size (Sl.pd pg) = pg.length := by simp [Sl.pd, Maps.size_eq]
  have hso := Sl.sorted_any bm _ _ _ w h.pm (by rw [hsz]; unfold maxLen; omega) (by rw [hsz]; omega)
  have hr : Aside (Sl.Rising pg) := h.rise
  clear hsz h
  go_enter Tryz.func10, Tryz.ntmps10
  go_wp2_with (first | (go_at_call 32; refine hm.mono ?_; rintro e w' ⟨rfl, rfl⟩) | (go_at_call 34; refine hk.mono ?_; rintro e w' ⟨rfl, rfl⟩))
  refine hso.mono ?_
  rintro e w' ⟨v, ss, rfl, hperm, hrow, hnil, hb⟩
  have HB : Aside (K w w') := K.of_below (((Below.refl _ _).alloc (Nat.le_refl _) _).trans (hb.mono (by simp)))
  have hs2 : ss.length = pg.length := by rw [hperm.length_eq, Sl.keys_pd]; simp
  have HR : Aside (w'.ownsRow w.heap.size 3 1 v pg.length ((pg.map fun p => p.1).map encI)) := by
    rw [Sl.keys_pd] at hperm
    rw [Sl.sorted_keys hr.out hperm, hs2] at hrow
    obtain ⟨r1, r2⟩ := hrow
    refine ⟨r1, ?_⟩
    rcases r2 with r2 | ⟨g, cap, cur, e1, e2, e3⟩
    · exact .inl r2
    · exact .inr ⟨g, cap, cur, e1, by simp at e2; omega, e3⟩
  obtain ⟨a, cap, hv⟩ : ∃ a cap, v = .slice a pg.length cap := by
    rcases HR.out.2 with ⟨hv, h0⟩ | ⟨g, c, cur, hv, _⟩
    · exact ⟨none, 0, by rw [hv, h0]⟩
    · exact ⟨_, _, hv⟩
  subst hv
  clear hrow hnil hperm hb hs2
  go_wp2
  go_ret
  exact ⟨_, rfl, HR, HB.out⟩

theorem rise_eq {X Y : List Int} (hX : X.Pairwise (fun x y => x < y)) (hY : Y.Pairwise (fun x y => x < y)) (h : ∀ c, c ∈ X ↔ c ∈ Y) : X = Y := by
  have n1 : X.Nodup := hX.imp fun h => by omega
  have n2 : Y.Nodup := hY.imp fun h => by omega
  have p := (List.perm_ext_iff_of_nodup n1 n2).2 h
  exact p.eq_of_pairwise (fun a b _ _ h1 h2 => by omega) (hX) (hY)

theorem Lay.pages {pg : List (Int × Nat)} {W : Int → Int} (l : Lay pg W L) (hr : Sl.Rising pg) : (pg.map fun p => p.1) = pagesL L := by
  refine rise_eq ?_ (pagesL_rise l.srt fun p hp => by have := (l.ent p hp).span; omega) fun c => ?_
  · rw [List.pairwise_map]
    exact hr
  · rw [mem_pagesL, ← l.cov, Option.isSome_iff_ne_none, Ne, Sl.blk_none_iff]
    simp only [List.mem_map]
    constructor
    · rintro ⟨p, hp, rfl⟩ h
      exact h p hp rfl
    · intro h
      refine Classical.byContradiction fun hn => h fun p hp e => hn ⟨p, hp, e⟩

theorem Pe.live_h (h : Pe w0 w bh bs bm br q L L) : Calls Tryz.prog 8 #[hp bh] w fun e w' => ∃ v, e = .returned v ∧ Aside (w'.ownsRow w.heap.size 3 1 v (liveL L).length ((liveL L).map encI)) ∧ K w w' := by
  have hf := h.few
  obtain ⟨pg, W, a, cap, E, hp, he⟩ := h
  exact (live_any hp.rn.st (by omega)).mono fun e w2 h => by
    obtain ⟨v, h1, h2, h3⟩ := h
    exact ⟨v, h1, h2, h3⟩
theorem Pe.pages_h (h : Pe w0 w bh bs bm br q L M) : Calls Tryz.prog 10 #[.pointer (some ⟨bs, 0, none⟩)] w fun e w' => ∃ v, e = .returned v ∧ Aside (w'.ownsRow w.heap.size 3 1 v (pagesL L).length ((pagesL L).map encI)) ∧ K w w' := by
  obtain ⟨pg, W, a, cap, E, hp, he⟩ := h
  have e := hp.rn.st.ly.pages hp.rn.st.hw.ar.rise
  have el : pg.length = (pagesL L).length := by rw [← e]; simp
  have := pages_own hp.rn.st.hw.ar
  rw [e, el] at this
  exact this
theorem Pe.audit_h (h : Pe w0 w bh bs bm br q L M) : Calls Tryz.prog 12 #[hp bh] w fun e w' => e = .returned (.int .i64 0) ∧ K w w' := by
  obtain ⟨pg, W, a, cap, E, hp, he⟩ := h
  have := audit_any hp.rn.st.hw
  rw [hp.rn.st.heads] at this
  have h0 : audI L = 0 := by
    unfold audI
    rw [if_neg]
    simp only [List.any_eq_true, beq_iff_eq, not_exists, not_and]
    intro p hp' h0
    rcases (hp.rn.st.ly.ent p hp').kind with h | h <;> omega
  rw [h0] at this
  exact this
theorem Pe.spare_h (h : Pe w0 w bh bs bm br q L M) (c : Int) : Calls Tryz.prog 13 #[hp bh, .int .i64 c] w fun e w' => e = .returned (.int .i64 (spareL L c)) ∧ K w w' := by
  obtain ⟨pg, W, a, cap, E, hp, he⟩ := h
  have := spare_any hp.rn.st.hw c
  rw [hp.rn.st.heads] at this
  exact this

/-- What the reference tells, by value. -/
theorem Pe.tells (h : Pe w0 w bh bs bm br q L M) : ∃ (a : Option Addr) (cap n : Nat), w.heap[br]? = some (.cells #[.int .i64 q, .slice a n cap] 30) ∧ Aside ((∀ wx, K w wx → Calls Tryz.prog 9 #[.agg #[.int .i64 q, .slice a n cap]] wx fun e w' => ∃ v, e = .returned v ∧ Aside (w'.ownsRow wx.heap.size 3 1 v (liveL M).length ((liveL M).map encI)) ∧ K wx w') ∧
    (∀ wx, K w wx → Calls Tryz.prog 11 #[.agg #[.int .i64 q, .slice a n cap]] wx fun e w' => ∃ v, e = .returned v ∧ Aside (w'.ownsRow wx.heap.size 3 1 v (pagesL M).length ((pagesL M).map encI)) ∧ K wx w') ∧
    (∀ c wx, K w wx → Calls Tryz.prog 14 #[.agg #[.int .i64 q, .slice a n cap], .int .i64 c] wx fun e w' => e = .returned (.int .i64 (spareL M c)) ∧ K wx w')) := by
  obtain ⟨a, cap, E, h1, rfl, hE, g, hr⟩ := h.val
  refine ⟨a, cap, E.length, h1, fun wx k => (rLive_any (q := q) (hr.keep k) hE).mono fun e w2 h => ?_, fun wx k => (rNumbers_any (q := q) (hr.keep k) hE).mono fun e w2 h => ?_, fun c wx k => rSpare_any (q := q) (hr.keep k) hE c⟩
  · obtain ⟨v, h1, h2, h3⟩ := h
    exact ⟨v, h1, h2, h3⟩
  · obtain ⟨v, h1, h2, h3⟩ := h
    exact ⟨v, h1, h2, h3⟩

end Hp
end Go.Proofs.YtpoehbncdjbleaaGreatDoor
