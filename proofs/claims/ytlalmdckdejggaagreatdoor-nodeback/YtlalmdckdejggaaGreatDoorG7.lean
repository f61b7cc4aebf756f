/-
  compact: blocks of one length, none of which was freed, are settled. No Go text is named here.
-/
import Derived.Test.YtlalmdckdejggaaGreatDoorG1
namespace Go.Proofs.YtlalmdckdejggaaGreatDoor
namespace Co
open Hp (Pg BlR Bl Wl findB freeB freeOf slotsOf addrI atI roomI Ent In updL insL delL withT allocL smallPg largePg fit)
variable {L L' : List Pg} {a b r q x : Int}

/-- Pages without a gap, of one kind; the small blocks lie below all free slots. -/
structure Nm (x : Int) (L : List Pg) : Prop where
  cg : ∀ p ∈ L, ∀ g, 0 ≤ g → g < p.n → In L g
  kd : ∀ p ∈ L, (Cl.smaI x = true ∧ p.kind = 1 ∧ p.cls = Cl.clsI x) ∨ (Cl.smaI x = false ∧ p.kind = 2)
  lo : Cl.smaI x = true → ∀ a f, Bl L a → Fr L (Cl.clsI x) f → a < f

theorem Nm.nil (x : Int) : Nm x [] := ⟨fun _ h => (by cases h), fun _ h => (by cases h), fun _ _ _ h => (by obtain ⟨_, h, _⟩ := h; cases h)⟩

theorem Nm.stl (h : Nm x L) (l : Wl L) (hb : BlR L a r) : Stl L a := by
  obtain ⟨p, s, hf, hp, _, hk⟩ := blk l hb
  rcases hk with ⟨k1, _, _⟩ | ⟨k2, _⟩
  · rcases h.kd p hp with ⟨hs, _, hc⟩ | ⟨_, k2⟩
    · rw [stl_small l hf k1, hc]
      exact fun f hfr => h.lo hs a f hb.bl hfr
    · omega
  · rw [stl_large l hf k2]
    intro g g0 g1
    obtain ⟨u, hu, u0, u1⟩ := h.cg p hp g g0 g1
    have := (l.ent p hp).span
    refine ⟨g, by omega, by omega, u, Hp.mem_delL.2 ⟨hu, fun e => by omega⟩, u0, u1⟩

theorem nm_fit (h : Nm x L) (l : Wl L) {m : Int} (hm : 1 ≤ m) : (∀ g, 0 ≤ g → g < fit m 0 L → In L g) ∧ 0 ≤ fit m 0 L ∧ ∀ p ∈ L, p.n + p.span ≤ fit m 0 L := by
  obtain ⟨g0, g1, g2⟩ := Hp.fit_spec hm L 0 l.srt (fun p hp => (l.ent p hp).span.1) l.n0
  have hle : ∀ p ∈ L, p.n + p.span ≤ fit m 0 L := fun p hp => by
    have hs := (l.ent p hp).span
    have h0 := l.n0 p hp
    by_cases e : p.n + p.span ≤ fit m 0 L
    · exact e
    · exfalso
      by_cases e2 : p.n ≤ fit m 0 L
      · exact g1 (fit m 0 L) (Int.le_refl _) (by omega) ⟨p, hp, e2, by omega⟩
      · exact g1 (fit m 0 L) (Int.le_refl _) (by omega) (h.cg p hp _ g0 (by omega))
  refine ⟨fun g e0 e1 => ?_, g0, hle⟩
  obtain ⟨k, k0, k1, p, hp, p0, p1⟩ := g2 g e0 e1
  by_cases e : p.n ≤ g
  · exact ⟨p, hp, e, by omega⟩
  · exact h.cg p hp g e0 (by omega)

theorem cg_ins (h : Nm x L) (l : Wl L) {m : Int} (hm : 1 ≤ m) {p : Pg} (hn : p.n = fit m 0 L) : ∀ u ∈ insL p L, ∀ g, 0 ≤ g → g < u.n → In (insL p L) g := fun u hu g g0 g1 => by
  obtain ⟨f1, _, _⟩ := nm_fit h l hm
  have : In L g := by
    rcases Hp.mem_insL.1 hu with rfl | hu
    · exact f1 g g0 (by omega)
    · exact h.cg u hu g g0 g1
  obtain ⟨v, hv, v0, v1⟩ := this
  exact ⟨v, Hp.mem_insL.2 (.inr hv), v0, v1⟩

theorem Nm.alloc (h : Nm x L) (l : Wl L) (hx : 1 ≤ x ∧ x ≤ 4000) (e : allocL q L x = (a, 0, L')) : Nm x L' := by
  unfold allocL at e
  rw [if_pos hx] at e
  cases hs : Cl.smaI x with
  | true =>
    rw [hs] at e
    simp only [if_true] at e
    obtain ⟨c0, c1, _⟩ := Hp.cls_in hx hs
    cases hf : freeB L (Cl.clsI x) with
    | some ps =>
      obtain ⟨p, s⟩ := ps
      rw [hf] at e
      obtain ⟨hp, h1, hc, s0, s1, hh⟩ := Hp.freeB_some hf
      obtain ⟨fr0, fr1⟩ := fr_some l hf
      rw [← hc] at s1
      simp only [Prod.mk.injEq] at e
      obtain ⟨_, _, rfl⟩ := e
      have hr := Hp.slo_range p.cls
      have n2 := Hp.N_of s0 s1 hr.2
      refine ⟨fun u hu g g0 g1 => ?_, fun u hu => ?_, fun _ b f hb hfr => ?_⟩
      · have old : ∃ u0 ∈ L, u0.n = u.n := by
          rcases (l.upd_mem hp).1 hu with rfl | ⟨h2, _⟩
          · exact ⟨p, hp, rfl⟩
          · exact ⟨u, h2, rfl⟩
        obtain ⟨u0, hu0, e0⟩ := old
        obtain ⟨v, hv, v0, v1⟩ := h.cg u0 hu0 g g0 (by omega)
        by_cases e1 : v = p
        · subst e1
          exact ⟨_, (l.upd_mem hp).2 (.inl rfl), v0, v1⟩
        · exact ⟨v, (l.upd_mem hp).2 (.inr ⟨hv, e1⟩), v0, v1⟩
      · rcases (l.upd_mem hp).1 hu with rfl | ⟨h2, _⟩
        · exact .inl ⟨hs, h1, hc⟩
        · rcases h.kd u h2 with h3 | ⟨h3, _⟩
          · exact .inl h3
          · rw [hs] at h3; cases h3
      · have hfo : Fr L (Cl.clsI x) f ∧ f ≠ addrI p s := by
          obtain ⟨u, hu, u1, uc, t, t0, t1, ht, rfl⟩ := hfr
          rcases (l.upd_mem hp).1 hu with rfl | ⟨h2, h3⟩
          · have t1' : t < Cl.sloI p.cls := by rw [hc]; exact t1
            have hN := Hp.N_of t0 t1' hr.2
            have hset := Hp.has_set (t := p.taken) n2 hN
            change Bt.hasI (Bt.setI p.taken s) t = false at ht
            rw [ht] at hset
            have hset := hset.symm
            rw [Bool.or_eq_false_iff] at hset
            have hts : t ≠ s := by simpa using hset.2
            refine ⟨⟨p, hp, h1, hc, t, t0, t1, hset.1, rfl⟩, fun e => ?_⟩
            have := Hp.slots_apart (l.ent p hp) h1 ⟨t0, t1'⟩ ⟨s0, s1⟩ hts
            have hpl := Hp.place_in (l.ent p hp) (s := s) (fun _ => ⟨s0, s1⟩)
            have e : addrI p t = addrI p s := e
            unfold addrI at e
            omega
          · refine ⟨⟨u, h2, u1, uc, t, t0, t1, ht, rfl⟩, fun e => ?_⟩
            have a1 := Hp.place_in (l.ent p hp) (s := s) (fun _ => ⟨s0, s1⟩)
            have a2 := Hp.place_in (l.ent u h2) (s := t) (fun _ => ⟨t0, by rw [uc]; exact t1⟩)
            have a3 := Hp.srt_apart l.srt hp h2 (fun e => h3 e.symm)
            unfold addrI at e
            omega
        obtain ⟨f1, f2⟩ := hfo
        have := fr1 f f1
        obtain ⟨k, hk⟩ := Hp.Bl.room hb
        rcases (l.setR hp h1 s0 s1 b k).1 hk with ⟨rfl, _⟩ | h2
        · omega
        · exact h.lo hs b f h2.bl f1
    | none =>
      rw [hf] at e
      simp only [] at e
      split at e
      · simp only [Prod.mk.injEq] at e
        obtain ⟨_, _, rfl⟩ := e
        obtain ⟨_, f0, f1⟩ := nm_fit h l (m := 1) (by omega)
        have he := Hp.ent_smallPg (fit 1 0 L) c0 c1
        have hsl := Hp.slots_smallPg (n := fit 1 0 L) c0 c1
        refine ⟨cg_ins h l (m := 1) (by omega) rfl, fun u hu => ?_, fun _ b f hb hfr => ?_⟩
        · rcases Hp.mem_insL.1 hu with rfl | hu
          · exact .inl ⟨hs, rfl, rfl⟩
          · rcases h.kd u hu with h3 | ⟨h3, _⟩
            · exact .inl h3
            · rw [hs] at h3; cases h3
        · obtain ⟨u, hu, u1, uc, t, t0, t1, ht, rfl⟩ := hfr
          rcases Hp.mem_insL.1 hu with rfl | hu
          · have h0 : (0 : Int) ∈ slotsOf (smallPg (fit 1 0 L) (Cl.clsI x)) := (hsl 0).2 rfl
            have tn : t ≠ 0 := fun e => by
              subst e
              rcases Hp.mem_slots.1 h0 with ⟨h2, _⟩ | ⟨_, _, _, h2⟩
              · cases h2
              · rw [ht] at h2; cases h2
            obtain ⟨k, hk⟩ := Hp.Bl.room hb
            rcases (Hp.insR hsl b k).1 hk with ⟨rfl, _⟩ | h2
            · have o0 := Hp.slot_ok h0 rfl
              have hm := at_mono he rfl (s := 0) (t := t) (by omega) t0 t1
              have ha := Hp.slots_apart he rfl o0 ⟨t0, t1⟩ (Ne.symm tn)
              have hpl := Hp.place_in he (s := 0) (fun _ => o0)
              unfold addrI
              omega
            · obtain ⟨p, hp, s, hsl2, rfl, _⟩ := h2
              have b1 := Hp.addr_page (l.ent p hp) hsl2
              have b2 := f1 p hp
              have b3 := (l.ent p hp).span
              have hpl := Hp.place_in he (s := t) (fun _ => ⟨t0, t1⟩)
              have en : (smallPg (fit 1 0 L) (Cl.clsI x)).n = fit 1 0 L := rfl
              unfold addrI at b1 ⊢
              omega
          · exact absurd ⟨u, hu, u1, uc, t, t0, t1, ht, rfl⟩ (fr_none hf _)
      · simp at e
  | false =>
    rw [hs] at e
    have hpg : Cl.pagI x = (x + 65) / 64 := if_pos hx
    simp only [Bool.false_eq_true, if_false] at e
    split at e
    · simp only [Prod.mk.injEq] at e
      obtain ⟨_, _, rfl⟩ := e
      refine ⟨cg_ins h l (m := Cl.pagI x) (by omega) rfl, fun u hu => ?_, fun h2 => by rw [hs] at h2; cases h2⟩
      rcases Hp.mem_insL.1 hu with rfl | hu
      · exact .inr ⟨hs, rfl⟩
      · rcases h.kd u hu with ⟨h3, _⟩ | h3
        · rw [hs] at h3; cases h3
        · exact .inr h3
    · simp at e

/-- Then nothing that is tried goes elsewhere. -/
theorem Nm.pass {T : List Hd.Sl} {W : Int → Int} (h : Nm x L) (l : Wl L) (rc : So.Rec L W T) (bu : Int) : (pass bu L T).L = L ∧ (pass bu L T).T = T ∧ (pass bu L T).n = 0 := by
  have hi := pass_start l rc
  exact fold_stl (order L T) ⟨L, T, 0, fun _ => false⟩ fun y hy => h.stl l (hi.at' y hy).2

/-- Steps grant no page. -/
theorem proc_granted {z : S} {y : X} {post : List X} {bu : Int} (h : Inv z (y :: post)) : Hp.granted (proc bu z y).L ≤ Hp.granted z.L := by
  unfold proc tryX
  split
  · exact Int.le_refl _
  · split
    · exact Int.le_refl _
    · split
      · exact Int.le_refl _
      · exact (slid h.wl (h.at' y (by simp)).2 rfl).2
theorem fold_granted {bu : Int} : ∀ {xs : List X} {z : S}, Inv z xs → Hp.granted (xs.foldl (proc bu) z).L ≤ Hp.granted z.L
  | [], _, _ => Int.le_refl _
  | y :: xs, z, h => by
    by_cases e : z.n = bu
    · rw [proc_used e]
      exact Int.le_refl _
    · rw [List.foldl_cons]
      exact Int.le_trans (fold_granted (h.proc e)) (proc_granted h)

end Co
end Go.Proofs.YtlalmdckdejggaaGreatDoor
