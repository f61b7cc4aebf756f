/-
  compact: which blocks go elsewhere, over the heap's entries. No Go text is named here.
-/
import Derived.Test.YtlmfojkhfipdnaaGreatDoorE1
namespace Go.Proofs.YtlmfojkhfipdnaaGreatDoor
namespace Co
open Hp (Pg BlR Bl Wl slideL slideS turnP findB freeB freeOf slotsOf addrI atI roomI Ent delL insL updL dropL withT atN fit In Srt granted)
variable {L L' : List Pg} {a b r er : Int}

/-- A free slot of a class lies at f. -/
def Fr (L : List Pg) (c f : Int) : Prop := ∃ p ∈ L, p.kind = 1 ∧ p.cls = c ∧ ∃ s, 0 ≤ s ∧ s < Cl.sloI c ∧ Bt.hasI p.taken s = false ∧ addrI p s = f

/-- A block stays where it is. -/
def Stl (L : List Pg) (a : Int) : Prop := (slideL L a).1 = a

theorem at_mono {p : Pg} (he : Ent p) (h1 : p.kind = 1) {s t : Int} (hs : 0 ≤ s) (hst : s ≤ t) (ht : t < Cl.sloI p.cls) : atI p s ≤ atI p t := by
  rcases he with ⟨_, h2, h3, _⟩ | ⟨h, _⟩
  · unfold atI
    rw [if_neg (by omega), if_neg (by omega)]
    have hsl : Cl.Sl p.cls s := ⟨hs, by omega⟩
    have htl : Cl.Sl p.cls t := ⟨by omega, ht⟩
    rw [Cl.plaI_in hsl, Cl.plaI_in htl]
    have hz := (Cl.siz_in (Hp.errC_in h2 h3)).1
    have := Int.mul_le_mul_of_nonneg_right hst (show 0 ≤ Cl.sizI p.cls by omega)
    omega
  · omega

theorem fr_none {c : Int} (h : freeB L c = none) (f : Int) : ¬ Fr L c f := by
  rintro ⟨p, hp, h1, rfl, s, s0, s1, hf, _⟩
  unfold freeB at h
  rw [List.findSome?_eq_none_iff] at h
  have := h p hp
  unfold freeOf at this
  rw [if_pos (by simp [h1])] at this
  have hr := Hp.slo_range p.cls
  rcases Hp.free_cases (t := p.taken) hr.1 hr.2 with ⟨_, hall⟩ | ⟨f0, _, _, _⟩
  · rw [hall s s0 s1] at hf
    cases hf
  · rw [if_pos f0] at this
    cases this

theorem fr_some (l : Wl L) {c : Int} {p : Pg} {s : Int} (h : freeB L c = some (p, s)) : Fr L c (addrI p s) ∧ ∀ f, Fr L c f → addrI p s ≤ f := by
  obtain ⟨hp, h1, hc, s0, s1, hh⟩ := Hp.freeB_some h
  refine ⟨⟨p, hp, h1, hc, s, s0, s1, hh, rfl⟩, ?_⟩
  rintro f ⟨q, hq, g1, gc, t, t0, t1, gh, rfl⟩
  unfold freeB at h
  obtain ⟨l1, x, l2, rfl, hx, hno⟩ := List.findSome?_eq_some_iff.1 h
  have hxp : x = p ∧ Bt.freI p.taken (Cl.sloI p.cls) = s := by
    unfold freeOf at hx
    split at hx
    · split at hx
      · obtain ⟨rfl, rfl⟩ := Prod.mk.inj (Option.some.inj hx)
        exact ⟨rfl, rfl⟩
      · cases hx
    · cases hx
  obtain ⟨rfl, hsf⟩ := hxp
  have hr := Hp.slo_range q.cls
  have ex := l.ent x hp
  have eq' := l.ent q hq
  subst hc
  by_cases e : q = x
  · subst e
    rcases Hp.free_cases (t := q.taken) hr.1 hr.2 with ⟨_, hall⟩ | ⟨f0, _, _, hb⟩
    · rw [hall t t0 t1] at gh
      cases gh
    · have : s ≤ t := by
        by_cases h' : t < s
        · rw [hb t t0 (by omega)] at gh
          cases gh
        · omega
      have := at_mono eq' g1 s0 this t1
      unfold addrI
      omega
  · have hq2 : q ∈ l2 := by
      rcases List.mem_append.1 hq with h' | h'
      · have hn := hno q h'
        unfold freeOf at hn
        rw [if_pos (by simp [g1, gc])] at hn
        rw [← gc] at t1
        rcases Hp.free_cases (t := q.taken) hr.1 hr.2 with ⟨_, hall⟩ | ⟨f0, _, _, _⟩
        · rw [hall t t0 t1] at gh
          cases gh
        · rw [if_pos f0] at hn
          cases hn
      · rcases List.mem_cons.1 h' with h' | h'
        · exact absurd h' e
        · exact h'
    have hlt := (List.pairwise_cons.1 (List.pairwise_append.1 l.srt).2.1).1 q hq2
    have p1 := Hp.place_in ex (s := s) (fun _ => ⟨s0, s1⟩)
    have p2 := Hp.place_in eq' (s := t) (fun _ => ⟨t0, by rw [gc]; exact t1⟩)
    unfold addrI
    omega

theorem fr_taken (l : Wl L) {c f : Int} (h : Fr L c f) : ¬ Bl L f := by
  obtain ⟨p, hp, h1, rfl, s, s0, s1, hh, rfl⟩ := h
  exact l.free_not hp h1 s0 s1 hh

/-- What a block's room tells of its page. -/
theorem room_kind {p : Pg} (he : Ent p) : (p.kind = 1 ∧ Cl.smaI (roomI p) = true ∧ Cl.clsI (roomI p) = p.cls ∧ roomI p ≤ 28 ∧ p.span = 1) ∨ (p.kind = 2 ∧ Cl.smaI (roomI p) = false ∧ Cl.clsI (roomI p) = 0) := by
  rcases he with ⟨h1, h2, h3, _, _, _, _, h8⟩ | ⟨h1, _, _, h4, h5, h6, _⟩
  · left
    have e : roomI p = Cl.sizI p.cls := if_neg (by omega)
    rw [e]
    have : p.cls = 0 ∨ p.cls = 1 ∨ p.cls = 2 ∨ p.cls = 3 ∨ p.cls = 4 ∨ p.cls = 5 ∨ p.cls = 6 ∨ p.cls = 7 := by omega
    refine ⟨h1, ?_, ?_, ?_, h8⟩ <;> (rcases this with h | h | h | h | h | h | h | h <;> rw [h] <;> decide)
  · right
    have e : roomI p = p.words := if_pos h1
    rw [e]
    refine ⟨h1, h6, ?_⟩
    unfold Cl.smaI at h6
    unfold Cl.clsI
    rw [decide_eq_true h4, decide_eq_true h5] at h6
    rw [if_pos ⟨h4, h5⟩]
    cases hh : Cl.hit (Cl.fits p.words) Cl.szs with
    | none => rfl
    | some y => rw [hh] at h6; simp at h6

theorem stl_small (l : Wl L) {p : Pg} {s : Int} (h : findB L a = some (p, s)) (h1 : p.kind = 1) : Stl L a ↔ ∀ f, Fr L p.cls f → a < f := by
  obtain ⟨hp, hs, ha⟩ := Hp.findB_some h
  unfold Stl slideL
  rw [h]
  simp only []
  rw [if_neg (by omega)]
  cases hf : freeB L p.cls with
  | none => simp only [true_iff]; exact fun f hfr => absurd hfr (fr_none hf f)
  | some ps =>
    obtain ⟨p2, s2⟩ := ps
    obtain ⟨h2, h3⟩ := fr_some l hf
    have hne : addrI p2 s2 ≠ a := fun e => fr_taken l h2 ⟨p, hp, s, hs, ha.trans e.symm⟩
    simp only []
    split
    · simp only [true_iff]
      intro f hfr
      have := h3 f hfr
      omega
    · constructor
      · intro e
        exact absurd e hne
      · intro hall
        have := hall _ h2
        omega

theorem fit_le (l : Wl L) {p : Pg} (hp : p ∈ L) : fit p.span 0 (delL L p.n) ≤ p.n := by
  have ld := l.del p.n
  have hsp := (l.ent p hp).span
  obtain ⟨_, _, h3⟩ := Hp.fit_spec (m := p.span) (by omega) (delL L p.n) 0 ld.srt (fun p hp => (ld.ent p hp).span.1) ld.n0
  by_cases hlt : p.n < fit p.span 0 (delL L p.n)
  · obtain ⟨k, k0, k1, x, hx, x0, x1⟩ := h3 p.n (l.n0 p hp) hlt
    obtain ⟨hx1, hx2⟩ := Hp.mem_delL.1 hx
    have := Hp.srt_apart l.srt hp hx1 (fun e => hx2 (by rw [e]))
    omega
  · omega

theorem slide_large {p : Pg} {s : Int} (h : findB L a = some (p, s)) (h2 : p.kind = 2) : slideL L a = (fit p.span 0 (delL L p.n) * 64 + 2, 0, insL (atN p (fit p.span 0 (delL L p.n))) (delL L p.n)) ∧ a = p.n * 64 + 2 := by
  obtain ⟨hp, hs, ha⟩ := Hp.findB_some h
  have a1 : addrI p s = p.n * 64 + 2 := by unfold addrI atI; rw [if_pos h2]
  have a2 : addrI (atN p (fit p.span 0 (delL L p.n))) 0 = fit p.span 0 (delL L p.n) * 64 + 2 := by
    unfold addrI atI
    rw [if_pos (show (atN p (fit p.span 0 (delL L p.n))).kind = 2 from h2)]
    rfl
  refine ⟨?_, by omega⟩
  unfold slideL
  rw [h]
  simp only []
  rw [if_pos h2, a2]

/-- No room below a large block's pages. -/
def Low (L : List Pg) (p : Pg) : Prop := ∀ g, 0 ≤ g → g < p.n → ∃ k, g ≤ k ∧ k < g + p.span ∧ In (delL L p.n) k

theorem stl_large (l : Wl L) {p : Pg} {s : Int} (h : findB L a = some (p, s)) (h2 : p.kind = 2) : Stl L a ↔ Low L p := by
  obtain ⟨hp, _, _⟩ := Hp.findB_some h
  obtain ⟨e, ea⟩ := slide_large h h2
  have hle := fit_le l hp
  have ld := l.del p.n
  have hsp := (l.ent p hp).span
  obtain ⟨g0, g1, g2⟩ := Hp.fit_spec (m := p.span) (by omega) (delL L p.n) 0 ld.srt (fun p hp => (ld.ent p hp).span.1) ld.n0
  unfold Stl
  rw [e]
  simp only []
  constructor
  · intro h' g x0 x1
    exact g2 g x0 (by omega)
  · intro hl
    by_cases hlt : fit p.span 0 (delL L p.n) < p.n
    · obtain ⟨k, k0, k1, hk⟩ := hl _ g0 hlt
      exact absurd hk (g1 k k0 k1)
    · omega

theorem ins_del : ∀ {L : List Pg}, Srt L → (∀ x ∈ L, 1 ≤ x.span) → ∀ {p : Pg}, p ∈ L → insL p (delL L p.n) = L
  | [], _, _, _, hp => by cases hp
  | x :: l, hs, h1, p, hp => by
    obtain ⟨a1, a2⟩ := List.pairwise_cons.1 hs
    have hx := h1 x (by simp)
    have hl : ∀ y ∈ l, 1 ≤ y.span := fun y hy => h1 y (List.mem_cons_of_mem _ hy)
    by_cases e : x.n = p.n
    · have hpx : p = x := by
        rcases List.mem_cons.1 hp with h | h
        · exact h
        · have := a1 p h
          omega
      subst hpx
      have hd : delL (p :: l) p.n = l := by
        have : delL l p.n = l := by
          unfold delL
          rw [List.filter_eq_self]
          intro y hy
          have := a1 y hy
          have hne : y.n ≠ p.n := by omega
          simp [hne]
        unfold delL at this ⊢
        simp [this]
      rw [hd]
      cases l with
      | nil => rfl
      | cons y t =>
        have := a1 y (by simp)
        unfold insL
        rw [if_pos (by omega)]
    · have hp' : p ∈ l := by
        rcases List.mem_cons.1 hp with h | h
        · rw [h] at e; exact absurd rfl e
        · exact h
      have ih := ins_del a2 hl hp'
      have hd : delL (x :: l) p.n = x :: delL l p.n := by
        unfold delL
        simp [e]
      rw [hd]
      have := a1 p hp'
      unfold insL
      rw [if_neg (by omega), ih]

/-- Where nothing goes elsewhere nothing turns. -/
theorem stay (l : Wl L) {p : Pg} {s : Int} (h : findB L a = some (p, s)) (e : slideL L a = (a, er, L')) : L' = L := by
  obtain ⟨hp, hs, ha⟩ := Hp.findB_some h
  rcases (l.ent p hp).kind with h1 | h2
  · unfold slideL at e
    rw [h] at e
    simp only [] at e
    rw [if_neg (by omega)] at e
    cases hf : freeB L p.cls with
    | none =>
      rw [hf] at e
      simp only [Prod.mk.injEq] at e
      exact e.2.2.symm
    | some ps =>
      obtain ⟨p2, s2⟩ := ps
      have hne : addrI p2 s2 ≠ a := fun e => fr_taken l (fr_some l hf).1 ⟨p, hp, s, hs, ha.trans e.symm⟩
      rw [hf] at e
      simp only [] at e
      split at e
      · simp only [Prod.mk.injEq] at e
        exact e.2.2.symm
      · simp only [Prod.mk.injEq] at e
        exact absurd e.1 hne
  · obtain ⟨e2, ea⟩ := slide_large h h2
    rw [e2] at e
    simp only [Prod.mk.injEq] at e
    obtain ⟨e3, _, rfl⟩ := e
    have : fit p.span 0 (delL L p.n) = p.n := by omega
    rw [this]
    exact ins_del l.srt (fun x hx => (l.ent x hx).span.1) hp

theorem Wl.ins {p : Pg} (l : Wl L) (he : Ent p) (h0 : 0 ≤ p.n) (ha : ∀ r ∈ L, p.n + p.span ≤ r.n ∨ r.n + r.span ≤ p.n) : Wl (insL p L) :=
  ⟨fun r hr => (Hp.mem_insL.1 hr).elim (fun e => e ▸ he) (fun h => l.ent r h), Hp.srt_ins l.srt (fun r hr => (l.ent r hr).span.1) ha he.span.1, fun r hr => (Hp.mem_insL.1 hr).elim (fun e => e ▸ h0) (fun h => l.n0 r h)⟩

/-- The entries behind a large block's slide. -/
theorem fit_off (l : Wl L) {p : Pg} (hp : p ∈ L) {r : Pg} (hr : r ∈ delL L p.n) : fit p.span 0 (delL L p.n) + p.span ≤ r.n ∨ r.n + r.span ≤ fit p.span 0 (delL L p.n) := by
  have ld := l.del p.n
  have hsp := (l.ent p hp).span
  have hrs := (ld.ent r hr).span
  obtain ⟨g0, g1, g2⟩ := Hp.fit_spec (m := p.span) (by omega) (delL L p.n) 0 ld.srt (fun p hp => (ld.ent p hp).span.1) ld.n0
  by_cases h1 : fit p.span 0 (delL L p.n) + p.span ≤ r.n
  · exact .inl h1
  · by_cases h2 : r.n + r.span ≤ fit p.span 0 (delL L p.n)
    · exact .inr h2
    · exfalso
      by_cases h3 : fit p.span 0 (delL L p.n) ≤ r.n
      · exact g1 r.n h3 (by omega) ⟨r, hr, by omega, by omega⟩
      · exact g1 (fit p.span 0 (delL L p.n)) (by omega) (by omega) ⟨r, hr, by omega, by omega⟩

theorem Wl.large (l : Wl L) {p : Pg} (hp : p ∈ L) : Wl (insL (atN p (fit p.span 0 (delL L p.n))) (delL L p.n)) := by
  have ld := l.del p.n
  have hsp := (l.ent p hp).span
  obtain ⟨g0, _, _⟩ := Hp.fit_spec (m := p.span) (by omega) (delL L p.n) 0 ld.srt (fun p hp => (ld.ent p hp).span.1) ld.n0
  exact Wl.ins ld (Hp.ent_atN (l.ent p hp) _) g0 (fun r hr => fit_off l hp hr)

theorem Wl.drop (l : Wl L) {p : Pg} (hp : p ∈ L) {s : Int} (hs : s ∈ slotsOf p) : Wl (dropL L p s) := by
  unfold dropL
  split
  · exact l.del _
  · split
    · exact l.del _
    · next h2 h0 =>
      have h1 : p.kind = 1 := by rcases (l.ent p hp).kind with h | h <;> omega
      refine l.upd hp rfl rfl ?_
      rcases l.ent p hp with ⟨k1, k2, k3, k4, k5, k6, k7, k8⟩ | ⟨h, _⟩
      · have hr := Hp.slo_range p.cls
        have hsl := Hp.slot_ok hs h1
        exact .inl ⟨k1, k2, k3, h0, Bt.clrI_U k5, Hp.cut_clr k5 hr.1 hr.2 k6 hsl.1 hsl.2, k7, k8⟩
      · omega

/-- A small block that goes elsewhere: to which entries. -/
theorem slide_small (l : Wl L) {p : Pg} {s : Int} (h : findB L a = some (p, s)) (h1 : p.kind = 1) (e : slideL L a = (b, er, L')) (hne : b ≠ a) :
    ∃ p2 s2, freeB L p.cls = some (p2, s2) ∧ b = addrI p2 s2 ∧ b < a ∧ L' = slideS L p s p2 s2 := by
  obtain ⟨hp, hs, ha⟩ := Hp.findB_some h
  have hle := (l.slide h e).2.1
  unfold slideL at e
  rw [h] at e
  simp only [] at e
  rw [if_neg (by omega)] at e
  cases hf : freeB L p.cls with
  | none =>
    rw [hf] at e
    simp only [Prod.mk.injEq] at e
    exact absurd e.1.symm hne
  | some ps =>
    obtain ⟨p2, s2⟩ := ps
    rw [hf] at e
    simp only [] at e
    split at e
    · simp only [Prod.mk.injEq] at e
      exact absurd e.1.symm hne
    · simp only [Prod.mk.injEq] at e
      exact ⟨p2, s2, rfl, e.1.symm, by omega, e.2.2.symm⟩

/-- Entries behind it: each is one of before, but for its slots. -/
theorem slideS_mem (l : Wl L) {p : Pg} {s : Int} (h : findB L a = some (p, s)) (h1 : p.kind = 1) {p2 : Pg} {s2 : Int} (hf : freeB L p.cls = some (p2, s2)) :
    Wl (slideS L p s p2 s2) ∧ granted (slideS L p s p2 s2) ≤ granted L ∧ ∀ q ∈ slideS L p s p2 s2, ∃ q0 ∈ L, q.kind = q0.kind ∧ q.cls = q0.cls ∧ q.n = q0.n ∧ q.span = q0.span ∧ (q0.kind ≠ 1 → q = q0) ∧
      ∀ t, 0 ≤ t → t < Cl.sloI q.cls → Bt.hasI q.taken t = false → q0.kind = 1 → (Bt.hasI q0.taken t = false ∧ (q0 = p2 → t ≠ s2)) ∨ (q0 = p ∧ t = s) := by
  obtain ⟨hp, hs, ha⟩ := Hp.findB_some h
  obtain ⟨hp2, h2, hc, s0, s1, hh⟩ := Hp.freeB_some hf
  rw [← hc] at s1
  have hr := Hp.slo_range p2.cls
  have hrp := Hp.slo_range p.cls
  have hsl := Hp.slot_ok hs h1
  have n2 := Hp.N_of s0 s1 hr.2
  have ns := Hp.N_of hsl.1 hsl.2 hrp.2
  obtain ⟨U, hU⟩ : ∃ U, U = updL L p2.n (withT p2 (Bt.setI p2.taken s2)) := ⟨_, rfl⟩
  have l1 : Wl U := by rw [hU]; exact l.upd hp2 rfl rfl (Hp.ent_set (l.ent p2 hp2) h2 s0 s1)
  have hmt : turnP p p2 s2 ∈ U := by rw [hU]; exact Hp.mem_turn hp
  have hst : s ∈ slotsOf (turnP p p2 s2) := by
    unfold turnP
    split
    · rename_i hn
      have := l.inj hp hp2 hn
      subst this
      exact (Hp.mem_slots_set h2 s0 s1).2 (.inr hs)
    · exact hs
  -- of the entries with the slot taken
  have hu : ∀ q ∈ U, ∃ q0 ∈ L, q.kind = q0.kind ∧ q.cls = q0.cls ∧ q.n = q0.n ∧ q.span = q0.span ∧ (q0.kind ≠ 1 → q = q0) ∧ (turnP p p2 s2 = q → q0 = p) ∧
      ∀ t, 0 ≤ t → t < Cl.sloI q.cls → Bt.hasI q.taken t = false → (Bt.hasI q0.taken t = false ∧ (q0 = p2 → t ≠ s2)) := by
    intro q hq
    rw [hU] at hq
    rcases (l.upd_mem hp2).1 hq with rfl | ⟨hq1, hq2⟩
    · refine ⟨p2, hp2, rfl, rfl, rfl, rfl, fun hk => absurd h2 hk, fun ht => ?_, fun t t0 t1 ht => ?_⟩
      · unfold turnP at ht
        split at ht
        · next hn => exact (l.inj hp hp2 hn).symm
        · next hn =>
          exfalso
          exact hn (by rw [ht]; rfl)
      · have hN := Hp.N_of t0 (show t < Cl.sloI p2.cls from t1) hr.2
        have := Hp.has_set (t := p2.taken) n2 hN
        change Bt.hasI (Bt.setI p2.taken s2) t = false at ht
        rw [ht] at this
        have := this.symm
        rw [Bool.or_eq_false_iff] at this
        exact ⟨this.1, fun _ => by simpa using this.2⟩
    · refine ⟨q, hq1, rfl, rfl, rfl, rfl, fun _ => rfl, fun ht => ?_, fun t t0 t1 ht => ⟨ht, fun e => absurd e hq2⟩⟩
      unfold turnP at ht
      split at ht
      · next hn =>
        exfalso
        apply hq2
        refine l.inj hq1 hp2 ?_
        rw [← ht]
        rfl
      · exact ht.symm
  have gU : granted U = granted L := by
    rw [hU]
    exact Hp.granted_upd (fun r hr hn => by rw [l.inj hr hp2 hn]; rfl)
  obtain ⟨tp, htp⟩ : ∃ tp, tp = turnP p p2 s2 := ⟨_, rfl⟩
  have k1 : tp.kind = 1 := by rw [htp]; unfold turnP; split <;> first | exact h2 | exact h1
  have kc : tp.cls = p.cls := by rw [htp]; unfold turnP; split <;> first | exact hc | rfl
  have es : slideS L p s p2 s2 = dropL U tp s := by rw [hU, htp]; rfl
  rw [← htp] at hmt hst hu
  rw [es]
  refine ⟨Wl.drop l1 hmt hst, ?_, fun q hq => ?_⟩
  · rw [← gU]
    have hspan : ∀ x ∈ U, 1 ≤ x.span := fun x hx => (l1.ent x hx).span.1
    have hdel := Hp.granted_del l1.srt hspan hmt
    have hsp := (l1.ent tp hmt).span
    unfold dropL
    split
    · omega
    · split
      · omega
      · rw [Hp.granted_upd (fun r hr hn => by rw [l1.inj hr hmt hn]; rfl)]
        exact Int.le_refl _
  · unfold dropL at hq
    rw [if_neg (by omega)] at hq
    split at hq
    · obtain ⟨hq1, _⟩ := Hp.mem_delL.1 hq
      obtain ⟨q0, a1, a2, a3, a4, a5, a6, _, a8⟩ := hu q hq1
      exact ⟨q0, a1, a2, a3, a4, a5, a6, fun t t0 t1 ht _ => .inl (a8 t t0 t1 ht)⟩
    · rcases (l1.upd_mem hmt).1 hq with rfl | ⟨hq1, _⟩
      · obtain ⟨q0, a1, a2, a3, a4, a5, a6, a7, a8⟩ := hu tp hmt
        refine ⟨q0, a1, a2, a3, a4, a5, fun hk => absurd (a2.symm.trans k1) hk, fun t t0 t1 ht _ => ?_⟩
        change t < Cl.sloI tp.cls at t1
        have hN := Hp.N_of t0 (show t < Cl.sloI p.cls by rw [← kc]; exact t1) hrp.2
        have := Hp.has_clr (t := tp.taken) ns hN
        change Bt.hasI (Bt.clrI tp.taken s) t = false at ht
        rw [ht] at this
        have := this.symm
        rw [Bool.and_eq_false_iff] at this
        rcases this with h' | h'
        · exact .inl (a8 t t0 t1 h')
        · exact .inr ⟨a7 rfl, by simpa using h'⟩
      · obtain ⟨q0, a1, a2, a3, a4, a5, a6, _, a8⟩ := hu q hq1
        exact ⟨q0, a1, a2, a3, a4, a5, a6, fun t t0 t1 ht _ => .inl (a8 t t0 t1 ht)⟩

end Co
end Go.Proofs.YtlmfojkhfipdnaaGreatDoor

/-
  compact: how records are tried, one by one. No Go text is named here.
-/
namespace Go.Proofs.YtlmfojkhfipdnaaGreatDoor
namespace Co
open Hp (Pg BlR Bl Wl slideL slideS turnP findB freeB freeOf slotsOf addrI atI roomI Ent delL insL updL dropL withT atN fit In Srt granted liveL)
variable {L L' : List Pg} {a b r er a0 r0 : Int}

theorem blk (l : Wl L) (hb : BlR L a r) : ∃ p s, findB L a = some (p, s) ∧ p ∈ L ∧ roomI p = r ∧ ((p.kind = 1 ∧ Cl.smaI r = true ∧ Cl.clsI r = p.cls) ∨ (p.kind = 2 ∧ Cl.smaI r = false)) := by
  obtain ⟨p, hp, s, hs, ha, hr⟩ := hb
  refine ⟨p, s, by rw [← ha]; exact l.find hp hs, hp, hr, ?_⟩
  rcases room_kind (l.ent p hp) with ⟨h1, h2, h3, _⟩ | ⟨h1, h2, _⟩
  · exact .inl ⟨h1, by rw [← hr]; exact h2, by rw [← hr]; exact h3⟩
  · exact .inr ⟨h1, by rw [← hr]; exact h2⟩

theorem slid (l : Wl L) (hb : BlR L a r) (e : slideL L a = (b, er, L')) : Wl L' ∧ granted L' ≤ granted L := by
  obtain ⟨p, s, hf, hp, _, ⟨h1, _, _⟩ | ⟨h2, _⟩⟩ := blk l hb
  · by_cases hne : b = a
    · subst hne
      rw [stay l hf e]
      exact ⟨l, Int.le_refl _⟩
    · obtain ⟨p2, s2, hfr, _, _, rfl⟩ := slide_small l hf h1 e hne
      exact ⟨(slideS_mem l hf h1 hfr).1, (slideS_mem l hf h1 hfr).2.1⟩
  · rw [(slide_large hf h2).1] at e
    simp only [Prod.mk.injEq] at e
    obtain ⟨_, _, rfl⟩ := e
    refine ⟨Wl.large l hp, ?_⟩
    have := Hp.granted_del l.srt (fun x hx => (l.ent x hx).span.1) hp
    rw [Hp.granted_add]
    show granted (delL L p.n) + p.span ≤ _
    omega

theorem fr_small (l : Wl L) {p : Pg} {s : Int} (h : findB L a = some (p, s)) (h1 : p.kind = 1) (e : slideL L a = (b, er, L')) (hne : b ≠ a) :
    b < a ∧ Fr L p.cls b ∧ (∀ f, Fr L p.cls f → b ≤ f) ∧ ∀ c f, Fr L' c f → (c = p.cls ∧ f = a) ∨ (Fr L c f ∧ f ≠ b) := by
  obtain ⟨hp, hs, ha⟩ := Hp.findB_some h
  obtain ⟨p2, s2, hfr, rfl, hlt, rfl⟩ := slide_small l h h1 e hne
  obtain ⟨g1, g2⟩ := fr_some l hfr
  obtain ⟨hp2, k2, hc2, s20, s21, _⟩ := Hp.freeB_some hfr
  rw [← hc2] at s21
  refine ⟨hlt, g1, g2, ?_⟩
  rintro c f ⟨q, hq, q1, rfl, t, t0, t1, ht, rfl⟩
  obtain ⟨q0, m0, m1, m2, m3, m4, _, m6⟩ := (slideS_mem l h h1 hfr).2.2 q hq
  have hk : q0.kind = 1 := by rw [← m1]; exact q1
  have ead : addrI q t = addrI q0 t := by unfold addrI atI; rw [m1, m2, m3]
  rw [m2] at t1
  rcases m6 t t0 (by rw [m2]; exact t1) ht hk with ⟨f1, f2⟩ | ⟨rfl, rfl⟩
  · refine .inr ⟨⟨q0, m0, hk, m2.symm, t, t0, by rw [m2]; exact t1, f1, ead.symm⟩, ?_⟩
    rw [ead]
    intro e2
    have e0 := l.ent q0 m0
    have e1 := l.ent p2 hp2
    have p0 := Hp.place_in e0 (s := t) (fun _ => ⟨t0, t1⟩)
    have p1 := Hp.place_in e1 (s := s2) (fun _ => ⟨s20, s21⟩)
    have sp0 : q0.span = 1 := by
      rcases room_kind e0 with ⟨_, _, _, _, h⟩ | ⟨h, _⟩
      · exact h
      · omega
    have sp1 : p2.span = 1 := by
      rcases room_kind e1 with ⟨_, _, _, _, h⟩ | ⟨h, _⟩
      · exact h
      · omega
    have hn : q0.n = p2.n := by
      unfold addrI at e2
      omega
    have hqp := l.inj m0 hp2 hn
    subst hqp
    have hts := f2 rfl
    have := Hp.slots_apart e0 hk ⟨t0, t1⟩ ⟨s20, s21⟩ hts
    unfold addrI at e2
    omega
  · exact .inl ⟨m2, by rw [ead]; exact ha⟩

theorem fr_large {p : Pg} {s : Int} (h : findB L a = some (p, s)) (h2 : p.kind = 2) (e : slideL L a = (b, er, L')) (c f : Int) (hf : Fr L' c f) : Fr L c f := by
  rw [(slide_large h h2).1] at e
  simp only [Prod.mk.injEq] at e
  obtain ⟨_, _, rfl⟩ := e
  obtain ⟨q, hq, q1, qc, rest⟩ := hf
  rcases Hp.mem_insL.1 hq with rfl | h'
  · have : (2 : Int) = 1 := by rw [← h2]; exact q1
    omega
  · exact ⟨q, (Hp.mem_delL.1 h').1, q1, qc, rest⟩

/-- What is settled stays so, where another one goes elsewhere. -/
theorem keep (l : Wl L) (hb : BlR L a r) (e : slideL L a = (b, er, L')) (hne : b ≠ a) (h0 : BlR L a0 r0) (hst : Stl L a0) (hc : Cl.smaI r0 = true ∨ (Cl.smaI r = false ∧ Cl.smaI r0 = false ∧ a0 < a)) : Stl L' a0 := by
  have l' := (slid l hb e).1
  obtain ⟨p, s, hf, hp, hpr, hk⟩ := blk l hb
  obtain ⟨p0, s0, hf0, hp0, hpr0, hk0⟩ := blk l h0
  have hR := (l.slide hf e).2.2.2
  have hna : a0 ≠ a := fun h => by
    subst h
    unfold Stl at hst
    rw [e] at hst
    exact hne hst
  have h0' : BlR L' a0 r0 := (hR _ _).2 (.inr ⟨hna, h0⟩)
  obtain ⟨p1, s1, hf1, hp1, hpr1, hk1⟩ := blk l' h0'
  rcases hc with hc | ⟨hcr, hc0, hlt⟩
  · obtain ⟨k0, _, c0⟩ : p0.kind = 1 ∧ Cl.smaI r0 = true ∧ Cl.clsI r0 = p0.cls := by
      rcases hk0 with h | ⟨_, h⟩
      · exact h
      · rw [hc] at h; cases h
    obtain ⟨k1, _, c1⟩ : p1.kind = 1 ∧ Cl.smaI r0 = true ∧ Cl.clsI r0 = p1.cls := by
      rcases hk1 with h | ⟨_, h⟩
      · exact h
      · rw [hc] at h; cases h
    rw [stl_small l' hf1 k1]
    rw [stl_small l hf0 k0] at hst
    rw [← c1, c0]
    intro f hfr
    rcases hk with ⟨kk, _, _⟩ | ⟨kk, _⟩
    · obtain ⟨b1, b2, b3, b4⟩ := fr_small l hf kk e hne
      rcases b4 _ _ hfr with ⟨x1, x2⟩ | ⟨x1, _⟩
      · rw [← x1] at b2
        have := hst _ b2
        omega
      · exact hst _ x1
    · exact hst _ (fr_large hf kk e _ _ hfr)
  · have k0 : p0.kind = 2 := by
      rcases hk0 with ⟨_, h, _⟩ | ⟨h, _⟩
      · rw [hc0] at h; cases h
      · exact h
    have k1 : p1.kind = 2 := by
      rcases hk1 with ⟨_, h, _⟩ | ⟨h, _⟩
      · rw [hc0] at h; cases h
      · exact h
    have kk : p.kind = 2 := by
      rcases hk with ⟨_, h, _⟩ | ⟨h, _⟩
      · rw [hcr] at h; cases h
      · exact h
    obtain ⟨e1, ea⟩ := slide_large hf kk
    have ea0 := (slide_large hf0 k0).2
    have ea1 := (slide_large hf1 k1).2
    rw [stl_large l' hf1 k1]
    rw [stl_large l hf0 k0] at hst
    rw [e1] at e
    simp only [Prod.mk.injEq] at e
    obtain ⟨_, _, rfl⟩ := e
    have hp01 : p1 = p0 := by
      rcases Hp.mem_insL.1 hp1 with h | h
      · exfalso
        have hn : p1.n = fit p.span 0 (delL L p.n) := by rw [h]; rfl
        have hd0 : p0 ∈ delL L p.n := Hp.mem_delL.2 ⟨hp0, by omega⟩
        have := fit_off l hp hd0
        have := (l.ent p0 hp0).span
        have := (l.ent p hp).span
        omega
      · exact l.inj (Hp.mem_delL.1 h).1 hp0 (by omega)
    subst hp01
    have hap := Hp.srt_apart l.srt hp0 hp (fun h => by rw [h] at ea0; omega)
    have hsp := (l.ent p hp).span
    intro g g0 g1
    obtain ⟨k, x0, x1, q, hq, y0, y1⟩ := hst g g0 g1
    obtain ⟨hq1, hq2⟩ := Hp.mem_delL.1 hq
    refine ⟨k, x0, x1, q, Hp.mem_delL.2 ⟨Hp.mem_insL.2 (.inr (Hp.mem_delL.2 ⟨hq1, ?_⟩)), hq2⟩, y0, y1⟩
    omega

theorem moved (l : Wl L) (hb : BlR L a r) (e : slideL L a = (b, er, L')) (hne : b ≠ a) : Stl L' b := by
  have l' := (slid l hb e).1
  obtain ⟨p, s, hf, hp, hpr, hk⟩ := blk l hb
  have hR := (l.slide hf e).2.2.2
  have hb' : BlR L' b r := (hR _ _).2 (.inl ⟨rfl, hpr.symm⟩)
  obtain ⟨p1, s1, hf1, hp1, hpr1, hk1⟩ := blk l' hb'
  rcases hk with ⟨kk, hs, hc⟩ | ⟨kk, hs⟩
  · obtain ⟨k1, _, c1⟩ : p1.kind = 1 ∧ Cl.smaI r = true ∧ Cl.clsI r = p1.cls := by
      rcases hk1 with h | ⟨_, h⟩
      · exact h
      · rw [hs] at h; cases h
    rw [stl_small l' hf1 k1, ← c1, hc]
    intro f hfr
    obtain ⟨b1, b2, b3, b4⟩ := fr_small l hf kk e hne
    rcases b4 _ _ hfr with ⟨_, x2⟩ | ⟨x1, x2⟩
    · omega
    · have := b3 _ x1
      omega
  · have k1 : p1.kind = 2 := by
      rcases hk1 with ⟨_, h, _⟩ | ⟨h, _⟩
      · rw [hs] at h; cases h
      · exact h
    obtain ⟨e1, ea⟩ := slide_large hf kk
    have eb := (slide_large hf1 k1).2
    rw [stl_large l' hf1 k1]
    rw [e1] at e
    simp only [Prod.mk.injEq] at e
    obtain ⟨e2, _, rfl⟩ := e
    have hm : atN p (fit p.span 0 (delL L p.n)) ∈ insL (atN p (fit p.span 0 (delL L p.n))) (delL L p.n) := Hp.mem_insL.2 (.inl rfl)
    have hpp : p1 = atN p (fit p.span 0 (delL L p.n)) := l'.inj hp1 hm (by show p1.n = fit p.span 0 (delL L p.n); omega)
    rw [hpp]
    have ld := l.del p.n
    have hsp := (l.ent p hp).span
    obtain ⟨g0, g1, g2⟩ := Hp.fit_spec (m := p.span) (by omega) (delL L p.n) 0 ld.srt (fun p hp => (ld.ent p hp).span.1) ld.n0
    intro g x0 x1
    obtain ⟨k, y0, y1, q, hq, z0, z1⟩ := g2 g x0 x1
    refine ⟨k, y0, y1, q, Hp.mem_delL.2 ⟨Hp.mem_insL.2 (.inr hq), ?_⟩, z0, z1⟩
    show q.n ≠ fit p.span 0 (delL L p.n)
    have := fit_off l hp hq
    have := (ld.ent q hq).span
    omega

/-- Below a small block that stays others of its class stay. -/
theorem below (l : Wl L) (hb : BlR L a r) (h0 : BlR L a0 r0) (hs : Cl.smaI r = true) (hs0 : Cl.smaI r0 = true) (hc : Cl.clsI r0 = Cl.clsI r) (hst : Stl L a) (hlt : a0 < a) : Stl L a0 := by
  obtain ⟨p, s, hf, hp, hpr, hk⟩ := blk l hb
  obtain ⟨p0, s0, hf0, hp0, hpr0, hk0⟩ := blk l h0
  obtain ⟨k, _, c⟩ : p.kind = 1 ∧ Cl.smaI r = true ∧ Cl.clsI r = p.cls := by
    rcases hk with h | ⟨_, h⟩
    · exact h
    · rw [hs] at h; cases h
  obtain ⟨k0, _, c0⟩ : p0.kind = 1 ∧ Cl.smaI r0 = true ∧ Cl.clsI r0 = p0.cls := by
    rcases hk0 with h | ⟨_, h⟩
    · exact h
    · rw [hs0] at h; cases h
  rw [stl_small l hf k] at hst
  rw [stl_small l hf0 k0]
  intro f hfr
  rw [← c0, hc, c] at hfr
  have := hst f hfr
  omega

/-- A record that is tried: its address, its block's room, its slot. -/
structure X where
  a : Int
  r : Int
  g : Int
  i : Nat
def X.s (x : X) : Bool := Cl.smaI x.r
def X.c (x : X) : Int := Cl.clsI x.r
def X.h (x : X) : Int := Hd.nm (x.i + 1) x.g

def At (L : List Pg) (T : List Hd.Sl) (x : X) : Prop := T[x.i]? = some ⟨true, x.g, x.a⟩ ∧ BlR L x.a x.r

structure S where
  L : List Pg
  T : List Hd.Sl
  n : Int
  k : Int → Bool

def tryX (z : S) (x : X) : S :=
  if (slideL z.L x.a).1 = x.a then ⟨z.L, z.T, z.n, if x.s = true then fun c => if c = x.c then true else z.k c else z.k⟩
  else ⟨(slideL z.L x.a).2.2, z.T.set x.i ⟨true, x.g, (slideL z.L x.a).1⟩, z.n + 1, z.k⟩
def proc (bu : Int) (z : S) (x : X) : S := if z.n = bu then z else if x.s = true ∧ z.k x.c = true then z else tryX z x

/-- The order in which they are tried. -/
def ord (x y : X) : Prop := (x.s = true ∧ y.s = false) ∨ (x.s = true ∧ y.s = true ∧ y.a < x.a) ∨ (x.s = false ∧ y.s = false ∧ x.a < y.a)

structure Inv (z : S) (post : List X) : Prop where
  wl : Wl z.L
  at' : ∀ x ∈ post, At z.L z.T x
  so : post.Pairwise ord
  st : ∀ a r, BlR z.L a r → (∃ x ∈ post, x.a = a) ∨ Stl z.L a
  sk : ∀ x ∈ post, x.s = true → z.k x.c = true → Stl z.L x.a
  lo : ∀ a r, BlR z.L a r → Cl.smaI r = false → (∃ x ∈ post, x.a = a) ∨ ∀ x ∈ post, x.s = false ∧ a < x.a

theorem ord_ne {T : List Hd.Sl} (l : Wl L) {x y : X} (hx : At L T x) (hy : At L T y) (h : ord x y) : x.a ≠ y.a ∧ x.i ≠ y.i := by
  have ha : x.a ≠ y.a := fun e => by
    have h1 := hx.2
    rw [e] at h1
    have h2 := l.roomOne h1 hy.2
    unfold ord X.s at h
    rw [h2, e] at h
    rcases h with ⟨h3, h4⟩ | ⟨_, _, h3⟩ | ⟨_, _, h3⟩
    · rw [h3] at h4; cases h4
    · omega
    · omega
  refine ⟨ha, fun e => ha ?_⟩
  have h1 := hx.1
  rw [e, hy.1] at h1
  injection h1 with h1
  injection h1 with _ _ h1
  exact h1.symm

theorem Inv.skip {z : S} {x : X} {post : List X} (h : Inv z (x :: post)) (hs : x.s = true) (hk : z.k x.c = true) : Inv z post := by
  have hx := h.at' x (by simp)
  refine ⟨h.wl, fun y hy => h.at' y (List.mem_cons_of_mem _ hy), (List.pairwise_cons.1 h.so).2, fun a r hb => ?_, fun y hy => h.sk y (List.mem_cons_of_mem _ hy), fun a r hb hl => ?_⟩
  · rcases h.st a r hb with ⟨y, hy, hya⟩ | h2
    · rcases List.mem_cons.1 hy with rfl | hy
      · rw [← hya]
        exact .inr (h.sk y (by simp) hs hk)
      · exact .inl ⟨y, hy, hya⟩
    · exact .inr h2
  · rcases h.lo a r hb hl with ⟨y, hy, hya⟩ | h2
    · rcases List.mem_cons.1 hy with rfl | hy
      · exfalso
        rw [← hya] at hb
        have := h.wl.roomOne hb hx.2
        unfold X.s at hs
        rw [← this, hl] at hs
        cases hs
      · exact .inl ⟨y, hy, hya⟩
    · have := (h2 x (by simp)).1
      rw [hs] at this
      cases this

theorem Inv.try {z : S} {x : X} {post : List X} (h : Inv z (x :: post)) : Inv (tryX z x) post := by
  have hx := h.at' x (by simp)
  obtain ⟨so1, so2⟩ := List.pairwise_cons.1 h.so
  have hat : ∀ y ∈ post, At z.L z.T y := fun y hy => h.at' y (List.mem_cons_of_mem _ hy)
  have hne : ∀ y ∈ post, x.a ≠ y.a ∧ x.i ≠ y.i := fun y hy => ord_ne h.wl hx (hat y hy) (so1 y hy)
  unfold tryX
  by_cases e : (slideL z.L x.a).1 = x.a
  · rw [if_pos e]
    refine ⟨h.wl, hat, so2, fun a r hb => ?_, fun y hy ys yk => ?_, fun a r hb hl => ?_⟩
    · rcases h.st a r hb with ⟨y, hy, hya⟩ | h2
      · rcases List.mem_cons.1 hy with rfl | hy
        · rw [← hya]
          exact .inr e
        · exact .inl ⟨y, hy, hya⟩
      · exact .inr h2
    · by_cases hc : x.s = true ∧ y.c = x.c
      · refine below h.wl hx.2 (hat y hy).2 hc.1 ys hc.2 e ?_
        rcases so1 y hy with ⟨_, h3⟩ | ⟨_, _, h3⟩ | ⟨h3, _, _⟩
        · rw [ys] at h3; cases h3
        · exact h3
        · rw [hc.1] at h3; cases h3
      · refine h.sk y (List.mem_cons_of_mem _ hy) ys ?_
        simp only [] at yk
        split at yk
        · next hxs =>
          have yk : (if y.c = x.c then true else z.k y.c) = true := yk
          split at yk
          · next hyc => exact absurd ⟨hxs, hyc⟩ hc
          · exact yk
        · exact yk
    · rcases h.lo a r hb hl with ⟨y, hy, hya⟩ | h2
      · rcases List.mem_cons.1 hy with rfl | hy
        · refine .inr fun u hu => ?_
          have hs : y.s = false := by
            rw [← hya] at hb
            have := h.wl.roomOne hb hx.2
            unfold X.s
            rw [← this]
            exact hl
          rcases so1 u hu with ⟨h3, _⟩ | ⟨h3, _⟩ | ⟨_, h3, h4⟩
          · rw [hs] at h3; cases h3
          · rw [hs] at h3; cases h3
          · exact ⟨h3, by omega⟩
        · exact .inl ⟨y, hy, hya⟩
      · exact .inr fun y hy => h2 y (List.mem_cons_of_mem _ hy)
  · rw [if_neg e]
    obtain ⟨b, er, L', hsl⟩ : ∃ b er L', slideL z.L x.a = (b, er, L') := ⟨_, _, _, rfl⟩
    rw [hsl] at e ⊢
    simp only [] at e ⊢
    obtain ⟨p, s, hf, hp, hpr, hk⟩ := blk h.wl hx.2
    have hsl4 := h.wl.slide hf hsl
    have hR := hsl4.2.2.2
    have hle := hsl4.2.1
    rw [hpr] at hR
    refine ⟨(slid h.wl hx.2 hsl).1, fun y hy => ⟨?_, (hR _ _).2 (.inr ⟨(hne y hy).1.symm, (hat y hy).2⟩)⟩, so2, fun a r hb => ?_, fun y hy ys yk => ?_, fun a r hb hl => ?_⟩
    · rw [List.getElem?_set_ne (hne y hy).2]
      exact (hat y hy).1
    · rcases (hR _ _).1 hb with ⟨rfl, _⟩ | ⟨ha, hb0⟩
      · exact .inr (moved h.wl hx.2 hsl e)
      · rcases h.st a r hb0 with ⟨y, hy, hya⟩ | h2
        · rcases List.mem_cons.1 hy with rfl | hy
          · exact absurd hya.symm ha
          · exact .inl ⟨y, hy, hya⟩
        · cases hsm : Cl.smaI r with
          | true => exact .inr (keep h.wl hx.2 hsl e hb0 h2 (.inl hsm))
          | false =>
            rcases h.lo a r hb0 hsm with ⟨y, hy, hya⟩ | h3
            · rcases List.mem_cons.1 hy with rfl | hy
              · exact absurd hya.symm ha
              · exact .inl ⟨y, hy, hya⟩
            · have := h3 x (by simp)
              exact .inr (keep h.wl hx.2 hsl e hb0 h2 (.inr ⟨this.1, hsm, this.2⟩))
    · exact keep h.wl hx.2 hsl e (hat y hy).2 (h.sk y (List.mem_cons_of_mem _ hy) ys yk) (.inl ys)
    · rcases (hR _ _).1 hb with ⟨rfl, hrr⟩ | ⟨ha, hb0⟩
      · refine .inr fun u hu => ?_
        have hs : x.s = false := by
          unfold X.s
          rw [← hrr]
          exact hl
        rcases so1 u hu with ⟨h3, _⟩ | ⟨h3, _⟩ | ⟨_, h3, h4⟩
        · rw [hs] at h3; cases h3
        · rw [hs] at h3; cases h3
        · exact ⟨h3, by omega⟩
      · rcases h.lo a r hb0 hl with ⟨y, hy, hya⟩ | h2
        · rcases List.mem_cons.1 hy with rfl | hy
          · exact absurd hya.symm ha
          · exact .inl ⟨y, hy, hya⟩
        · exact .inr fun y hy => h2 y (List.mem_cons_of_mem _ hy)

theorem Inv.proc {z : S} {x : X} {post : List X} {bu : Int} (h : Inv z (x :: post)) (hn : z.n ≠ bu) : Inv (proc bu z x) post := by
  unfold Co.proc
  rw [if_neg hn]
  split
  · next hk => exact h.skip hk.1 hk.2
  · exact h.try

theorem Inv.done {z : S} (h : Inv z []) {a r : Int} (hb : BlR z.L a r) : Stl z.L a := by
  rcases h.st a r hb with ⟨_, hx, _⟩ | h
  · cases hx
  · exact h

end Co
end Go.Proofs.YtlmfojkhfipdnaaGreatDoor

/-
  compact: the records of a store in the order in which they are tried; what slides keep of them. No Go text is named here.
-/
namespace Go.Proofs.YtlmfojkhfipdnaaGreatDoor
namespace Co
open Hp (Pg BlR Bl Wl SameBut slideL findB slotsOf addrI roomI Ent liveL liveP)
open Go.Proofs.YtlmfojkhfipdnaaGreatDoor.So (Rec rmI)
variable {L L' : List Pg} {T T' : List Hd.Sl} {W W' : Int → Int} {a r : Int}

def slotAt (T : List Hd.Sl) (a : Int) : Nat := T.findIdx fun s => s.o && s.a == a
def xOf (L : List Pg) (T : List Hd.Sl) (a : Int) : X := ⟨a, ((findB L a).map fun q => roomI q.1).getD 0, ((T[slotAt T a]?).map fun s => s.g).getD 0, slotAt T a⟩
def order (L : List Pg) (T : List Hd.Sl) : List X := ((liveL L).reverse.map (xOf L T)).filter (fun x => x.s) ++ ((liveL L).map (xOf L T)).filter (fun x => !x.s)

theorem at_of (l : Wl L) (hr : ∀ a, Bl L a → ∃ (i : Nat) (s : Hd.Sl), T[i]? = some s ∧ s.o = true ∧ s.a = a) (hb : BlR L a r) : At L T (xOf L T a) ∧ (xOf L T a).r = r := by
  obtain ⟨i, s, hi, so, sa⟩ := hr a hb.bl
  obtain ⟨p, s', hf, _, hpr, _⟩ := blk l hb
  have er : (xOf L T a).r = r := by
    show ((findB L a).map fun q => roomI q.1).getD 0 = r
    rw [hf]
    exact hpr
  have hlt : slotAt T a < T.length := List.findIdx_lt_length_of_exists ⟨s, List.mem_of_getElem? hi, by simp [so, sa]⟩
  have hg := List.findIdx_getElem (xs := T) (p := fun s => s.o && s.a == a) (w := (show T.findIdx (fun s => s.o && s.a == a) < T.length from hlt))
  obtain ⟨u, hu⟩ : ∃ u, T[slotAt T a]? = some u := ⟨_, List.getElem?_eq_getElem hlt⟩
  have hu2 : T[slotAt T a]'hlt = u := (List.getElem?_eq_some_iff.1 hu).2
  have hg2 : (u.o && u.a == a) = true := by rw [← hu2]; exact hg
  simp only [Bool.and_eq_true, beq_iff_eq] at hg2
  refine ⟨⟨?_, by rw [er]; exact hb⟩, er⟩
  show T[slotAt T a]? = some ⟨true, ((T[slotAt T a]?).map fun s => s.g).getD 0, a⟩
  rw [hu]
  obtain ⟨o, g, b⟩ := u
  obtain ⟨rfl, rfl⟩ := hg2
  rfl

theorem live_rise : ∀ {L : List Pg}, Wl L → (liveL L).Pairwise (fun x y => x < y)
  | [], _ => List.Pairwise.nil
  | p :: L, l => by
    obtain ⟨a1, a2⟩ := List.pairwise_cons.1 l.srt
    have l2 : Wl L := ⟨fun q hq => l.ent q (List.mem_cons_of_mem _ hq), a2, fun q hq => l.n0 q (List.mem_cons_of_mem _ hq)⟩
    have e : liveL (p :: L) = liveP p (slotsOf p) ++ liveL L := by simp [liveL]
    rw [e, List.pairwise_append]
    have ep := l.ent p (by simp)
    refine ⟨?_, live_rise l2, fun x hx y hy => ?_⟩
    · unfold liveP
      rw [List.pairwise_map]
      refine (Hp.slots_rise p).imp_of_mem fun {s t} hs ht hst => ?_
      rcases ep.kind with k | k
      · have o1 := Hp.slot_ok hs k
        have o2 := Hp.slot_ok ht k
        have h1 := at_mono ep k o1.1 (by omega) o2.2
        have h2 := Hp.slots_apart ep k o1 o2 (by omega)
        have h3 := Hp.place_in ep (s := s) (fun _ => o1)
        unfold addrI
        omega
      · have m1 := Hp.mem_slots.1 hs
        have m2 := Hp.mem_slots.1 ht
        omega
    · obtain ⟨s, hs, rfl⟩ := List.mem_map.1 hx
      obtain ⟨q, hq, t, ht, rfl⟩ := Hp.mem_liveL.1 hy
      have h1 := a1 q hq
      have h2 := Hp.addr_page ep hs
      have h3 := Hp.addr_page (l2.ent q hq) ht
      have := ep.span
      omega

theorem mem_order {x : X} : x ∈ order L T ↔ ∃ a, Bl L a ∧ x = xOf L T a := by
  unfold order
  simp only [List.mem_append, List.mem_filter, List.mem_map, List.mem_reverse, Hp.mem_liveL]
  constructor
  · rintro (⟨⟨a, ha, rfl⟩, _⟩ | ⟨⟨a, ha, rfl⟩, _⟩) <;> exact ⟨a, ha, rfl⟩
  · rintro ⟨a, ha, rfl⟩
    cases hs : (xOf L T a).s with
    | true => exact .inl ⟨⟨a, ha, rfl⟩, rfl⟩
    | false => exact .inr ⟨⟨a, ha, rfl⟩, rfl⟩

theorem order_sorted (l : Wl L) : (order L T).Pairwise ord := by
  have hr := live_rise l
  have h1 : ((liveL L).reverse.map (xOf L T)).Pairwise (fun x y => y.a < x.a) := by
    rw [List.pairwise_map, List.pairwise_reverse]
    exact hr
  have h2 : ((liveL L).map (xOf L T)).Pairwise (fun x y => x.a < y.a) := by
    rw [List.pairwise_map]
    exact hr
  unfold order
  rw [List.pairwise_append]
  refine ⟨(h1.filter _).imp_of_mem fun {x y} hx hy h => ?_, (h2.filter _).imp_of_mem fun {x y} hx hy h => ?_, fun x hx y hy => ?_⟩
  · exact .inr (.inl ⟨(List.mem_filter.1 hx).2, (List.mem_filter.1 hy).2, h⟩)
  · exact .inr (.inr ⟨by simpa using (List.mem_filter.1 hx).2, by simpa using (List.mem_filter.1 hy).2, h⟩)
  · exact .inl ⟨(List.mem_filter.1 hx).2, by simpa using (List.mem_filter.1 hy).2⟩

theorem Inv.start (l : Wl L) (hr : ∀ a, Bl L a → ∃ (i : Nat) (s : Hd.Sl), T[i]? = some s ∧ s.o = true ∧ s.a = a) : Inv ⟨L, T, 0, fun _ => false⟩ (order L T) := by
  have hin : ∀ a r, BlR L a r → ∃ x ∈ order L T, x.a = a := fun a r hb => ⟨xOf L T a, mem_order.2 ⟨a, hb.bl, rfl⟩, rfl⟩
  refine ⟨l, fun x hx => ?_, order_sorted l, fun a r hb => .inl (hin a r hb), fun x _ _ hk => (by cases hk), fun a r hb _ => .inl (hin a r hb)⟩
  obtain ⟨a, ha, rfl⟩ := mem_order.1 hx
  obtain ⟨r, hb⟩ := Hp.Bl.room ha
  exact (at_of l hr hb).1

/-- What slides keep: which slots are open, their generations, the records' words. -/
def Wk (T : List Hd.Sl) (W : Int → Int) (T' : List Hd.Sl) (W' : Int → Int) : Prop := T'.length = T.length ∧ ∀ (i : Nat) s, T[i]? = some s → (s.o = false → T'[i]? = some s) ∧ (s.o = true → ∃ b, T'[i]? = some ⟨true, s.g, b⟩ ∧ ∀ j, 0 ≤ j → j < 2 + W (s.a + 1) → W' (b + j) = W (s.a + j))

theorem Wk.refl (T : List Hd.Sl) (W : Int → Int) : Wk T W T W := ⟨rfl, fun i s hi => ⟨fun _ => hi, fun so => ⟨s.a, by rw [hi]; obtain ⟨o, g, b⟩ := s; cases so; rfl, fun _ _ _ => rfl⟩⟩⟩

theorem Wk.trans {T2 : List Hd.Sl} {W2 : Int → Int} (r : Rec L W T) (h : Wk T W T' W') (k : Wk T' W' T2 W2) : Wk T W T2 W2 := by
  refine ⟨k.1.trans h.1, fun i s hi => ⟨fun so => ?_, fun so => ?_⟩⟩
  · exact (k.2 i s ((h.2 i s hi).1 so)).1 so
  · obtain ⟨b, hb, hw⟩ := (h.2 i s hi).2 so
    obtain ⟨b2, hb2, hw2⟩ := (k.2 i _ hb).2 rfl
    have n0 := (r.nm i s hi so).2.1
    refine ⟨b2, hb2, fun j j0 j1 => ?_⟩
    have e1 := hw 1 (by omega) (by omega)
    have e2 := hw2 j j0 (by show j < 2 + W' (b + 1); rw [e1]; exact j1)
    exact e2.trans (hw j j0 j1)

theorem Wk.slide (r : Rec L W T) (l : Wl L) (hl : T.length ≤ 65536) {i : Nat} {s : Hd.Sl} (hi : T[i]? = some s) (so : s.o = true) {p : Pg} {k b : Int} (hf : findB L s.a = some (p, k)) (hs : SameBut L p k W W') (hw : ∀ i, 0 ≤ i → i < roomI p → W' (b + i) = W (s.a + i)) :
    Wk T W (T.set i ⟨true, s.g, b⟩) W' := by
  have hlt := (List.getElem?_eq_some_iff.1 hi).1
  refine ⟨by simp, fun j t hj => ⟨fun to => ?_, fun to => ?_⟩⟩
  · by_cases e : j = i
    · subst e
      rw [hi] at hj
      cases hj
      rw [so] at to
      cases to
    · rw [List.getElem?_set_ne (Ne.symm e)]
      exact hj
  · obtain ⟨_, n0, n1, hb⟩ := r.nm j t hj to
    have hg := So.rm_ge (x := 2 + W (t.a + 1)) ⟨by omega, by omega⟩
    by_cases e : j = i
    · subst e
      rw [hi] at hj
      cases hj
      obtain ⟨hpm, hks, hpa⟩ := Hp.findB_some hf
      have hro : rmI (2 + W (s.a + 1)) = roomI p := l.roomOne hb ⟨p, hpm, k, hks, hpa, rfl⟩
      exact ⟨b, List.getElem?_set_self hlt, fun x x0 x1 => hw x x0 (by omega)⟩
    · refine ⟨t.a, ?_, fun x x0 x1 => ?_⟩
      · rw [List.getElem?_set_ne (Ne.symm e), hj]
        obtain ⟨o, g, b'⟩ := t
        cases to
        rfl
      · exact So.SameBut.at hf hs hb (fun e2 => e (r.inj hl hj hi to so e2)) x0 (by omega)

end Co
end Go.Proofs.YtlmfojkhfipdnaaGreatDoor
