/-
  Which addresses are blocks', on entries: what Alloc and Free do to them.
-/
import Derived.Test.YtlpdgomoepinjaaDoorHRw
namespace Go.Proofs.YtlpdgomoepinjaaDoor
open Go.RowKit
namespace Hp
variable {w : World} {bh bs bm : Nat} {q : Int} {pg : List (Int × Nat)} {W : Int → Int} {L L' : List Pg}

/-- Entries as they stand in an arena. -/
structure Wl (L : List Pg) : Prop where
  ent : ∀ p ∈ L, Ent p
  srt : Srt L
  n0 : ∀ p ∈ L, 0 ≤ p.n
theorem St.wl (h : St w bh bs bm q pg W L) : Wl L := ⟨h.ly.ent, h.ly.srt, fun _ hp => (h.range hp).1⟩

/-- A block's address. -/
def Bl (L : List Pg) (a : Int) : Prop := ∃ p ∈ L, ∃ s ∈ slotsOf p, addrI p s = a

theorem slo_le (c : Int) : 0 ≤ Cl.sloI c ∧ Cl.sloI c ≤ 31 := by
  rcases Cl.siz_cases c with ⟨_, _, _, h⟩ | ⟨_, _, _, h⟩ | ⟨_, _, _, h⟩ | ⟨_, _, _, h⟩ | ⟨_, _, _, h⟩ | ⟨_, _, _, h⟩ | ⟨_, _, _, h⟩ | ⟨_, _, _, h⟩ | ⟨_, _, _, h⟩ <;> omega

theorem addr_page {p : Pg} (he : Ent p) {s : Int} (hs : s ∈ slotsOf p) : 64 * p.n + 2 ≤ addrI p s ∧ addrI p s < 64 * p.n + 64 := by
  have h1 := place_in he (slot_ok hs)
  rcases he.kind with k | k
  · have := (he.small k).2.2.2.2.2.2
    unfold addrI
    omega
  · have e : atI p s = 2 := if_pos k
    unfold addrI
    omega

theorem Wl.inj (l : Wl L) {p r : Pg} (hp : p ∈ L) (hr : r ∈ L) (e : p.n = r.n) : p = r := by
  by_cases h : p = r
  · exact h
  · have h1 := srt_apart l.srt hp hr h
    have h2 := (l.ent p hp).span
    have h3 := (l.ent r hr).span
    omega

theorem slot_inj {p : Pg} (he : Ent p) {s r : Int} (hs : s ∈ slotsOf p) (hr : r ∈ slotsOf p) (e : addrI p s = addrI p r) : s = r := by
  rcases he.kind with k | k
  · by_cases h : s = r
    · exact h
    · have h1 := slots_apart he k (slot_ok hs k) (slot_ok hr k) h
      have h2 := place_in he (slot_ok hs)
      unfold addrI at e
      omega
  · rcases mem_slots.1 hs with ⟨_, h1⟩ | ⟨h1, _⟩
    · rcases mem_slots.1 hr with ⟨_, h2⟩ | ⟨h2, _⟩
      · omega
      · omega
    · omega

theorem Wl.uniq (l : Wl L) {p r : Pg} (hp : p ∈ L) (hr : r ∈ L) {s k : Int} (hs : s ∈ slotsOf p) (hk : k ∈ slotsOf r) (e : addrI p s = addrI r k) : p = r ∧ s = k := by
  have h1 := addr_page (l.ent p hp) hs
  have h2 := addr_page (l.ent r hr) hk
  have h3 := l.inj hp hr (by omega)
  subst h3
  exact ⟨rfl, slot_inj (l.ent p hp) hs hk e⟩

theorem find_some_of {α : Type} {f : α → Bool} : ∀ {l : List α} {x : α}, x ∈ l → f x = true → ∃ y, l.find? f = some y
  | a :: l, x, hx, hf => by
    rw [List.find?_cons]
    cases h : f a with
    | true => exact ⟨a, rfl⟩
    | false =>
      rcases List.mem_cons.1 hx with rfl | hx
      · rw [hf] at h; cases h
      · exact find_some_of hx hf

theorem Wl.find (l : Wl L) {p : Pg} (hp : p ∈ L) {s : Int} (hs : s ∈ slotsOf p) : findB L (addrI p s) = some (p, s) := by
  have h1 := addr_page (l.ent p hp) hs
  have h0 := l.n0 p hp
  have hd : (addrI p s).tdiv 64 = p.n := by
    rw [Int.tdiv_eq_ediv_of_nonneg (by omega)]
    omega
  obtain ⟨r, hr⟩ := find_some_of (f := fun r : Pg => r.n == (addrI p s).tdiv 64) hp (by rw [hd]; simp)
  obtain ⟨k, hk⟩ := find_some_of (f := fun k : Int => addrI p k == addrI p s) hs (by simp)
  have e1 : r = p := l.inj (List.mem_of_find?_eq_some hr) hp (by have := List.find?_some hr; rw [hd] at this; simpa using this)
  subst e1
  have e2 : k = s := slot_inj (l.ent r hp) (List.mem_of_find?_eq_some hk) hs (by simpa using List.find?_some hk)
  subst e2
  unfold findB pgOf slOf
  rw [hr, Option.bind_some, hk]
  rfl

theorem Wl.find_iff (l : Wl L) {a : Int} : Bl L a ↔ ∃ ps, findB L a = some ps := by
  constructor
  · rintro ⟨p, hp, s, hs, rfl⟩
    exact ⟨_, l.find hp hs⟩
  · rintro ⟨⟨p, s⟩, h⟩
    obtain ⟨h1, h2, h3⟩ := findB_some h
    exact ⟨p, h1, s, h2, h3⟩
theorem Wl.none (l : Wl L) {a : Int} (h : ¬ Bl L a) : findB L a = none := by
  cases e : findB L a with
  | none => rfl
  | some ps => exact absurd (l.find_iff.2 ⟨ps, e⟩) h

theorem Wl.empty (l : Wl L) (h : ∀ a, ¬ Bl L a) : L = [] := by
  cases L with
  | nil => rfl
  | cons p L =>
    exfalso
    have hp : p ∈ p :: L := by simp
    have he := l.ent p hp
    rcases he.kind with k | k
    · obtain ⟨c0, c1, t0, u, hc, _⟩ := he.small k
      have hsl := slo_le p.cls
      refine t0 ((zero_iff u hsl.1 hsl.2 hc).2 fun j j0 j1 => ?_)
      cases hj : Bt.hasI p.taken j with
      | false => rfl
      | true => exact absurd ⟨p, hp, j, mem_slots.2 (.inr ⟨k, j0, j1, hj⟩), rfl⟩ (h (addrI p j))
    · exact h _ ⟨p, hp, 0, mem_slots.2 (.inl ⟨k, rfl⟩), rfl⟩

theorem Wl.upd_mem (l : Wl L) {p p' : Pg} (hp : p ∈ L) {r : Pg} : r ∈ updL L p.n p' ↔ r = p' ∨ (r ∈ L ∧ r ≠ p) := by
  constructor
  · intro h
    rcases mem_upd h with h | ⟨h, hne⟩
    · exact .inl h
    · exact .inr ⟨h, fun e => hne (by rw [e])⟩
  · intro h
    unfold updL
    rw [List.mem_map]
    rcases h with rfl | ⟨h, hne⟩
    · exact ⟨p, hp, if_pos rfl⟩
    · exact ⟨r, h, if_neg fun e => hne (l.inj h hp e)⟩

theorem mem_slots_set {p : Pg} (h1 : p.kind = 1) {s k : Int} (s0 : 0 ≤ s) (s1 : s < Cl.sloI p.cls) : k ∈ slotsOf (withT p (Bt.setI p.taken s)) ↔ k = s ∨ k ∈ slotsOf p := by
  have hsl := (slo_le p.cls).2
  rw [mem_slots, mem_slots]
  show (p.kind = 2 ∧ _) ∨ (p.kind = 1 ∧ 0 ≤ k ∧ k < Cl.sloI p.cls ∧ Bt.hasI (Bt.setI p.taken s) k = true) ↔ _
  constructor
  · rintro (⟨h, _⟩ | ⟨_, k0, k1, h⟩)
    · omega
    · rw [has_set (N_of s0 s1 hsl) (N_of k0 k1 hsl)] at h
      simp only [Bool.or_eq_true, decide_eq_true_eq] at h
      rcases h with h | h
      · exact .inr (.inr ⟨h1, k0, k1, h⟩)
      · exact .inl h
  · rintro (rfl | ⟨h, _⟩ | ⟨_, k0, k1, h⟩)
    · refine .inr ⟨h1, s0, s1, ?_⟩
      rw [has_set (N_of s0 s1 hsl) (N_of s0 s1 hsl)]
      simp
    · omega
    · refine .inr ⟨h1, k0, k1, ?_⟩
      rw [has_set (N_of s0 s1 hsl) (N_of k0 k1 hsl), h]
      rfl
theorem mem_slots_clr {p : Pg} (h1 : p.kind = 1) {s k : Int} (s0 : 0 ≤ s) (s1 : s < Cl.sloI p.cls) : k ∈ slotsOf (withT p (Bt.clrI p.taken s)) ↔ k ≠ s ∧ k ∈ slotsOf p := by
  have hsl := (slo_le p.cls).2
  rw [mem_slots, mem_slots]
  show (p.kind = 2 ∧ _) ∨ (p.kind = 1 ∧ 0 ≤ k ∧ k < Cl.sloI p.cls ∧ Bt.hasI (Bt.clrI p.taken s) k = true) ↔ _
  constructor
  · rintro (⟨h, _⟩ | ⟨_, k0, k1, h⟩)
    · omega
    · rw [has_clr (N_of s0 s1 hsl) (N_of k0 k1 hsl)] at h
      simp only [Bool.and_eq_true, Bool.not_eq_true', decide_eq_false_iff_not] at h
      exact ⟨h.2, .inr ⟨h1, k0, k1, h.1⟩⟩
  · rintro ⟨hne, (⟨h, _⟩ | ⟨_, k0, k1, h⟩)⟩
    · omega
    · refine .inr ⟨h1, k0, k1, ?_⟩
      rw [has_clr (N_of s0 s1 hsl) (N_of k0 k1 hsl), h]
      simp [hne]

/-- A free place is no block's. -/
theorem Wl.free_not (l : Wl L) {p : Pg} (hp : p ∈ L) (h1 : p.kind = 1) {s : Int} (s0 : 0 ≤ s) (s1 : s < Cl.sloI p.cls) (hf : Bt.hasI p.taken s = false) : ¬ Bl L (addrI p s) := by
  rintro ⟨r, hr, k, hk, e⟩
  have h2 := addr_page (l.ent r hr) hk
  have h3 := place_in (l.ent p hp) (s := s) (fun _ => ⟨s0, s1⟩)
  have h4 := ((l.ent p hp).small h1).2.2.2.2.2.2
  have h5 : r = p := l.inj hr hp (by unfold addrI at e h2; omega)
  subst h5
  have h6 := slot_ok hk h1
  by_cases hks : k = s
  · subst hks
    rcases mem_slots.1 hk with ⟨h, _⟩ | ⟨_, _, _, h⟩
    · omega
    · rw [hf] at h; cases h
  · have h7 := slots_apart (l.ent r hr) h1 h6 ⟨s0, s1⟩ hks
    have h8 := place_in (l.ent r hr) (s := k) (fun _ => h6)
    unfold addrI at e
    omega

theorem Wl.bl_set (l : Wl L) {p : Pg} (hp : p ∈ L) (h1 : p.kind = 1) {s : Int} (s0 : 0 ≤ s) (s1 : s < Cl.sloI p.cls) (b : Int) : Bl (updL L p.n (withT p (Bt.setI p.taken s))) b ↔ b = addrI p s ∨ Bl L b := by
  constructor
  · rintro ⟨r, hr, k, hk, e⟩
    rcases (l.upd_mem hp).1 hr with rfl | ⟨h, hne⟩
    · rcases (mem_slots_set h1 s0 s1).1 hk with rfl | hk
      · exact .inl e.symm
      · exact .inr ⟨p, hp, k, hk, e⟩
    · exact .inr ⟨r, h, k, hk, e⟩
  · rintro (rfl | ⟨r, hr, k, hk, e⟩)
    · exact ⟨_, (l.upd_mem hp).2 (.inl rfl), s, (mem_slots_set h1 s0 s1).2 (.inl rfl), rfl⟩
    · by_cases hrp : r = p
      · subst hrp
        exact ⟨_, (l.upd_mem hp).2 (.inl rfl), k, (mem_slots_set h1 s0 s1).2 (.inr hk), e⟩
      · exact ⟨r, (l.upd_mem hp).2 (.inr ⟨hr, hrp⟩), k, hk, e⟩

theorem bl_ins {p : Pg} (hs : ∀ k, k ∈ slotsOf p ↔ k = 0) (b : Int) : Bl (insL p L) b ↔ b = addrI p 0 ∨ Bl L b := by
  constructor
  · rintro ⟨r, hr, k, hk, e⟩
    rcases mem_insL.1 hr with rfl | h
    · rw [(hs k).1 hk] at e
      exact .inl e.symm
    · exact .inr ⟨r, h, k, hk, e⟩
  · rintro (rfl | ⟨r, hr, k, hk, e⟩)
    · exact ⟨p, mem_insL.2 (.inl rfl), 0, (hs 0).2 rfl, rfl⟩
    · exact ⟨r, mem_insL.2 (.inr hr), k, hk, e⟩

theorem Wl.fit_not (l : Wl L) {m : Int} (hm : 1 ≤ m) {a : Int} (h0 : 64 * fit m 0 L ≤ a) (h1 : a < 64 * fit m 0 L + 64) : ¬ Bl L a := by
  rintro ⟨p, hp, s, hs, rfl⟩
  have h2 := addr_page (l.ent p hp) hs
  have h3 := (l.ent p hp).span
  obtain ⟨_, h4, _⟩ := fit_spec hm L 0 l.srt (fun p hp => (l.ent p hp).span.1) l.n0
  exact h4 (fit m 0 L) (Int.le_refl _) (by omega) ⟨p, hp, by omega, by omega⟩

theorem slots_smallPg {c n : Int} (h0 : 0 ≤ c) (h1 : c ≤ 7) (k : Int) : k ∈ slotsOf (smallPg n c) ↔ k = 0 := by
  have e : slotsOf (smallPg n c) = slotsOf (smallPg 0 c) := rfl
  rw [e]
  have e2 : slotsOf (smallPg 0 c) = [0] := by
    have hc : c = 0 ∨ c = 1 ∨ c = 2 ∨ c = 3 ∨ c = 4 ∨ c = 5 ∨ c = 6 ∨ c = 7 := by omega
    rcases hc with rfl | rfl | rfl | rfl | rfl | rfl | rfl | rfl <;> decide +kernel
  rw [e2]
  simp

theorem granted_add (p : Pg) : ∀ L, granted (insL p L) = granted L + p.span
  | [] => by simp [insL, granted]
  | r :: L => by
    unfold insL
    split
    · simp [granted]; omega
    · have := granted_add p L
      simp [granted] at this ⊢
      omega
theorem granted_upd {n : Int} {p' : Pg} : ∀ {L : List Pg}, (∀ r ∈ L, r.n = n → r.span = p'.span) → granted (updL L n p') = granted L
  | [], _ => rfl
  | r :: L, h => by
    have ih := granted_upd (n := n) (p' := p') (L := L) (fun r hr => h r (by simp [hr]))
    have h1 := h r (by simp)
    simp only [granted, updL, List.map_cons, List.sum_cons] at ih ⊢
    rw [ih]
    split
    · rename_i hn
      rw [h1 hn]
    · rfl

/-- What Alloc does to the blocks' addresses. -/
theorem Wl.alloc (l : Wl L) {q x a er : Int} {L' : List Pg} (hx : 1 ≤ x ∧ x ≤ 4000) (hq : (granted L + 63) * 64 ≤ q) (e : allocL q L x = (a, er, L')) : er = 0 ∧ ¬ Bl L a ∧ (∀ b, Bl L' b ↔ b = a ∨ Bl L b) ∧ granted L' ≤ granted L + 63 ∧ ∃ p s, (p ∈ L' ∧ s ∈ slotsOf p ∧ addrI p s = a) ∧ x ≤ roomI p := by
  unfold allocL at e
  rw [if_pos hx] at e
  cases hs : Cl.smaI x with
  | true =>
    rw [hs] at e
    simp only [if_true] at e
    obtain ⟨c0, c1, c2⟩ := cls_in hx hs
    cases hf : freeB L (Cl.clsI x) with
    | some ps =>
      obtain ⟨p, s⟩ := ps
      rw [hf] at e
      obtain ⟨hp, h1, hc, s0, s1, hh⟩ := freeB_some hf
      rw [← hc] at s1
      simp only [Prod.mk.injEq] at e
      obtain ⟨rfl, rfl, rfl⟩ := e
      refine ⟨rfl, l.free_not hp h1 s0 s1 hh, l.bl_set hp h1 s0 s1, ?_, withT p (Bt.setI p.taken s), s, ⟨(l.upd_mem hp).2 (.inl rfl), (mem_slots_set h1 s0 s1).2 (.inl rfl), rfl⟩, ?_⟩
      · rw [granted_upd fun r hr e => by rw [l.inj hr hp e]; rfl]
        omega
      · show x ≤ if p.kind = 2 then _ else Cl.sizI p.cls
        rw [if_neg (by omega), hc]
        exact c2
    | none =>
      rw [hf] at e
      simp only [] at e
      rw [if_pos (by omega)] at e
      simp only [Prod.mk.injEq] at e
      obtain ⟨rfl, rfl, rfl⟩ := e
      have ha := addr_page (ent_smallPg (fit 1 0 L) c0 c1) ((slots_smallPg c0 c1 0).2 rfl)
      have hn : (smallPg (fit 1 0 L) (Cl.clsI x)).n = fit 1 0 L := rfl
      refine ⟨rfl, l.fit_not (m := 1) (by omega) (by omega) (by omega), bl_ins (slots_smallPg c0 c1), ?_, _, 0, ⟨mem_insL.2 (.inl rfl), (slots_smallPg c0 c1 0).2 rfl, rfl⟩, c2⟩
      rw [granted_add]
      show granted L + 1 ≤ _
      omega
  | false =>
    rw [hs] at e
    have hpg : Cl.pagI x = (x + 65) / 64 := if_pos hx
    simp only [Bool.false_eq_true, if_false] at e
    rw [if_pos (by omega)] at e
    simp only [Prod.mk.injEq] at e
    obtain ⟨rfl, rfl, rfl⟩ := e
    have hsl : ∀ k, k ∈ slotsOf (largePg (fit (Cl.pagI x) 0 L) x) ↔ k = 0 := fun k => by
      rw [mem_slots]
      simp [largePg]
    have ha : addrI (largePg (fit (Cl.pagI x) 0 L) x) 0 = fit (Cl.pagI x) 0 L * 64 + 2 := rfl
    refine ⟨rfl, l.fit_not (m := Cl.pagI x) (by omega) (by omega) (by omega), bl_ins hsl, ?_, _, 0, ⟨mem_insL.2 (.inl rfl), (hsl 0).2 rfl, rfl⟩, Int.le_refl _⟩
    rw [granted_add]
    show granted L + Cl.pagI x ≤ _
    omega

/-- What Free does to them. -/
theorem Wl.free (l : Wl L) {a : Int} {p : Pg} {s : Int} (h : findB L a = some (p, s)) (b : Int) : Bl (dropL L p s) b ↔ b ≠ a ∧ Bl L b := by
  obtain ⟨hp, hs, rfl⟩ := findB_some h
  have he := l.ent p hp
  have del : (∀ k, k ∈ slotsOf p → k = s) → (Bl (delL L p.n) b ↔ b ≠ addrI p s ∧ Bl L b) := fun hall => by
    constructor
    · rintro ⟨r, hr, k, hk, rfl⟩
      obtain ⟨h1, h2⟩ := mem_delL.1 hr
      exact ⟨fun e => h2 (by rw [(l.uniq h1 hp hk hs e).1]), r, h1, k, hk, rfl⟩
    · rintro ⟨hne, r, hr, k, hk, rfl⟩
      refine ⟨r, mem_delL.2 ⟨hr, fun e => ?_⟩, k, hk, rfl⟩
      have := l.inj hr hp e
      subst this
      exact hne (by rw [hall k hk])
  unfold dropL
  rcases he.kind with k1 | k2
  · rw [if_neg (by omega)]
    obtain ⟨s0, s1⟩ := slot_ok hs k1
    obtain ⟨c0, c1, t0, u, hc, _⟩ := he.small k1
    have hsl := slo_le p.cls
    split
    · rename_i hz
      refine del fun k hk => ?_
      by_cases hks : k = s
      · exact hks
      · have h3 := (mem_slots_clr k1 s0 s1 (k := k)).2 ⟨hks, hk⟩
        rw [hz] at h3
        rcases mem_slots.1 h3 with ⟨h4, _⟩ | ⟨_, k0, k1', h4⟩
        · have : p.kind = 2 := h4
          omega
        · have h5 : Bt.hasI 0 k = true := h4
          have h6 := (zero_iff (t := 0) (n := Cl.sloI p.cls) ⟨by decide, by decide⟩ hsl.1 hsl.2 (by rw [← hz]; exact cut_clr u hsl.1 hsl.2 hc s0 s1)).1 rfl k k0 k1'
          rw [h5] at h6
          cases h6
    · constructor
      · rintro ⟨r, hr, k, hk, rfl⟩
        rcases (l.upd_mem hp).1 hr with rfl | ⟨h1, hne⟩
        · obtain ⟨h2, h3⟩ := (mem_slots_clr k1 s0 s1).1 hk
          exact ⟨fun e => h2 (slot_inj he h3 hs e), p, hp, k, h3, rfl⟩
        · exact ⟨fun e => hne (l.uniq h1 hp hk hs e).1, r, h1, k, hk, rfl⟩
      · rintro ⟨hne, r, hr, k, hk, rfl⟩
        by_cases hrp : r = p
        · subst hrp
          exact ⟨_, (l.upd_mem hp).2 (.inl rfl), k, (mem_slots_clr k1 s0 s1).2 ⟨fun e => hne (by rw [e]), hk⟩, rfl⟩
        · exact ⟨r, (l.upd_mem hp).2 (.inr ⟨hr, hrp⟩), k, hk, rfl⟩
  · rw [if_pos k2]
    refine del fun k hk => ?_
    rcases mem_slots.1 hk with ⟨_, h1⟩ | ⟨h1, _⟩
    · rcases mem_slots.1 hs with ⟨_, h2⟩ | ⟨h2, _⟩
      · omega
      · omega
    · omega

end Hp
end Go.Proofs.YtlpdgomoepinjaaDoor
