/-
  Alloc and Free of what it told are nothing. No Go text is named here.
-/
import Derived.Test.YtckofhbfdfmnoaaGreatDoorWTakeB
namespace Go.Proofs.YtckofhbfdfmnoaaGreatDoor
namespace So
open Hp (Pg BlR Bl Wl Same SameBut allocL dropL findB roomI updL insL delL withT)
variable {L L' : List Pg} {W W' W0 W1 W2 : Int → Int} {q : Int}

theorem U_ext {a b : Int} (ha : Bt.U a) (hb : Bt.U b) (h : ∀ k, Bt.N k → Bt.hasI a k = Bt.hasI b k) : a = b := by
  have ha' : 0 ≤ a ∧ a ≤ 18446744073709551615 := ha
  have hb' : 0 ≤ b ∧ b ≤ 18446744073709551615 := hb
  have e : a.toNat = b.toNat := by
    apply Nat.eq_of_testBit_eq
    intro j
    by_cases hj : j < 64
    · have hk : Bt.N (j : Int) := ⟨by omega, by omega⟩
      have := h j hk
      rw [Bt.hasI_N hk, Bt.hasI_N hk] at this
      simpa using this
    · have hp : 18446744073709551616 ≤ 2 ^ j := by
        have : 2 ^ 64 ≤ 2 ^ j := Nat.pow_le_pow_right (by omega) (by omega)
        simpa using this
      rw [Nat.testBit_lt_two_pow (by omega), Nat.testBit_lt_two_pow (by omega)]
  omega
theorem clr_set {t s : Int} (hu : Bt.U t) (hs : Bt.N s) (hf : Bt.hasI t s = false) : Bt.clrI (Bt.setI t s) s = t := by
  refine U_ext (Bt.clrI_U (Bt.setI_U hu hs)) hu fun k hk => ?_
  rw [Hp.has_clr hs hk, Hp.has_set hs hk]
  by_cases e : k = s
  · subst e
    simp [hf]
  · simp [e]

theorem upd_upd (l : Wl L) {p p1 : Pg} (hp : p ∈ L) (hn : p1.n = p.n) : updL (updL L p.n p1) p.n p = L := by
  unfold updL
  rw [List.map_map]
  have : ∀ r ∈ L, ((fun r => if r.n = p.n then p else r) ∘ fun r => if r.n = p.n then p1 else r) r = r := fun r hr => by
    simp only [Function.comp_apply]
    by_cases e : r.n = p.n
    · rw [if_pos e, if_pos hn]
      exact (l.inj hr hp e).symm
    · rw [if_neg e, if_neg e]
  exact (List.map_congr_left this).trans (List.map_id _)
theorem del_ins {p : Pg} (h : ∀ r ∈ L, r.n ≠ p.n) : delL (insL p L) p.n = L := by
  have hd : ∀ {M : List Pg}, (∀ r ∈ M, r.n ≠ p.n) → delL M p.n = M := fun hM => by
    unfold delL
    rw [List.filter_eq_self]
    intro r hr
    simp [hM r hr]
  induction L with
  | nil => simp [insL, delL]
  | cons r L ih =>
    have h1 : r.n ≠ p.n := h r (by simp)
    have h2 : ∀ x ∈ L, x.n ≠ p.n := fun x hx => h x (by simp [hx])
    unfold insL
    split
    · have : delL (p :: r :: L) p.n = delL (r :: L) p.n := by simp [delL]
      rw [this, hd h]
    · have : delL (r :: insL p L) p.n = r :: delL (insL p L) p.n := by simp [delL, h1]
      rw [this, ih h2]

theorem fit_off (l : Wl L) {m : Int} (hm : 1 ≤ m) : ∀ r ∈ L, r.n ≠ Hp.fit m 0 L := fun r hr e => by
  obtain ⟨_, h2, _⟩ := Hp.fit_spec hm L 0 l.srt (fun p hp => (l.ent p hp).span.1) l.n0
  have := (l.ent r hr).span
  exact h2 (Hp.fit m 0 L) (by omega) (by omega) ⟨r, hr, by omega, by omega⟩

/-- What Alloc told is found, and freed it leaves the entries as they were. -/
theorem undo (l : Wl L) (l' : Wl L') {x a : Int} (hx : 1 ≤ x ∧ x ≤ 4000) (e : allocL q L x = (a, 0, L')) : ∃ p k, findB L' a = some (p, k) ∧ dropL L' p k = L := by
  unfold allocL at e
  rw [if_pos hx] at e
  cases hs : Cl.smaI x with
  | true =>
    rw [hs] at e
    simp only [if_true] at e
    obtain ⟨c0, c1, c2⟩ := Hp.cls_in hx hs
    cases hf : Hp.freeB L (Cl.clsI x) with
    | some ps =>
      obtain ⟨p, s⟩ := ps
      rw [hf] at e
      obtain ⟨hp, h1, hc, s0, s1, hh⟩ := Hp.freeB_some hf
      rw [← hc] at s1
      simp only [Prod.mk.injEq] at e
      obtain ⟨rfl, _, rfl⟩ := e
      obtain ⟨_, _, ht, hu, _⟩ := (l.ent p hp).small h1
      have hN := Hp.N_of s0 s1 (Hp.slo_le p.cls).2
      have hm : withT p (Bt.setI p.taken s) ∈ updL L p.n (withT p (Bt.setI p.taken s)) := (l.upd_mem hp).2 (.inl rfl)
      have hsl : s ∈ Hp.slotsOf (withT p (Bt.setI p.taken s)) := (Hp.mem_slots_set h1 s0 s1).2 (.inl rfl)
      have ea : Hp.addrI (withT p (Bt.setI p.taken s)) s = Hp.addrI p s := rfl
      have hfd := l'.find hm hsl
      rw [ea] at hfd
      refine ⟨_, _, hfd, ?_⟩
      have ec : Bt.clrI (withT p (Bt.setI p.taken s)).taken s = p.taken := clr_set hu hN hh
      have k1 : ¬ (withT p (Bt.setI p.taken s)).kind = 2 := by
        show ¬ p.kind = 2
        omega
      unfold dropL
      rw [if_neg k1, ec, if_neg ht]
      have ew : withT (withT p (Bt.setI p.taken s)) p.taken = p := rfl
      rw [ew]
      exact upd_upd l hp rfl
    | none =>
      rw [hf] at e
      simp only [] at e
      split at e
      · simp only [Prod.mk.injEq] at e
        obtain ⟨rfl, _, rfl⟩ := e
        have hm : Hp.smallPg (Hp.fit 1 0 L) (Cl.clsI x) ∈ insL (Hp.smallPg (Hp.fit 1 0 L) (Cl.clsI x)) L := Hp.mem_insL.2 (.inl rfl)
        refine ⟨_, _, l'.find hm ((Hp.slots_smallPg c0 c1 0).2 rfl), ?_⟩
        unfold dropL
        rw [if_neg (show ¬ (Hp.smallPg (Hp.fit 1 0 L) (Cl.clsI x)).kind = 2 from (by decide : ¬ (1 : Int) = 2)), if_pos (show Bt.clrI (Hp.smallPg (Hp.fit 1 0 L) (Cl.clsI x)).taken 0 = 0 from (by decide : Bt.clrI 1 0 = 0))]
        exact del_ins (fit_off l (by omega))
      · simp at e
  | false =>
    rw [hs] at e
    have hpg : Cl.pagI x = (x + 65) / 64 := if_pos hx
    simp only [Bool.false_eq_true, if_false] at e
    split at e
    · simp only [Prod.mk.injEq] at e
      obtain ⟨rfl, _, rfl⟩ := e
      have hm : Hp.largePg (Hp.fit (Cl.pagI x) 0 L) x ∈ insL (Hp.largePg (Hp.fit (Cl.pagI x) 0 L) x) L := Hp.mem_insL.2 (.inl rfl)
      have hsl : (0 : Int) ∈ Hp.slotsOf (Hp.largePg (Hp.fit (Cl.pagI x) 0 L) x) := by
        rw [Hp.mem_slots]
        simp [Hp.largePg]
      refine ⟨_, _, l'.find hm hsl, ?_⟩
      unfold dropL
      rw [if_pos (show (Hp.largePg (Hp.fit (Cl.pagI x) 0 L) x).kind = 2 from rfl)]
      exact del_ins (fit_off l (by omega))
    · simp at e

/-- A page's words, as they were, leave the heads. -/
theorem lay_back {pg pg' : List (Int × Nat)} (h : Hp.Lay pg W0 L) (N : Int) (hN : N ∈ nums pg) (h' : Hp.Lay pg' W' L) : (Sl.blk pg' N).isSome = true ∧ Hp.Lay pg' (layW W' W0 N 64) L := by
  refine ⟨(h'.cov N).2 ((h.cov N).1 (Hp.mem_keys.1 hN)), h'.ent, fun p hp => ?_, fun p hp => ?_, h'.srt, h'.cov⟩
  · unfold layW
    split
    · exact h.m p hp
    · exact h'.m p hp
  · unfold layW
    split
    · exact h.h p hp
    · exact h'.h p hp

theorem same_back {x a : Int} (l : Wl L) (hx : 1 ≤ x ∧ x ≤ 4000) (e : allocL q L x = (a, 0, L')) (hs : Same L W0 W1) {p : Pg} {k : Int} (hf : findB L' a = some (p, k)) (hb : SameBut L' p k W1 W2) (ks : List Int) (N : Int) : Same L W0 (tbW W2 W0 ks N) := fun r hr s hsl i i0 i1 => by
  have hR := allocRm l hx e
  have hB : BlR L' (Hp.addrI r s) (roomI r) := (hR.2 _ _).2 (.inr ⟨r, hr, s, hsl, rfl, rfl⟩)
  have hne : Hp.addrI r s ≠ a := fun e2 => hR.1 (e2 ▸ ⟨r, hr, s, hsl, rfl⟩)
  have h2 := (SameBut.at hf hb hB hne i0 i1).trans (hs r hr s hsl i i0 i1)
  unfold tbW
  split
  · unfold layW
    split
    · rfl
    · exact h2
  · exact h2

end So
end Go.Proofs.YtckofhbfdfmnoaaGreatDoor
