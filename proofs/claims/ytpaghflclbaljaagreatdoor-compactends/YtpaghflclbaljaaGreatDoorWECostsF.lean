/-
  StoreCosts: what a block costs; Spare of a store.
-/
import Derived.Test.YtpaghflclbaljaaGreatDoorWEFullF
import Derived.Test.YtpaghflclbaljaaGreatDoorWHSpare
namespace Go.Proofs.YtpaghflclbaljaaGreatDoor
open Go.RowKit Go.Maps
attribute [local go_sem ↓] Go.wp_at_zero Go.wp_at_succ
namespace So
open Hp (Kept K No Pg BlR Bl Wl allocL dropL findB granted spareL spareP freeB freeOf)

section
variable {L L' : List Pg} {T : List Hd.Sl} {W : Int → Int} {q : Int}

theorem cnt_all {x : Nat} : ∀ m, (∀ j, j < m → x.testBit j = true) → Bt.cnt x m = m
  | 0, _ => rfl
  | m + 1, h => by
    unfold Bt.cnt
    rw [cnt_all m (fun j hj => h j (by omega)), h m (by omega)]
    rfl
theorem cnt_some {x : Nat} : ∀ m j, j < m → x.testBit j = false → Bt.cnt x m < m
  | 0, _, h, _ => by omega
  | m + 1, j, hj, hb => by
    unfold Bt.cnt
    have h0 := Bt.cnt_le x m
    by_cases e : j = m
    · subst e
      rw [hb]
      simp
      omega
    · have := cnt_some m j (by omega) hb
      split <;> omega

theorem spare_one (c : Int) (p : Pg) : 0 ≤ spareP c p ∧ (0 < spareP c p ↔ (freeOf c p).isSome = true) := by
  have hr := Hp.slo_range p.cls
  unfold spareP freeOf
  split
  · generalize Cl.sloI p.cls = n at *
    generalize p.taken = t at *
    have hm : Bt.mN n = n.toNat := by unfold Bt.mN; omega
    have hle := Bt.cnt_le t.toNat (Bt.mN n)
    have hcn : Bt.cntI t n = (Bt.cnt t.toNat (Bt.mN n) : Int) := rfl
    rcases Hp.free_cases (t := t) hr.1 hr.2 with ⟨e, hall⟩ | ⟨f0, f1, f2, _⟩
    · have hc := cnt_all (x := t.toNat) (Bt.mN n) (fun j hj => by
        have := hall j (by omega) (by omega)
        simp [Bt.hasI] at this
        exact this.2)
      have hf : ¬ (0 ≤ Bt.freI t n) := by omega
      rw [if_neg hf]
      refine ⟨by omega, ?_⟩
      simp
      omega
    · have hc := cnt_some (x := t.toNat) (Bt.mN n) (Bt.freI t n).toNat (by omega) (by
        simp only [Bt.hasI] at f2
        rw [decide_eq_true f0, decide_eq_true (show Bt.freI t n ≤ 63 by omega)] at f2
        simpa using f2)
      rw [if_pos f0]
      refine ⟨by omega, ?_⟩
      simp
      omega
  · simp

theorem spare_free (c : Int) : ∀ L : List Pg, 0 ≤ spareL L c ∧ (0 < spareL L c ↔ (freeB L c).isSome = true)
  | [] => by simp [spareL, freeB]
  | p :: L => by
    have ih := spare_free c L
    have h1 := spare_one c p
    have e : spareL (p :: L) c = spareP c p + spareL L c := by simp [spareL]
    have e2 : freeB (p :: L) c = (freeOf c p).or (freeB L c) := by
      unfold freeB
      rw [List.findSome?_cons]
      cases freeOf c p <;> rfl
    rw [e, e2]
    refine ⟨by omega, ?_⟩
    rw [Option.isSome_or, Bool.or_eq_true, ← h1.2, ← ih.2]
    omega

/-- What a block of x words costs. -/
def costI (L : List Pg) (x : Int) : Int := if Cl.smaI x = true ∧ 0 < spareL L (Cl.clsI x) then 0 else Cl.pagI x

theorem alloc_costs (l : Wl L) {x a er : Int} (hx : 1 ≤ x ∧ x ≤ 4000) (hq : (granted L + Cl.pagI x) * 64 ≤ q) (e : allocL q L x = (a, er, L')) : er = 0 ∧ granted L' = granted L + costI L x := by
  have hpg : Cl.pagI x = (x + 65) / 64 := if_pos hx
  have hsf := (spare_free (Cl.clsI x) L).2
  unfold allocL at e
  rw [if_pos hx] at e
  unfold costI
  cases hs : Cl.smaI x with
  | true =>
    rw [hs] at e
    have hc := Hp.cls_in hx hs
    have hsz : Cl.sizI (Cl.clsI x) ≤ 28 := by
      by_cases he : Cl.errC (Cl.clsI x) = 0
      · exact (Cl.siz_in he).2.1
      · have := (Cl.siz_out he).1
        omega
    have hp1 : Cl.pagI x = 1 := by omega
    simp only [if_true] at e
    cases hf : freeB L (Cl.clsI x) with
    | some ps =>
      obtain ⟨p, s⟩ := ps
      rw [hf] at e hsf
      obtain ⟨hp, _⟩ := Hp.freeB_some hf
      simp only [Prod.mk.injEq] at e
      obtain ⟨_, rfl, rfl⟩ := e
      refine ⟨rfl, ?_⟩
      rw [Hp.granted_upd (fun r hr hn => by rw [l.inj hr hp hn]; rfl), if_pos ⟨rfl, hsf.2 rfl⟩]
      omega
    | none =>
      rw [hf] at e hsf
      simp only [] at e
      rw [hp1] at hq
      rw [if_pos hq] at e
      simp only [Prod.mk.injEq] at e
      obtain ⟨_, rfl, rfl⟩ := e
      refine ⟨rfl, ?_⟩
      have hn : ¬ (0 < spareL L (Cl.clsI x)) := fun h => by cases hsf.1 h
      rw [Hp.granted_add, if_neg (fun h => hn h.2), hp1]
      rfl
  | false =>
    rw [hs] at e
    simp only [Bool.false_eq_true, if_false] at e
    rw [if_pos hq] at e
    simp only [Prod.mk.injEq] at e
    obtain ⟨_, rfl, rfl⟩ := e
    refine ⟨rfl, ?_⟩
    rw [Hp.granted_add, if_neg (fun h => by cases h.1)]
    rfl

/-- No open slot: no page. -/
theorem Rec.none (r : Rec L W T) (l : Wl L) (h : ∀ s ∈ T, s.o = false) : L = [] :=
  l.empty fun a hb => by
    obtain ⟨i, s, hs, so, _⟩ := r.bl a hb
    rw [h s (List.mem_of_getElem? hs)] at so
    cases so
end

variable {w w' : World} {B : Nat} {A : Ad} {pg : List (Int × Nat)} {W : Int → Int} {L : List Pg} {v : Value} {T : List Hd.Sl}

/-- Spare of a store. -/
theorem spare_s (h : Sb w B A pg W L v T) (c : Int) : Calls Tryz.prog 26 #[sp A.st, .int .i64 c] w fun e w' => e = .returned (.int .i64 (spareL L c)) ∧ K w w' := by
  have hm := made_ok h
  have c1 := h.c1
  have sp := Hp.spare_any h.hp.hw c
  rw [h.hp.heads] at sp
  clear h
  go_enter Tryz.func26, Tryz.ntmps26
  go_wp2_with (first
    | (go_at_call 38; refine hm.mono ?_; rintro e w1 ⟨rfl, rfl⟩)
    | (go_at_call 56; refine sp.mono ?_; rintro e w1 ⟨rfl, hk⟩))
  go_ret
  exact ⟨rfl, hk⟩

end So
end Go.Proofs.YtpaghflclbaljaaGreatDoor
