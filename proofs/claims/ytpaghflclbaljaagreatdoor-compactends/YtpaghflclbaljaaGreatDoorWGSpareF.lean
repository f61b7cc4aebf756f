/-
  compact: where all blocks are settled each class has fewer free slots than a page has. No Go text is named here.
-/
import Derived.Test.YtpaghflclbaljaaGreatDoorG1
import Derived.Test.YtpaghflclbaljaaGreatDoorWECostsF
namespace Go.Proofs.YtpaghflclbaljaaGreatDoor
namespace Co
open Hp (Pg BlR Bl Wl findB freeB freeOf slotsOf addrI roomI Ent spareL spareP)
variable {L : List Pg}

theorem cnt_one {x : Nat} : ∀ m j, j < m → x.testBit j = true → 0 < Bt.cnt x m
  | 0, _, h, _ => by omega
  | m + 1, j, hj, hb => by
    unfold Bt.cnt
    by_cases e : j = m
    · subst e
      rw [hb]
      simp
    · have := cnt_one m j (by omega) hb
      split <;> omega

theorem spare_less {p : Pg} (he : Ent p) (c : Int) (hc : 0 ≤ c ∧ c ≤ 7) : spareP c p < Cl.sloI c := by
  have h2 : 2 ≤ Cl.sloI c := by
    rcases Cl.siz_cases c with ⟨_, _, _, a⟩ | ⟨_, _, _, a⟩ | ⟨_, _, _, a⟩ | ⟨_, _, _, a⟩ | ⟨_, _, _, a⟩ | ⟨_, _, _, a⟩ | ⟨_, _, _, a⟩ | ⟨_, _, _, a⟩ | ⟨a, _, _, _⟩ <;> first | omega | exact absurd hc a
  unfold spareP
  split
  · next h =>
    simp only [Bool.and_eq_true, beq_iff_eq] at h
    obtain ⟨k1, rfl⟩ := h
    rcases he with ⟨_, _, _, h0, hU, hcut, _, _⟩ | ⟨h, _⟩
    · have hr := Hp.slo_range p.cls
      have hz := Hp.zero_iff hU hr.1 hr.2 hcut
      have : ∃ k, 0 ≤ k ∧ k < Cl.sloI p.cls ∧ Bt.hasI p.taken k = true := by
        by_cases hh : ∃ k, 0 ≤ k ∧ k < Cl.sloI p.cls ∧ Bt.hasI p.taken k = true
        · exact hh
        · refine absurd (hz.2 fun k k0 k1 => ?_) h0
          cases hb : Bt.hasI p.taken k with
          | false => rfl
          | true => exact absurd ⟨k, k0, k1, hb⟩ hh
      obtain ⟨k, k0, k1, hb⟩ := this
      have hcn : Bt.cntI p.taken (Cl.sloI p.cls) = (Bt.cnt p.taken.toNat (Bt.mN (Cl.sloI p.cls)) : Int) := rfl
      have hm : Bt.mN (Cl.sloI p.cls) = (Cl.sloI p.cls).toNat := by unfold Bt.mN; omega
      have := cnt_one (x := p.taken.toNat) (Bt.mN (Cl.sloI p.cls)) k.toNat (by omega) (by
        simp [Bt.hasI] at hb
        exact hb.2)
      omega
    · omega
  · omega

theorem spare_none : ∀ {l : List Pg} {c : Int}, freeB l c = none → spareL l c = 0 := fun {l} {c} h => by
  have := So.spare_free c l
  rw [h] at this
  simp at this
  omega

theorem spare_done (l : Wl L) (hs : ∀ a r, BlR L a r → Stl L a) (c : Int) (hc : 0 ≤ c ∧ c ≤ 7) : spareL L c < Cl.sloI c := by
  have h2 : 2 ≤ Cl.sloI c := by
    rcases Cl.siz_cases c with ⟨_, _, _, a⟩ | ⟨_, _, _, a⟩ | ⟨_, _, _, a⟩ | ⟨_, _, _, a⟩ | ⟨_, _, _, a⟩ | ⟨_, _, _, a⟩ | ⟨_, _, _, a⟩ | ⟨_, _, _, a⟩ | ⟨a, _, _, _⟩ <;> first | omega | exact absurd hc a
  cases hf : freeB L c with
  | none => rw [spare_none hf]; omega
  | some ps =>
    obtain ⟨q, s⟩ := ps
    obtain ⟨hq, q1, qc, s0, s1, hh⟩ := Hp.freeB_some hf
    obtain ⟨fr, _⟩ := fr_some l hf
    have hf2 := hf
    unfold freeB at hf2
    obtain ⟨l1, x, l2, e, hx, hno⟩ := List.findSome?_eq_some_iff.1 hf2
    have hxq : x = q := by
      unfold freeOf at hx
      split at hx
      · split at hx
        · exact (Prod.mk.inj (Option.some.inj hx)).1
        · cases hx
      · cases hx
    subst hxq
    have z1 : spareL l1 c = 0 := spare_none (by unfold freeB; rw [List.findSome?_eq_none_iff]; exact hno)
    have z2 : ∀ p ∈ l2, spareP c p = 0 := fun p hp => by
      have hpL : p ∈ L := by rw [e]; simp [hp]
      unfold spareP
      split
      · next h =>
        exfalso
        simp only [Bool.and_eq_true, beq_iff_eq] at h
        obtain ⟨k1, rfl⟩ := h
        have hlt : x.n + x.span ≤ p.n := by
          have := l.srt
          rw [e] at this
          exact (List.pairwise_cons.1 (List.pairwise_append.1 this).2.1).1 p hp
        have ep := l.ent p hpL
        have ex := l.ent x hq
        have hz : ∃ k, k ∈ slotsOf p := by
          rcases ep with ⟨_, _, _, h0, hU, hcut, _, _⟩ | ⟨h, _⟩
          · have hr := Hp.slo_range p.cls
            have hz := Hp.zero_iff hU hr.1 hr.2 hcut
            by_cases hh : ∃ k, 0 ≤ k ∧ k < Cl.sloI p.cls ∧ Bt.hasI p.taken k = true
            · obtain ⟨k, k0, k1', hb⟩ := hh
              exact ⟨k, Hp.mem_slots.2 (.inr ⟨k1, k0, k1', hb⟩)⟩
            · refine absurd (hz.2 fun k k0 k1 => ?_) h0
              cases hb : Bt.hasI p.taken k with
              | false => rfl
              | true => exact absurd ⟨k, k0, k1, hb⟩ hh
          · omega
        obtain ⟨k, hk⟩ := hz
        have hst := hs (addrI p k) (roomI p) ⟨p, hpL, k, hk, rfl, rfl⟩
        rw [stl_small l (l.find hpL hk) k1] at hst
        have := hst _ fr
        have b1 := Hp.addr_page ep hk
        have b2 := Hp.place_in ex (s := s) (fun _ => ⟨s0, by rw [qc]; exact s1⟩)
        have sp : x.span = 1 := by
          rcases room_kind ex with ⟨_, _, _, _, h⟩ | ⟨h, _⟩
          · exact h
          · omega
        unfold addrI at this b1
        omega
      · rfl
    have z3 : spareL l2 c = 0 := by
      unfold spareL
      clear e hno hx
      induction l2 with
      | nil => rfl
      | cons y t ih =>
        rw [List.map_cons, List.sum_cons, z2 y (by simp), ih (fun p hp => z2 p (List.mem_cons_of_mem _ hp))]
        rfl
    have : spareL L c = spareL l1 c + (spareP c x + spareL l2 c) := by
      rw [e]
      simp [spareL]
    have := spare_less (l.ent x hq) c hc
    omega

end Co
end Go.Proofs.YtpaghflclbaljaaGreatDoor
