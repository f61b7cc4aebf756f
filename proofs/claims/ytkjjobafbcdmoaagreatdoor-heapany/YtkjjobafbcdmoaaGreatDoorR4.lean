/-
  A slot of an entry of the reference's is turned; entries that go, come, or turn, as the heap's lists say it.
-/
import Derived.Test.YtkjjobafbcdmoaaGreatDoorR3
namespace Go.Proofs.YtkjjobafbcdmoaaGreatDoor
open Go.RowKit Go.Maps
namespace Hp
variable {w w' : World} {br : Nat} {q : Int} {a : Option Addr} {cap : Nat} {E E' : List Re}

/-- Where a row of entries lies. -/
theorem Rf.addr (h : Rf w br q a cap E) {i : Nat} (hi : i < E.length) : ∃ g, a = some ⟨g, 0, none⟩ ∧ g ≠ br ∧ RowE w g a cap E := by
  obtain ⟨g, hr, hf, hc⟩ := h.form
  rcases hf with rfl | ⟨_, h0, _⟩
  · exact ⟨g, rfl, h.ne rfl, hr⟩
  · omega

theorem Rf.turn {g : Nat} (h : Rf w br q (some ⟨g, 0, none⟩) cap E) {i : Nat} {e e' : Re} (he : E[i]? = some e) {k : Nat} {v : Value} (hk : k < 36) (hset : (reList e).set k v = reList e') : Rf (w.setCell ⟨g, i * 36 + k, none⟩ v) br q (some ⟨g, 0, none⟩) cap (E.set i e') := by
  have hi : i < E.length := (List.getElem?_eq_some_iff.1 he).1
  have hne := h.ne (k := g) rfl
  refine ⟨?_, ⟨by rw [reVals_len], ?_⟩⟩
  · rw [Below.heap_setCell _ _ _ _ (by show br ≠ g; omega), List.length_set]
    exact h.s0
  · rcases h.row.2 with ⟨hv, h0⟩ | ⟨g2, c, cur, hv, hb, hh, h1, h2, h3, h4⟩
    · cases hv
    · injection hv with e1 e2 e3
      injection e1 with e1
      injection e1 with e1
      subst e1 e3
      refine .inr ⟨g, cap, cur.setIfInBounds (i * 36 + k) v, by rw [List.length_set], hb, by rw [heap_setCell_same w g (i * 36 + k) _ _ _ hh], by rw [List.length_set]; exact h1, h2, by simpa using h3, ?_⟩
      rw [List.length_set, Array.toList_setIfInBounds, List.take_set, h4]
      exact reVals_set he e' k v hk hset

/-- A cell of a slot is there, and is not frozen. -/
theorem Rf.cellT {g : Nat} (h : Rf w br q (some ⟨g, 0, none⟩) cap E) {i : Nat} {e : Re} (he : E[i]? = some e) {k : Nat} (hk : k < 31) : w.cell? ⟨g, i * 36 + 5 + k, none⟩ = some (.bool (tkB e.1 k)) ∧ w.frozen? ⟨g, i * 36 + 5 + k, none⟩ = false := by
  have hi : i < E.length := (List.getElem?_eq_some_iff.1 he).1
  rcases h.row.2 with ⟨hv, h0⟩ | ⟨g2, c, cur, hv, hb, hh, h1, h2, h3, h4⟩
  · cases hv
  · injection hv with e1 e2 e3
    injection e1 with e1
    injection e1 with e1
    subst e1
    refine ⟨?_, by simp [World.frozen?, hh]⟩
    have h5 : (reVals E)[i * 36 + (5 + k)]? = some (.bool (tkB e.1 k)) := by rw [reVals_at he _ (by omega), reList_tk hk]
    rw [← h4, List.getElem?_take_of_lt (by omega)] at h5
    simp [World.cell?, hh]
    rw [Nat.add_assoc]
    simpa using h5

theorem entsR_app (A B : List Re) : entsR (A ++ B) = entsR A ++ entsR B := by simp [entsR]
theorem split_at {i : Nat} {e : Re} (he : E[i]? = some e) : E = E.take i ++ e :: E.drop (i + 1) := by
  obtain ⟨hi, h2⟩ := List.getElem?_eq_some_iff.1 he
  rw [← h2, List.getElem_cons_drop, List.take_append_drop]
theorem apart_n {A B : List Pg} {p : Pg} (h : Srt (A ++ p :: B)) (hs : ∀ r ∈ A ++ p :: B, 1 ≤ r.span) : (∀ r ∈ A, r.n ≠ p.n) ∧ ∀ r ∈ B, r.n ≠ p.n := by
  obtain ⟨_, h2, h3⟩ := List.pairwise_append.1 h
  have hp := hs p (by simp)
  refine ⟨fun r hr => ?_, fun r hr => ?_⟩
  · have h4 := h3 r hr p (by simp)
    have h5 := hs r (by simp [hr])
    omega
  · have h4 := (List.pairwise_cons.1 h2).1 r hr
    omega
/-- An entry goes. -/
theorem entsR_del {i : Nat} {e : Re} (hE : Eo E) (he : E[i]? = some e) : entsR (E.take i ++ E.drop (i + 1)) = delL (entsR E) e.1.n := by
  have hs : entsR E = entsR (E.take i) ++ e.1 :: entsR (E.drop (i + 1)) := by
    conv => lhs; rw [split_at he, entsR_app]
    rfl
  have hsrt := hE.wl.srt
  have hsp : ∀ r ∈ entsR E, 1 ≤ r.span := fun r hr => (hE.wl.ent r hr).span.1
  rw [hs] at hsrt hsp
  obtain ⟨h1, h2⟩ := apart_n hsrt hsp
  rw [hs, entsR_app]
  unfold delL
  rw [List.filter_append, List.filter_cons_of_neg (by simp), List.filter_eq_self.2 (fun r hr => by simpa using h1 r hr), List.filter_eq_self.2 (fun r hr => by simpa using h2 r hr)]
/-- An entry turns. -/
theorem entsR_upd {i : Nat} {e e' : Re} (hE : Eo E) (he : E[i]? = some e) : entsR (E.set i e') = updL (entsR E) e.1.n e'.1 := by
  have hs : entsR E = entsR (E.take i) ++ e.1 :: entsR (E.drop (i + 1)) := by
    conv => lhs; rw [split_at he, entsR_app]
    rfl
  have hi : i < E.length := (List.getElem?_eq_some_iff.1 he).1
  have hsrt := hE.wl.srt
  have hsp : ∀ r ∈ entsR E, 1 ≤ r.span := fun r hr => (hE.wl.ent r hr).span.1
  rw [hs] at hsrt hsp
  obtain ⟨h1, h2⟩ := apart_n hsrt hsp
  have e1 : E.set i e' = E.take i ++ e' :: E.drop (i + 1) := by rw [List.set_eq_take_append_cons_drop, if_pos hi]
  rw [hs, e1, entsR_app]
  unfold updL
  rw [List.map_append, List.map_cons, if_pos rfl]
  congr 1
  · exact (List.map_id'' (fun r => by rfl) _).symm.trans (List.map_congr_left fun r hr => by simp [h1 r hr])
  · show e'.1 :: entsR (E.drop (i + 1)) = _
    congr 1
    exact (List.map_id'' (fun r => by rfl) _).symm.trans (List.map_congr_left fun r hr => by simp [h2 r hr])
/-- An entry comes. -/
theorem entsR_ins {e : Re} : ∀ {E : List Re} {k : Nat}, (∀ x ∈ E.take k, x.1.n < e.1.n) → (∀ x, E[k]? = some x → e.1.n < x.1.n) → k ≤ E.length → entsR (E.take k ++ e :: E.drop k) = insL e.1 (entsR E)
  | [], k, _, _, hk => by
    obtain rfl : k = 0 := by simpa using hk
    rfl
  | x :: E, 0, _, h2, _ => by
    have := h2 x rfl
    show e.1 :: x.1 :: entsR E = insL e.1 (x.1 :: entsR E)
    unfold insL
    rw [if_pos this]
  | x :: E, k + 1, h1, h2, hk => by
    have h3 := h1 x (by simp)
    have ih := entsR_ins (e := e) (E := E) (k := k) (fun y hy => h1 y (by simp [hy])) (fun y hy => h2 y (by simpa using hy)) (by simpa using hk)
    show x.1 :: entsR (E.take k ++ e :: E.drop k) = insL e.1 (x.1 :: entsR E)
    unfold insL
    rw [if_neg (by omega), ih]

end Hp
end Go.Proofs.YtkjjobafbcdmoaaGreatDoor

/-
  The reference's leave.
-/
namespace Go.Proofs.YtkjjobafbcdmoaaGreatDoor
open Go.RowKit Go.Maps
namespace Hp
variable {w w' : World} {br : Nat} {q : Int} {a : Option Addr} {cap : Nat} {E E' : List Re}

/-- An entry with a slot left. -/
def clrP (p : Pg) (k : Nat) : Pg := withT p (if p.kind = 2 then 1 else Bt.clrI p.taken k)
theorem tkB_small {p : Pg} (h : p.kind = 1) (i : Nat) : tkB p i = Bt.hasI p.taken i := if_neg (by omega)
theorem tkB_large {p : Pg} (h : p.kind = 2) (i : Nat) : tkB p i = decide (i = 0 ∧ p.taken = 0) := if_pos h
theorem clrP_small {p : Pg} (h : p.kind = 1) (k : Nat) : clrP p k = withT p (Bt.clrI p.taken k) := by
  unfold clrP
  rw [if_neg (by omega)]
theorem clrP_large {p : Pg} (h : p.kind = 2) (k : Nat) : clrP p k = withT p 1 := by
  unfold clrP
  rw [if_pos h]
/-- What is there behind leave. -/
def leaveE (E : List Re) (i : Nat) (p : Pg) (j : Int) (k : Nat) : List Re := if p.kind = 2 ∨ Bt.clrI p.taken k = 0 then E.take i ++ E.drop (i + 1) else E.set i (withT p (Bt.clrI p.taken k), j)

theorem clr_tkB {p : Pg} (hp : Ent p) {k : Nat} (hk : (k : Int) < nslI p) (i : Nat) (hi : i < 31) : tkB (clrP p k) i = if i = k then false else tkB p i := by
  have hr := nsl_range hp
  rcases hp.kind with h1 | h2
  · rw [clrP_small h1, tkB_small (p := withT p (Bt.clrI p.taken k)) h1, tkB_small h1]
    show Bt.hasI (Bt.clrI p.taken k) i = _
    rw [has_clr ⟨by omega, by omega⟩ ⟨by omega, by omega⟩]
    by_cases e : i = k
    · subst e
      simp
    · rw [if_neg e]
      have : ¬ ((i : Int) = (k : Int)) := by omega
      simp [this]
  · have hn : nslI p = 1 := if_pos h2
    obtain rfl : k = 0 := by omega
    rw [clrP_large h2, tkB_large (show (withT p 1).kind = 2 from h2), tkB_large h2]
    by_cases e : i = 0
    · simp [e, withT]
    · simp [e]
theorem clr_set {p : Pg} (hp : Ent p) {k : Nat} (hk : (k : Int) < nslI p) (j : Int) : (reList (p, j)).set (5 + k) (.bool false) = reList (clrP p k, j) := by
  have hr := nsl_range hp
  exact reList_turnG (by omega) fun i hi => clr_tkB hp hk i hi

def emptyTo (p : Pg) (n : Nat) : Bool := (List.range n).all fun m => !tkB p m
theorem emptyTo_succ (p : Pg) (n : Nat) : emptyTo p (n + 1) = (emptyTo p n && !tkB p n) := by
  unfold emptyTo
  rw [List.range_succ, List.all_append]
  simp
theorem empty_clr {p : Pg} (hp : Ent p) {k : Nat} (hk : (k : Int) < nslI p) : emptyTo (clrP p k) (nslI p).toNat = decide (p.kind = 2 ∨ Bt.clrI p.taken k = 0) := by
  have hr := nsl_range hp
  rw [Bool.eq_iff_iff, decide_eq_true_iff]
  unfold emptyTo
  rw [List.all_eq_true]
  rcases hp.kind with h1 | h2
  · obtain ⟨c0, c1, _, hU, hc, _⟩ := hp.small h1
    have hn : nslI p = Cl.sloI p.cls := if_neg (by omega)
    rw [hn] at hk hr ⊢
    have hz := zero_iff (t := Bt.clrI p.taken k) (n := Cl.sloI p.cls) (Bt.clrI_U hU) (by omega) (by omega) (cut_clr hU (by omega) (by omega) hc (by omega) hk)
    have ht : ∀ m : Nat, tkB (clrP p k) m = Bt.hasI (Bt.clrI p.taken k) m := fun m => by
      rw [clrP_small h1, tkB_small (p := withT p (Bt.clrI p.taken k)) h1]
      rfl
    rw [hz]
    constructor
    · intro h
      refine .inr fun m m0 m1 => ?_
      obtain ⟨m, rfl⟩ : ∃ x : Nat, m = (x : Int) := ⟨m.toNat, by omega⟩
      have := h m (List.mem_range.2 (by omega))
      rw [ht] at this
      simpa using this
    · rintro (h | h) m hm
      · omega
      · rw [ht, h m (by omega) (by have := List.mem_range.1 hm; omega)]
        rfl
  · refine ⟨fun _ => .inl h2, fun _ m hm => ?_⟩
    rw [clrP_large h2, tkB_large (show (withT p 1).kind = 2 from h2)]
    simp [withT]

set_option maxRecDepth 100000 in
set_option maxHeartbeats 2000000 in
theorem rleave_any (h : Rf w br q a cap E) (hl : E.length ≤ 64) {i : Nat} {p : Pg} {j : Int} (he : E[i]? = some (p, j)) (hp : Ent p) (k : Nat) (hk : (k : Int) < nslI p) :
    Calls Tryz.prog 59 #[.pointer (some ⟨br, 0, none⟩), .int .i64 (i : Int), .int .i64 (k : Int)] w fun ed w' => (∃ v, ed = .returned v) ∧ RPost w br q (leaveE E i p j k) w' := by
  have c1 := h.c1
  have hbr := h.lt
  have hi : i < E.length := (List.getElem?_eq_some_iff.1 he).1
  have hr := nsl_range hp
  have k31 : k < 31 := by omega
  obtain ⟨g0, hrow, hform, hcap⟩ := h.form
  have HKD : Aside (p.kind = 1 ∨ p.kind = 2) := hp.kind
  have kz : K w (w.alloc (.cells #[] 94)) := (K.refl w).alloc _
  have HSRC : Aside (SrcR (w.alloc (.cells #[] 94)) a E.length (reVals E)) := by
    have := src_lo (hrow.keep kz) hform E.length (Nat.le_refl _)
    rw [List.take_length] at this
    exact this
  have HL0 : Aside ((reVals E).length = E.length * 36) := reVals_len E
  have HR : Aside _ := h
  have HE : Aside _ := he
  have HSET : Aside ((reList (p, j)).set (5 + k) (.bool false) = reList (clrP p k, j)) := clr_set hp hk j
  have HEM : Aside (emptyTo (clrP p k) (nslI p).toNat = decide (p.kind = 2 ∨ Bt.clrI p.taken k = 0)) := empty_clr hp hk
  have RZ : Aside ((w.alloc (.cells #[] 94)).ownsRow w.heap.size 94 36 (.slice (some ⟨w.heap.size, 0, none⟩) 0 0) 0 []) := World.ownsRow_lit (base := w.heap.size) (e := 94) (size := 36) w #[] 0 (Nat.le_refl _) (by simp [maxLen]) rfl
  have KZ : Aside _ := kz
  obtain ⟨n, hn⟩ : ∃ n, E.length = n := ⟨_, rfl⟩
  have HN : Aside _ := hn
  rw [hn] at hl hi c1 hcap HL0 HSRC
  clear h hrow hform kz hn he hp hcap
  go_enter Tryz.func59, Tryz.ntmps59
  go_wp2_with (first
    | (at_builtin; refine wpList_append_res _ rfl _ _ rfl w.heap.size _ 0 [] rfl RZ.out rfl a n cap (reVals E) rfl HL0.out HSRC.out (reVals_one _) (by omega) (by simp) ?_; apply wrapd))
  unfold Wrapd
  intro v1 w3 hown1 hgrow1 hloc1
  have k3 : K w w3 := K.grownR KZ.out hgrow1 (fun j hj => by cases hj; exact Nat.le_refl _)
  have hne1 : ∀ kk, v1.ownBlock = some kk → w.heap.size ≤ kk := fun kk hkk => by
    rcases hloc1 with e | e
    · rw [e] at hkk
      cases hkk
      exact Nat.le_refl _
    · rw [e] at hkk
      have := Option.some.inj hkk
      have := Kept.size KZ.out
      omega
  have hown2 : w3.ownsRow w.heap.size 94 36 v1 E.length (reVals E) := by
    rw [HN.out]
    exact hown1
  obtain ⟨a2, cap2, rfl, R2, KB2⟩ := HR.out.store k3 hown2 hne1
  have HFZ := (HR.out.keep k3).fz
  have c3 := k3.cell c1
  have hfr : ∀ g, a2 = some ⟨g, 0, none⟩ → w.heap.size ≤ g := fun g e => hne1 g (by rw [e]; rfl)
  obtain ⟨g, rfl, hgne, hrow2⟩ := R2.addr (by rw [HN.out]; exact hi)
  have hg0 := hfr g rfl
  have R3 := R2.turn (k := 5 + k) HE.out (by omega) HSET.out
  have HR2 : Aside _ := R2
  have HKB2 : Aside _ := KB2
  have hi' : i < E.length := by rw [HN.out]; exact hi
  have hix := hrow2.ix i hi'
  obtain ⟨hct, hcf⟩ := R2.cellT HE.out k31
  have hct : w3.cell? ⟨g, i * 36 + 5 + k, none⟩ = some (.bool (tkB p k)) := (World.cell?_of_block (a := ⟨g, i * 36 + 5 + k, none⟩) (Below.heap_setCell w3 ⟨br, 1, none⟩ _ g hgne)).symm.trans hct
  have hcf : w3.frozen? ⟨g, i * 36 + 5 + k, none⟩ = false := (World.frozen?_of_block (a := ⟨g, i * 36 + 5 + k, none⟩) (Below.heap_setCell w3 ⟨br, 1, none⟩ _ g hgne)).symm.trans hcf
  have hixT := run_ixT g (i * 36 + 5) k k31
  clear hown1 hown2 hgrow1 hloc1 hne1 hfr hrow2 R2 KB2 c1 RZ HSRC
  rw [← Nat.add_assoc] at R3
  have KB3 := Kept.setCell HKB2.out (p := ⟨g, i * 36 + 5 + k, none⟩) (.bool false) (.inr hg0)
  go_wp2
  generalize ((w3.setCell ⟨br, 1, none⟩ (.slice (some ⟨g, 0, none⟩) E.length cap2)).setCell ⟨g, i * 36 + 5 + k, none⟩ (.bool false)) = W at *
  have HR3 : Aside _ := R3
  have HKB3 : Aside _ := KB3
  have HE1 : (E.set i (clrP p k, j))[i]? = some (clrP p k, j) := by rw [List.getElem?_set_self hi']
  have HL1 : (E.set i (clrP p k, j)).length = n := by rw [List.length_set]; exact HN.out
  have HD1 : Aside ((E.set i (clrP p k, j)).take i ++ (E.set i (clrP p k, j)).drop (i + 1) = E.take i ++ E.drop (i + 1)) := by
    show _ = _
    rw [List.take_set_of_le (by omega), List.drop_set_of_lt (by omega)]
  have HSM : Aside (¬ (p.kind = 2 ∨ Bt.clrI p.taken k = 0) → clrP p k = withT p (Bt.clrI p.taken k)) := fun h => clrP_small (HKD.out.resolve_right fun h1 => h (.inl h1)) k
  have HC1 : Aside (∀ wx, K W wx → wx.cell? ⟨br, 1, none⟩ = some (.slice (some ⟨g, 0, none⟩) n cap2)) := fun wx kx => by
    rw [← HL1]
    exact (R3.keep kx).c1
  obtain ⟨g', hg', _, hrow3⟩ := R3.addr (i := i) (by rw [HL1]; exact hi)
  obtain rfl : g = g' := by injection hg' with e; injection e
  have hix : ∀ w', (Instr.indexAt 44 (.slice (some ⟨g, 0, none⟩) n cap2) (.int .i64 (i : Int))).run Tryz.prog w' = .ok (.pointer (some ⟨g, i * 36, none⟩)) w' := by
    rw [← HL1]
    exact hrow3.ix i (by rw [HL1]; exact hi)
  have HRG : Aside (∀ wx, K W wx → wx.rangeAt g (i * 36) (reList (clrP p k, j))) := fun wx kx => (hrow3.keep kx).range HE1
  have HTK : Aside (∀ wx, K W wx → ∀ m, m < 31 → wx.cell? ⟨g, i * 36 + 5 + m, none⟩ = some (.bool (tkB (clrP p k) m))) := fun wx kx m hm => (hrow3.keep kx).tk HE1 hm
  have csl := fun w => rslots_kd (clrP p k) j HKD.out w
  have HNS : nslI (clrP p k) = nslI p := rfl
  rw [HNS] at csl
  have HI1 : i < (E.set i (clrP p k, j)).length := by rw [HL1]; exact hi
  have HLE : Aside (leaveE E i p j k = if p.kind = 2 ∨ Bt.clrI p.taken k = 0 then E.take i ++ E.drop (i + 1) else E.set i (withT p (Bt.clrI p.taken k), j)) := rfl
  generalize hE1 : E.set i (clrP p k, j) = E1 at *
  have HE1e : Aside _ := hE1
  generalize clrP p k = p2 at *
  clear R3 KB3 hrow3 HE1 hct hcf hixT c3 HFZ k3 KZ HL0 hgne hg0 hbr HNS HSET hE1 HKB2 HR2
  go_loopg [6, 7] (nslI p).toNat (fun gh t6 t7 wx => ∃ m : Nat, (m : Int) + gh = nslI p ∧ t7 = .int .i64 m ∧ t6 = .bool (emptyTo p2 m) ∧ K W wx)
  case atStart => exact ⟨0, by omega, rfl, rfl, K.refl _⟩
  case round =>
    obtain ⟨m, hmg, rfl, rfl, hk2⟩ := hrel
    have c1 := HC1.out _ hk2
    by_cases hmn : (m : Int) < nslI p
    · have hm31 : m < 31 := by omega
      have hixT := run_ixT g (i * 36 + 5) m hm31
      cases hem : emptyTo p2 m with
      | false =>
        go_wp2_with (first
          | ((with_reducible refine wpList_load_re g (i * 36) (p2, j) ?_ ?_ ?_); (· exact HRG.out _ hk2); (· rfl))
          | (go_at_call 50; refine (csl _).mono ?_; rintro e w2 ⟨rfl, k2⟩; have hk3 := hk2.trans k2; have c4 := HC1.out _ hk3; have ht := HTK.out _ hk3 m hm31))
        go_roundg ((nslI p).toNat - (m + 1))
        case measure => omega
        case rel => exact ⟨m + 1, by omega, by go_num, by rw [emptyTo_succ, hem]; rfl, hk3⟩
      | true =>
        go_wp2_with (first
          | ((with_reducible refine wpList_load_re g (i * 36) (p2, j) ?_ ?_ ?_); (· exact HRG.out _ hk2); (· rfl))
          | (go_at_call 50; refine (csl _).mono ?_; rintro e w2 ⟨rfl, k2⟩; have hk3 := hk2.trans k2; have c4 := HC1.out _ hk3; have ht := HTK.out _ hk3 m hm31))
        go_roundg ((nslI p).toNat - (m + 1))
        case measure => omega
        case rel => exact ⟨m + 1, by omega, by go_num, by rw [emptyTo_succ, hem]; rfl, hk3⟩
    · have hme : m = (nslI p).toNat := by omega
      by_cases hz : p.kind = 2 ∨ Bt.clrI p.taken k = 0
      · have hem : emptyTo p2 m = true := by rw [hme, HEM.out]; exact decide_eq_true hz
        have HZ : Aside _ := hz
        clear hz hme
        rw [hem]
        go_wp2_with (first
          | ((with_reducible refine wpList_load_re g (i * 36) (p2, j) ?_ ?_ ?_); (· exact HRG.out _ hk2); (· rfl))
          | (go_at_call 50; refine (csl _).mono ?_; rintro e w2 ⟨rfl, k2⟩; have hk3 := hk2.trans k2; have c4 := HC1.out _ hk3)
          | (go_at_call 60; refine (rdrop_any (HR3.out.keep hk3) (by rw [HL1]; exact hl) i HI1).mono ?_; rintro e w5 ⟨⟨v, rfl⟩, a5, cap5, R5, KB5⟩))
        go_end0
        exact ⟨⟨_, rfl⟩, a5, cap5, by rw [HLE.out, if_pos HZ.out, ← HD1.out]; exact R5, (HKB3.out.trans (RSt.ofK hk3)).trans KB5⟩
      · have hem : emptyTo p2 m = false := by rw [hme, HEM.out]; exact decide_eq_false hz
        have HZ : Aside _ := hz
        clear hz hme
        rw [hem]
        go_wp2_with (first
          | ((with_reducible refine wpList_load_re g (i * 36) (p2, j) ?_ ?_ ?_); (· exact HRG.out _ hk2); (· rfl))
          | (go_at_call 50; refine (csl _).mono ?_; rintro e w2 ⟨rfl, k2⟩; have hk3 := hk2.trans k2; have c4 := HC1.out _ hk3))
        go_end0
        exact ⟨⟨_, rfl⟩, _, _, by rw [HLE.out, if_neg HZ.out, ← HSM.out HZ.out, HE1e.out]; exact HR3.out.keep hk3, HKB3.out.trans (RSt.ofK hk3)⟩

end Hp
end Go.Proofs.YtkjjobafbcdmoaaGreatDoor

/-
  The reference's Free.
-/
namespace Go.Proofs.YtkjjobafbcdmoaaGreatDoor
open Go.RowKit Go.Maps
namespace Hp
variable {w w' : World} {br : Nat} {q : Int} {a : Option Addr} {cap : Nat} {E E' : List Re}

/-- What leave makes of the entries, as the heap's list says it. -/
theorem entsR_leave (hE : Eo E) {i : Nat} {p : Pg} {j : Int} (he : E[i]? = some (p, j)) (k : Nat) : entsR (leaveE E i p j k) = dropL (entsR E) p k := by
  unfold leaveE dropL
  by_cases h2 : p.kind = 2
  · rw [if_pos (.inl h2), if_pos h2]
    exact entsR_del hE he
  · by_cases hz : Bt.clrI p.taken k = 0
    · rw [if_pos (.inr hz), if_neg h2, if_pos hz]
      exact entsR_del hE he
    · rw [if_neg (fun h => h.elim h2 hz), if_neg h2, if_neg hz]
      exact entsR_upd (e' := (withT p (Bt.clrI p.taken k), j)) hE he

set_option maxRecDepth 100000 in
set_option maxHeartbeats 1000000 in
theorem rFree_call (h : Rf w br q a cap E) (hE : Eo E) (x : Int) : Calls Tryz.prog 33 #[.pointer (some ⟨br, 0, none⟩), .int .i64 x] w fun e w' => e = .returned (.int .i64 (freeL (entsR E) x).1) ∧ ∃ E', entsR E' = (freeL (entsR E) x).2 ∧ RPost w br q E' w' := by
  obtain ⟨g, hrow, hform, hcap⟩ := h.form
  have cf := rFind_any (q := q) hrow hE x
  have c0 := h.c0
  have c1 := h.c1
  have s0 := h.s0
  have HR : Aside _ := h
  have HE : Aside _ := hE
  clear h hE hrow hform hcap
  go_enter Tryz.func33, Tryz.ntmps33
  go_wp2_with fail
  refine cf.mono ?_
  rintro e w1 ⟨(⟨i, k, rfl, hh⟩ | ⟨rfl, hn⟩), k1⟩
  · obtain ⟨⟨p, j⟩, he, hk, ht, hf⟩ := hit_find HE.out hh
    obtain ⟨hp, _⟩ := HE.out.at he
    have HF : Hid (freeL (entsR E) x = (0, dropL (entsR E) p k)) := by
      show freeL (entsR E) x = _
      unfold freeL
      rw [hf]
    have cl := rleave_any (HR.out.keep k1) HE.out.len he hp k hk
    have HEL : Aside _ := entsR_leave HE.out he k
    clear hh hf he hp ht hk c0 c1 s0 cf
    go_wp2_with fail
    refine cl.mono ?_
    rintro e w2 ⟨⟨v, rfl⟩, P2⟩
    go_wp2
    go_ret
    obtain ⟨a2, cap2, R2, K2⟩ := P2
    exact ⟨by rw [HF.out]; rfl, _, by rw [HF.out]; exact HEL.out, a2, cap2, R2, (RSt.ofK k1).trans K2⟩
  · have hf := nohit_find HE.out hn
    have HF : Hid (freeL (entsR E) x = (5, entsR E)) := by
      show freeL (entsR E) x = _
      unfold freeL
      rw [hf]
    clear hf hn cf c0 c1 s0
    go_wp2
    go_ret
    exact ⟨by rw [HF.out]; rfl, E, by rw [HF.out], a, cap, HR.out.keep k1, RSt.ofK k1⟩

end Hp
end Go.Proofs.YtkjjobafbcdmoaaGreatDoor
