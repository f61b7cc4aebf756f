/-
  Walks of package store's full, and of atRisk where a slot is free.
-/
import Derived.Test.YtbbjfebdihepnaaGreatDoorE1
import Derived.Test.YtbbjfebdihepnaaGreatDoorD2
namespace Go.Proofs.YtbbjfebdihepnaaGreatDoor
open Go.RowKit Go.Maps
attribute [local go_sem ↓] Go.wp_at_zero Go.wp_at_succ
namespace So
open Hp (Kept K No Pg BlR Bl Wl)
variable {w w' : World} {B : Nat} {A : Ad} {pg : List (Int × Nat)} {W : Int → Int} {L : List Pg} {v : Value} {T : List Hd.Sl}

/-- No slot is free. -/
def fullB (m z : Int) (T : List Hd.Sl) : Bool := decide (m ≤ (T.length : Int)) && T.all fun s => !Hd.fr z s

theorem full_open {m z a x er : Int} {T' : List Hd.Sl} (a0 : 0 ≤ a) (e : Hd.openL m z T a = (x, er, T')) : (fullB m z T = false ∧ er = 0) ∨ (fullB m z T = true ∧ er = 10 ∧ x = 0 ∧ T' = T) := by
  unfold Hd.openL at e
  rw [if_neg (by omega)] at e
  unfold fullB
  cases hf : Hd.freeAt z T with
  | some i =>
    rw [hf] at e
    obtain ⟨s, hs, hfr, _⟩ := Hd.freeAt_some hf
    simp only [Prod.mk.injEq] at e
    refine .inl ⟨?_, e.2.1.symm⟩
    have : (T.all fun s => !Hd.fr z s) = false := by
      rw [List.all_eq_false]
      exact ⟨s, List.mem_of_getElem? hs, by simp [hfr]⟩
    rw [this, Bool.and_false]
  | none =>
    rw [hf] at e
    have hall : (T.all fun s => !Hd.fr z s) = true := by
      rw [List.all_eq_true]
      intro s hs
      rw [Hd.freeAt_none.1 hf s hs]
      rfl
    rw [hall, Bool.and_true]
    simp only [] at e
    split at e
    · next hl =>
      simp only [Prod.mk.injEq] at e
      exact .inl ⟨by simp; omega, e.2.1.symm⟩
    · next hl =>
      simp only [Prod.mk.injEq] at e
      exact .inr ⟨by simp; omega, e.2.1.symm, e.1.symm, e.2.2.symm⟩

set_option maxHeartbeats 1000000 in
theorem full_any (h : Sb w B A pg W L v T) : Calls Tryz.prog 117 #[sp A.st] w fun e w' => e = .returned (.bool (fullB A.m A.z T)) ∧ K w w' := by
  have us := fun n => (Hd.used_any (h.keep ((K.refl w).drewN n)).tb).mono (R' := fun e w' => e = .returned (.int .i64 T.length) ∧ w' = w.drewN n) (fun _ _ hh => ⟨hh.1, hh.2.symm⟩)
  have c2 := h.c2
  have c3 := h.c3
  have hlen := h.tb.wf.len
  have hq1 := h.tb.wf.q1
  by_cases hl : (T.length : Int) < A.m
  · have E : Hid (fullB A.m A.z T = false) := by
      have : ¬ A.m ≤ (T.length : Int) := by omega
      simp [fullB, this, Hid]
    clear h
    go_enter Tryz.func117, Tryz.ntmps117
    go_wp2
    go_quiet (first | (go_at_call 150; refine Calls.quiet_of_same (us _)))
    go_wp2
    go_ret
    exact ⟨by rw [E.out]; rfl, (K.refl w).drewN _⟩
  · have ra := fun w1 (k1 : K w w1) => Hd.raw_any (h.keep k1).tb
    have E0 : Hid (fullB A.m A.z T = T.all fun s => !Hd.fr A.z s) := by
      have : A.m ≤ (T.length : Int) := by omega
      simp [fullB, this, Hid]
    have WF : Aside _ := h.tb.wf
    have HH : Aside _ := h
    have c2' := fun n => (h.keep ((K.refl w).drewN n)).c2
    clear h
    go_enter Tryz.func117, Tryz.ntmps117
    go_wp2
    go_quiet (first | (go_at_call 150; refine Calls.quiet_of_same (us _)))
    rename_i nq
    have kq := (K.refl w).drewN nq
    have d2 := c2' nq
    go_wp2_with fail
    refine (ra _ kq).mono ?_
    rintro e w1 ⟨v1, rfl, hown, k1⟩
    obtain ⟨g, a, cap, rfl, hr, _, _⟩ := Hd.row_form hown
    have k01 := kq.trans k1
    have HR : Aside _ := hr
    clear hown hr us ra c2' d2 c2 c3 hl
    go_wp2
    go_loopg [21] T.length (fun gh t wx => ∃ i : Nat, i + gh = T.length ∧ t = .int .i64 i ∧ Aside (∀ j s, j < i → T[j]? = some s → Hd.fr A.z s = false) ∧ K w1 wx)
    case atStart => exact ⟨0, by omega, rfl, fun j s hj => by omega, K.refl _⟩
    case round =>
      obtain ⟨i, hig, rfl, HI, hk⟩ := hrel
      by_cases hlt : i < T.length
      · obtain ⟨s, hs⟩ : ∃ s, T[i]? = some s := ⟨T[i], List.getElem?_eq_getElem hlt⟩
        have hix := HR.out.ix i hlt
        have hrx := HR.out.keep hk
        have d0 := hrx.c0 i s hs
        have d1 := hrx.c1 i s hs
        have d2 := hrx.c2 i s hs
        have hk2 := hk.alloc (.cells #[.bool s.o, .int .u32 s.g, .int .i64 s.a] 170)
        have c4 := (HH.out.keep (k01.trans hk2)).c4
        have hok := WF.out.get hs
        have HS : Aside _ := hs
        have hgz := hok.hi
        clear hs hrx hok
        obtain ⟨o, gg, aa⟩ := s
        cases o with
        | true =>
          go_wp2
          go_quiet (fail)
          go_wp2
          go_roundg (T.length - (i + 1))
          case measure => omega
          case rel =>
            refine ⟨i + 1, by omega, by go_num, fun j t hj ht => ?_, hk2.drewN _⟩
            by_cases e : j = i
            · subst e
              obtain rfl := Option.some.inj (HS.out.symm.trans ht)
              rfl
            · exact HI.out j t (by omega) ht
        | false =>
          have hgz : gg ≤ A.z := hgz
          by_cases hg : gg < A.z
          · have E1 : Hid ((T.all fun s => !Hd.fr A.z s) = false) := by
              show _ = _
              rw [List.all_eq_false]
              refine ⟨_, List.mem_of_getElem? HS.out, ?_⟩
              have : ¬ gg = A.z := by omega
              simp [Hd.fr, this]
            go_wp2
            go_quiet (fail)
            go_wp2
            go_ret
            exact ⟨by rw [E0.out, E1.out]; rfl, k01.trans (hk2.drewN _)⟩
          · have hd : decide (gg < A.z) = false := decide_eq_false hg
            have hge : gg = A.z := by omega
            have HG : Aside _ := hge
            clear hge hgz
            go_wp2
            go_quiet (fail)
            go_wp2
            go_roundg (T.length - (i + 1))
            case measure => omega
            case rel =>
              refine ⟨i + 1, by omega, by go_num, fun j t hj ht => ?_, hk2.drewN _⟩
              by_cases e : j = i
              · subst e
                obtain rfl := Option.some.inj (HS.out.symm.trans ht)
                simp [Hd.fr, HG.out]
              · exact HI.out j t (by omega) ht
      · have E1 : Hid ((T.all fun s => !Hd.fr A.z s) = true) := by
          show _ = _
          rw [List.all_eq_true]
          intro s hs
          obtain ⟨j, hj⟩ := List.getElem?_of_mem hs
          rw [HI.out j s (by have := (List.getElem?_eq_some_iff.1 hj).1; omega) hj]
          rfl
        clear HI
        go_wp2
        go_ret
        exact ⟨by rw [E0.out, E1.out]; rfl, k01.trans hk⟩

theorem atRisk_no (h : Sb w B A pg W L v T) (hf : fullB A.m A.z T = false) : Calls Tryz.prog 84 #[sp A.st] w fun e w' => e = .returned (.slice none 0 0) ∧ K w w' := by
  have fu := full_any h
  rw [hf] at fu
  clear hf h
  go_enter Tryz.func84, Tryz.ntmps84
  go_wp2_with (go_at_call 117; refine fu.mono ?_; rintro e w1 ⟨rfl, k1⟩)
  go_ret
  exact ⟨rfl, k1⟩

end So
end Go.Proofs.YtbbjfebdihepnaaGreatDoor

/-
  Walks of package store's roomFor, isRecord, Audit, of any slots and words.
-/
namespace Go.Proofs.YtbbjfebdihepnaaGreatDoor
open Go.RowKit Go.Maps
attribute [local go_sem ↓] Go.wp_at_zero Go.wp_at_succ
namespace So
open Hp (Kept K No Pg BlR Bl Wl liveL)
variable {w w' : World} {B : Nat} {A : Ad} {pg : List (Int × Nat)} {W : Int → Int} {L : List Pg} {v : Value} {T : List Hd.Sl}

theorem roomFor_any (x : Int) (w : World) : Calls Tryz.prog 148 #[.int .i64 x] w fun e w' => e = .returned (.int .i64 (rmI x)) ∧ K w w' := by
  have co := Cl.of_any x w
  have cs := fun w1 => Cl.size_any (Cl.clsI x) w1
  cases hs : Cl.smaI x with
  | true =>
    have E : Hid (rmI x = Cl.sizI (Cl.clsI x)) := by simp [rmI, hs, Hid]
    rw [hs] at co
    clear hs
    generalize Cl.errC (Cl.clsI x) = e1 at *
    generalize Cl.sizI (Cl.clsI x) = sz at *
    generalize Cl.clsI x = c at *
    generalize Cl.errW x = e2 at *
    go_enter Tryz.func148, Tryz.ntmps148
    go_wp2_with (first
      | (go_at_call 119; refine co.mono ?_; rintro e w1 ⟨rfl, k1⟩)
      | (go_at_call 159; refine (cs _).mono ?_; rintro e w2 ⟨rfl, k2⟩))
    go_ret
    exact ⟨by rw [E.out]; rfl, (K.refl w).trans ((K.trans (Hp.K.cl k1) (Hp.K.cl k2)))⟩
  | false =>
    have E : Hid (rmI x = x) := by simp [rmI, hs, Hid]
    rw [hs] at co
    clear hs cs
    generalize Cl.clsI x = c at *
    generalize Cl.errW x = e2 at *
    go_enter Tryz.func148, Tryz.ntmps148
    go_wp2_with (go_at_call 119; refine co.mono ?_; rintro e w1 ⟨rfl, k1⟩)
    go_ret
    exact ⟨by rw [E.out]; rfl, Hp.K.cl k1⟩

/-- What isRecord tells of a block. -/
def irB (T : List Hd.Sl) (W : Int → Int) (a ro : Int) : Bool := !((Hd.atL T (W a)).2 != 0) && !((Hd.atL T (W a)).1 != a) && decide (W (a + 1) ≤ 3998) && (rmI (2 + W (a + 1)) == ro)

theorem word_u64 (h : Sb w B A pg W L v T) (a : Int) : 0 ≤ W a ∧ W a ≤ 18446744073709551615 := by
  have := h.hp.hw.ar.ww a
  unfold Sl.WordOk at this
  simp only [Lit.wf, Bool.and_eq_true, decide_eq_true_eq] at this
  have e1 : IntKind.u64.min = 0 := rfl
  have e2 : IntKind.u64.max = 18446744073709551615 := rfl
  omega

set_option maxHeartbeats 1000000 in
theorem isRecord_any (h : Sb w B A pg W L v T) {a r ro : Int} (hb : BlR L a r) (r2 : 2 ≤ r) : Calls Tryz.prog 111 #[sp A.st, .int .i64 a, .int .i64 ro] w fun e w' => e = .returned (.bool (irB T W a ro)) ∧ K w w' := by
  have hdr := h.keep (K.refl w).drew
  have na := nameAt_any hdr hb
  have at1 := Hd.at_any hdr.tb (W a) (word_u64 h a)
  have hat := h.at hb
  have rd := fun w1 (k1 : K w w1) => (h.keep k1).hp.readW hb (i := 1) (by omega) (by omega)
  have rf := fun w1 => roomFor_any (2 + W (a + 1)) w1
  have c2 := h.c2
  have c0' := fun w1 (k1 : K w w1) => (h.keep k1).c0
  have c2' := fun w1 (k1 : K w w1) => (h.keep k1).c2
  have at2 : Calls Tryz.prog 90 #[Hd.tp A.bt, .int .u64 (W a)] w.drew fun e w' => e = .returned (.tuple #[.int .i64 (Hd.atL T (W a)).1, .int .i64 (Hd.atL T (W a)).2]) ∧ K w w' ∧ w'.cell? ⟨A.st, 2, none⟩ = some (.pointer (some ⟨A.bt, 0, none⟩)) := by
    refine at1.mono ?_
    rintro e w1 ⟨rfl, k1⟩
    have k2 := (K.refl w).drew.trans k1
    exact ⟨rfl, k2, c2' _ k2⟩
  have U := word_u64 h (a + 1)
  obtain ⟨u0, u1⟩ := U
  have E0 : Hid (irB T W a ro = (!((Hd.atL T (W a)).2 != 0) && !((Hd.atL T (W a)).1 != a) && decide (W (a + 1) ≤ 3998) && (rmI (2 + W (a + 1)) == ro))) := rfl
  have a0 := hat.1
  have a1 : a ≤ 67108864 := by omega
  clear at1 hat hb h hdr c2'
  generalize Hd.atL T (W a) = at3 at *
  obtain ⟨ad, er⟩ := at3
  generalize rmI (2 + W (a + 1)) = rr at *
  generalize W (a + 1) = n at *
  generalize W a = x at *
  dsimp only at E0 at2
  go_enter Tryz.func111, Tryz.ntmps111
  go_wp2
  go_region_held3 (fun w' => w'.cell? ⟨A.st, 2, none⟩ = some (.pointer (some ⟨A.bt, 0, none⟩)))
    (first | exact c2 | exact y2)
    (first
      | (go_at_call 45; refine na.mono ?_; rintro e w3 ⟨rfl, rfl⟩)
      | (go_at_call 90; refine at2.mono ?_; rintro e w4 ⟨rfl, k4, y2⟩))
  have d0 := c0' _ k4
  clear na at2 c2 y2
  cases h1 : (er != 0) with
  | true =>
    go_wp2
    go_ret
    exact ⟨by rw [E0.out, h1]; rfl, k4⟩
  | false =>
    cases h2 : (ad != a) with
    | true =>
      go_wp2
      go_ret
      exact ⟨by rw [E0.out, h1, h2]; rfl, k4⟩
    | false =>
      have E1 : Hid (irB T W a ro = (decide (n ≤ 3998) && (rr == ro))) := by
        show _ = _
        rw [E0.out, h1, h2]
        rfl
      by_cases h3 : n ≤ 3998
      · have E2 : Hid (irB T W a ro = (rr == ro)) := by
          show _ = _
          rw [E1.out, decide_eq_true h3]
          rfl
        go_wp2_with (first
          | (go_at_call 67; refine (rd _ k4).mono ?_; rintro e w5 ⟨rfl, rfl⟩)
          | (go_at_call 148; refine (rf _).mono ?_; rintro e w6 ⟨rfl, k6⟩))
        go_ret
        exact ⟨by rw [E2.out]; rfl, k4.trans k6⟩
      · have E2 : Hid (irB T W a ro = false) := by
          show _ = _
          rw [E1.out, decide_eq_false h3]
          rfl
        go_wp2_with (first
          | (go_at_call 67; refine (rd _ k4).mono ?_; rintro e w5 ⟨rfl, rfl⟩))
        go_ret
        exact ⟨by rw [E2.out]; rfl, k4⟩

end So
end Go.Proofs.YtbbjfebdihepnaaGreatDoor

/-
  The walk of package store's Audit, of any slots and words; and that it tells OK of records.
-/
namespace Go.Proofs.YtbbjfebdihepnaaGreatDoor
open Go.RowKit Go.Maps
attribute [local go_sem ↓] Go.wp_at_zero Go.wp_at_succ
namespace So
open Hp (Kept K No Pg BlR Bl Wl liveL)
variable {w w' : World} {B : Nat} {A : Ad} {pg : List (Int × Nat)} {W : Int → Int} {L : List Pg} {v : Value} {T : List Hd.Sl}

theorem slots_len (p : Pg) : (Hp.slotsOf p).length ≤ 31 := by
  unfold Hp.slotsOf
  split
  · simp
  · split
    · unfold Hp.takenTo
      refine Nat.le_trans (List.length_filter_le _ _) ?_
      rw [List.length_map, List.length_range]
      have := Hp.slo_le p.cls
      omega
    · simp
theorem live_le : ∀ L : List Pg, (liveL L).length ≤ 31 * L.length
  | [] => by simp [liveL]
  | p :: L => by
    have ih := live_le L
    have h1 := slots_len p
    simp only [liveL, Hp.liveP, List.flatMap_cons, List.length_append, List.length_map, List.length_cons] at ih ⊢
    omega
theorem len_granted : ∀ L : List Pg, (∀ p ∈ L, 1 ≤ p.span) → (L.length : Int) ≤ Hp.granted L
  | [], _ => by simp [Hp.granted]
  | p :: L, h => by
    have ih := len_granted L (fun r hr => h r (by simp [hr]))
    have := h p (by simp)
    simp only [Hp.granted, List.length_cons, List.map_cons, List.sum_cons] at ih ⊢
    omega
theorem Sb.live_le (h : Sb w B A pg W L v T) : (liveL L).length ≤ 200000 := by
  have h1 := So.live_le L
  have h2 := len_granted L (fun p hp => (h.hp.ly.ent p hp).span.1)
  have h3 := h.hp.len
  have h4 := h.hp.hw.ar.len
  omega

theorem page_room (l : Wl L) {a b r k : Int} (ha : BlR L a r) (hb : BlR L b k) (e : a / 64 = b / 64) : r = k := by
  obtain ⟨p, hp, s, hs, rfl, rfl⟩ := ha
  obtain ⟨p2, hp2, s2, hs2, rfl, rfl⟩ := hb
  have h1 := Hp.addr_page (l.ent p hp) hs
  have h2 := Hp.addr_page (l.ent p2 hp2) hs2
  rw [l.inj hp hp2 (by omega)]
theorem room_of (l : Wl L) {a r : Int} (h : BlR L a r) : Hp.roomL L a = (r, 0) := by
  obtain ⟨p, hp, s, hs, rfl, rfl⟩ := h
  unfold Hp.roomL
  rw [l.find hp hs]
theorem room_two (l : Wl L) {a r : Int} (h : BlR L a r) : 2 ≤ r := by
  obtain ⟨p, hp, s, hs, rfl, rfl⟩ := h
  unfold Hp.roomI
  rcases l.ent p hp with ⟨k1, c0, c1, _⟩ | ⟨k2, _, _, w0, w1, hsm, _⟩
  · rw [if_neg (by omega)]
    exact (Cl.siz_in (Hp.errC_in c0 c1)).1
  · rw [if_pos k2]
    by_cases h2 : 2 ≤ p.words
    · exact h2
    · exfalso
      rcases Cl.of_cases p.words ⟨w0, w1⟩ with ⟨_, _, b⟩ | ⟨_, _⟩ | ⟨_, _⟩ | ⟨_, _⟩ | ⟨_, _⟩ | ⟨_, _⟩ | ⟨_, _⟩ | ⟨_, _⟩ | ⟨_, _⟩
      case inl => exact Bool.noConfusion (hsm.symm.trans b)
      all_goals omega

/-- What Audit tells. -/
def audS (L : List Pg) (W : Int → Int) (T : List Hd.Sl) : Int :=
  if ((liveL L).length : Int) = ((Hd.liveL T).length : Int) then (if (liveL L).all (fun a => irB T W a (Hp.roomL L a).1) = true then 0 else 8) else 8

theorem opens_len : ∀ (T : List Hd.Sl) (n : Int), (Hd.liveFrom n T).length = (T.filter fun s => s.o).length
  | [], _ => rfl
  | s :: T, n => by
    have ih := opens_len T (n + 1)
    unfold Hd.liveFrom
    cases h : s.o <;> simp [h, ih]

theorem Rec.aud (r : Rec L W T) (l : Wl L) (hl : T.length ≤ 65536) : audS L W T = 0 := by
  have hX : ((T.filter fun s => s.o).map fun s => s.a).Nodup := by
    rw [List.nodup_iff_pairwise_ne, List.pairwise_map]
    have hp : T.Pairwise (fun s t => s.o = true → t.o = true → s.a ≠ t.a) := by
      rw [List.pairwise_iff_getElem]
      intro i j hi hj hij so to e
      have := r.inj hl (List.getElem?_eq_getElem hi) (List.getElem?_eq_getElem hj) so to e
      omega
    refine List.Pairwise.imp_of_mem (fun {a b} ha hb hab => ?_) (hp.filter _)
    exact hab (by simpa using (List.mem_filter.1 ha).2) (by simpa using (List.mem_filter.1 hb).2)
  have hb : ∀ c, c ∈ ((T.filter fun s => s.o).map fun s => s.a) ↔ Bl L c := fun c => by
    simp only [List.mem_map, List.mem_filter]
    constructor
    · rintro ⟨s, ⟨hs, so⟩, rfl⟩
      obtain ⟨i, hi⟩ := List.getElem?_of_mem hs
      exact (r.nm i s hi so).2.2.2.bl
    · intro h
      obtain ⟨i, s, hi, so, sa⟩ := r.bl c h
      exact ⟨s, ⟨List.mem_of_getElem? hi, so⟩, sa⟩
  have hlen := l.live_len hX hb
  rw [List.length_map] at hlen
  unfold audS
  rw [if_pos (by rw [hlen, Hd.liveL, opens_len]), if_pos]
  rw [List.all_eq_true]
  intro a ha
  obtain ⟨i, s, hi, so, rfl⟩ := r.bl a (Hp.mem_liveL.1 ha)
  obtain ⟨h1, h2, h3, h4⟩ := r.nm i s hi so
  have hil := (List.getElem?_eq_some_iff.1 hi).1
  have hf := Hd.findL_of hi so (by omega)
  unfold irB
  rw [h1, Hd.atL_some hf hi, room_of l h4]
  simp [h3]

/-- A row of one's own, of one cell each. -/
theorem row1 {n₀ n : Nat} {t : TypeId} {u : Value} {xs : List Value} (h : w.ownsRow n₀ t 1 u n xs) : ∃ g a cap, u = .slice a n cap ∧ (0 < n → a = some ⟨g, 0, none⟩) ∧ ∀ (i : Nat) (y : Value), xs[i]? = some y → w.cell? ⟨g, i, none⟩ = some y := by
  rcases h.2 with ⟨h1, h0⟩ | ⟨g, cap, cur, h1, _, hbk, h2, h3, h4, h5⟩
  · refine ⟨0, none, 0, by rw [h1, h0], fun h => by omega, fun i y hi => ?_⟩
    have := h.1
    have := (List.getElem?_eq_some_iff.1 hi).1
    omega
  · refine ⟨g, some ⟨g, 0, none⟩, cap, h1, fun _ => rfl, fun i y hi => ?_⟩
    have hlt := (List.getElem?_eq_some_iff.1 hi).1
    rw [h.1] at hlt
    rw [← h5, List.getElem?_take, if_pos hlt] at hi
    simp only [World.cell?, hbk]
    rw [if_neg (by simp), ← Array.getElem?_toList]
    exact hi

set_option maxHeartbeats 2000000 in
theorem audit_any (h : Sb w B A pg W L v T) : Calls Tryz.prog 78 #[sp A.st] w fun e w' => e = .returned (.int .i64 (audS L W T)) ∧ K w w' := by
  have hm := made_ok h
  have ha := Hp.audit_ok h.hp
  have HH : Aside _ := h
  have lv := fun w1 (k1 : K w w1) => Hp.live_any (h.keep k1).hp h.live_le
  have tv := fun w1 (k1 : K w w1) => Hd.live_any (h.keep k1).tb
  have c1 := h.c1
  have c1' := fun w1 (k1 : K w w1) => (h.keep k1).c1
  have c2' := fun w1 (k1 : K w w1) => (h.keep k1).c2
  have hll := h.live_le
  have hwl : Aside _ := h.wl
  clear h
  go_enter Tryz.func78, Tryz.ntmps78
  go_wp2_with (first
    | (go_at_call 43; refine hm.mono ?_; rintro e w1 ⟨rfl, rfl⟩)
    | (go_at_call 108; refine ha.mono ?_; rintro e w1 ⟨rfl, k1⟩))
  have d1 := c1' _ k1
  go_wp2_with fail
  refine (lv _ k1).mono ?_
  rintro e w2 ⟨v2, rfl, hown2, k2⟩
  have k02 := k1.trans k2
  have e2 := c2' _ k02
  obtain ⟨g, a, cap, rfl, hga, hcell⟩ := row1 hown2
  have HC : Aside _ := hcell
  clear hcell hown2 hm ha lv
  go_wp2_with fail
  refine (tv _ k02).mono ?_
  rintro e w3 ⟨v3, rfl, hown3, k3⟩
  have k03 := k02.trans k3
  obtain ⟨g3, a3, cap3, rfl, _, _⟩ := row1 hown3
  have hln : (Hd.liveL T).length ≤ 65536 := Nat.le_trans (Hd.live_len T 1) HH.out.tl
  clear hown3 tv
  by_cases hlen : ((liveL L).length : Int) = ((Hd.liveL T).length : Int)
  · have E0 : Hid (audS L W T = if (liveL L).all (fun a => irB T W a (Hp.roomL L a).1) = true then 0 else 8) := by
      show _ = _
      unfold audS
      rw [if_pos hlen]
    have hlb : (((liveL L).length : Int) != ((Hd.liveL T).length : Int)) = false := by simp [hlen]
    clear hlen
    generalize (Hd.liveL T).length = m2 at *
    generalize hn : (liveL L).length = n at *
    have HN : Aside _ := hn
    clear hn
    go_wp2
    go_loopg [36, 5, 6] n (fun gh t tr tp wx => ∃ (i : Nat) (ro pa : Int), i + gh = n ∧ t = .int .i64 i ∧ tr = .int .i64 ro ∧ tp = .int .i64 pa ∧ Aside (∀ b r, BlR L b r → b / 64 = pa → r = ro) ∧ Aside (∀ (j : Nat) b, j < i → (liveL L)[j]? = some b → irB T W b (Hp.roomL L b).1 = true) ∧ K w3 wx)
    case atStart =>
      refine ⟨0, 0, -1, by omega, rfl, rfl, rfl, fun b r hb e => ?_, fun j s hj => by omega, K.refl _⟩
      have := HH.out.at hb
      omega
    case round =>
      obtain ⟨i, ro, pa, hig, rfl, rfl, rfl, HP, HI, hk⟩ := hrel
      have k0r := k03.trans hk
      by_cases hlt : i < n
      · obtain ⟨b, hb⟩ : ∃ b, (liveL L)[i]? = some b := ⟨_, List.getElem?_eq_getElem (by rw [HN.out]; exact hlt)⟩
        obtain ⟨r, hbr⟩ := Hp.Bl.room (Hp.mem_liveL.1 (List.mem_of_getElem? hb))
        obtain rfl := hga (by omega)
        have dc := (HH.out.keep k0r).c1
        have dcell : wr.cell? ⟨g, i, none⟩ = some (.int .i64 b) := hk.cell (k3.cell (HC.out i _ (by rw [List.getElem?_map, hb]; rfl)))
        have hat := HH.out.at hbr
        have b0 := hat.1
        have b1 : b ≤ 67108864 := by omega
        have hro := room_of hwl.out hbr
        have h2 := room_two hwl.out hbr
        have ro1 := fun w4 (k4 : K w w4) => Hp.room_call (HH.out.keep k4).hp b (HH.out.in64 hbr)
        rw [hro] at ro1
        have ir := fun w4 (k4 : K w w4) => isRecord_any (HH.out.keep k4) (ro := r) hbr h2
        have HB : Aside _ := hb
        have HR : Aside _ := hro
        have HBR : Aside _ := hbr
        clear hb hro hat hbr h2
        have tail : ∀ w4, K w3 w4 → irB T W b r = true → Aside (∀ (j : Nat) c, j < i + 1 → (liveL L)[j]? = some c → irB T W c (Hp.roomL L c).1 = true) := fun w4 k4 hi j c hj hc => by
          by_cases e : j = i
          · subst e
            obtain rfl := Option.some.inj (HB.out.symm.trans hc)
            rw [HR.out]
            exact hi
          · exact HI.out j c (by omega) hc
        have bad : irB T W b r = false → Aside (audS L W T = 8) := fun hi => by
          show _ = _
          rw [E0.out, if_neg]
          intro hall
          rw [List.all_eq_true] at hall
          have := hall b (List.mem_of_getElem? HB.out)
          rw [HR.out, hi] at this
          cases this
        have TA : Aside _ := tail
        have BA : Aside _ := bad
        have pr : Aside (b / 64 = pa → r = ro) := fun e => HP.out b r HBR.out e
        have nx : Aside (∀ c k, BlR L c k → c / 64 = b / 64 → k = r) := fun c k hc e => page_room hwl.out hc HBR.out e
        clear tail bad HI
        by_cases hpp : b / 64 = pa
        · obtain rfl := pr.out hpp
          have hpn : (b / 64 != pa) = false := by simp [hpp]
          have HPP : Aside _ := hpp
          clear hpp pr
          go_wp2_with fail
          refine (ir _ k0r).mono ?_
          rintro e w4 ⟨rfl, k4⟩
          cases hi : irB T W b r with
          | true =>
            have TT := TA.out w4 (hk.trans k4) hi
            clear hi
            go_wp2
            go_roundg (n - (i + 1))
            case measure => omega
            case rel => exact ⟨i + 1, r, pa, by omega, by go_num, rfl, rfl, HP, TT, hk.trans k4⟩
          | false =>
            have BB := BA.out hi
            clear hi
            go_wp2
            go_ret
            exact ⟨by rw [BB.out]; rfl, k0r.trans k4⟩
        · have hpn : (b / 64 != pa) = true := by simp [hpp]
          clear hpp pr
          go_wp2_with fail
          refine (ro1 _ k0r).mono ?_
          rintro e w4 ⟨rfl, k4⟩
          have k04 := k0r.trans k4
          go_wp2_with fail
          refine (ir _ k04).mono ?_
          rintro e w5 ⟨rfl, k5⟩
          cases hi : irB T W b r with
          | true =>
            have TT := TA.out w5 ((hk.trans k4).trans k5) hi
            clear hi
            go_wp2
            go_roundg (n - (i + 1))
            case measure => omega
            case rel => exact ⟨i + 1, r, b / 64, by omega, by go_num, rfl, rfl, nx, TT, (hk.trans k4).trans k5⟩
          | false =>
            have BB := BA.out hi
            clear hi
            go_wp2
            go_ret
            exact ⟨by rw [BB.out]; rfl, k04.trans k5⟩
      · have E1 : Hid (audS L W T = 0) := by
          show _ = _
          rw [E0.out, if_pos]
          rw [List.all_eq_true]
          intro c hc
          obtain ⟨j, hj⟩ := List.getElem?_of_mem hc
          exact HI.out j c (by have := (List.getElem?_eq_some_iff.1 hj).1; rw [HN.out] at this; omega) hj
        clear HI HP
        go_wp2
        go_ret
        exact ⟨by rw [E1.out]; rfl, k0r⟩
  · have E0 : Hid (audS L W T = 8) := by
      show _ = _
      unfold audS
      rw [if_neg hlen]
    have hlb : (((liveL L).length : Int) != ((Hd.liveL T).length : Int)) = true := by simp [hlen]
    clear hlen
    generalize (Hd.liveL T).length = m2 at *
    generalize (liveL L).length = n at *
    go_wp2
    go_ret
    exact ⟨by rw [E0.out]; rfl, k03⟩

theorem audit_ok (h : Sw w B A pg W L v T) : Calls Tryz.prog 78 #[sp A.st] w fun e w' => e = .returned (.int .i64 0) ∧ K w w' := by
  have := audit_any h.b
  rw [h.r.aud h.b.wl h.b.tl] at this
  exact this

end So
end Go.Proofs.YtbbjfebdihepnaaGreatDoor
