/-
  Which addresses are blocks', and of how many words: what Alloc, Free and Slide do to them.
-/
import Derived.Test.YtbbjfebdihepnaaGreatDoorH6
namespace Go.Proofs.YtbbjfebdihepnaaGreatDoor
open Go.RowKit
namespace Hp
section
variable {L L' : List Pg}

/-- A block at a, its place has r words. -/
def BlR (L : List Pg) (a r : Int) : Prop := ∃ p ∈ L, ∃ s ∈ slotsOf p, addrI p s = a ∧ roomI p = r
theorem BlR.bl {a r : Int} (h : BlR L a r) : Bl L a := by
  obtain ⟨p, hp, s, hs, e, _⟩ := h
  exact ⟨p, hp, s, hs, e⟩
theorem Bl.room {a : Int} (h : Bl L a) : ∃ r, BlR L a r := by
  obtain ⟨p, hp, s, hs, e⟩ := h
  exact ⟨_, p, hp, s, hs, e, rfl⟩
theorem Wl.roomOne (l : Wl L) {a r r' : Int} (h : BlR L a r) (h' : BlR L a r') : r = r' := by
  obtain ⟨p, hp, s, hs, e, rfl⟩ := h
  obtain ⟨p', hp', s', hs', e', rfl⟩ := h'
  rw [(l.uniq hp hp' hs hs' (e.trans e'.symm)).1]

theorem Wl.setR (l : Wl L) {p : Pg} (hp : p ∈ L) (h1 : p.kind = 1) {s : Int} (s0 : 0 ≤ s) (s1 : s < Cl.sloI p.cls) (b r : Int) : BlR (updL L p.n (withT p (Bt.setI p.taken s))) b r ↔ (b = addrI p s ∧ r = roomI p) ∨ BlR L b r := by
  constructor
  · rintro ⟨x, hx, k, hk, e, e2⟩
    rcases (l.upd_mem hp).1 hx with rfl | ⟨h, hne⟩
    · rcases (mem_slots_set h1 s0 s1).1 hk with rfl | hk
      · exact .inl ⟨e.symm, e2.symm⟩
      · exact .inr ⟨p, hp, k, hk, e, e2⟩
    · exact .inr ⟨x, h, k, hk, e, e2⟩
  · rintro (⟨rfl, rfl⟩ | ⟨x, hx, k, hk, e, e2⟩)
    · exact ⟨_, (l.upd_mem hp).2 (.inl rfl), s, (mem_slots_set h1 s0 s1).2 (.inl rfl), rfl, rfl⟩
    · by_cases hrp : x = p
      · subst hrp
        exact ⟨_, (l.upd_mem hp).2 (.inl rfl), k, (mem_slots_set h1 s0 s1).2 (.inr hk), e, e2⟩
      · exact ⟨x, (l.upd_mem hp).2 (.inr ⟨hx, hrp⟩), k, hk, e, e2⟩

theorem insR {p : Pg} (hs : ∀ k, k ∈ slotsOf p ↔ k = 0) (b r : Int) : BlR (insL p L) b r ↔ (b = addrI p 0 ∧ r = roomI p) ∨ BlR L b r := by
  constructor
  · rintro ⟨x, hx, k, hk, e, e2⟩
    rcases mem_insL.1 hx with rfl | h
    · rw [(hs k).1 hk] at e
      exact .inl ⟨e.symm, e2.symm⟩
    · exact .inr ⟨x, h, k, hk, e, e2⟩
  · rintro (⟨rfl, rfl⟩ | ⟨x, hx, k, hk, e, e2⟩)
    · exact ⟨p, mem_insL.2 (.inl rfl), 0, (hs 0).2 rfl, rfl, rfl⟩
    · exact ⟨x, mem_insL.2 (.inr hx), k, hk, e, e2⟩

/-- Free: the others keep their rooms. -/
theorem Wl.freeR (l : Wl L) {a : Int} {p : Pg} {s : Int} (h : findB L a = some (p, s)) (b r : Int) : BlR (dropL L p s) b r ↔ b ≠ a ∧ BlR L b r := by
  constructor
  · intro hb
    refine ⟨((l.free h b).1 hb.bl).1, ?_⟩
    obtain ⟨x, hx, k, hk, e, e2⟩ := hb
    obtain ⟨hp, _, _⟩ := findB_some h
    unfold dropL at hx
    split at hx
    · exact ⟨x, (mem_delL.1 hx).1, k, hk, e, e2⟩
    · rename_i hk2
      have k1 : p.kind = 1 := by rcases (l.ent p hp).kind with h | h <;> omega
      split at hx
      · exact ⟨x, (mem_delL.1 hx).1, k, hk, e, e2⟩
      · rcases (l.upd_mem hp).1 hx with rfl | ⟨h1, _⟩
        · obtain ⟨_, hs, _⟩ := findB_some h
          obtain ⟨s0, s1⟩ := slot_ok hs k1
          exact ⟨p, hp, k, ((mem_slots_clr k1 s0 s1).1 hk).2, e, e2⟩
        · exact ⟨x, h1, k, hk, e, e2⟩
  · rintro ⟨hne, hb⟩
    obtain ⟨r2, h2⟩ := Bl.room ((l.free h b).2 ⟨hne, hb.bl⟩)
    have : BlR L b r2 := by
      obtain ⟨x, hx, k, hk, e, e2⟩ := h2
      obtain ⟨hp, hs, _⟩ := findB_some h
      unfold dropL at hx
      split at hx
      · exact ⟨x, (mem_delL.1 hx).1, k, hk, e, e2⟩
      · rename_i hk2
        have k1 : p.kind = 1 := by rcases (l.ent p hp).kind with h | h <;> omega
        obtain ⟨s0, s1⟩ := slot_ok hs k1
        split at hx
        · exact ⟨x, (mem_delL.1 hx).1, k, hk, e, e2⟩
        · rcases (l.upd_mem hp).1 hx with rfl | ⟨h1, _⟩
          · exact ⟨p, hp, k, ((mem_slots_clr k1 s0 s1).1 hk).2, e, e2⟩
          · exact ⟨x, h1, k, hk, e, e2⟩
    rw [l.roomOne hb this]
    exact h2

theorem Wl.upd (l : Wl L) {p p' : Pg} (hp : p ∈ L) (hn : p'.n = p.n) (hs : p'.span = p.span) (he : Ent p') : Wl (updL L p.n p') := by
  refine ⟨fun r hr => ?_, ?_, fun r hr => ?_⟩
  · rcases mem_upd hr with rfl | ⟨h3, _⟩
    · exact he
    · exact l.ent r h3
  · unfold Srt updL
    rw [List.pairwise_map]
    refine List.Pairwise.imp_of_mem (fun {a b} ha hb hab => ?_) l.srt
    have e : ∀ x ∈ L, (if x.n = p.n then p' else x).n = x.n ∧ (if x.n = p.n then p' else x).span = x.span := fun x hx => by
      split
      · rename_i hx2
        have := l.inj hx hp hx2
        subst this
        exact ⟨hn, hs⟩
      · exact ⟨rfl, rfl⟩
    rw [(e a ha).1, (e a ha).2, (e b hb).1]
    exact hab
  · rcases mem_upd hr with rfl | ⟨h3, _⟩
    · rw [hn]; exact l.n0 p hp
    · exact l.n0 r h3
theorem Wl.del (l : Wl L) (n : Int) : Wl (delL L n) := ⟨fun r hr => l.ent r (mem_delL.1 hr).1, l.srt.sublist List.filter_sublist, fun r hr => l.n0 r (mem_delL.1 hr).1⟩

theorem ent_set {p : Pg} (he : Ent p) (h1 : p.kind = 1) {s : Int} (s0 : 0 ≤ s) (s1 : s < Cl.sloI p.cls) : Ent (withT p (Bt.setI p.taken s)) := by
  obtain ⟨c0, c1, t0, u, hc, hw, hs⟩ := he.small h1
  have hsl := slo_le p.cls
  exact .inl ⟨h1, c0, c1, set_ne _ _, Bt.setI_U u (N_of s0 s1 hsl.2), cut_set u hsl.1 hsl.2 hc s0 s1, hw, hs⟩

/-- Slide: the block comes to b, which is a or lower, with its room; the others stay. -/
theorem Wl.slide (l : Wl L) {a b er : Int} {L' : List Pg} {p : Pg} {s : Int} (h : findB L a = some (p, s)) (e : slideL L a = (b, er, L')) :
    er = 0 ∧ b ≤ a ∧ (b ≠ a → ¬ Bl L b) ∧ ∀ c r, BlR L' c r ↔ (c = b ∧ r = roomI p) ∨ (c ≠ a ∧ BlR L c r) := by
  obtain ⟨hp, hs, ha⟩ := findB_some h
  have stay : ∀ c r, BlR L c r ↔ (c = a ∧ r = roomI p) ∨ (c ≠ a ∧ BlR L c r) := fun c r => by
    constructor
    · intro hb
      by_cases hc : c = a
      · subst hc
        exact .inl ⟨rfl, l.roomOne hb ⟨p, hp, s, hs, ha, rfl⟩⟩
      · exact .inr ⟨hc, hb⟩
    · rintro (⟨rfl, rfl⟩ | ⟨_, hb⟩)
      · exact ⟨p, hp, s, hs, ha, rfl⟩
      · exact hb
  unfold slideL at e
  rw [h] at e
  simp only [] at e
  have he := l.ent p hp
  by_cases k2 : p.kind = 2
  · rw [if_pos k2] at e
    simp only [Prod.mk.injEq] at e
    obtain ⟨rfl, rfl, rfl⟩ := e
    have hsp := he.span
    have hsl : ∀ k, k ∈ slotsOf (atN p (fit p.span 0 (delL L p.n))) ↔ k = 0 := fun k => by
      rw [mem_slots]
      show (p.kind = 2 ∧ k = 0) ∨ (p.kind = 1 ∧ _) ↔ _
      constructor
      · rintro (⟨_, h⟩ | ⟨h, _⟩)
        · exact h
        · omega
      · exact fun h => .inl ⟨k2, h⟩
    have hd : dropL L p s = delL L p.n := if_pos k2
    have a1 : addrI p s = p.n * 64 + 2 := by unfold addrI atI; rw [if_pos k2]
    have a2 : addrI (atN p (fit p.span 0 (delL L p.n))) 0 = fit p.span 0 (delL L p.n) * 64 + 2 := by
      unfold addrI atI
      rw [if_pos (show (atN p (fit p.span 0 (delL L p.n))).kind = 2 from k2)]
      rfl
    have ld := l.del p.n
    refine ⟨rfl, ?_, fun hne hbl => ?_, fun c r => ?_⟩
    · obtain ⟨_, _, h3⟩ := fit_spec (m := p.span) (by omega) (delL L p.n) 0 ld.srt (fun p hp => (ld.ent p hp).span.1) ld.n0
      have : fit p.span 0 (delL L p.n) ≤ p.n := by
        by_cases hlt : p.n < fit p.span 0 (delL L p.n)
        · obtain ⟨k, k0, k1, x, hx, x0, x1⟩ := h3 p.n (l.n0 p hp) hlt
          obtain ⟨hx1, hx2⟩ := mem_delL.1 hx
          have := srt_apart l.srt hp hx1 (fun e => hx2 (by rw [e]))
          omega
        · omega
      omega
    · refine ld.fit_not (m := p.span) (by omega) (a := addrI (atN p (fit p.span 0 (delL L p.n))) 0) (by omega) (by omega) ?_
      rw [← hd]
      rw [← hd] at hne hbl
      exact (l.free h _).2 ⟨hne, hbl⟩
    · rw [insR hsl, ← hd, l.freeR h]
      rfl
  · rw [if_neg k2] at e
    have k1 : p.kind = 1 := by rcases he.kind with h | h <;> omega
    cases hf : freeB L p.cls with
    | none =>
      rw [hf] at e
      simp only [Prod.mk.injEq] at e
      obtain ⟨rfl, rfl, rfl⟩ := e
      exact ⟨rfl, Int.le_refl _, fun h => absurd rfl h, stay⟩
    | some ps2 =>
      obtain ⟨p2, s2⟩ := ps2
      rw [hf] at e
      simp only [] at e
      obtain ⟨hp2, h2, hc, s0, s1, hh⟩ := freeB_some hf
      rw [← hc] at s1
      by_cases hlt : a < addrI p2 s2
      · rw [if_pos hlt] at e
        simp only [Prod.mk.injEq] at e
        obtain ⟨rfl, rfl, rfl⟩ := e
        exact ⟨rfl, Int.le_refl _, fun h => absurd rfl h, stay⟩
      · rw [if_neg hlt] at e
        simp only [Prod.mk.injEq] at e
        obtain ⟨rfl, rfl, rfl⟩ := e
        have l1 : Wl (updL L p2.n (withT p2 (Bt.setI p2.taken s2))) := l.upd hp2 rfl rfl (ent_set (l.ent p2 hp2) h2 s0 s1)
        have hnb := l.free_not hp2 h2 s0 s1 hh
        have hne : addrI p2 s2 ≠ a := fun e => hnb ⟨p, hp, s, hs, ha.trans e.symm⟩
        have hr2 : roomI p2 = roomI p := by
          unfold roomI
          rw [if_neg (by omega), if_neg k2, hc]
        have hmt : turnP p p2 s2 ∈ updL L p2.n (withT p2 (Bt.setI p2.taken s2)) := mem_turn hp
        have hst : s ∈ slotsOf (turnP p p2 s2) ∧ addrI (turnP p p2 s2) s = a := by
          unfold turnP
          split
          · rename_i hn
            have := l.inj hp hp2 hn
            subst this
            exact ⟨(mem_slots_set h2 s0 s1).2 (.inr hs), ha⟩
          · exact ⟨hs, ha⟩
        have hfd : findB (updL L p2.n (withT p2 (Bt.setI p2.taken s2))) a = some (turnP p p2 s2, s) := by
          rw [← hst.2]
          exact l1.find hmt hst.1
        refine ⟨rfl, by omega, fun _ => hnb, fun c r => ?_⟩
        unfold slideS
        rw [l1.freeR hfd, l.setR hp2 h2 s0 s1]
        constructor
        · rintro ⟨h3, (⟨h4, h5⟩ | h4)⟩
          · exact .inl ⟨h4, h5.trans hr2⟩
          · exact .inr ⟨h3, h4⟩
        · rintro (⟨rfl, rfl⟩ | ⟨h3, h4⟩)
          · exact ⟨hne, .inl ⟨rfl, hr2.symm⟩⟩
          · exact ⟨h3, .inr h4⟩

end

section
variable {w : World} {bh bs bm : Nat} {q : Int} {pg : List (Int × Nat)} {W : Int → Int} {L L' : List Pg}

theorem mem_liveL {c : Int} : c ∈ liveL L ↔ Bl L c := by
  unfold liveL liveP Bl
  simp only [List.mem_flatMap, List.mem_map]
theorem slots_rise (p : Pg) : (slotsOf p).Pairwise (fun x y => x < y) := by
  unfold slotsOf
  split
  · simp
  · split
    · unfold takenTo
      refine List.Pairwise.filter _ ?_
      rw [List.pairwise_map]
      exact List.pairwise_lt_range.imp fun h => by omega
    · exact List.Pairwise.nil

theorem Wl.live_nodup : ∀ {L : List Pg}, Wl L → (liveL L).Nodup
  | [], _ => List.nodup_nil
  | p :: L, l => by
    have ih : (liveL L).Nodup := Wl.live_nodup ⟨fun r hr => l.ent r (by simp [hr]), (List.pairwise_cons.1 l.srt).2, fun r hr => l.n0 r (by simp [hr])⟩
    have e : liveL (p :: L) = liveP p (slotsOf p) ++ liveL L := by simp [liveL]
    rw [e, List.nodup_append]
    have hp : p ∈ p :: L := by simp
    refine ⟨?_, ih, fun c hc d hd he => ?_⟩
    · unfold liveP
      rw [List.nodup_iff_pairwise_ne, List.pairwise_map]
      refine List.Pairwise.imp_of_mem (fun {a b} ha hb hab h => ?_) (slots_rise p)
      have := slot_inj (l.ent p hp) ha hb h
      omega
    · subst he
      obtain ⟨s, hs, rfl⟩ := List.mem_map.1 hc
      obtain ⟨r, hr, k, hk, e2⟩ := mem_liveL.1 hd
      have h1 := l.uniq hp (by simp [hr]) hs hk e2.symm
      have h2 := (List.pairwise_cons.1 l.srt).1 r hr
      have h3 := (l.ent p hp).span
      rw [← h1.1] at h2
      omega

theorem same_len {X Y : List Int} (hX : X.Nodup) (hY : Y.Nodup) (h : ∀ c, c ∈ X ↔ c ∈ Y) : X.length = Y.length :=
  (List.perm_ext_iff_of_nodup hX hY |>.2 h).length_eq

theorem Wl.live_len (l : Wl L) {X : List Int} (hX : X.Nodup) (h : ∀ c, c ∈ X ↔ Bl L c) : (liveL L).length = X.length :=
  same_len l.live_nodup hX fun c => mem_liveL.trans (h c).symm

theorem Wl.aud (l : Wl L) : audI L = 0 := by
  unfold audI
  rw [if_neg]
  simp only [List.any_eq_true, beq_iff_eq, not_exists, not_and]
  intro p hp h0
  rcases (l.ent p hp).kind with h | h <;> omega

theorem audit_ok (h : St w bh bs bm q pg W L) : Calls Tryz.prog 108 #[hp bh] w fun e w' => e = .returned (.int .i64 0) ∧ K w w' := by
  have := audit_any h.hw
  rw [h.heads, h.wl.aud] at this
  exact this

/-- Alloc, with rooms. -/
theorem Wl.allocR (l : Wl L) {q x a : Int} {L' : List Pg} (hx : 1 ≤ x ∧ x ≤ 4000) (e : allocL q L x = (a, 0, L')) : ¬ Bl L a ∧ ∃ r, x ≤ r ∧ ∀ c k, BlR L' c k ↔ (c = a ∧ k = r) ∨ BlR L c k := by
  unfold allocL at e
  rw [if_pos hx] at e
  cases hs : Cl.smaI x with
  | true =>
    rw [hs] at e
    simp only [if_true] at e
    obtain ⟨c0, c1, c2⟩ := cls_in hx hs
    cases hf : freeB L (Cl.clsI x) with
    | some ps =>
      obtain ⟨p, s⟩ := ps
      rw [hf] at e
      obtain ⟨hp, h1, hc, s0, s1, hh⟩ := freeB_some hf
      rw [← hc] at s1
      simp only [Prod.mk.injEq] at e
      obtain ⟨rfl, _, rfl⟩ := e
      refine ⟨l.free_not hp h1 s0 s1 hh, roomI p, ?_, l.setR hp h1 s0 s1⟩
      unfold roomI
      rw [if_neg (by omega), hc]
      exact c2
    | none =>
      rw [hf] at e
      simp only [] at e
      split at e
      · simp only [Prod.mk.injEq] at e
        obtain ⟨rfl, _, rfl⟩ := e
        have ha := addr_page (ent_smallPg (fit 1 0 L) c0 c1) ((slots_smallPg c0 c1 0).2 rfl)
        have hn : (smallPg (fit 1 0 L) (Cl.clsI x)).n = fit 1 0 L := rfl
        exact ⟨l.fit_not (m := 1) (by omega) (by omega) (by omega), _, c2, insR (slots_smallPg c0 c1)⟩
      · simp at e
  | false =>
    rw [hs] at e
    have hpg : Cl.pagI x = (x + 65) / 64 := if_pos hx
    simp only [Bool.false_eq_true, if_false] at e
    split at e
    · simp only [Prod.mk.injEq] at e
      obtain ⟨rfl, _, rfl⟩ := e
      have hsl : ∀ k, k ∈ slotsOf (largePg (fit (Cl.pagI x) 0 L) x) ↔ k = 0 := fun k => by
        rw [mem_slots]
        simp [largePg]
      have ha : addrI (largePg (fit (Cl.pagI x) 0 L) x) 0 = fit (Cl.pagI x) 0 L * 64 + 2 := rfl
      exact ⟨l.fit_not (m := Cl.pagI x) (by omega) (by omega) (by omega), _, Int.le_refl _, insR hsl⟩
    · simp at e

end

section
variable {w w' : World} {bh bs bm : Nat} {q : Int} {pg pg' : List (Int × Nat)} {W W' : Int → Int} {L L' : List Pg}

theorem St.readW (h : St w bh bs bm q pg W L) {a r i : Int} (hb : BlR L a r) (i0 : 0 ≤ i) (i1 : i < r) :
    Calls Tryz.prog 67 #[.pointer (some ⟨bs, 0, none⟩), .int .i64 (a + i)] w fun e w' => e = .returned (.tuple #[.int .u64 (W (a + i)), .int .i64 0]) ∧ w = w' := by
  obtain ⟨p, hp, s, hs, rfl, rfl⟩ := hb
  have he := h.reads hp (slot_ok hs) i0 i1
  have := Sl.read_any h.hw.ar (addrI p s + i)
  rw [Sl.readV, if_pos he, he] at this
  exact this

theorem St.writeW (h : St w bh bs bm q pg W L) {a r i x : Int} (hb : BlR L a r) (i0 : 0 ≤ i) (i1 : i < r) (hx : Sl.WordOk x) :
    Calls Tryz.prog 89 #[.pointer (some ⟨bs, 0, none⟩), .int .i64 (a + i), .int .u64 x] w fun e w' => e = .returned (.int .i64 0) ∧ St w' bh bs bm q pg (Sl.upd W (a + i) x) L ∧ Sl.Step bs bm pg pg w w' := by
  obtain ⟨p, hp, s, hs, rfl, rfl⟩ := hb
  have he := h.reads hp (slot_ok hs) i0 i1
  refine (Sl.write_ok h.hw.ar (addrI p s + i) x he hx).mono ?_
  rintro e w1 ⟨rfl, a1, t1⟩
  refine ⟨rfl, ⟨h.hw.step a1 t1, h.ly.words fun r hr => ?_⟩, t1⟩
  have h1 := word_page (h.ly.ent p hp) (slot_ok hs) i0 i1
  have h2 : 64 * r.n ≠ addrI p s + i ∧ 64 * r.n + 1 ≠ addrI p s + i := by
    by_cases hrp : r = p
    · subst hrp
      omega
    · have h3 := srt_apart h.ly.srt hp hr (Ne.symm hrp)
      have h4 := (h.ly.ent p hp).span
      have h5 := (h.ly.ent r hr).span
      omega
  unfold Sl.upd
  rw [if_neg h2.1, if_neg h2.2]
  exact ⟨rfl, rfl⟩

/-- The words of two blocks are apart. -/
theorem Wl.apart (l : Wl L) {a r c k i j : Int} (ha : BlR L a r) (hc : BlR L c k) (hne : a ≠ c) (i0 : 0 ≤ i) (i1 : i < r) (j0 : 0 ≤ j) (j1 : j < k) : a + i ≠ c + j := by
  obtain ⟨p, hp, s, hs, rfl, rfl⟩ := ha
  obtain ⟨p', hp', s', hs', rfl, rfl⟩ := hc
  have h1 := word_page (l.ent p hp) (slot_ok hs) i0 i1
  have h2 := word_page (l.ent p' hp') (slot_ok hs') j0 j1
  by_cases hpp : p = p'
  · subst hpp
    have hss : s ≠ s' := fun e => hne (by rw [e])
    rcases (l.ent p hp).kind with k1 | k2
    · have h3 := slots_apart (l.ent p hp) k1 (slot_ok hs k1) (slot_ok hs' k1) hss
      unfold addrI
      omega
    · rcases mem_slots.1 hs with ⟨_, h⟩ | ⟨h, _⟩
      · rcases mem_slots.1 hs' with ⟨_, h'⟩ | ⟨h', _⟩
        · omega
        · omega
      · omega
  · have h3 := srt_apart l.srt hp hp' hpp
    omega

/-- A block's words, of n, are all x. -/
def Full (W : Int → Int) (a n x : Int) : Prop := ∀ i, 0 ≤ i → i < n → W (a + i) = x

theorem Same.full {a r n x : Int} (h : Same L W W') (hb : BlR L a r) (hn : n ≤ r) (hf : Full W a n x) : Full W' a n x := fun i i0 i1 => by
  obtain ⟨p, hp, s, hs, rfl, rfl⟩ := hb
  rw [h p hp s hs i i0 (by omega)]
  exact hf i i0 i1
theorem SameBut.full {p : Pg} {s a : Int} (hfd : findB L a = some (p, s)) (h : SameBut L p s W W') {c r n x : Int} (hb : BlR L c r) (hne : c ≠ a) (hn : n ≤ r) (hf : Full W c n x) : Full W' c n x := fun i i0 i1 => by
  obtain ⟨p', hp', s', hs', rfl, rfl⟩ := hb
  obtain ⟨hp, hs, rfl⟩ := findB_some hfd
  rw [h p' hp' s' hs' (by
    by_cases h1 : p' = p
    · subst h1
      exact .inr fun e => hne (by rw [e])
    · exact .inl h1) i i0 (by omega)]
  exact hf i i0 i1

end

section
variable {w w' : World} {bh bs bm : Nat} {q : Int} {pg pg' : List (Int × Nat)} {W W' : Int → Int} {L L' : List Pg}

/-- A block's address, the words that were asked for, and with what they are filled. -/
structure It where
  a : Int
  n : Int
  x : Int

/-- One of them stands as the list says. -/
def ItOk (L : List Pg) (W : Int → Int) (t : It) : Prop := ∃ r, BlR L t.a r ∧ t.n ≤ r ∧ Full W t.a t.n t.x

structure Ks (L : List Pg) (W : Int → Int) (T : List It) : Prop where
  nd : (T.map It.a).Nodup
  bl : ∀ c, c ∈ T.map It.a ↔ Bl L c
  ok : ∀ t ∈ T, ItOk L W t

theorem Ks.nil (W : Int → Int) : Ks [] W [] := ⟨List.nodup_nil, fun _ => ⟨fun h => (by cases h), fun ⟨_, h, _⟩ => (by cases h)⟩, fun _ h => by cases h⟩
theorem Ks.len {T : List It} (k : Ks L W T) (l : Wl L) : (liveL L).length = T.length := by rw [l.live_len k.nd k.bl, List.length_map]

/-- Behind Alloc, the new block's words being x. -/
theorem Ks.alloc {T : List It} (k : Ks L W T) (l : Wl L) (l' : Wl L') {n a x : Int} (hn : 1 ≤ n ∧ n ≤ 4000) (e : allocL q L n = (a, 0, L')) (hs : Same L W W') {W2 : Int → Int} (hw : ∀ c, (∀ i, 0 ≤ i → i < n → c ≠ a + i) → W2 c = W' c) (hx : Full W2 a n x) : Ks L' W2 (T ++ [⟨a, n, x⟩]) := by
  obtain ⟨hna, r, hr, hb⟩ := l.allocR hn e
  have old : ∀ c k, BlR L c k → BlR L' c k := fun c k h => (hb c k).2 (.inr h)
  have new : BlR L' a r := (hb a r).2 (.inl ⟨rfl, rfl⟩)
  refine ⟨?_, fun c => ?_, fun t ht => ?_⟩
  · rw [List.map_append, List.nodup_append]
    refine ⟨k.nd, by simp, fun c hc d hd he => ?_⟩
    obtain rfl : d = a := by simpa using hd
    subst he
    exact hna ((k.bl _).1 hc)
  · rw [List.map_append, List.mem_append, k.bl c]
    constructor
    · rintro (h | h)
      · obtain ⟨r2, h2⟩ := h.room
        exact (old _ _ h2).bl
      · obtain rfl : c = a := by simpa using h
        exact new.bl
    · intro h
      obtain ⟨r2, h2⟩ := h.room
      rcases (hb c r2).1 h2 with ⟨rfl, _⟩ | h3
      · exact .inr (by simp)
      · exact .inl h3.bl
  · rcases List.mem_append.1 ht with ht | ht
    · obtain ⟨r2, h2, h3, h4⟩ := k.ok t ht
      have hne : t.a ≠ a := fun e => hna (e ▸ h2.bl)
      refine ⟨r2, old _ _ h2, h3, fun i i0 i1 => ?_⟩
      rw [hw _ fun j j0 j1 => l'.apart (old _ _ h2) new hne i0 (by omega) j0 (by omega)]
      exact hs.full h2 h3 h4 i i0 i1
    · obtain rfl : t = ⟨a, n, x⟩ := by simpa using ht
      exact ⟨r, new, hr, hx⟩

theorem nodup_cut {T : List It} {t : It} {A B : List It} (e : T = A ++ t :: B) (h : (T.map It.a).Nodup) : ((A ++ B).map It.a).Nodup ∧ ∀ c, c ∈ (A ++ B).map It.a ↔ c ≠ t.a ∧ c ∈ T.map It.a := by
  subst e
  have hp : ((A ++ t :: B).map It.a).Perm (t.a :: (A ++ B).map It.a) := by
    simp only [List.map_append, List.map_cons]
    exact List.perm_middle
  have h1 := hp.nodup_iff.1 h
  obtain ⟨h2, h3⟩ := List.nodup_cons.1 h1
  refine ⟨h3, fun c => ?_⟩
  rw [hp.mem_iff, List.mem_cons]
  constructor
  · exact fun hc => ⟨fun e => h2 (e ▸ hc), .inr hc⟩
  · rintro ⟨h4, h5 | h5⟩
    · exact absurd h5 h4
    · exact h5

/-- Behind Free. -/
theorem Ks.free {T A B : List It} {t : It} (k : Ks L W T) (l : Wl L) (e : T = A ++ t :: B) {p : Pg} {s : Int} (hf : findB L t.a = some (p, s)) (hs : SameBut L p s W W') : Ks (dropL L p s) W' (A ++ B) := by
  obtain ⟨h1, h2⟩ := nodup_cut e k.nd
  refine ⟨h1, fun c => ?_, fun u hu => ?_⟩
  · rw [h2 c, k.bl c, l.free hf c]
  · have hu2 : u ∈ T := by
      subst e
      rcases List.mem_append.1 hu with h | h
      · exact List.mem_append_left _ h
      · exact List.mem_append_right _ (List.mem_cons_of_mem _ h)
    obtain ⟨r, h3, h4, h5⟩ := k.ok u hu2
    have hne : u.a ≠ t.a := ((h2 u.a).1 (List.mem_map_of_mem hu)).1
    exact ⟨r, (l.freeR hf _ _).2 ⟨hne, h3⟩, h4, hs.full hf h3 hne h4 h5⟩

/-- Behind Slide. -/
theorem Ks.slide {T A B : List It} {t : It} (k : Ks L W T) (l : Wl L) (e : T = A ++ t :: B) {p : Pg} {s b er : Int} (hf : findB L t.a = some (p, s)) (hsl : slideL L t.a = (b, er, L')) (hs : SameBut L p s W W') (hw : ∀ i, 0 ≤ i → i < roomI p → W' (b + i) = W (t.a + i)) : Ks L' W' (A ++ { t with a := b } :: B) := by
  obtain ⟨h1, h2⟩ := nodup_cut e k.nd
  obtain ⟨_, _, hbb, hb⟩ := l.slide hf hsl
  have hta : BlR L t.a (roomI p) := by
    obtain ⟨q1, q2, q3⟩ := findB_some hf
    exact ⟨p, q1, s, q2, q3, rfl⟩
  have hp : ((A ++ { t with a := b } :: B).map It.a).Perm (b :: (A ++ B).map It.a) := by
    simp only [List.map_append, List.map_cons]
    exact List.perm_middle
  have hbn : b ∉ (A ++ B).map It.a := fun h => by
    obtain ⟨h3, h4⟩ := (h2 b).1 h
    exact hbb h3 ((k.bl b).1 h4)
  refine ⟨hp.nodup_iff.2 (List.nodup_cons.2 ⟨hbn, h1⟩), fun c => ?_, fun u hu => ?_⟩
  · rw [hp.mem_iff, List.mem_cons, h2 c, k.bl c]
    constructor
    · rintro (rfl | ⟨h3, h4⟩)
      · exact ((hb _ _).2 (.inl ⟨rfl, rfl⟩)).bl
      · obtain ⟨r, h5⟩ := h4.room
        exact ((hb c r).2 (.inr ⟨h3, h5⟩)).bl
    · intro h
      obtain ⟨r, h3⟩ := h.room
      rcases (hb c r).1 h3 with ⟨h4, _⟩ | ⟨h4, h5⟩
      · exact .inl h4
      · exact .inr ⟨h4, h5.bl⟩
  · have hcs : u = { t with a := b } ∨ (u ∈ A ++ B) := by
      rcases List.mem_append.1 hu with h | h
      · exact .inr (List.mem_append_left _ h)
      · rcases List.mem_cons.1 h with h | h
        · exact .inl h
        · exact .inr (List.mem_append_right _ h)
    rcases hcs with rfl | hu
    · have ht : t ∈ T := by rw [e]; simp
      obtain ⟨r, h3, h4, h5⟩ := k.ok t ht
      obtain rfl := l.roomOne h3 hta
      exact ⟨roomI p, (hb _ _).2 (.inl ⟨rfl, rfl⟩), h4, fun i i0 i1 => by
        have h6 : i < t.n := i1
        have h7 : t.n ≤ roomI p := h4
        show W' (b + i) = t.x
        rw [hw i i0 (by omega)]
        exact h5 i i0 i1⟩
    · have hu2 : u ∈ T := by
        subst e
        rcases List.mem_append.1 hu with h | h
        · exact List.mem_append_left _ h
        · exact List.mem_append_right _ (List.mem_cons_of_mem _ h)
      obtain ⟨r, h3, h4, h5⟩ := k.ok u hu2
      have hne : u.a ≠ t.a := ((h2 u.a).1 (List.mem_map_of_mem hu)).1
      exact ⟨r, (hb _ _).2 (.inr ⟨hne, h3⟩), h4, hs.full hf h3 hne h4 h5⟩

end

section
variable {w0 w w' : World} {bh bs bm : Nat} {q : Int} {pg pg' : List (Int × Nat)} {W W' : Int → Int} {L L' : List Pg} {T A B : List It} {t : It}

/-- A heap made since w0, whose blocks are the list's. -/
structure Ra (w0 w : World) (bh bs bm : Nat) (q : Int) (pg : List (Int × Nat)) (W : Int → Int) (L : List Pg) (T : List It) : Prop where
  rn : Rn w0 w bh bs bm q pg W L
  ks : Ks L W T

theorem Ra.wl (h : Ra w0 w bh bs bm q pg W L T) : Wl L := h.rn.st.wl
theorem Ra.keep (h : Ra w0 w bh bs bm q pg W L T) (k : K w w') : Ra w0 w' bh bs bm q pg W L T := ⟨h.rn.keep k, h.ks⟩
theorem Ra.first (h : Rn w0 w bh bs bm q [] W []) : Ra w0 w bh bs bm q [] W [] [] := ⟨h, Ks.nil W⟩

theorem alloc_no {x a er : Int} (e : allocL q L x = (a, er, L')) (h : er ≠ 0) : L' = L := by
  unfold allocL at e
  repeat' split at e
  all_goals
    simp only [Prod.mk.injEq] at e
    obtain ⟨_, h1, h2⟩ := e
    first
      | exact h2.symm
      | exact absurd h1.symm h

theorem Ks.same (k : Ks L W T) (hs : Same L W W') : Ks L W' T := ⟨k.nd, k.bl, fun t ht => by
  obtain ⟨r, h1, h2, h3⟩ := k.ok t ht
  exact ⟨r, h1, h2, hs.full h1 h2 h3⟩⟩

theorem Ra.in64 (h : Ra w0 w bh bs bm q pg W L T) {a : Int} (hb : Bl L a) : In64 a := by
  obtain ⟨p, hp, s, hs, rfl⟩ := hb
  have h1 := h.rn.st.range hp
  have h2 := addr_page (h.wl.ent p hp) hs
  have h3 := (h.wl.ent p hp).span
  exact ⟨by omega, by omega⟩
theorem Ra.at (h : Ra w0 w bh bs bm q pg W L T) (ht : t ∈ T) : Bl L t.a ∧ In64 t.a := by
  have h1 := (h.ks.bl t.a).1 (List.mem_map_of_mem ht)
  exact ⟨h1, h.in64 h1⟩

theorem Ra.free (h : Ra w0 w bh bs bm q pg W L T) (e : T = A ++ t :: B) : Calls Tryz.prog 61 #[hp bh, .int .i64 t.a] w fun e w' => e = .returned (.int .i64 0) ∧ ∃ pg' W' L', Ra w0 w' bh bs bm q pg' W' L' (A ++ B) ∧ Sl.Step bs bm pg pg' w w' := by
  obtain ⟨hb, hin⟩ := h.at (t := t) (by rw [e]; simp)
  obtain ⟨⟨p, s⟩, hf⟩ := h.wl.find_iff.1 hb
  have hfr : (freeL L t.a).1 = 0 := by unfold freeL; rw [hf]
  have := free_any h.rn.st t.a hin
  rw [hfr] at this
  refine this.mono ?_
  rintro e3 w1 ⟨rfl, (⟨h1, _⟩ | ⟨p', s', h1, pg1, W1, s1, t1, hs⟩)⟩
  · rw [hf] at h1; cases h1
  · rw [hf] at h1
    obtain ⟨rfl, rfl⟩ := Prod.mk.inj (Option.some.inj h1)
    exact ⟨rfl, pg1, W1, _, ⟨h.rn.step s1 t1, h.ks.free h.wl e hf hs⟩, t1⟩

theorem place_pos (l : Wl L) {a r : Int} (h : BlR L a r) : 1 ≤ r := by
  obtain ⟨p, hp, s, hs, _, rfl⟩ := h
  exact (place_in (l.ent p hp) (slot_ok hs)).2.1

/-- A word of the list's is read. -/
theorem Ra.read (h : Ra w0 w bh bs bm q pg W L T) (ht : t ∈ T) {i : Int} (i0 : 0 ≤ i) (i1 : i < t.n) : Calls Tryz.prog 67 #[.pointer (some ⟨bs, 0, none⟩), .int .i64 (t.a + i)] w fun e w' => e = .returned (.tuple #[.int .u64 t.x, .int .i64 0]) ∧ w = w' := by
  obtain ⟨r, h1, h2, h3⟩ := h.ks.ok t ht
  have := h.rn.st.readW h1 i0 (by omega)
  rw [h3 i i0 i1] at this
  exact this

/-- The last block, of which k words are filled with x, and the others are 0. -/
structure Fill (w0 w : World) (bh bs bm : Nat) (q : Int) (pg : List (Int × Nat)) (W : Int → Int) (L : List Pg) (T : List It) (a n x k : Int) : Prop where
  ra : Ra w0 w bh bs bm q pg W L (T ++ [⟨a, k, x⟩])
  rm : ∃ r, BlR L a r ∧ n ≤ r
  z : ∀ i, k ≤ i → i < n → W (a + i) = 0

theorem Ra.fill {a n : Int} (h : Ra w0 w bh bs bm q pg W L (T ++ [⟨a, n, 0⟩])) (x : Int) : Fill w0 w bh bs bm q pg W L T a n x 0 := by
  obtain ⟨r, h1, h2, h3⟩ := h.ks.ok ⟨a, n, 0⟩ (by simp)
  have hm : ∀ y k, (T ++ [(⟨a, k, y⟩ : It)]).map It.a = T.map It.a ++ [a] := fun y k => by simp
  refine ⟨⟨h.rn, ?_, ?_, fun t ht => ?_⟩, ⟨r, h1, h2⟩, fun i i0 i1 => h3 i i0 i1⟩
  · have := h.ks.nd
    rw [hm] at this ⊢
    exact this
  · have := h.ks.bl
    simp only [hm] at this ⊢
    exact this
  · rcases List.mem_append.1 ht with ht | ht
    · exact h.ks.ok t (List.mem_append_left _ ht)
    · obtain rfl : t = ⟨a, 0, x⟩ := by simpa using ht
      have h4 := place_pos h.wl h1
      exact ⟨r, h1, by show (0 : Int) ≤ r; omega, fun i i0 i1 => by have h5 : i < 0 := i1; omega⟩

theorem Fill.write {a n x k : Int} (h : Fill w0 w bh bs bm q pg W L T a n x k) (k0 : 0 ≤ k) (k1 : k < n) (hx : Sl.WordOk x) : Calls Tryz.prog 89 #[.pointer (some ⟨bs, 0, none⟩), .int .i64 (a + k), .int .u64 x] w fun e w' => e = .returned (.int .i64 0) ∧ ∃ W', Fill w0 w' bh bs bm q pg W' L T a n x (k + 1) ∧ Sl.Step bs bm pg pg w w' := by
  obtain ⟨r, h1, h2⟩ := h.rm
  refine (h.ra.rn.st.writeW h1 k0 (by omega) hx).mono ?_
  rintro e w1 ⟨rfl, s1, t1⟩
  have hm : ∀ k, (T ++ [(⟨a, k, x⟩ : It)]).map It.a = T.map It.a ++ [a] := fun k => by simp
  refine ⟨rfl, _, ⟨⟨h.ra.rn.step s1 t1, ?_, ?_, fun t ht => ?_⟩, ⟨r, h1, h2⟩, fun i i0 i1 => ?_⟩, t1⟩
  · have := h.ra.ks.nd
    rw [hm] at this ⊢
    exact this
  · have := h.ra.ks.bl
    simp only [hm] at this ⊢
    exact this
  · rcases List.mem_append.1 ht with ht | ht
    · obtain ⟨r2, h3, h4, h5⟩ := h.ra.ks.ok t (List.mem_append_left _ ht)
      refine ⟨r2, h3, h4, fun i i0 i1 => ?_⟩
      have hne : t.a ≠ a := fun e => by
        have := h.ra.ks.nd
        rw [hm] at this
        exact (List.nodup_append.1 this).2.2 t.a (List.mem_map_of_mem ht) a (by simp) e
      have := h.ra.wl.apart h3 h1 hne i0 (by omega) k0 (by omega)
      unfold Sl.upd
      rw [if_neg this]
      exact h5 i i0 i1
    · obtain rfl : t = ⟨a, k + 1, x⟩ := by simpa using ht
      refine ⟨r, h1, by show k + 1 ≤ r; omega, fun i i0 i1 => ?_⟩
      show Sl.upd W (a + k) x (a + i) = x
      unfold Sl.upd
      by_cases hik : i = k
      · rw [if_pos (by omega)]
      · rw [if_neg (by omega)]
        obtain ⟨_, _, _, h5⟩ := h.ra.ks.ok ⟨a, k, x⟩ (by simp)
        have h6 : i < k + 1 := i1
        exact h5 i i0 (by show i < k; omega)
  · unfold Sl.upd
    rw [if_neg (by omega)]
    exact h.z i (by omega) i1

theorem Fill.done {a n x : Int} (h : Fill w0 w bh bs bm q pg W L T a n x n) : Ra w0 w bh bs bm q pg W L (T ++ [⟨a, n, x⟩]) := h.ra

end

end Hp
end Go.Proofs.YtbbjfebdihepnaaGreatDoor
