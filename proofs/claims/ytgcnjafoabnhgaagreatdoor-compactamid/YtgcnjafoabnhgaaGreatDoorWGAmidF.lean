/-
  compact: two stores whose records are alike but for where they lie. No Go text is named here.
-/
import Derived.Test.YtgcnjafoabnhgaaGreatDoorWGEndsF
namespace Go.Proofs.YtgcnjafoabnhgaaGreatDoor
namespace Co
open Hp (Pg BlR Bl Wl liveL granted Same)
open Hd (findL)
open Go.Proofs.YtgcnjafoabnhgaaGreatDoor.So (Rec lN lE gV wE wA)
variable {L L' L2 : List Pg} {T T' T2 T2' : List Hd.Sl} {W W' W2 W2' : Int → Int} {q m z : Int}

/-- The words of a record at a are those of one at b. -/
def Rl (W : Int → Int) (a : Int) (W2 : Int → Int) (b : Int) : Prop := W2 (b + 1) = W (a + 1) ∧ ∀ k, 0 ≤ k → k < W (a + 1) → W2 (b + 2 + k) = W (a + 2 + k)
theorem Rl.trans {W3 : Int → Int} {a b c : Int} (h : Rl W a W2 b) (k : Rl W2 b W3 c) : Rl W a W3 c := ⟨k.1.trans h.1, fun i i0 i1 => (k.2 i i0 (by rw [h.1]; exact i1)).trans (h.2 i i0 i1)⟩
theorem Rl.symm {a b : Int} (h : Rl W a W2 b) : Rl W2 b W a := ⟨h.1.symm, fun i i0 i1 => (h.2 i i0 (by rw [← h.1]; exact i1)).symm⟩

def Al (T : List Hd.Sl) (W : Int → Int) (T2 : List Hd.Sl) (W2 : Int → Int) : Prop :=
  T2.length = T.length ∧ ∀ (i : Nat) s, T[i]? = some s → ∃ t, T2[i]? = some t ∧ t.o = s.o ∧ t.g = s.g ∧ (s.o = true → Rl W s.a W2 t.a)

theorem Al.nil : Al [] W [] W2 := ⟨rfl, fun i s h => by simp at h⟩
theorem Al.at2 (h : Al T W T2 W2) {i : Nat} {t : Hd.Sl} (hi : T2[i]? = some t) : ∃ s, T[i]? = some s ∧ t.o = s.o ∧ t.g = s.g ∧ (s.o = true → Rl W s.a W2 t.a) := by
  have hlt := (List.getElem?_eq_some_iff.1 hi).1
  obtain ⟨s, hs⟩ : ∃ s, T[i]? = some s := ⟨_, List.getElem?_eq_getElem (by rw [← h.1]; exact hlt)⟩
  obtain ⟨t', ht, r⟩ := h.2 i s hs
  obtain rfl : t = t' := Option.some.inj (hi.symm.trans ht)
  exact ⟨s, hs, r⟩
theorem Al.symm (h : Al T W T2 W2) : Al T2 W2 T W := ⟨h.1.symm, fun i t hi => by
  obtain ⟨s, hs, ho, hg, hr⟩ := h.at2 hi
  exact ⟨s, hs, ho.symm, hg.symm, fun so => (hr (ho ▸ so)).symm⟩⟩
theorem Al.trans {T3 : List Hd.Sl} {W3 : Int → Int} (h : Al T W T2 W2) (k : Al T2 W2 T3 W3) : Al T W T3 W3 := ⟨k.1.trans h.1, fun i s hi => by
  obtain ⟨t, ht, a1, a2, a3⟩ := h.2 i s hi
  obtain ⟨u, hu, b1, b2, b3⟩ := k.2 i t ht
  exact ⟨u, hu, b1.trans a1, b2.trans a2, fun so => (a3 so).trans (b3 (a1 ▸ so))⟩⟩

/-- What slides keep. -/
theorem Al.wk (r : Rec L W T) (h : Wk T W T' W') : Al T W T' W' := ⟨h.1, fun i s hi => by
  obtain ⟨h1, h2⟩ := h.2 i s hi
  cases so : s.o with
  | false => exact ⟨s, h1 so, so, rfl, fun x => by cases x⟩
  | true =>
    obtain ⟨b, hb, hw⟩ := h2 so
    obtain ⟨_, n0, n1, _⟩ := r.nm i s hi so
    exact ⟨_, hb, rfl, rfl, fun _ => ⟨hw 1 (by omega) (by omega), fun k k0 k1 => by
      have := hw (2 + k) (by omega) (by omega)
      show W' (b + 2 + k) = _
      rw [Int.add_assoc, this, Int.add_assoc]⟩⟩⟩

theorem Al.find (h : Al T W T2 W2) (x : Int) : findL T2 x = findL T x := by
  unfold findL
  split
  · rfl
  · cases hi : T[(x % 4294967296 - 1).toNat]? with
    | none =>
      have : T2[(x % 4294967296 - 1).toNat]? = none := by
        rw [List.getElem?_eq_none_iff] at hi ⊢
        rw [h.1]
        exact hi
      rw [this]
    | some s =>
      obtain ⟨t, ht, ho, hg, _⟩ := h.2 _ _ hi
      rw [ht]
      simp only [ho, hg]

theorem Al.rl (h : Al T W T2 W2) {x : Int} {i : Nat} (hf : findL T x = some i) : findL T2 x = some i ∧ Rl W (Hd.addrAt T i) W2 (Hd.addrAt T2 i) := by
  obtain ⟨s, hs, so, _, _⟩ := Hd.findL_some hf
  obtain ⟨t, ht, _, _, hr⟩ := h.2 i s hs
  have a1 : Hd.addrAt T i = s.a := by simp [Hd.addrAt, hs]
  have a2 : Hd.addrAt T2 i = t.a := by simp [Hd.addrAt, ht]
  exact ⟨(h.find x).trans hf, by rw [a1, a2]; exact hr so⟩

theorem Al.wE (h : Al T W T2 W2) (x k : Int) : So.wE T2 W2 x k = So.wE T W x k := by
  cases hf : findL T x with
  | none => simp [So.wE, hf, h.find x]
  | some i =>
    obtain ⟨h1, h2⟩ := h.rl hf
    simp [So.wE, hf, h1, h2.1]

/-- What the statements' helper tells of a record. -/
theorem Al.wds (h : Al T W T2 W2) (x : Int) : Co.wds T2 W2 x = Co.wds T W x := by
  have hN : lN T2 W2 x = lN T W x := by
    cases hf : findL T x with
    | none => simp [lN, hf, h.find x]
    | some i =>
      obtain ⟨h1, h2⟩ := h.rl hf
      simp [lN, hf, h1, h2.1]
  have hE : lE T2 x = lE T x := by simp only [lE, h.find x]
  have hG : ∀ k : Nat, gV T2 W2 x k = gV T W x k := fun k => by
    unfold gV
    rw [h.wE]
    cases hf : findL T x with
    | none => simp [So.wE, hf]
    | some i =>
      obtain ⟨h1, h2⟩ := h.rl hf
      split
      · next he =>
        have hk : 0 ≤ (k : Int) ∧ (k : Int) < W (Hd.addrAt T i + 1) := by
          simp only [So.wE, hf] at he
          split at he
          · assumption
          · cases he
        simp only [wA, hf, h1]
        exact h2.2 k hk.1 hk.2
      · rfl
  unfold Co.wds wdK
  rw [hN, hE]
  congr 1
  exact List.map_congr_left fun k _ => hG k

/-- The words of blocks kept. -/
theorem Al.same (r : Rec L W T) (h : Same L W W') : Al T W T W' := ⟨rfl, fun i s hi => ⟨s, hi, rfl, rfl, fun so => by
  obtain ⟨_, n0, n1, hb⟩ := r.nm i s hi so
  have hg := So.rm_ge (x := 2 + W (s.a + 1)) ⟨by omega, by omega⟩
  refine ⟨So.Same.at h hb (i := 1) (by omega) (by omega), fun k k0 k1 => ?_⟩
  rw [Int.add_assoc, So.Same.at h hb (i := 2 + k) (by omega) (by omega)]⟩⟩

theorem al_free (h : Al T W T2 W2) : Hd.freeAt z T2 = Hd.freeAt z T := by
  induction T generalizing T2 with
  | nil =>
    obtain rfl : T2 = [] := List.eq_nil_of_length_eq_zero h.1
    rfl
  | cons s T ih =>
    obtain ⟨t, ht, ho, hg, _⟩ := h.2 0 s rfl
    cases T2 with
    | nil => simp at ht
    | cons t' T2 =>
      obtain rfl : t = t' := by simpa using ht.symm
      have h2 : Al T W T2 W2 := ⟨by have := h.1; simpa using this, fun i u hi => h.2 (i + 1) u hi⟩
      have hfr : Hd.fr z t = Hd.fr z s := by simp [Hd.fr, ho, hg]
      simp only [Hd.freeAt, hfr, ih h2]

theorem Al.closed (h : Al T W T2 W2) (i : Nat) (g : Int) (b c : Int) : Al (T.set i ⟨false, g, b⟩) W (T2.set i ⟨false, g, c⟩) W2 := by
  refine ⟨by simp [h.1], fun j s hj => ?_⟩
  by_cases e : i = j
  · subst e
    have hlt := (List.getElem?_eq_some_iff.1 hj).1
    simp at hlt
    rw [List.getElem?_set_self hlt] at hj
    cases hj
    exact ⟨_, List.getElem?_set_self (by rw [h.1]; exact hlt), rfl, rfl, fun x => by cases x⟩
  · rw [List.getElem?_set_ne e] at hj
    rw [List.getElem?_set_ne e]
    exact h.2 j s hj

theorem al_g (h : Al T W T2 W2) (i : Nat) : (T2.getD i ⟨false, 0, 0⟩).g = (T.getD i ⟨false, 0, 0⟩).g := by
  cases hi : T[i]? with
  | none =>
    have : T2[i]? = none := by
      rw [List.getElem?_eq_none_iff] at hi ⊢
      rw [h.1]
      exact hi
    simp [List.getD_eq_getElem?_getD, hi, this]
  | some s =>
    obtain ⟨t, ht, _, hg, _⟩ := h.2 i s hi
    simp [List.getD_eq_getElem?_getD, hi, ht, hg]

/-- A record made in both. -/
theorem Al.make (h : Al T W T2 W2) {a b x y : Int} (a0 : 0 ≤ a) (b0 : 0 ≤ b) (ea : Hd.openL q z T a = (x, 0, T')) (eb : Hd.openL q z T2 b = (y, 0, T2')) (hr : Rl W a W2 b) : y = x ∧ Al T' W T2' W2 := by
  unfold Hd.openL at ea eb
  rw [if_neg (by omega)] at ea eb
  rw [al_free h] at eb
  cases hf : Hd.freeAt z T with
  | some i =>
    rw [hf] at ea eb
    simp only [Prod.mk.injEq, true_and, al_g h i] at ea eb
    obtain ⟨rfl, rfl⟩ := ea
    obtain ⟨rfl, rfl⟩ := eb
    refine ⟨rfl, by simp [h.1], fun j s hj => ?_⟩
    by_cases e : i = j
    · subst e
      have hlt := (List.getElem?_eq_some_iff.1 hj).1
      simp at hlt
      rw [List.getElem?_set_self hlt] at hj
      cases hj
      exact ⟨_, List.getElem?_set_self (by rw [h.1]; exact hlt), rfl, rfl, fun _ => hr⟩
    · rw [List.getElem?_set_ne e] at hj
      rw [List.getElem?_set_ne e]
      exact h.2 j s hj
  | none =>
    rw [hf] at ea eb
    simp only [h.1] at ea eb
    split at ea
    · next hl =>
      rw [if_pos hl] at eb
      simp only [Prod.mk.injEq, true_and] at ea eb
      obtain ⟨rfl, rfl⟩ := ea
      obtain ⟨rfl, rfl⟩ := eb
      refine ⟨rfl, by simp [h.1], fun j s hj => ?_⟩
      by_cases e : j < T.length
      · rw [List.getElem?_append_left e] at hj
        rw [List.getElem?_append_left (by rw [h.1]; exact e)]
        exact h.2 j s hj
      · have hlt := (List.getElem?_eq_some_iff.1 hj).1
        simp at hlt
        obtain rfl : j = T.length := by omega
        rw [List.getElem?_append_right (Nat.le_refl _)] at hj
        simp at hj
        subst hj
        exact ⟨⟨true, 1, b⟩, by rw [← h.1, List.getElem?_append_right (Nat.le_refl _)]; simp, rfl, rfl, fun _ => hr⟩
    · simp at ea

/-- A word put in one record: the others. -/
theorem rl_off (l : Wl L) (r : Rec L W T) {i j : Nat} {s u : Hd.Sl} (hi : T[i]? = some s) (so : s.o = true) (hj : T[j]? = some u) (uo : u.o = true) (hne : u.a ≠ s.a) {k y : Int} (k0 : 0 ≤ k) (k1 : k < W (s.a + 1)) : Rl W u.a (Sl.upd W (s.a + 2 + k) y) u.a := by
  obtain ⟨_, a2, a3, a4⟩ := r.nm i s hi so
  obtain ⟨_, b2, b3, b4⟩ := r.nm j u hj uo
  have g1 := So.rm_ge (x := 2 + W (s.a + 1)) ⟨by omega, by omega⟩
  have g2 := So.rm_ge (x := 2 + W (u.a + 1)) ⟨by omega, by omega⟩
  refine ⟨So.upd_off fun e => ?_, fun n n0 n1 => So.upd_off fun e => ?_⟩
  · have := l.apart b4 a4 hne (i := 1) (j := 2 + k) (by omega) (by omega) (by omega) (by omega)
    omega
  · have := l.apart b4 a4 hne (i := 2 + n) (j := 2 + k) (by omega) (by omega) (by omega) (by omega)
    omega

/-- A word put in both. -/
theorem Al.put {L2 : List Pg} (h : Al T W T2 W2) (l : Wl L) (r : Rec L W T) (hl : T.length ≤ 65536) (l2 : Wl L2) (r2 : Rec L2 W2 T2) (x k y : Int) : Al T (So.pW T W x k y) T2 (So.pW T2 W2 x k y) := by
  unfold So.pW
  rw [h.wE]
  split
  · next he =>
    cases hf : findL T x with
    | none =>
      simp [So.wE, hf] at he
    | some i =>
      obtain ⟨s, hs, so, _, _⟩ := Hd.findL_some hf
      obtain ⟨t, ht, to', tg, hr⟩ := h.2 i s hs
      have hr := hr so
      have a1 : Hd.addrAt T i = s.a := by simp [Hd.addrAt, hs]
      have a2 : Hd.addrAt T2 i = t.a := by simp [Hd.addrAt, ht]
      have hk : 0 ≤ k ∧ k < W (s.a + 1) := by
        simp only [So.wE, hf, a1] at he
        split at he
        · assumption
        · cases he
      simp only [wA, hf, h.find x, a1, a2]
      refine ⟨h.1, fun j u hj => ?_⟩
      obtain ⟨v, hv, vo, vg, hu⟩ := h.2 j u hj
      refine ⟨v, hv, vo, vg, fun uo => ?_⟩
      by_cases e : u.a = s.a
      · obtain rfl := r.inj hl hj hs uo so e
        obtain rfl : u = s := Option.some.inj (hj.symm.trans hs)
        obtain rfl : v = t := Option.some.inj (hv.symm.trans ht)
        have e1 : Sl.upd W (u.a + 2 + k) y (u.a + 1) = W (u.a + 1) := So.upd_off (by omega)
        have e2 : Sl.upd W2 (v.a + 2 + k) y (v.a + 1) = W2 (v.a + 1) := So.upd_off (by omega)
        refine ⟨by rw [e1, e2]; exact hr.1, fun n n0 n1 => ?_⟩
        rw [e1] at n1
        by_cases en : n = k
        · subst en
          simp [Sl.upd]
        · rw [So.upd_off (by omega), So.upd_off (by omega)]
          exact hr.2 n n0 n1
      · have ne2 : v.a ≠ t.a := fun e2 => by
          obtain rfl := r2.inj (by rw [h.1]; exact hl) hv ht (vo.trans uo) (to'.trans so) e2
          obtain rfl : u = s := Option.some.inj (hj.symm.trans hs)
          exact e rfl
        exact ((rl_off l r hs so hj uo e hk.1 hk.2).symm.trans (hu uo)).trans (rl_off l2 r2 ht (to'.trans so) hv (vo.trans uo) ne2 hk.1 (by rw [hr.1]; exact hk.2))
  · exact h

end Co
end Go.Proofs.YtgcnjafoabnhgaaGreatDoor
