/-
  Handles that were told and the addresses that they were given last, held against the slots. No Go text is named here.
-/
import Derived.Test.YtfokpiapaacagaaDEndsF
namespace Go.Proofs.Ytfokpiapaacagaa
namespace Hd
variable {q z : Int} {L L' : List Sl} {Hs As : List Int}

/-- A handle that was told: its slot is there, and its generation is none that is to come. -/
def Told (L : List Sl) (h : Int) : Prop := ∃ (i : Nat) (g : Int) (s : Sl), h = nm (i + 1) g ∧ L[i]? = some s ∧ 1 ≤ g ∧ g ≤ s.g

structure Inv (L : List Sl) (Hs As : List Int) : Prop where
  len : As.length = Hs.length
  told : ∀ (n : Nat) (h : Int), Hs[n]? = some h → Told L h
  dead : ∀ (n : Nat) (h a : Int), Hs[n]? = some h → As[n]? = some a → a < 0 → findL L h = none
  live : ∀ (n : Nat) (h a : Int), Hs[n]? = some h → As[n]? = some a → 0 ≤ a → ∃ i s, findL L h = some i ∧ L[i]? = some s ∧ s.a = a
  once : ∀ (m n : Nat) (h : Int), Hs[m]? = some h → Hs[n]? = some h → m = n

theorem Inv.nil (L : List Sl) : Inv L [] [] := ⟨rfl, fun n h e => by simp at e, fun n h a e => by simp at e, fun n h a e => by simp at e, fun m n h e => by simp at e⟩

theorem idx_lt (h : Wf q z L) {i : Nat} {s : Sl} (hs : L[i]? = some s) : i < 65536 := by
  have h1 := (List.getElem?_eq_some_iff.1 hs).1
  have h2 := h.len
  have h3 := h.q1
  omega

/-- What a handle tells of the slots where slot i is laid anew. -/
theorem findL_set (hw : Wf q z L) {i j : Nat} {g : Int} {s t u : Sl} (hs : L[i]? = some s) (ht : L[j]? = some t) : findL (L.set i u) (nm (j + 1) g) = if i = j then (if u.o = true ∧ u.g = g then some j else none) else findL L (nm (j + 1) g) := by
  have hj := idx_lt hw ht
  have hi := (List.getElem?_eq_some_iff.1 hs).1
  by_cases e : i = j
  · subst e
    rw [if_pos rfl]
    exact findL_nm (by rw [List.getElem?_set_self hi]) (by omega)
  · rw [if_neg e, findL_nm (s := t) (by rw [List.getElem?_set_ne e]; exact ht) (by omega), findL_nm ht (by omega)]

theorem told_set {i : Nat} {s u : Sl} {h : Int} (hs : L[i]? = some s) (hg : s.g ≤ u.g) (ht : Told L h) : Told (L.set i u) h := by
  obtain ⟨j, g, t, e, hj, g1, g2⟩ := ht
  have hi := (List.getElem?_eq_some_iff.1 hs).1
  by_cases e2 : i = j
  · subst e2
    obtain rfl : s = t := Option.some.inj (hs.symm.trans hj)
    exact ⟨i, g, u, e, by rw [List.getElem?_set_self hi], g1, by omega⟩
  · exact ⟨j, g, t, e, by rw [List.getElem?_set_ne e2]; exact hj, g1, g2⟩

theorem told_app {s : Sl} {h : Int} (ht : Told L h) : Told (L ++ [s]) h := by
  obtain ⟨j, g, t, e, hj, g1, g2⟩ := ht
  exact ⟨j, g, t, e, by rw [List.getElem?_append_left (List.getElem?_eq_some_iff.1 hj).1]; exact hj, g1, g2⟩

theorem findL_app {s : Sl} {h : Int} (hw : Wf q z L) (ht : Told L h) : findL (L ++ [s]) h = findL L h := by
  obtain ⟨j, g, t, rfl, hj, g1, g2⟩ := ht
  have := idx_lt hw hj
  rw [findL_nm (s := t) (by rw [List.getElem?_append_left (List.getElem?_eq_some_iff.1 hj).1]; exact hj) (by omega), findL_nm hj (by omega)]

theorem app_cases {xs : List Int} {x y : Int} {n : Nat} (h : (xs ++ [x])[n]? = some y) : (n < xs.length ∧ xs[n]? = some y) ∨ (n = xs.length ∧ y = x) := by
  rw [List.getElem?_append] at h
  split at h
  · next hl => exact .inl ⟨hl, h⟩
  · next hl =>
    obtain ⟨h1, h2⟩ := List.getElem?_eq_some_iff.1 h
    simp at h1
    have : n - xs.length = 0 := by omega
    simp [this] at h2
    exact .inr ⟨by omega, h2.symm⟩

/-- Behind an opening: a new handle, and the others are as they were. -/
theorem Inv.grow (hi : Inv L Hs As) {x a : Int} (a0 : 0 ≤ a) (hx : Told L' x) (hl : ∃ i s, findL L' x = some i ∧ L'[i]? = some s ∧ s.a = a) (told : ∀ h, Told L h → Told L' h) (find : ∀ (n : Nat) h, Hs[n]? = some h → findL L' h = findL L h) (slot : ∀ (n : Nat) h i s, Hs[n]? = some h → findL L h = some i → L[i]? = some s → L'[i]? = some s) (hn : ∀ n : Nat, Hs[n]? ≠ some x) : Inv L' (Hs ++ [x]) (As ++ [a]) := by
  have hlen := hi.len
  refine ⟨by simp [hlen], fun n h e => ?_, fun n h b e e2 hb => ?_, fun n h b e e2 hb => ?_, fun m n h e e2 => ?_⟩
  · rcases app_cases e with ⟨_, e⟩ | ⟨_, rfl⟩
    · exact told h (hi.told n h e)
    · exact hx
  · rcases app_cases e with ⟨h1, e⟩ | ⟨h1, rfl⟩ <;> rcases app_cases e2 with ⟨h3, e2⟩ | ⟨h3, rfl⟩ <;> try omega
    rw [find n h e]
    exact hi.dead n h b e e2 hb
  · rcases app_cases e with ⟨h1, e5⟩ | ⟨h1, e5⟩
    · rcases app_cases e2 with ⟨h3, e6⟩ | ⟨h3, e6⟩
      · obtain ⟨i, s, f1, f2, f3⟩ := hi.live n h b e5 e6 hb
        exact ⟨i, s, by rw [find n h e5]; exact f1, slot n h i s e5 f1 f2, f3⟩
      · omega
    · rcases app_cases e2 with ⟨h3, e6⟩ | ⟨h3, e6⟩
      · omega
      · rw [e5, e6]
        exact hl
  · rcases app_cases e with ⟨h1, e5⟩ | ⟨h1, e5⟩
    · rcases app_cases e2 with ⟨h3, e6⟩ | ⟨h3, e6⟩
      · exact hi.once m n h e5 e6
      · rw [e6] at e5
        exact absurd e5 (hn m)
    · rcases app_cases e2 with ⟨h3, e6⟩ | ⟨h3, e6⟩
      · rw [e5] at e6
        exact absurd e6 (hn n)
      · omega

theorem Inv.open (hi : Inv L Hs As) (hw : Wf q z L) {a x : Int} (e : openL q z L a = (x, 0, L')) : 0 ≤ a ∧ (∀ n : Nat, Hs[n]? ≠ some x) ∧ Inv L' (Hs ++ [x]) (As ++ [a]) := by
  by_cases a0 : a < 0
  · rw [openL_neg a0] at e
    simp at e
  have a0' : 0 ≤ a := by omega
  refine ⟨a0', ?_⟩
  cases hf : freeAt z L with
  | some i =>
    obtain ⟨s, hs, hfr, _⟩ := freeAt_some hf
    rw [openL_free a0' hf hs] at e
    simp only [Prod.mk.injEq, true_and] at e
    obtain ⟨rfl, rfl⟩ := e
    have hil := idx_lt hw hs
    have hi2 := (List.getElem?_eq_some_iff.1 hs).1
    have hso : s.o = false := by
      simp [fr] at hfr
      exact hfr.1
    have g1 := (hw.get hs).lo
    have hn : ∀ n : Nat, Hs[n]? ≠ some (nm (i + 1) (s.g + 1)) := fun n hx => by
      obtain ⟨j, g, t, e, hj, _, g2⟩ := hi.told n _ hx
      have hjl := idx_lt hw hj
      obtain ⟨e1, e2⟩ := nm_inj e (by omega) (by omega) (by omega) (by omega)
      obtain rfl : i = j := by omega
      obtain rfl : s = t := Option.some.inj (hs.symm.trans hj)
      omega
    refine ⟨hn, hi.grow a0' ⟨i, s.g + 1, _, rfl, List.getElem?_set_self hi2, by omega, Int.le_refl _⟩ ⟨i, _, ?_, List.getElem?_set_self hi2, rfl⟩ (fun h ht => told_set hs (by simp; omega) ht) (fun n h hh => ?_) (fun n h j t hh hfi ht => ?_) hn⟩
    · rw [findL_set hw hs hs, if_pos rfl, if_pos ⟨rfl, rfl⟩]
    · obtain ⟨j, g, t, rfl, hj, _, g2⟩ := hi.told n _ hh
      rw [findL_set hw hs hj]
      split
      · next e =>
        subst e
        obtain rfl : s = t := Option.some.inj (hs.symm.trans hj)
        rw [if_neg (by simp; omega), findL_nm hs (by omega), if_neg (by simp [hso])]
      · rfl
    · obtain ⟨t', ht', ho, _⟩ := findL_some hfi
      obtain rfl : t = t' := Option.some.inj (ht.symm.trans ht')
      have : i ≠ j := fun e => by
        subst e
        obtain rfl : s = t := Option.some.inj (hs.symm.trans ht)
        rw [hso] at ho
        cases ho
      rw [List.getElem?_set_ne this]
      exact ht
  | none =>
    by_cases hl : (L.length : Int) < q
    · rw [openL_new a0' hf hl] at e
      simp only [Prod.mk.injEq, true_and] at e
      obtain ⟨rfl, rfl⟩ := e
      have hq := hw.q1
      have hlast : ∀ s : Sl, (L ++ [s])[L.length]? = some s := fun s => by simp
      have hn : ∀ n : Nat, Hs[n]? ≠ some (nm (L.length + 1) 1) := fun n hx => by
        obtain ⟨j, g, t, e, hj, _, g2⟩ := hi.told n _ hx
        have hjl := idx_lt hw hj
        have := (List.getElem?_eq_some_iff.1 hj).1
        obtain ⟨e1, e2⟩ := nm_inj e (by omega) (by omega) (by omega) (by omega)
        omega
      refine ⟨hn, hi.grow a0' ⟨L.length, 1, _, rfl, hlast _, by omega, Int.le_refl _⟩ ⟨L.length, _, ?_, hlast _, rfl⟩ (fun h ht => told_app ht) (fun n h hh => findL_app hw (hi.told n h hh)) (fun n h j t hh hfi ht => ?_) hn⟩
      · rw [findL_nm (hlast _) (by omega), if_pos ⟨rfl, rfl⟩]
      · rw [List.getElem?_append_left (List.getElem?_eq_some_iff.1 ht).1]
        exact ht
    · rw [openL_full a0' hf (by omega)] at e
      simp at e

theorem openL_err {a y er : Int} {L1 : List Sl} (h : openL q z L a = (y, er, L1)) (her : er ≠ 0) : L1 = L := by
  unfold openL at h
  split at h
  · cases h; rfl
  · split at h
    · cases h; exact absurd rfl her
    · split at h
      · cases h; exact absurd rfl her
      · cases h; rfl

/-- A live handle's slot is laid anew, in the same generation: of the handles only that one's address may turn. -/
theorem Inv.lay (hi : Inv L Hs As) (hw : Wf q z L) {k i : Nat} {h b : Int} {s u : Sl} (hk : Hs[k]? = some h) (hf : findL L h = some i) (hs : L[i]? = some s) (hg : u.g = s.g) (hb : (b < 0 ∧ u.o = false) ∨ (0 ≤ b ∧ u.o = true ∧ u.a = b)) : Inv (L.set i u) Hs (As.set k b) := by
  obtain ⟨s', hs', ho, hgh, him⟩ := findL_some hf
  obtain rfl : s = s' := Option.some.inj (hs.symm.trans hs')
  have hi2 := (List.getElem?_eq_some_iff.1 hs).1
  have hil := idx_lt hw hs
  have hh : h = nm (i + 1) s.g := by unfold nm; omega
  have same : ∀ (n : Nat) x, Hs[n]? = some x → n ≠ k → findL L x ≠ some i := fun n x hx hne hfx => by
    obtain ⟨t, ht, _, hgx, hix⟩ := findL_some hfx
    obtain rfl : s = t := Option.some.inj (hs.symm.trans ht)
    have : x = h := by omega
    subst this
    exact hne (hi.once n k _ hx hk)
  have find : ∀ (n : Nat) x, Hs[n]? = some x → n ≠ k → findL (L.set i u) x = findL L x := fun n x hx hne => by
    obtain ⟨j, g, t, rfl, hj, _, g2⟩ := hi.told n _ hx
    have hne2 := same n _ hx hne
    rw [findL_set hw hs hj]
    split
    · next e =>
      subst e
      obtain rfl : s = t := Option.some.inj (hs.symm.trans hj)
      rw [findL_nm hs (by omega)] at hne2 ⊢
      have hg2 : s.g ≠ g := fun e => hne2 (by rw [if_pos ⟨ho, e⟩])
      rw [if_neg (fun c => hg2 (hg.symm.trans c.2)), if_neg (fun c => hg2 c.2)]
    · rfl
  have fk : findL (L.set i u) h = if u.o = true then some i else none := by
    rw [hh, findL_set hw hs hs, if_pos rfl]
    simp [hg]
  have ask : ∀ (n : Nat) a, (As.set k b)[n]? = some a → (n = k ∧ a = b) ∨ (n ≠ k ∧ As[n]? = some a) := fun n a hn => by
    by_cases e : k = n
    · subst e
      rw [List.getElem?_set] at hn
      simp at hn
      exact .inl ⟨rfl, hn.2.symm⟩
    · rw [List.getElem?_set_ne e] at hn
      exact .inr ⟨fun e2 => e e2.symm, hn⟩
  refine ⟨by rw [List.length_set]; exact hi.len, fun n x hx => told_set hs (by omega) (hi.told n x hx), fun n x a hx ha hneg => ?_, fun n x a hx ha hpos => ?_, hi.once⟩
  · rcases ask n a ha with ⟨rfl, rfl⟩ | ⟨hne, ha⟩
    · obtain rfl : x = h := Option.some.inj (hx.symm.trans hk)
      rcases hb with ⟨_, h2⟩ | ⟨h1, _⟩
      · rw [fk, h2]; rfl
      · omega
    · rw [find n x hx hne]
      exact hi.dead n x a hx ha hneg
  · rcases ask n a ha with ⟨rfl, rfl⟩ | ⟨hne, ha⟩
    · obtain rfl : x = h := Option.some.inj (hx.symm.trans hk)
      rcases hb with ⟨h1, _⟩ | ⟨_, h2, h3⟩
      · omega
      · exact ⟨i, u, by rw [fk, h2]; rfl, List.getElem?_set_self hi2, h3⟩
    · obtain ⟨j, t, f1, f2, f3⟩ := hi.live n x a hx ha hpos
      have : i ≠ j := fun e => by
        subst e
        exact same n x hx hne f1
      exact ⟨j, t, by rw [find n x hx hne]; exact f1, by rw [List.getElem?_set_ne this]; exact f2, f3⟩

/-- What is told of a handle's address. -/
theorem Inv.at (hi : Inv L Hs As) {n : Nat} {h b : Int} (hh : Hs[n]? = some h) (hb : As[n]? = some b) : (b < 0 ∧ atL L h = (0, 7)) ∨ (0 ≤ b ∧ atL L h = (b, 0)) := by
  by_cases b0 : b < 0
  · exact .inl ⟨b0, atL_none (hi.dead n h b hh hb b0)⟩
  · obtain ⟨i, s, f1, f2, f3⟩ := hi.live n h b hh hb (by omega)
    exact .inr ⟨by omega, by rw [atL_some f1 f2, f3]⟩

theorem Inv.move (hi : Inv L Hs As) (hw : Wf q z L) {k : Nat} {h b a : Int} (hh : Hs[k]? = some h) (hb : As[k]? = some b) :
    (0 ≤ b ∧ 0 ≤ a ∧ (moveL L h a).1 = 0 ∧ Inv (moveL L h a).2 Hs (As.set k a)) ∨ ((b < 0 ∨ a < 0) ∧ (moveL L h a).1 ≠ 0 ∧ (moveL L h a).2 = L) := by
  by_cases a0 : a < 0
  · rw [moveL_neg a0]
    exact .inr ⟨.inr a0, by simp, rfl⟩
  by_cases b0 : b < 0
  · rw [moveL_none (by omega) (hi.dead k h b hh hb b0)]
    exact .inr ⟨.inl b0, by simp, rfl⟩
  · obtain ⟨i, s, f1, f2, f3⟩ := hi.live k h b hh hb (by omega)
    rw [moveL_some (by omega) f1 f2]
    exact .inl ⟨by omega, by omega, rfl, hi.lay hw hh f1 f2 rfl (.inr ⟨by omega, rfl, rfl⟩)⟩

theorem Inv.close (hi : Inv L Hs As) (hw : Wf q z L) {k : Nat} {h b : Int} (hh : Hs[k]? = some h) (hb : As[k]? = some b) :
    ((0 ≤ b ∧ (closeL L h).1 = 0) ∨ (b < 0 ∧ (closeL L h).1 = 7)) ∧ Inv (closeL L h).2 Hs (As.set k (-1)) := by
  by_cases b0 : b < 0
  · have hf := hi.dead k h b hh hb b0
    rw [closeL_none hf]
    refine ⟨.inr ⟨b0, rfl⟩, by rw [List.length_set]; exact hi.len, hi.told, fun n x a hx ha hneg => ?_, fun n x a hx ha hpos => ?_, hi.once⟩
    · by_cases e : k = n
      · subst e
        obtain rfl : x = h := Option.some.inj (hx.symm.trans hh)
        exact hf
      · rw [List.getElem?_set_ne e] at ha
        exact hi.dead n x a hx ha hneg
    · by_cases e : k = n
      · subst e
        rw [List.getElem?_set] at ha
        simp at ha
        omega
      · rw [List.getElem?_set_ne e] at ha
        exact hi.live n x a hx ha hpos
  · obtain ⟨i, s, f1, f2, f3⟩ := hi.live k h b hh hb (by omega)
    rw [closeL_some f1 f2]
    exact ⟨.inl ⟨by omega, rfl⟩, hi.lay hw hh f1 f2 rfl (.inl ⟨by decide, rfl⟩)⟩

theorem told_u64 (hw : Wf q z L) {h : Int} (ht : Told L h) : 0 ≤ h ∧ h ≤ 18446744073709551615 := by
  obtain ⟨j, g, t, rfl, hj, g1, g2⟩ := ht
  have h1 := idx_lt hw hj
  have h2 := (hw.get hj).hi
  have h3 := hw.z1
  unfold nm
  omega

end Hd
end Go.Proofs.Ytfokpiapaacagaa
