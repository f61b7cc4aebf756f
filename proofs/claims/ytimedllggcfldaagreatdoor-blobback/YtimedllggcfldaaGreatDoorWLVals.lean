/-
  A row of handles, and which text each holds, or that it holds none any more.
-/
import Derived.Test.YtimedllggcfldaaGreatDoorWLRoom
import Derived.Test.YtimedllggcfldaaGreatDoorE7
namespace Go.Proofs.YtimedllggcfldaaGreatDoor
open Go.RowKit Go.Maps
namespace Bb
open Hp (Kept K No Pg BlR Bl Wl Same SameBut findB granted)
open Hd (U64 findL openL)
open Go.Proofs.YtimedllggcfldaaGreatDoor.So (Ad Rec Rn Stp sp Hr)
variable {w0 w w' : World} {A : Ad} {pg pg' : List (Int × Nat)} {W W' : Int → Int} {L L' : List Pg} {v v' : Value} {T T' : List Hd.Sl} {hs : List Int} {gone : Nat → Bool} {ts : Nat → ByteArray}

structure Bv (T : List Hd.Sl) (W : Int → Int) (hs : List Int) (gone : Nat → Bool) (ts : Nat → ByteArray) : Prop where
  u : ∀ (k : Nat) x, hs[k]? = some x → U64 x
  live : ∀ (k : Nat) x, hs[k]? = some x → gone k = false → (ts k).size ≤ 1000 ∧ Ho T W x (Tx.wds (Tx.bs (ts k)))
  dead : ∀ (k : Nat) x, hs[k]? = some x → gone k = true → findL T x = none
  nd : ∀ (j k : Nat) x, hs[j]? = some x → hs[k]? = some x → gone j = false → j = k

theorem Bv.nil : Bv T W [] gone ts := ⟨fun k x h => by simp at h, fun k x h => by simp at h, fun k x h => by simp at h, fun j k x h => by simp at h⟩

theorem snoc_get {x y : Int} {k : Nat} (h : (hs ++ [x])[k]? = some y) : (k < hs.length ∧ hs[k]? = some y) ∨ (k = hs.length ∧ y = x) := by
  by_cases hk : k < hs.length
  · rw [List.getElem?_append_left hk] at h
    exact .inl ⟨hk, h⟩
  · have hl := (List.getElem?_eq_some_iff.1 h).1
    simp at hl
    have e : k = hs.length := by omega
    subst e
    rw [List.getElem?_append_right (Nat.le_refl _)] at h
    simp at h
    exact .inr ⟨rfl, h.symm⟩

theorem Bv.put (b : Bv T W hs gone ts) {x : Int} {t : ByteArray} (ht : t.size ≤ 1000) {pg' : List (Int × Nat)} {W' : Int → Int} {v' : Value} {T' : List Hd.Sl} (f : Fits w0 w w' A pg W v T L' x (Tx.wds (Tx.bs t)) pg' W' v' T') (hx : U64 x) (x0 : x ≠ 0) (hz : ∀ (k : Nat) y, hs[k]? = some y → gone k = true → y = 0) (hg : gone hs.length = false) (e : ts hs.length = t) : Bv T' W' (hs ++ [x]) gone ts := by
  refine ⟨fun k y hy => ?_, fun k y hy hk => ?_, fun k y hy hk => ?_, fun j k y hj hk gj => ?_⟩
  · rcases snoc_get hy with ⟨_, h⟩ | ⟨_, rfl⟩
    · exact b.u k y h
    · exact hx
  · rcases snoc_get hy with ⟨_, h⟩ | ⟨rfl, rfl⟩
    · obtain ⟨h1, h2⟩ := b.live k y h hk
      exact ⟨h1, (f.old _ _ h2).2⟩
    · rw [e]
      exact ⟨ht, f.ho⟩
  · rcases snoc_get hy with ⟨_, h⟩ | ⟨rfl, rfl⟩
    · have := hz k y h hk
      rw [f.off y (by omega)]
      exact b.dead k y h hk
    · rw [hg] at hk
      cases hk
  · rcases snoc_get hj with ⟨hl, h⟩ | ⟨rfl, rfl⟩
    · rcases snoc_get hk with ⟨_, h'⟩ | ⟨rfl, rfl⟩
      · exact b.nd j k y h h' gj
      · exact absurd rfl (f.old _ _ (b.live j y h gj).2).1
    · rcases snoc_get hk with ⟨_, h'⟩ | ⟨rfl, _⟩
      · exfalso
        cases gk : gone k with
        | false => exact absurd rfl (f.old _ _ (b.live k y h' gk).2).1
        | true => exact x0 (hz k y h' gk)
      · rfl

theorem Bv.none (b : Bv T W hs gone ts) (hg : gone hs.length = true) : Bv T W (hs ++ [0]) gone ts := by
  refine ⟨fun k y hy => ?_, fun k y hy hk => ?_, fun k y hy hk => ?_, fun j k y hj hk gj => ?_⟩
  · rcases snoc_get hy with ⟨_, h⟩ | ⟨_, rfl⟩
    · exact b.u k y h
    · exact ⟨by decide, by decide⟩
  · rcases snoc_get hy with ⟨_, h⟩ | ⟨rfl, rfl⟩
    · exact b.live k y h hk
    · rw [hg] at hk
      cases hk
  · rcases snoc_get hy with ⟨_, h⟩ | ⟨rfl, rfl⟩
    · exact b.dead k y h hk
    · exact find_zero T
  · rcases snoc_get hj with ⟨_, h⟩ | ⟨rfl, rfl⟩
    · rcases snoc_get hk with ⟨_, h'⟩ | ⟨rfl, rfl⟩
      · exact b.nd j k y h h' gj
      · have := (b.live j _ h gj).2.1
        rw [find_zero] at this
        cases this
    · rw [hg] at gj
      cases gj

theorem Bv.drop (b : Bv T W hs gone ts) (r : Rec L W T) (hl : T.length ≤ 65536) {k : Nat} {x : Int} (hk : hs[k]? = some x) {i : Nat} {s : Hd.Sl} (hf : findL T x = some i) (hs' : T[i]? = some s) {p : Pg} {q : Int} (hfb : findB L s.a = some (p, q)) (hsb : SameBut L p q W W') (gk : gone k = false) : Bv (T.set i ⟨false, s.g, 0⟩) W' hs (fun j => if j = k then true else gone j) ts := by
  obtain ⟨d1, d2⟩ := find_drop hf hs'
  refine ⟨b.u, fun j y hj gj => ?_, fun j y hj gj => ?_, fun j l y hj hl' gj => ?_⟩
  · by_cases e : j = k
    · rw [if_pos e] at gj
      cases gj
    · rw [if_neg e] at gj
      obtain ⟨h1, h2⟩ := b.live j y hj gj
      refine ⟨h1, h2.drop r hl hf hs' hfb hsb (fun e2 => e (b.nd j k y hj (by rw [e2]; exact hk) gj))⟩
  · by_cases e : j = k
    · subst e
      rw [hk] at hj
      cases hj
      exact d1
    · rw [if_neg e] at gj
      have := b.dead j y hj gj
      by_cases e2 : y = x
      · rw [e2]; exact d1
      · rw [(d2 y e2).1]; exact this
  · by_cases e : j = k
    · rw [if_pos e] at gj
      cases gj
    · rw [if_neg e] at gj
      exact b.nd j l y hj hl' gj

/-- What Get tells of the k-th. -/
theorem Bv.get (b : Bv T W hs gone ts) (h : Rn w0 w A pg W L v T) {k : Nat} {x : Int} (hk : hs[k]? = some x) : Calls Tryz.prog 15 #[sp A.st, .int .u64 x] w fun e w' => e = .returned (.tuple #[.string (if gone k = true then ⟨#[]⟩ else ts k), .int .i64 (if gone k = true then 7 else 0)]) ∧ K w w' := by
  cases g : gone k with
  | true => exact get_gone h (b.u k x hk) (b.dead k x hk g)
  | false =>
    obtain ⟨h1, h2⟩ := b.live k x hk g
    exact get_held h (b.u k x hk) h1 h2

/-- Drop of the k-th. -/
theorem Bv.dropOk (b : Bv T W hs gone ts) (h : Rn w0 w A pg W L v T) {k : Nat} {x : Int} (hk : hs[k]? = some x) (gk : gone k = false) : Calls Tryz.prog 17 #[sp A.st, .int .u64 x] w fun e w' => e = .returned (.int .i64 0) ∧ Aside (∃ pg' W' L' T', Rn w0 w' A pg' W' L' v T' ∧ T'.length = T.length ∧ Bv T' W' hs (fun j => if j = k then true else gone j) ts ∧ Stp A pg pg' v v w w') := by
  obtain ⟨h1, h2⟩ := b.live k x hk gk
  obtain ⟨_, he⟩ := h2.get (by rw [Tx.bs_len]; exact h1)
  obtain ⟨i, hi⟩ := Option.isSome_iff_exists.1 h2.1
  obtain ⟨s, hs', so, _, _⟩ := Hd.findL_some hi
  obtain ⟨_, _, _, hb⟩ := h.s.r.nm i s hs' so
  obtain ⟨⟨p, q⟩, hfb⟩ := h.s.b.wl.find_iff.1 hb.bl
  refine (drop_ok h (b.u k x hk) he hi hs' hfb).mono ?_
  rintro e w2 ⟨rfl, pg', W', rn, sb, st⟩
  exact ⟨rfl, pg', W', _, _, rn, by simp, b.drop h.s.r h.s.b.tl hk hi hs' hfb sb gk, st⟩
theorem Bv.dropNo (b : Bv T W hs gone ts) (h : Rn w0 w A pg W L v T) {k : Nat} {x : Int} (hk : hs[k]? = some x) (gk : gone k = true) : Calls Tryz.prog 17 #[sp A.st, .int .u64 x] w fun e w' => e = .returned (.int .i64 7) ∧ K w w' := by
  obtain ⟨_, he⟩ := get_none (W := W) (b.dead k x hk gk)
  have := drop_no h.s (b.u k x hk) (by rw [he]; rfl)
  rw [he] at this
  exact this

end Bb
end Go.Proofs.YtimedllggcfldaaGreatDoor
