/-
  pagesFor, Pages, Slots and Place, each for any numbers, with what has been kept since B.
-/
import Derived.Test.YtlpdgomoepinjaaDoorCOf
import Derived.Handy
import Derived.WalkSpells
namespace Go.Proofs.YtlpdgomoepinjaaDoor
open Go.RowKit
namespace Cl

theorem of_s (B : World) (n : Int) (w : World) (s : K B w) : Calls Tryd.prog 16 #[.int .i64 n] w fun e W' => e = .returned (.tuple #[.int .i64 (clsI n), .bool (smaI n), .int .i64 (errW n)]) ∧ K B W' :=
  (of_any n w).mono fun _ _ r => ⟨r.1, s.trans r.2⟩
theorem size_s (B : World) (c : Int) (w : World) (s : K B w) : Calls Tryd.prog 64 #[.int .i64 c] w fun e W' => e = .returned (.tuple #[.int .i64 (sizI c), .int .i64 (errC c)]) ∧ K B W' :=
  (size_any c w).mono fun _ _ r => ⟨r.1, s.trans r.2⟩

theorem pagesFor_ok (n : Int) (h0 : 3 ≤ n) (h1 : n ≤ 4002) (w : World) : Calls Tryd.prog 57 #[.int .i64 n] w fun e W' => e = .returned (.int .i64 ((n + 64 - 1) / 64)) ∧ w = W' := by
  go_enter Tryd.func57, Tryd.ntmps57
  go_wp2
  go_ret
  exact ⟨rfl, rfl⟩

theorem pages_any (n : Int) (w : World) : Calls Tryd.prog 33 #[.int .i64 n] w fun e W' => e = .returned (.tuple #[.int .i64 (pagI n), .int .i64 (errW n)]) ∧ K w W' := by
  have co := of_any n w
  by_cases h : Wd n
  · have h0 := h.1
    have h1 := h.2
    rw [errW_in h] at co ⊢
    cases hs : smaI n with
    | true =>
      have hp : pagI n = 1 := by
        rw [pagI_in h]
        have hl : n ≤ 28 := by rcases of_cases n h with c | c | c | c | c | c | c | c | c <;> simp_all <;> omega
        omega
      rw [hs] at co
      rw [hp]
      generalize clsI n = x at co
      go_enter Tryd.func33, Tryd.ntmps33
      go_wp2_with (go_at_call 16; refine co.mono ?_; rintro e w2 ⟨rfl, k2⟩)
      go_ret2
      exact ⟨rfl, k2⟩
    | false =>
      have hp : pagI n = (2 + n + 64 - 1) / 64 := by
        rw [pagI_in h]
        omega
      rw [hs] at co
      rw [hp]
      generalize clsI n = x at co
      go_enter Tryd.func33, Tryd.ntmps33
      go_wp2_with (first
        | (go_at_call 16; refine co.mono ?_; rintro e w2 ⟨rfl, k2⟩)
        | (go_at_call 57; refine (pagesFor_ok (2 + n) (by omega) (by omega) _).mono ?_; rintro e w3 ⟨rfl, rfl⟩))
      go_ret2
      exact ⟨rfl, k2⟩
  · rw [errW_out h] at co ⊢
    rw [pagI_out h]
    generalize clsI n = x at co
    generalize smaI n = y at co
    go_enter Tryd.func33, Tryd.ntmps33
    go_wp2_with (go_at_call 16; refine co.mono ?_; rintro e w2 ⟨rfl, k2⟩)
    go_ret2
    exact ⟨rfl, k2⟩

theorem siz_in {c : Int} (h : errC c = 0) : 2 ≤ sizI c ∧ sizI c ≤ 28 ∧ sloI c = 62 / sizI c ∧ C c := by
  rcases siz_cases c with ⟨rfl, a, _, b⟩ | ⟨rfl, a, _, b⟩ | ⟨rfl, a, _, b⟩ | ⟨rfl, a, _, b⟩ | ⟨rfl, a, _, b⟩ | ⟨rfl, a, _, b⟩ | ⟨rfl, a, _, b⟩ | ⟨rfl, a, _, b⟩ | ⟨_, _, b, _⟩
  case inr.inr.inr.inr.inr.inr.inr.inr => omega
  all_goals
    rw [a, b]
    unfold C
    decide
theorem siz_out {c : Int} (h : errC c ≠ 0) : sizI c = 0 ∧ sloI c = 0 ∧ errC c = 2 ∧ ¬ C c := by
  rcases siz_cases c with ⟨_, _, a, _⟩ | ⟨_, _, a, _⟩ | ⟨_, _, a, _⟩ | ⟨_, _, a, _⟩ | ⟨_, _, a, _⟩ | ⟨_, _, a, _⟩ | ⟨_, _, a, _⟩ | ⟨_, _, a, _⟩ | ⟨a, b, c, d⟩
  case inr.inr.inr.inr.inr.inr.inr.inr => exact ⟨b, d, c, a⟩
  all_goals exact absurd a h

theorem slots_any (c : Int) (w : World) : Calls Tryd.prog 70 #[.int .i64 c] w fun e W' => e = .returned (.tuple #[.int .i64 (sloI c), .int .i64 (errC c)]) ∧ K w W' := by
  have cs := size_any c w
  by_cases he : errC c = 0
  · obtain ⟨s0, s1, hq, _⟩ := siz_in he
    rw [he] at cs ⊢
    rw [hq]
    clear hq
    generalize sizI c = s at cs s0 s1
    have hs : 0 < s := by omega
    go_enter Tryd.func70, Tryd.ntmps70
    go_wp2_with (go_at_call 64; refine cs.mono ?_; rintro e w2 ⟨rfl, k2⟩)
    go_ret2
    exact ⟨rfl, k2⟩
  · obtain ⟨h1, h2, h3, _⟩ := siz_out he
    rw [h1, h3] at cs
    rw [h2, h3]
    go_enter Tryd.func70, Tryd.ntmps70
    go_wp2_with (go_at_call 64; refine cs.mono ?_; rintro e w2 ⟨rfl, k2⟩)
    go_ret2
    exact ⟨rfl, k2⟩

theorem slots_s (B : World) (c : Int) (w : World) (s : K B w) : Calls Tryd.prog 70 #[.int .i64 c] w fun e W' => e = .returned (.tuple #[.int .i64 (sloI c), .int .i64 (errC c)]) ∧ K B W' :=
  (slots_any c w).mono fun _ _ r => ⟨r.1, s.trans r.2⟩
theorem pages_s (B : World) (n : Int) (w : World) (s : K B w) : Calls Tryd.prog 33 #[.int .i64 n] w fun e W' => e = .returned (.tuple #[.int .i64 (pagI n), .int .i64 (errW n)]) ∧ K B W' :=
  (pages_any n w).mono fun _ _ r => ⟨r.1, s.trans r.2⟩

/-- A slot of the class. -/
def Sl (c a : Int) : Prop := 0 ≤ a ∧ a < sloI c
def plaI (c a : Int) : Int := if 0 ≤ a ∧ a < sloI c then 2 + a * sizI c else 0
def errP (c a : Int) : Int := if 0 ≤ a ∧ a < sloI c then 0 else 2
theorem plaI_in {c a : Int} (h : Sl c a) : plaI c a = 2 + a * sizI c := if_pos h
theorem plaI_out {c a : Int} (h : ¬ Sl c a) : plaI c a = 0 := if_neg h
theorem errP_in {c a : Int} (h : Sl c a) : errP c a = 0 := if_pos h
theorem errP_out {c a : Int} (h : ¬ Sl c a) : errP c a = 2 := if_neg h

/-- What a slot's place has about it. -/
theorem slot_fits {c a : Int} (he : errC c = 0) (h : Sl c a) : 0 ≤ a * sizI c ∧ a * sizI c + sizI c ≤ 62 := by
  obtain ⟨a0, a1⟩ := h
  rcases siz_cases c with ⟨_, b, _, d⟩ | ⟨_, b, _, d⟩ | ⟨_, b, _, d⟩ | ⟨_, b, _, d⟩ | ⟨_, b, _, d⟩ | ⟨_, b, _, d⟩ | ⟨_, b, _, d⟩ | ⟨_, b, _, d⟩ | ⟨_, _, b, _⟩
  case inr.inr.inr.inr.inr.inr.inr.inr => omega
  all_goals
    rw [d] at a1
    rw [b]
    omega

theorem place_any (c a : Int) (w : World) : Calls Tryd.prog 71 #[.int .i64 c, .int .i64 a] w fun e W' => e = .returned (.tuple #[.int .i64 (plaI c a), .int .i64 (errP c a)]) ∧ K w W' := by
  have cl := slots_any c w
  have cs := size_s w c
  by_cases he : errC c = 0
  · by_cases h : Sl c a
    · obtain ⟨m0, m1⟩ := slot_fits he h
      have hs := (siz_in he).1
      rw [errP_in h, plaI_in h]
      obtain ⟨a0, a1⟩ := h
      have hn : ¬ a < 0 := by omega
      have hn2 : ¬ sloI c ≤ a := by omega
      rw [he] at cl cs
      generalize hm : a * sizI c = m at m0 m1 ⊢
      have m2 : m ≤ 62 := by omega
      clear m1 hs
      generalize sizI c = s at hm cs
      generalize sloI c = q at cl a1 hn2
      have key : wrap64 (a * s) = m := by rw [hm]; unfold wrap64; omega
      go_enter Tryd.func71, Tryd.ntmps71
      go_wp2_with (first
        | (go_at_call 70; refine cl.mono ?_; rintro e w2 ⟨rfl, k2⟩)
        | (go_at_call 64; refine (cs _ (by assumption)).mono ?_; rintro e w3 ⟨rfl, k3⟩))
      go_ret2
      exact ⟨rfl, k3⟩
    · rw [errP_out h, plaI_out h]
      unfold Sl at h
      rw [he] at cl
      generalize sloI c = q at cl h
      by_cases h0 : a < 0
      · go_enter Tryd.func71, Tryd.ntmps71
        go_wp2_with (go_at_call 70; refine cl.mono ?_; rintro e w2 ⟨rfl, k2⟩)
        go_ret2
        exact ⟨rfl, k2⟩
      · have h1 : q ≤ a := by omega
        clear h
        go_enter Tryd.func71, Tryd.ntmps71
        go_wp2_with (go_at_call 70; refine cl.mono ?_; rintro e w2 ⟨rfl, k2⟩)
        go_ret2
        exact ⟨rfl, k2⟩
  · obtain ⟨_, h2, h3, _⟩ := siz_out he
    have h : ¬ Sl c a := by unfold Sl; omega
    rw [errP_out h, plaI_out h]
    rw [h2, h3] at cl
    go_enter Tryd.func71, Tryd.ntmps71
    go_wp2_with (go_at_call 70; refine cl.mono ?_; rintro e w2 ⟨rfl, k2⟩)
    go_ret2
    exact ⟨rfl, k2⟩

theorem place_s (B : World) (c a : Int) (w : World) (s : K B w) : Calls Tryd.prog 71 #[.int .i64 c, .int .i64 a] w fun e W' => e = .returned (.tuple #[.int .i64 (plaI c a), .int .i64 (errP c a)]) ∧ K B W' :=
  (place_any c a w).mono fun _ _ r => ⟨r.1, s.trans r.2⟩

theorem awake_facts : clsI 5 = 3 ∧ smaI 5 = true ∧ errW 5 = 0 ∧ sloI 7 = 2 ∧ errC 7 = 0 ∧ pagI 63 = 2 ∧ errW 63 = 0 ∧ errW 0 = 2 := by decide

end Cl
end Go.Proofs.YtlpdgomoepinjaaDoor
