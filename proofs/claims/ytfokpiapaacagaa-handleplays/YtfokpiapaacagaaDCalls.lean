/-
  Walks of At, Move, Close, Used.
-/
import Derived.Test.YtfokpiapaacagaaDFind
namespace Go.Proofs.Ytfokpiapaacagaa
open Go.RowKit Go.Maps
namespace Hd
open Hp (Kept K No)
variable {w w' : World} {B bt : Nat} {q z : Int} {v : Value} {L : List Sl}

theorem at_any (h : Tab w B bt q z v L) (x : Int) (hx : U64 x) : Calls Try.prog 18 #[tp bt, .int .u64 x] w fun e w' => e = .returned (.tuple #[.int .i64 (atL L x).1, .int .i64 (atL L x).2]) ∧ K w w' := by
  have hf := find_any h x hx
  have HT : Aside _ := h
  clear h
  go_enter Try.func18, Try.ntmps18
  go_wp2_with fail
  refine hf.mono ?_
  rintro e w1 ⟨(⟨h1, rfl⟩ | ⟨i, g, h1, hg, rfl⟩), hk⟩
  · have E : Hid (atL L x = (0, 7)) := atL_none h1
    clear h1 hf
    go_wp2
    go_ret2
    exact ⟨by rw [E.out]; rfl, hk⟩
  · obtain ⟨s, hs, ho, -⟩ := findL_some h1
    obtain ⟨g2, a, cap, rfl, hr, hf2, hcap⟩ := (HT.out.keep hk).form
    have d2 := hr.c2 i s hs
    obtain rfl : g2 = g := by
      rcases hf2 with ⟨rfl, _⟩ | ⟨rfl, _⟩
      · simpa [Value.ownBlock] using hg
      · simp [Value.ownBlock] at hg
    have E : Hid (atL L x = (s.a, 0)) := atL_some h1 hs
    clear h1 hr hf2 hg hf hs ho
    go_wp2
    go_ret2
    exact ⟨by rw [E.out]; rfl, hk⟩

theorem used_any (h : Tab w B bt q z v L) : Calls Try.prog 16 #[tp bt] w fun e w' => e = .returned (.int .i64 L.length) ∧ w = w' := by
  have hm := made_ok h
  obtain ⟨g, a, cap, rfl, hr, hg, hcap⟩ := h.form
  have c2 := h.c2
  clear h hr hg
  go_enter Try.func16, Try.ntmps16
  go_wp2_with (go_at_call 28; refine hm.mono ?_; rintro e w1 ⟨rfl, rfl⟩)
  go_ret
  exact ⟨rfl, rfl⟩

theorem close_any (h : Tab w B bt q z v L) (x : Int) (hx : U64 x) : Calls Try.prog 20 #[tp bt, .int .u64 x] w fun e w' => e = .returned (.int .i64 (closeL L x).1) ∧ Tab w' B bt q z v (closeL L x).2 ∧ Kept (foot bt v) w w' := by
  have hf := find_any h x hx
  have HT : Aside _ := h
  clear h
  go_enter Try.func20, Try.ntmps20
  go_wp2_with fail
  refine hf.mono ?_
  rintro e w1 ⟨(⟨h1, rfl⟩ | ⟨i, g, h1, hg, rfl⟩), hk⟩
  · have E : Hid (closeL L x = (7, L)) := closeL_none h1
    clear h1 hf
    go_wp2
    go_ret
    exact ⟨by rw [E.out]; rfl, by rw [E.out]; exact HT.out.keep hk, hk.kept _⟩
  · obtain ⟨s, hs, ho, -⟩ := findL_some h1
    have hT := HT.out.keep hk
    obtain ⟨g2, a, cap, rfl, hr, hf2, hcap⟩ := hT.form
    obtain rfl : g2 = g := by
      rcases hf2 with ⟨rfl, _⟩ | ⟨rfl, _⟩
      · simpa [Value.ownBlock] using hg
      · simp [Value.ownBlock] at hg
    have d0 := hr.c0 i s hs
    have d1 := hr.c1 i s hs
    have d2 := hr.c2 i s hs
    have hil := (List.getElem?_eq_some_iff.1 hs).1
    have f0 := hr.fz (by omega) (i * 3)
    have f1 := hr.fz (by omega) (i * 3 + 1)
    have f2 := hr.fz (by omega) (i * 3 + 2)
    have hok := HT.out.wf.get hs
    rcases hf2 with ⟨rfl, _⟩ | ⟨rfl, _⟩
    rotate_left
    · simp [Value.ownBlock] at hg
    have hP := hT.set3 (i := i) (s := ⟨false, s.g, 0⟩) hil ⟨hok.lo, hok.hi, Int.le_refl _, by simp, fun _ => rfl⟩
    have E : Hid (closeL L x = (0, L.set i ⟨false, s.g, 0⟩)) := closeL_some h1 hs
    have HP : Aside _ := hP
    clear h1 hr hg hf hs ho hok hP hT
    go_wp2
    go_ret
    exact ⟨by rw [E.out]; rfl, by rw [E.out]; exact HP.out.1, (hk.kept _).trans HP.out.2⟩

theorem move_any (h : Tab w B bt q z v L) (x a : Int) (hx : U64 x) (a1 : a ≤ 9223372036854775807) : Calls Try.prog 19 #[tp bt, .int .u64 x, .int .i64 a] w fun e w' => e = .returned (.int .i64 (moveL L x a).1) ∧ Tab w' B bt q z v (moveL L x a).2 ∧ Kept (foot bt v) w w' := by
  have hf := find_any h x hx
  have HT : Aside _ := h
  clear h
  by_cases a0 : a < 0
  · have E : Hid (moveL L x a = (2, L)) := moveL_neg a0
    go_enter Try.func19, Try.ntmps19
    go_wp2_with fail
    refine hf.mono ?_
    rintro e w1 ⟨(⟨h1, rfl⟩ | ⟨i, g, h1, hg, rfl⟩), hk⟩
    · clear h1 hf
      go_wp2
      go_ret
      exact ⟨by rw [E.out]; rfl, by rw [E.out]; exact HT.out.keep hk, hk.kept _⟩
    · clear h1 hf hg
      go_wp2
      go_ret
      exact ⟨by rw [E.out]; rfl, by rw [E.out]; exact HT.out.keep hk, hk.kept _⟩
  have A0 : Hid (0 ≤ a) := by show 0 ≤ a; omega
  go_enter Try.func19, Try.ntmps19
  go_wp2_with fail
  refine hf.mono ?_
  rintro e w1 ⟨(⟨h1, rfl⟩ | ⟨i, g, h1, hg, rfl⟩), hk⟩
  · have E : Hid (moveL L x a = (7, L)) := moveL_none A0.out h1
    clear h1 hf
    go_wp2
    go_ret
    exact ⟨by rw [E.out]; rfl, by rw [E.out]; exact HT.out.keep hk, hk.kept _⟩
  · obtain ⟨s, hs, ho, -⟩ := findL_some h1
    have hT := HT.out.keep hk
    obtain ⟨g2, ad, cap, rfl, hr, hf2, hcap⟩ := hT.form
    obtain rfl : g2 = g := by
      rcases hf2 with ⟨rfl, _⟩ | ⟨rfl, _⟩
      · simpa [Value.ownBlock] using hg
      · simp [Value.ownBlock] at hg
    have hil := (List.getElem?_eq_some_iff.1 hs).1
    have d2 := hr.c2 i s hs
    have f2 := hr.fz (by omega) (i * 3 + 2)
    have hok := HT.out.wf.get hs
    rcases hf2 with ⟨rfl, _⟩ | ⟨rfl, _⟩
    rotate_left
    · simp [Value.ownBlock] at hg
    have hP := hT.set1 (i := i) (s := s) (a := a) hs ⟨hok.lo, hok.hi, by simp; omega, a1, fun e => by simp [ho] at e⟩
    have E : Hid (moveL L x a = (0, L.set i ⟨s.o, s.g, a⟩)) := by rw [ho]; exact moveL_some A0.out h1 hs
    have HP : Aside _ := hP
    clear h1 hr hg hf hs ho hok hP hT
    go_wp2
    go_ret
    exact ⟨by rw [E.out]; rfl, by rw [E.out]; exact HP.out.1, (hk.kept _).trans HP.out.2⟩

end Hd
end Go.Proofs.Ytfokpiapaacagaa
