/-
  The walks of ClassGrows, ClassAll, ClassFits and ClassApart.
-/
import Derived.Test.YtddgjfdginohaaaCode
namespace Go.Proofs.Ytddgjfdginohaaa
open Go.RowKit
namespace Cl

theorem pag_up {a b : Int} (ha : Wd a) (hb : Wd b) (h : a ≤ b) : pagI a ≤ pagI b := by
  rw [pagI_in ha, pagI_in hb]
  omega

theorem cls_up {a b : Int} (ha : Wd a) (hb : Wd b) (h : a ≤ b) (hs : smaI b = true) : smaI a = true ∧ clsI a ≤ clsI b := by
  rcases of_cases b hb with ⟨u, c, d⟩ | ⟨_, u, c, d⟩ | ⟨_, u, c, d⟩ | ⟨_, u, c, d⟩ | ⟨_, u, c, d⟩ | ⟨_, u, c, d⟩ | ⟨_, u, c, d⟩ | ⟨_, u, c, d⟩ | ⟨_, c, d⟩
  case inr.inr.inr.inr.inr.inr.inr.inr => rw [d] at hs; cases hs
  all_goals
    rw [c]
    rcases of_cases a ha with ⟨v, x, y⟩ | ⟨v, _, x, y⟩ | ⟨v, _, x, y⟩ | ⟨v, _, x, y⟩ | ⟨v, _, x, y⟩ | ⟨v, _, x, y⟩ | ⟨v, _, x, y⟩ | ⟨v, _, x, y⟩ | ⟨v, x, y⟩ <;> first | (exfalso; omega) | (rw [x, y]; exact ⟨rfl, by omega⟩)

theorem grows_walk (a b : Int) (w : World) : Calls Try.prog 7 #[.int .i64 a, .int .i64 b] w fun e w' => e = .returned (.bool true) ∧ K w w' := by
  have ca := awake_ok w
  have k0 := K.refl w
  by_cases h1 : a < 1
  · go_enter Try.func7, Try.ntmps7
    go_wp2_with (go_at_call 13; refine (ca _ (by assumption)).mono ?_; rintro e w6 ⟨rfl, s6⟩)
    go_ret
    exact ⟨rfl, s6⟩
  by_cases h2 : b < a
  · go_enter Try.func7, Try.ntmps7
    go_wp2_with (go_at_call 13; refine (ca _ (by assumption)).mono ?_; rintro e w6 ⟨rfl, s6⟩)
    go_ret
    exact ⟨rfl, s6⟩
  by_cases h3 : 4000 < b
  · go_enter Try.func7, Try.ntmps7
    go_wp2_with (go_at_call 13; refine (ca _ (by assumption)).mono ?_; rintro e w6 ⟨rfl, s6⟩)
    go_ret
    exact ⟨rfl, s6⟩
  have wa : Wd a := by unfold Wd; omega
  have wb : Wd b := by unfold Wd; omega
  have ea := errW_in wa
  have eb := errW_in wb
  have hm := pag_up wa wb (by omega)
  cases hs : smaI b with
  | false =>
    clear wa wb
    go_enter Try.func7, Try.ntmps7
    go_wp2_with (first
      | (go_at_call 9; refine (of_s w _ _ (by assumption)).mono ?_; rintro e w2 ⟨rfl, s2⟩)
      | (go_at_call 11; refine (pages_s w _ _ (by assumption)).mono ?_; rintro e w4 ⟨rfl, s4⟩)
      | (go_at_call 13; refine (ca _ (by assumption)).mono ?_; rintro e w6 ⟨rfl, s6⟩))
    go_ret
    exact ⟨rfl, s6⟩
  | true =>
    obtain ⟨hp, hc⟩ := cls_up wa wb (by omega) hs
    clear wa wb
    go_enter Try.func7, Try.ntmps7
    go_wp2_with (first
      | (go_at_call 9; refine (of_s w _ _ (by assumption)).mono ?_; rintro e w2 ⟨rfl, s2⟩)
      | (go_at_call 11; refine (pages_s w _ _ (by assumption)).mono ?_; rintro e w4 ⟨rfl, s4⟩)
      | (go_at_call 13; refine (ca _ (by assumption)).mono ?_; rintro e w6 ⟨rfl, s6⟩))
    go_ret
    exact ⟨rfl, s6⟩

end Cl
end Go.Proofs.Ytddgjfdginohaaa
