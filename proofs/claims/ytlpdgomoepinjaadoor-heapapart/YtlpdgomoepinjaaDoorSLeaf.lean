/-
  Walks of package slab's small tests: isCount, isPage, isSpan.
-/
import Derived.Test.YtlpdgomoepinjaaDoorSPlain
import Derived.Test.YtlpdgomoepinjaaDoorProg
import Derived.WalkKit
import Derived.Handy
import Derived.Maps.OwnSet
import Derived.WalkSpells
namespace Go.Proofs.YtlpdgomoepinjaaDoor
open Go.RowKit
namespace Sl

theorem isCount_any (n : Int) (w : World) : Calls Tryd.prog 39 #[.int .i64 n] w fun e w' => e = .returned (.bool (isCountB n)) ∧ w = w' := by
  by_cases h1 : 1 ≤ n
  · by_cases h2 : n ≤ 4096
    all_goals
      go_enter Tryd.func39, Tryd.ntmps39
      go_wp2
      go_ret
      exact ⟨by simp [isCountB, h1, h2], rfl⟩
  · go_enter Tryd.func39, Tryd.ntmps39
    go_wp2
    go_ret
    exact ⟨by simp [isCountB]; omega, rfl⟩

theorem isPage_any (n : Int) (w : World) : Calls Tryd.prog 38 #[.int .i64 n] w fun e w' => e = .returned (.bool (isPageB n)) ∧ w = w' := by
  by_cases h1 : 0 ≤ n
  · by_cases h2 : n ≤ 1048575
    all_goals
      go_enter Tryd.func38, Tryd.ntmps38
      go_wp2
      go_ret
      exact ⟨by simp [isPageB, h1, h2], rfl⟩
  · go_enter Tryd.func38, Tryd.ntmps38
    go_wp2
    go_ret
    exact ⟨by simp [isPageB]; omega, rfl⟩

theorem isSpan_any (a n : Int) (w : World) : Calls Tryd.prog 37 #[.int .i64 a, .int .i64 n] w fun e w' => e = .returned (.bool (isSpanB a n)) ∧ w = w' := by
  by_cases h1 : a < 0
  · go_enter Tryd.func37, Tryd.ntmps37
    go_wp2
    go_ret
    exact ⟨by simp [isSpanB]; omega, rfl⟩
  by_cases h2 : 67108864 ≤ a
  · go_enter Tryd.func37, Tryd.ntmps37
    go_wp2
    go_ret
    exact ⟨by simp [isSpanB]; omega, rfl⟩
  by_cases h3 : n < 0
  · go_enter Tryd.func37, Tryd.ntmps37
    go_wp2
    go_ret
    exact ⟨by simp [isSpanB]; omega, rfl⟩
  by_cases h4 : 262144 < n
  · go_enter Tryd.func37, Tryd.ntmps37
    go_wp2
    go_ret
    exact ⟨by simp [isSpanB]; omega, rfl⟩
  by_cases h5 : a + n ≤ 67108864
  all_goals
    go_enter Tryd.func37, Tryd.ntmps37
    go_wp2
    go_ret
    exact ⟨by simp [isSpanB]; omega, rfl⟩

end Sl
end Go.Proofs.YtlpdgomoepinjaaDoor
