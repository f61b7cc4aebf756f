/-
  The walk of ClassRow.
-/
import Derived.Test.YtddgjfdginohaabCode
import Derived.Deep.LoopGhost
namespace Go.Proofs.Ytddgjfdginohaab
open Go.RowKit
namespace Cl

theorem slo_low {c : Int} (he : errC c = 0) : 2 ≤ sloI c ∧ sloI c ≤ 31 := by
  rcases siz_cases c with ⟨_, _, _, d⟩ | ⟨_, _, _, d⟩ | ⟨_, _, _, d⟩ | ⟨_, _, _, d⟩ | ⟨_, _, _, d⟩ | ⟨_, _, _, d⟩ | ⟨_, _, _, d⟩ | ⟨_, _, _, d⟩ | ⟨_, _, b, _⟩
  case inr.inr.inr.inr.inr.inr.inr.inr => omega
  all_goals
    rw [d]
    decide

set_option maxHeartbeats 2000000 in
theorem row_walk (c : Int) (w : World) : Calls Try.prog 3 #[.int .i64 c] w fun e w' => e = .returned (.bool true) ∧ K w w' := by
  have ca := awake_ok w
  have k0 := K.refl w
  by_cases he : errC c = 0
  · obtain ⟨s0, s1, _, _⟩ := siz_in he
    obtain ⟨q0, q1⟩ := slo_low he
    have HF : Hid (∀ k, 0 ≤ k → k < sloI c → errP c k = 0 ∧ plaI c k = 2 + k * sizI c ∧ k * sizI c + sizI c ≤ 62) := fun k h0 h1 => ⟨errP_in ⟨h0, h1⟩, plaI_in ⟨h0, h1⟩, (slot_fits he ⟨h0, h1⟩).2⟩
    have HO : Hid (errP c (sloI c) = 2 ∧ plaI c (sloI c) = 0) := ⟨errP_out fun h => absurd h.2 (by omega), plaI_out fun h => absurd h.2 (by omega)⟩
    have cs := size_s w c
    have cl := slots_s w c
    rw [he] at cs cl
    clear he
    generalize sizI c = s at s0 s1 HF cs
    generalize sloI c = q at q0 q1 HF HO cl
    go_enter Try.func3, Try.ntmps3
    go_wp2_with (first
      | (go_at_call 4; refine (cs _ (by assumption)).mono ?_; rintro e w2 ⟨rfl, s2⟩)
      | (go_at_call 5; refine (cl _ (by assumption)).mono ?_; rintro e w3 ⟨rfl, s3⟩))
    go_loopg [7, 8] q.toNat (fun g t u wx => ∃ k m : Int, K w wx ∧ k + g = q ∧ 0 ≤ k ∧ u = .int .i64 k ∧ t = .int .i64 (2 + m) ∧ Hid (k * s = m) ∧ 0 ≤ m ∧ m ≤ 62)
    case atStart => exact ⟨0, 0, s3, by omega, by omega, rfl, rfl, Int.zero_mul _, by omega, by omega⟩
    case round =>
      obtain ⟨k, m, kx, hg, hk, rfl, rfl, HM, m0, m1⟩ := hrel
      by_cases hl : k < q
      · obtain ⟨f1, f2, f3⟩ := HF.out k hk hl
        rw [HM.out] at f2 f3
        go_wp2_with (go_at_call 7; refine (place_s w _ _ _ (by assumption)).mono ?_; rintro e w4 ⟨rfl, s4⟩)
        go_roundg (q.toNat - (k.toNat + 1))
        case measure => omega
        case rel => exact ⟨k + 1, m + s, s4, by omega, by omega, by go_num, by go_num, by show (k + 1) * s = m + s; rw [Int.add_mul, Int.one_mul, HM.out], by omega, by omega⟩
      · obtain rfl : k = q := by omega
        obtain ⟨f1, f2⟩ := HO.out
        clear HF HO HM hg
        go_wp2_with (first
          | (go_at_call 7; refine (place_s w _ _ _ (by assumption)).mono ?_; rintro e w4 ⟨rfl, s4⟩)
          | (go_at_call 6; refine (ca _ (by assumption)).mono ?_; rintro e w6 ⟨rfl, s6⟩))
        go_ret
        exact ⟨rfl, s6⟩
  · obtain ⟨h1, h2, h3, _⟩ := siz_out he
    clear he
    go_enter Try.func3, Try.ntmps3
    go_wp2_with (first
      | (go_at_call 4; refine (size_s w _ _ (by assumption)).mono ?_; rintro e w2 ⟨rfl, s2⟩)
      | (go_at_call 5; refine (slots_s w _ _ (by assumption)).mono ?_; rintro e w3 ⟨rfl, s3⟩)
      | (go_at_call 6; refine (ca _ (by assumption)).mono ?_; rintro e w6 ⟨rfl, s6⟩))
    go_ret
    exact ⟨rfl, s6⟩

end Cl
end Go.Proofs.Ytddgjfdginohaab
