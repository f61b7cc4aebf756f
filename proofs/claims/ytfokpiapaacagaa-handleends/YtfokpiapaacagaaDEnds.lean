/-
  HandleEnds: the walk.
-/
import Derived.Test.YtfokpiapaacagaaDLive
import Derived.Test.YtfokpiapaacagaaDEndsF
import Derived.Test.YtfokpiapaacagaaDDoor
namespace Go.Proofs.Ytfokpiapaacagaa
open Go.RowKit Go.Maps
namespace Hd
open Hp (Kept K No)

theorem own_len {w : World} {B m n : Nat} {ty : TypeId} {v : Value} {xs : List Value} (h : w.ownsRow B ty m v n xs) : ∃ a cap, v = .slice a n cap := by
  rcases h.2 with ⟨hv, h0⟩ | ⟨g, c, cur, hv, _⟩
  · exact ⟨none, 0, by rw [hv, h0]⟩
  · exact ⟨_, _, hv⟩

theorem ends_out (q z : Int) (w : World) (h : q < 1 ∨ 6 < q ∨ z < 1 ∨ 6 < z) : Calls Try.prog 6 #[.int .i64 q, .int .u32 z] w fun e w' => e = .returned (.bool true) ∧ K w w' := by
  have ha := awake_any w
  by_cases h1 : q < 1
  · clear h
    go_enter Try.func6, Try.ntmps6
    go_wp2_with (go_at_call 9; refine ha.mono ?_; rintro e w1 ⟨rfl, hk⟩)
    go_ret
    exact ⟨rfl, by assumption⟩
  by_cases h2 : 6 < q
  · clear h
    go_enter Try.func6, Try.ntmps6
    go_wp2_with (go_at_call 9; refine ha.mono ?_; rintro e w1 ⟨rfl, hk⟩)
    go_ret
    exact ⟨rfl, by assumption⟩
  by_cases h3 : z < 1
  · clear h
    go_enter Try.func6, Try.ntmps6
    go_wp2_with (go_at_call 9; refine ha.mono ?_; rintro e w1 ⟨rfl, hk⟩)
    go_ret
    exact ⟨rfl, by assumption⟩
  have h4 : 6 < z := by omega
  clear h
  go_enter Try.func6, Try.ntmps6
  go_wp2_with (go_at_call 9; refine ha.mono ?_; rintro e w1 ⟨rfl, hk⟩)
  go_ret
  exact ⟨rfl, by assumption⟩

set_option maxHeartbeats 1000000 in
theorem ends_in (q z : Int) (w : World) (q0 : 1 ≤ q) (q1 : q ≤ 6) (z0 : 1 ≤ z) (z1 : z ≤ 6) : Calls Try.prog 6 #[.int .i64 q, .int .u32 z] w fun e w' => e = .returned (.bool true) ∧ K w w' := by
  have hn := new_rn q z w q0 (by omega) z0 (by omega)
  obtain ⟨t, ht, ht36, hall, Lf, hlast, hlen, hlive⟩ := ends_done q0 q1 z0 z1
  have hmul : wrap64 (q * z) = (t : Int) := by rw [← ht]; unfold wrap64; omega
  have HA : Aside _ := hall
  have HL : Aside _ := hlast
  have HV : Aside _ := hlive
  have HF : Aside ((Lf.length : Int) = q) := hlen
  clear hall hlast hlive ht hlen
  go_enter Try.func6, Try.ntmps6
  go_wp2_with fail
  refine hn.mono ?_
  rintro e w1 ⟨rfl, h1⟩
  generalize w.heap.size = b at h1 ⊢
  clear hn
  go_wp2
  go_loopg [7] t (fun gh t7 wx => ∃ (i : Nat) (v : Value), i + gh = t ∧ t7 = .int .i64 i ∧ Rn w wx b q z v (endsAt q z i).1)
  case atStart => exact ⟨0, _, by omega, rfl, h1⟩
  case round =>
    obtain ⟨i, v, hig, rfl, hR⟩ := hrel
    by_cases hlt : i < t
    · obtain ⟨x, he1, he2⟩ := ends_step (ends_mono (show i + 1 ≤ t by omega) HA.out)
      have hx := openL_u64 hR.tb.wf i
      rw [he1] at hx
      have H1 := hR.open i x 0 _ (by omega) he1
      have HX : Aside (U64 x) := hx
      have HE : Aside _ := he2
      clear he1 he2 hx h1 hR
      go_wp2_with fail
      refine H1.mono ?_
      rintro e w2 ⟨rfl, v2, h2⟩
      have H2 := h2.close x 0 _ HX.out HE.out
      clear H1
      go_wp2_with fail
      refine H2.mono ?_
      rintro e w3 ⟨rfl, h3⟩
      clear H2 h2
      go_wp2
      go_roundg (t - (i + 1))
      case measure => omega
      case rel => exact ⟨i + 1, v2, by omega, by go_num, h3⟩
    · obtain rfl : i = t := by omega
      have H1 := hR.open 7 0 10 _ (by decide) HL.out
      clear h1 hR
      go_wp2_with fail
      refine H1.mono ?_
      rintro e w2 ⟨rfl, v2, h2⟩
      have H2 := used_any h2.tb
      rw [HF.out] at H2
      clear H1
      go_wp2_with fail
      refine H2.mono ?_
      rintro e w3 ⟨rfl, rfl⟩
      have H3 := live_any h2.tb
      rw [HV.out] at H3
      clear H2
      go_wp2_with fail
      refine H3.mono ?_
      rintro e w3 ⟨v3, rfl, hown, hk3⟩
      obtain ⟨a3, cap3, rfl⟩ := own_len hown
      have hk := h2.k.trans hk3
      have H4 := awake_any w3
      clear H3 hown h2
      go_wp2_with (go_at_call 9; refine H4.mono ?_; rintro e w4 ⟨rfl, hk4⟩)
      go_ret
      exact ⟨rfl, hk.trans (by assumption)⟩

theorem ends_any (q : Int) (_ : In64 q) (z : Int) (_ : 0 ≤ z ∧ z ≤ 4294967295) (w : World) : Calls Try.prog 6 #[.int .i64 q, .int .u32 z] w fun e w' => e = .returned (.bool true) ∧ K w w' := by
  by_cases h : q < 1 ∨ 6 < q ∨ z < 1 ∨ 6 < z
  · exact ends_out q z w h
  · exact ends_in q z w (by omega) (by omega) (by omega) (by omega)

end Hd
end Go.Proofs.Ytfokpiapaacagaa
