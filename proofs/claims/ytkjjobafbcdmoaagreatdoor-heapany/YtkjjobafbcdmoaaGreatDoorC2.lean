/-
  The reference: Sizes, Slots, Of and Pages.
-/
import Derived.Test.YtkjjobafbcdmoaaGreatDoorC1
import Derived.Deep.LoopGhost
namespace Go.Proofs.YtkjjobafbcdmoaaGreatDoor
open Go.RowKit
namespace Cl

/-- The reference's sizes lie in block b. -/
structure Row (w : World) (b : Nat) : Prop where
  c0 : w.cell? ⟨b, 0, none⟩ = some (.int .i64 2)
  c1 : w.cell? ⟨b, 1, none⟩ = some (.int .i64 3)
  c2 : w.cell? ⟨b, 2, none⟩ = some (.int .i64 4)
  c3 : w.cell? ⟨b, 3, none⟩ = some (.int .i64 6)
  c4 : w.cell? ⟨b, 4, none⟩ = some (.int .i64 9)
  c5 : w.cell? ⟨b, 5, none⟩ = some (.int .i64 13)
  c6 : w.cell? ⟨b, 6, none⟩ = some (.int .i64 19)
  c7 : w.cell? ⟨b, 7, none⟩ = some (.int .i64 28)

theorem lt_of_cell {w : World} {p : Addr} {v : Value} (h : w.cell? p = some v) : p.block < w.heap.size := by
  apply Nat.lt_of_not_le
  intro hle
  have : w.heap[p.block]? = none := Array.getElem?_eq_none hle
  simp [World.cell?, this] at h

theorem K.cell {w w' : World} (h : K w w') {p : Addr} {v : Value} (hc : w.cell? p = some v) : w'.cell? p = some v := by
  rw [h.bel.cell (lt_of_cell hc)]
  exact hc

theorem Row.keep {w w' : World} {b : Nat} (R : Row w b) (h : K w w') : Row w' b :=
  ⟨h.cell R.c0, h.cell R.c1, h.cell R.c2, h.cell R.c3, h.cell R.c4, h.cell R.c5, h.cell R.c6, h.cell R.c7⟩

theorem rSizes_ok (w : World) : Calls Tryz.prog 61 #[] w fun e W' => ∃ b, e = .returned (.slice (some ⟨b, 0, none⟩) 8 8) ∧ K w W' ∧ Row W' b := by
  go_enter Tryz.func61, Tryz.ntmps61
  go_wp2
  go_ret
  refine ⟨w.heap.size, rfl, ⟨(Below.refl _ w).alloc (Nat.le_refl _) _⟩, ?_⟩
  constructor <;> simp

theorem rOf_out (n : Int) (hn : ¬ Wd n) (w : World) : Calls Tryz.prog 52 #[.int .i64 n] w fun e W' => e = .returned (.tuple #[.int .i64 0, .bool false, .int .i64 2]) ∧ K w W' := by
  by_cases h1 : n < 1
  · go_enter Tryz.func52, Tryz.ntmps52
    go_wp2_with (go_at_call 61; refine (rSizes_ok _).mono ?_; rintro e w2 ⟨b, rfl, k2, _⟩)
    go_ret3
    exact ⟨rfl, k2⟩
  · have h2 : 4000 < n := by unfold Wd at hn; omega
    go_enter Tryz.func52, Tryz.ntmps52
    go_wp2_with (go_at_call 61; refine (rSizes_ok _).mono ?_; rintro e w2 ⟨b, rfl, k2, _⟩)
    go_ret3
    exact ⟨rfl, k2⟩

theorem rOf_in (n : Int) (hn : Wd n) (w : World) : Calls Tryz.prog 52 #[.int .i64 n] w fun e W' => e = .returned (.tuple #[.int .i64 (clsI n), .bool (smaI n), .int .i64 0]) ∧ K w W' := by
  have n0 : ¬ n < 1 := by have := hn.1; omega
  have n1 : ¬ 4000 < n := by have := hn.2; omega
  go_enter Tryz.func52, Tryz.ntmps52
  go_wp2_with (go_at_call 61; refine (rSizes_ok _).mono ?_; rintro e w2 ⟨b, rfl, k2, R⟩)
  obtain ⟨c0, c1, c2, c3, c4, c5, c6, c7⟩ := R
  go_loopg [6] 8 (fun g t wx => ∃ k : Nat, w2 = wx ∧ k + g = 8 ∧ t = .int .i64 (k : Int) ∧ Hid (hit (fits n) (szs.take k) = none))
  case atStart => exact ⟨0, rfl, rfl, rfl, rfl⟩
  case round =>
    obtain ⟨k, rfl, hk, rfl, HA⟩ := hrel
    have hc : k = 0 ∨ k = 1 ∨ k = 2 ∨ k = 3 ∨ k = 4 ∨ k = 5 ∨ k = 6 ∨ k = 7 ∨ k = 8 := by omega
    rcases hc with rfl | rfl | rfl | rfl | rfl | rfl | rfl | rfl | rfl
    · by_cases h : n ≤ 2
      · have HB : hit (fits n) szs = some (0, 2) := hit_all (pre := szs.take 1) (by decide) (hit_on (pre := szs.take 0) (x := (0, 2)) HA.out (decide_eq_true h))
        have HQ : Hid (clsI n = 0 ∧ smaI n = true) := of_small hn HB
        clear HB HA hn
        go_wp2
        go_ret3
        refine ⟨?_, k2⟩
        rw [HQ.out.1, HQ.out.2]
        rfl
      · have HB : Hid (hit (fits n) (szs.take 1) = none) := hit_off (pre := szs.take 0) (x := (0, 2)) HA.out (decide_eq_false h)
        clear HA
        go_wp2
        go_roundg 7
        case measure => omega
        case rel => exact ⟨1, rfl, rfl, rfl, HB⟩
    · by_cases h : n ≤ 3
      · have HB : hit (fits n) szs = some (1, 3) := hit_all (pre := szs.take 2) (by decide) (hit_on (pre := szs.take 1) (x := (1, 3)) HA.out (decide_eq_true h))
        have HQ : Hid (clsI n = 1 ∧ smaI n = true) := of_small hn HB
        clear HB HA hn
        go_wp2
        go_ret3
        refine ⟨?_, k2⟩
        rw [HQ.out.1, HQ.out.2]
        rfl
      · have HB : Hid (hit (fits n) (szs.take 2) = none) := hit_off (pre := szs.take 1) (x := (1, 3)) HA.out (decide_eq_false h)
        clear HA
        go_wp2
        go_roundg 6
        case measure => omega
        case rel => exact ⟨2, rfl, rfl, rfl, HB⟩
    · by_cases h : n ≤ 4
      · have HB : hit (fits n) szs = some (2, 4) := hit_all (pre := szs.take 3) (by decide) (hit_on (pre := szs.take 2) (x := (2, 4)) HA.out (decide_eq_true h))
        have HQ : Hid (clsI n = 2 ∧ smaI n = true) := of_small hn HB
        clear HB HA hn
        go_wp2
        go_ret3
        refine ⟨?_, k2⟩
        rw [HQ.out.1, HQ.out.2]
        rfl
      · have HB : Hid (hit (fits n) (szs.take 3) = none) := hit_off (pre := szs.take 2) (x := (2, 4)) HA.out (decide_eq_false h)
        clear HA
        go_wp2
        go_roundg 5
        case measure => omega
        case rel => exact ⟨3, rfl, rfl, rfl, HB⟩
    · by_cases h : n ≤ 6
      · have HB : hit (fits n) szs = some (3, 6) := hit_all (pre := szs.take 4) (by decide) (hit_on (pre := szs.take 3) (x := (3, 6)) HA.out (decide_eq_true h))
        have HQ : Hid (clsI n = 3 ∧ smaI n = true) := of_small hn HB
        clear HB HA hn
        go_wp2
        go_ret3
        refine ⟨?_, k2⟩
        rw [HQ.out.1, HQ.out.2]
        rfl
      · have HB : Hid (hit (fits n) (szs.take 4) = none) := hit_off (pre := szs.take 3) (x := (3, 6)) HA.out (decide_eq_false h)
        clear HA
        go_wp2
        go_roundg 4
        case measure => omega
        case rel => exact ⟨4, rfl, rfl, rfl, HB⟩
    · by_cases h : n ≤ 9
      · have HB : hit (fits n) szs = some (4, 9) := hit_all (pre := szs.take 5) (by decide) (hit_on (pre := szs.take 4) (x := (4, 9)) HA.out (decide_eq_true h))
        have HQ : Hid (clsI n = 4 ∧ smaI n = true) := of_small hn HB
        clear HB HA hn
        go_wp2
        go_ret3
        refine ⟨?_, k2⟩
        rw [HQ.out.1, HQ.out.2]
        rfl
      · have HB : Hid (hit (fits n) (szs.take 5) = none) := hit_off (pre := szs.take 4) (x := (4, 9)) HA.out (decide_eq_false h)
        clear HA
        go_wp2
        go_roundg 3
        case measure => omega
        case rel => exact ⟨5, rfl, rfl, rfl, HB⟩
    · by_cases h : n ≤ 13
      · have HB : hit (fits n) szs = some (5, 13) := hit_all (pre := szs.take 6) (by decide) (hit_on (pre := szs.take 5) (x := (5, 13)) HA.out (decide_eq_true h))
        have HQ : Hid (clsI n = 5 ∧ smaI n = true) := of_small hn HB
        clear HB HA hn
        go_wp2
        go_ret3
        refine ⟨?_, k2⟩
        rw [HQ.out.1, HQ.out.2]
        rfl
      · have HB : Hid (hit (fits n) (szs.take 6) = none) := hit_off (pre := szs.take 5) (x := (5, 13)) HA.out (decide_eq_false h)
        clear HA
        go_wp2
        go_roundg 2
        case measure => omega
        case rel => exact ⟨6, rfl, rfl, rfl, HB⟩
    · by_cases h : n ≤ 19
      · have HB : hit (fits n) szs = some (6, 19) := hit_all (pre := szs.take 7) (by decide) (hit_on (pre := szs.take 6) (x := (6, 19)) HA.out (decide_eq_true h))
        have HQ : Hid (clsI n = 6 ∧ smaI n = true) := of_small hn HB
        clear HB HA hn
        go_wp2
        go_ret3
        refine ⟨?_, k2⟩
        rw [HQ.out.1, HQ.out.2]
        rfl
      · have HB : Hid (hit (fits n) (szs.take 7) = none) := hit_off (pre := szs.take 6) (x := (6, 19)) HA.out (decide_eq_false h)
        clear HA
        go_wp2
        go_roundg 1
        case measure => omega
        case rel => exact ⟨7, rfl, rfl, rfl, HB⟩
    · by_cases h : n ≤ 28
      · have HB : hit (fits n) szs = some (7, 28) := hit_all (pre := szs.take 8) (by decide) (hit_on (pre := szs.take 7) (x := (7, 28)) HA.out (decide_eq_true h))
        have HQ : Hid (clsI n = 7 ∧ smaI n = true) := of_small hn HB
        clear HB HA hn
        go_wp2
        go_ret3
        refine ⟨?_, k2⟩
        rw [HQ.out.1, HQ.out.2]
        rfl
      · have HB : Hid (hit (fits n) (szs.take 8) = none) := hit_off (pre := szs.take 7) (x := (7, 28)) HA.out (decide_eq_false h)
        clear HA
        go_wp2
        go_roundg 0
        case measure => omega
        case rel => exact ⟨8, rfl, rfl, rfl, HB⟩
    · have HQ : Hid (clsI n = 0 ∧ smaI n = false) := of_large HA.out
      clear HA
      go_wp2
      go_ret3
      refine ⟨?_, k2⟩
      rw [HQ.out.1, HQ.out.2]
      rfl

theorem rOf_any (n : Int) (w : World) : Calls Tryz.prog 52 #[.int .i64 n] w fun e W' => e = .returned (.tuple #[.int .i64 (clsI n), .bool (smaI n), .int .i64 (errW n)]) ∧ K w W' := by
  by_cases h : Wd n
  · rw [errW_in h]
    exact rOf_in n h w
  · rw [errW_out h, clsI_out h, smaI_out h]
    exact rOf_out n h w

theorem rPages_any (n : Int) (w : World) : Calls Tryz.prog 53 #[.int .i64 n] w fun e W' => e = .returned (.tuple #[.int .i64 (pagI n), .int .i64 (errW n)]) ∧ K w W' := by
  have co := rOf_any n w
  by_cases h : Wd n
  · have h0 := h.1
    have h1 := h.2
    have HP : Hid (pagI n = (n + 65) / 64) := pagI_in h
    rw [errW_in h] at co ⊢
    generalize pagI n = p at HP
    cases hs : smaI n with
    | true =>
      have hl : n ≤ 28 := by rcases of_cases n h with c | c | c | c | c | c | c | c | c <;> simp_all <;> omega
      have hp : p = 1 := by rw [HP.out]; omega
      clear HP
      subst hp
      rw [hs] at co
      generalize clsI n = x at co
      clear hs h
      go_enter Tryz.func53, Tryz.ntmps53
      go_wp2_with (go_at_call 52; refine co.mono ?_; rintro e w2 ⟨rfl, k2⟩)
      go_loopg [7] 0 (fun g t wx => w2 = wx ∧ g = 0 ∧ t = .int .i64 1)
      case atStart => exact ⟨rfl, rfl, rfl⟩
      case round =>
        obtain ⟨rfl, hg, rfl⟩ := hrel
        clear hg
        go_wp2
        go_ret2
        exact ⟨rfl, k2⟩
    | false =>
      rw [hs] at co
      generalize clsI n = x at co
      clear hs h
      go_enter Tryz.func53, Tryz.ntmps53
      go_wp2_with (go_at_call 52; refine co.mono ?_; rintro e w2 ⟨rfl, k2⟩)
      go_loopg [7] 63 (fun g t wx => ∃ k : Int, w2 = wx ∧ k + g = 64 ∧ 1 ≤ k ∧ t = .int .i64 k ∧ (k - 1) * 64 < n + 2)
      case atStart => exact ⟨1, rfl, by omega, by omega, rfl, by omega⟩
      case round =>
        obtain ⟨k, rfl, hg, hk, rfl, hl⟩ := hrel
        by_cases hc : k * 64 < n + 2
        · go_wp2
          go_roundg (63 - k.toNat)
          case measure => omega
          case rel => exact ⟨k + 1, rfl, by omega, by omega, by go_num, by omega⟩
        · have HQ : Hid (p = k) := by
            show p = k
            rw [HP.out]
            omega
          go_wp2
          go_ret2
          refine ⟨?_, k2⟩
          rw [HQ.out]
          rfl
  · rw [errW_out h] at co ⊢
    rw [pagI_out h]
    generalize clsI n = x at co
    generalize smaI n = y at co
    go_enter Tryz.func53, Tryz.ntmps53
    go_wp2_with (go_at_call 52; refine co.mono ?_; rintro e w2 ⟨rfl, k2⟩)
    go_ret2
    exact ⟨rfl, k2⟩

theorem rOf_s (B : World) (n : Int) (w : World) (s : K B w) : Calls Tryz.prog 52 #[.int .i64 n] w fun e W' => e = .returned (.tuple #[.int .i64 (clsI n), .bool (smaI n), .int .i64 (errW n)]) ∧ K B W' :=
  (rOf_any n w).mono fun _ _ r => ⟨r.1, s.trans r.2⟩
theorem rPages_s (B : World) (n : Int) (w : World) (s : K B w) : Calls Tryz.prog 53 #[.int .i64 n] w fun e W' => e = .returned (.tuple #[.int .i64 (pagI n), .int .i64 (errW n)]) ∧ K B W' :=
  (rPages_any n w).mono fun _ _ r => ⟨r.1, s.trans r.2⟩

end Cl
end Go.Proofs.YtkjjobafbcdmoaaGreatDoor

/-
  The reference's Slots, and the walk of ClassSizes.
-/
namespace Go.Proofs.YtkjjobafbcdmoaaGreatDoor
open Go.RowKit
namespace Cl

theorem rSlots_out (c : Int) (h : ¬ C c) (w : World) : Calls Tryz.prog 86 #[.int .i64 c] w fun e W' => e = .returned (.tuple #[.int .i64 0, .int .i64 2]) ∧ K w W' := by
  unfold C at h
  by_cases h0 : c < 0
  · clear h
    go_enter Tryz.func86, Tryz.ntmps86
    go_wp2_with (go_at_call 61; refine (rSizes_ok _).mono ?_; rintro e w2 ⟨b, rfl, k2, _⟩)
    go_ret2
    exact ⟨rfl, k2⟩
  · have h1 : 8 ≤ c := by omega
    clear h
    go_enter Tryz.func86, Tryz.ntmps86
    go_wp2_with (go_at_call 61; refine (rSizes_ok _).mono ?_; rintro e w2 ⟨b, rfl, k2, _⟩)
    go_ret2
    exact ⟨rfl, k2⟩

/-- The cell of a class. -/
theorem Row.at {w : World} {b : Nat} (R : Row w b) (c : Int) (h : errC c = 0) : w.cell? ⟨b, c.toNat, none⟩ = some (.int .i64 (sizI c)) := by
  rcases siz_cases c with ⟨rfl, a, _, _⟩ | ⟨rfl, a, _, _⟩ | ⟨rfl, a, _, _⟩ | ⟨rfl, a, _, _⟩ | ⟨rfl, a, _, _⟩ | ⟨rfl, a, _, _⟩ | ⟨rfl, a, _, _⟩ | ⟨rfl, a, _, _⟩ | ⟨_, _, a, _⟩
  case inr.inr.inr.inr.inr.inr.inr.inr => omega
  · rw [a]; exact R.c0
  · rw [a]; exact R.c1
  · rw [a]; exact R.c2
  · rw [a]; exact R.c3
  · rw [a]; exact R.c4
  · rw [a]; exact R.c5
  · rw [a]; exact R.c6
  · rw [a]; exact R.c7

theorem slots_end {s k m : Int} (hs : 2 ≤ s) (hm : k * s = m) (h0 : m ≤ 62) (h1 : 62 < m + s) : 62 / s = k := by
  have e : 62 = (62 - m) + k * s := by omega
  rw [e, Int.add_mul_ediv_right _ _ (by omega), Int.ediv_eq_zero_of_lt (by omega) (by omega)]
  omega

theorem rSlots_in (c : Int) (he : errC c = 0) (w : World) : Calls Tryz.prog 86 #[.int .i64 c] w fun e W' => e = .returned (.tuple #[.int .i64 (sloI c), .int .i64 0]) ∧ K w W' := by
  obtain ⟨s0, s1, hq, c0, c1⟩ := siz_in he
  have HQ : Hid (sloI c = 62 / sizI c) := hq
  have HR : Hid (∀ (w : World) (b : Nat), Row w b → w.cell? ⟨b, c.toNat, none⟩ = some (.int .i64 (sizI c))) := fun w b R => R.at c he
  clear hq he
  generalize sizI c = s at s0 s1 HQ HR
  generalize sloI c = q at HQ
  have h0 : ¬ c < 0 := by omega
  have h1 : ¬ 8 ≤ c := by omega
  go_enter Tryz.func86, Tryz.ntmps86
  go_wp2_with (go_at_call 61; refine (rSizes_ok _).mono ?_; rintro e w2 ⟨b, rfl, k2, R⟩)
  have hc := HR.out _ _ R
  clear R
  go_loopg [5] 31 (fun g t wx => ∃ k m : Int, w2 = wx ∧ k + g = 31 ∧ 0 ≤ k ∧ t = .int .i64 k ∧ Hid (k * s = m) ∧ 0 ≤ m ∧ m ≤ 62)
  case atStart => exact ⟨0, 0, rfl, by omega, by omega, rfl, Int.zero_mul _, by omega, by omega⟩
  case round =>
    obtain ⟨k, m, rfl, hg, hk, rfl, HM, m0, m1⟩ := hrel
    have HN : Hid ((k + 1) * s = m + s) := by
      show (k + 1) * s = m + s
      rw [Int.add_mul, Int.one_mul, HM.out]
    have key : wrap64 ((k + 1) * s) = m + s := by
      rw [HN.out]
      unfold wrap64
      omega
    have hh := Int.mul_le_mul_of_nonneg_left s0 (show 0 ≤ k + 1 by omega)
    rw [HN.out] at hh
    by_cases hl : m + s ≤ 62
    · go_wp2_with (simp only [key])
      go_roundg (30 - k.toNat)
      case measure => omega
      case rel => exact ⟨k + 1, m + s, rfl, by omega, by omega, by go_num, HN, by omega, by omega⟩
    · have HE : Hid (q = k) := by
        show q = k
        rw [HQ.out]
        exact slots_end s0 HM.out m1 (by omega)
      clear HQ
      go_wp2_with (simp only [key])
      go_ret2
      refine ⟨?_, k2⟩
      rw [HE.out]
      rfl

theorem rSlots_any (c : Int) (w : World) : Calls Tryz.prog 86 #[.int .i64 c] w fun e W' => e = .returned (.tuple #[.int .i64 (sloI c), .int .i64 (errC c)]) ∧ K w W' := by
  by_cases he : errC c = 0
  · rw [he]
    exact rSlots_in c he w
  · obtain ⟨_, h2, h3, h4⟩ := siz_out he
    rw [h2, h3]
    exact rSlots_out c h4 w

/-- Since B nothing has turned, and the reference's sizes lie in block b. -/
structure T (B : World) (b : Nat) (w : World) : Prop where
  k : K B w
  r : Row w b
theorem T.step {B w w' : World} {b : Nat} (t : T B b w) (h : K w w') : T B b w' := ⟨t.k.trans h, t.r.keep h⟩

end Cl
end Go.Proofs.YtkjjobafbcdmoaaGreatDoor
