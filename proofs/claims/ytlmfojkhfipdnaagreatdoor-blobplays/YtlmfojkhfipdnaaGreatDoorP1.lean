/-
  The reference: Sizes, Slots, Of and Pages.
-/
import Derived.Test.YtlmfojkhfipdnaaGreatDoorC1
import Derived.Deep.LoopGhost
import Derived.Test.YtlmfojkhfipdnaaGreatDoorH3
import Derived.Test.YtlmfojkhfipdnaaGreatDoorH6
import Derived.Deep.MidRow
import Derived.Maps.AppendAt
import Derived.BigQuiet
import Derived.Deep.RegionWith
namespace Go.Proofs.YtlmfojkhfipdnaaGreatDoor
open Go.RowKit
namespace Cl

/-- The reference's sizes lie in block b. -/
structure Row (w : World) (b : Nat) : Prop where
  c0 : w.cell? ⟨b, 0, none⟩ = some (.int .i64 2)
  c1 : w.cell? ⟨b, 1, none⟩ = some (.int .i64 3)
  c2 : w.cell? ⟨b, 2, none⟩ = some (.int .i64 4)
  c3 : w.cell? ⟨b, 3, none⟩ = some (.int .i64 6)
  c4 : w.cell? ⟨b, 4, none⟩ = some (.int .i64 9)
  c5 : w.cell? ⟨b, 5, none⟩ = some (.int .i64 13)
  c6 : w.cell? ⟨b, 6, none⟩ = some (.int .i64 19)
  c7 : w.cell? ⟨b, 7, none⟩ = some (.int .i64 28)

theorem lt_of_cell {w : World} {p : Addr} {v : Value} (h : w.cell? p = some v) : p.block < w.heap.size := by
  apply Nat.lt_of_not_le
  intro hle
  have : w.heap[p.block]? = none := Array.getElem?_eq_none hle
  simp [World.cell?, this] at h

theorem K.cell {w w' : World} (h : K w w') {p : Addr} {v : Value} (hc : w.cell? p = some v) : w'.cell? p = some v := by
  rw [h.bel.cell (lt_of_cell hc)]
  exact hc

theorem Row.keep {w w' : World} {b : Nat} (R : Row w b) (h : K w w') : Row w' b :=
  ⟨h.cell R.c0, h.cell R.c1, h.cell R.c2, h.cell R.c3, h.cell R.c4, h.cell R.c5, h.cell R.c6, h.cell R.c7⟩

theorem rSizes_ok (w : World) : Calls Tryz.prog 137 #[] w fun e W' => ∃ b, e = .returned (.slice (some ⟨b, 0, none⟩) 8 8) ∧ K w W' ∧ Row W' b := by
  go_enter Tryz.func137, Tryz.ntmps137
  go_wp2
  go_ret
  refine ⟨w.heap.size, rfl, ⟨(Below.refl _ w).alloc (Nat.le_refl _) _⟩, ?_⟩
  constructor <;> simp

theorem rOf_out (n : Int) (hn : ¬ Wd n) (w : World) : Calls Tryz.prog 97 #[.int .i64 n] w fun e W' => e = .returned (.tuple #[.int .i64 0, .bool false, .int .i64 2]) ∧ K w W' := by
  by_cases h1 : n < 1
  · go_enter Tryz.func97, Tryz.ntmps97
    go_wp2_with (go_at_call 137; refine (rSizes_ok _).mono ?_; rintro e w2 ⟨b, rfl, k2, _⟩)
    go_ret3
    exact ⟨rfl, k2⟩
  · have h2 : 4000 < n := by unfold Wd at hn; omega
    go_enter Tryz.func97, Tryz.ntmps97
    go_wp2_with (go_at_call 137; refine (rSizes_ok _).mono ?_; rintro e w2 ⟨b, rfl, k2, _⟩)
    go_ret3
    exact ⟨rfl, k2⟩

theorem rOf_in (n : Int) (hn : Wd n) (w : World) : Calls Tryz.prog 97 #[.int .i64 n] w fun e W' => e = .returned (.tuple #[.int .i64 (clsI n), .bool (smaI n), .int .i64 0]) ∧ K w W' := by
  have n0 : ¬ n < 1 := by have := hn.1; omega
  have n1 : ¬ 4000 < n := by have := hn.2; omega
  go_enter Tryz.func97, Tryz.ntmps97
  go_wp2_with (go_at_call 137; refine (rSizes_ok _).mono ?_; rintro e w2 ⟨b, rfl, k2, R⟩)
  obtain ⟨c0, c1, c2, c3, c4, c5, c6, c7⟩ := R
  go_loopg [6] 8 (fun g t wx => ∃ k : Nat, w2 = wx ∧ k + g = 8 ∧ t = .int .i64 (k : Int) ∧ Hid (hit (fits n) (szs.take k) = none))
  case atStart => exact ⟨0, rfl, rfl, rfl, rfl⟩
  case round =>
    obtain ⟨k, rfl, hk, rfl, HA⟩ := hrel
    have hc : k = 0 ∨ k = 1 ∨ k = 2 ∨ k = 3 ∨ k = 4 ∨ k = 5 ∨ k = 6 ∨ k = 7 ∨ k = 8 := by omega
    rcases hc with rfl | rfl | rfl | rfl | rfl | rfl | rfl | rfl | rfl
    · by_cases h : n ≤ 2
      · have HB : hit (fits n) szs = some (0, 2) := hit_all (pre := szs.take 1) (by decide) (hit_on (pre := szs.take 0) (x := (0, 2)) HA.out (decide_eq_true h))
        have HQ : Hid (clsI n = 0 ∧ smaI n = true) := of_small hn HB
        clear HB HA hn
        go_wp2
        go_ret3
        refine ⟨?_, k2⟩
        rw [HQ.out.1, HQ.out.2]
        rfl
      · have HB : Hid (hit (fits n) (szs.take 1) = none) := hit_off (pre := szs.take 0) (x := (0, 2)) HA.out (decide_eq_false h)
        clear HA
        go_wp2
        go_roundg 7
        case measure => omega
        case rel => exact ⟨1, rfl, rfl, rfl, HB⟩
    · by_cases h : n ≤ 3
      · have HB : hit (fits n) szs = some (1, 3) := hit_all (pre := szs.take 2) (by decide) (hit_on (pre := szs.take 1) (x := (1, 3)) HA.out (decide_eq_true h))
        have HQ : Hid (clsI n = 1 ∧ smaI n = true) := of_small hn HB
        clear HB HA hn
        go_wp2
        go_ret3
        refine ⟨?_, k2⟩
        rw [HQ.out.1, HQ.out.2]
        rfl
      · have HB : Hid (hit (fits n) (szs.take 2) = none) := hit_off (pre := szs.take 1) (x := (1, 3)) HA.out (decide_eq_false h)
        clear HA
        go_wp2
        go_roundg 6
        case measure => omega
        case rel => exact ⟨2, rfl, rfl, rfl, HB⟩
    · by_cases h : n ≤ 4
      · have HB : hit (fits n) szs = some (2, 4) := hit_all (pre := szs.take 3) (by decide) (hit_on (pre := szs.take 2) (x := (2, 4)) HA.out (decide_eq_true h))
        have HQ : Hid (clsI n = 2 ∧ smaI n = true) := of_small hn HB
        clear HB HA hn
        go_wp2
        go_ret3
        refine ⟨?_, k2⟩
        rw [HQ.out.1, HQ.out.2]
        rfl
      · have HB : Hid (hit (fits n) (szs.take 3) = none) := hit_off (pre := szs.take 2) (x := (2, 4)) HA.out (decide_eq_false h)
        clear HA
        go_wp2
        go_roundg 5
        case measure => omega
        case rel => exact ⟨3, rfl, rfl, rfl, HB⟩
    · by_cases h : n ≤ 6
      · have HB : hit (fits n) szs = some (3, 6) := hit_all (pre := szs.take 4) (by decide) (hit_on (pre := szs.take 3) (x := (3, 6)) HA.out (decide_eq_true h))
        have HQ : Hid (clsI n = 3 ∧ smaI n = true) := of_small hn HB
        clear HB HA hn
        go_wp2
        go_ret3
        refine ⟨?_, k2⟩
        rw [HQ.out.1, HQ.out.2]
        rfl
      · have HB : Hid (hit (fits n) (szs.take 4) = none) := hit_off (pre := szs.take 3) (x := (3, 6)) HA.out (decide_eq_false h)
        clear HA
        go_wp2
        go_roundg 4
        case measure => omega
        case rel => exact ⟨4, rfl, rfl, rfl, HB⟩
    · by_cases h : n ≤ 9
      · have HB : hit (fits n) szs = some (4, 9) := hit_all (pre := szs.take 5) (by decide) (hit_on (pre := szs.take 4) (x := (4, 9)) HA.out (decide_eq_true h))
        have HQ : Hid (clsI n = 4 ∧ smaI n = true) := of_small hn HB
        clear HB HA hn
        go_wp2
        go_ret3
        refine ⟨?_, k2⟩
        rw [HQ.out.1, HQ.out.2]
        rfl
      · have HB : Hid (hit (fits n) (szs.take 5) = none) := hit_off (pre := szs.take 4) (x := (4, 9)) HA.out (decide_eq_false h)
        clear HA
        go_wp2
        go_roundg 3
        case measure => omega
        case rel => exact ⟨5, rfl, rfl, rfl, HB⟩
    · by_cases h : n ≤ 13
      · have HB : hit (fits n) szs = some (5, 13) := hit_all (pre := szs.take 6) (by decide) (hit_on (pre := szs.take 5) (x := (5, 13)) HA.out (decide_eq_true h))
        have HQ : Hid (clsI n = 5 ∧ smaI n = true) := of_small hn HB
        clear HB HA hn
        go_wp2
        go_ret3
        refine ⟨?_, k2⟩
        rw [HQ.out.1, HQ.out.2]
        rfl
      · have HB : Hid (hit (fits n) (szs.take 6) = none) := hit_off (pre := szs.take 5) (x := (5, 13)) HA.out (decide_eq_false h)
        clear HA
        go_wp2
        go_roundg 2
        case measure => omega
        case rel => exact ⟨6, rfl, rfl, rfl, HB⟩
    · by_cases h : n ≤ 19
      · have HB : hit (fits n) szs = some (6, 19) := hit_all (pre := szs.take 7) (by decide) (hit_on (pre := szs.take 6) (x := (6, 19)) HA.out (decide_eq_true h))
        have HQ : Hid (clsI n = 6 ∧ smaI n = true) := of_small hn HB
        clear HB HA hn
        go_wp2
        go_ret3
        refine ⟨?_, k2⟩
        rw [HQ.out.1, HQ.out.2]
        rfl
      · have HB : Hid (hit (fits n) (szs.take 7) = none) := hit_off (pre := szs.take 6) (x := (6, 19)) HA.out (decide_eq_false h)
        clear HA
        go_wp2
        go_roundg 1
        case measure => omega
        case rel => exact ⟨7, rfl, rfl, rfl, HB⟩
    · by_cases h : n ≤ 28
      · have HB : hit (fits n) szs = some (7, 28) := hit_all (pre := szs.take 8) (by decide) (hit_on (pre := szs.take 7) (x := (7, 28)) HA.out (decide_eq_true h))
        have HQ : Hid (clsI n = 7 ∧ smaI n = true) := of_small hn HB
        clear HB HA hn
        go_wp2
        go_ret3
        refine ⟨?_, k2⟩
        rw [HQ.out.1, HQ.out.2]
        rfl
      · have HB : Hid (hit (fits n) (szs.take 8) = none) := hit_off (pre := szs.take 7) (x := (7, 28)) HA.out (decide_eq_false h)
        clear HA
        go_wp2
        go_roundg 0
        case measure => omega
        case rel => exact ⟨8, rfl, rfl, rfl, HB⟩
    · have HQ : Hid (clsI n = 0 ∧ smaI n = false) := of_large HA.out
      clear HA
      go_wp2
      go_ret3
      refine ⟨?_, k2⟩
      rw [HQ.out.1, HQ.out.2]
      rfl

theorem rOf_any (n : Int) (w : World) : Calls Tryz.prog 97 #[.int .i64 n] w fun e W' => e = .returned (.tuple #[.int .i64 (clsI n), .bool (smaI n), .int .i64 (errW n)]) ∧ K w W' := by
  by_cases h : Wd n
  · rw [errW_in h]
    exact rOf_in n h w
  · rw [errW_out h, clsI_out h, smaI_out h]
    exact rOf_out n h w

theorem rPages_any (n : Int) (w : World) : Calls Tryz.prog 98 #[.int .i64 n] w fun e W' => e = .returned (.tuple #[.int .i64 (pagI n), .int .i64 (errW n)]) ∧ K w W' := by
  have co := rOf_any n w
  by_cases h : Wd n
  · have h0 := h.1
    have h1 := h.2
    have HP : Hid (pagI n = (n + 65) / 64) := pagI_in h
    rw [errW_in h] at co ⊢
    generalize pagI n = p at HP
    cases hs : smaI n with
    | true =>
      have hl : n ≤ 28 := by rcases of_cases n h with c | c | c | c | c | c | c | c | c <;> simp_all <;> omega
      have hp : p = 1 := by rw [HP.out]; omega
      clear HP
      subst hp
      rw [hs] at co
      generalize clsI n = x at co
      clear hs h
      go_enter Tryz.func98, Tryz.ntmps98
      go_wp2_with (go_at_call 97; refine co.mono ?_; rintro e w2 ⟨rfl, k2⟩)
      go_loopg [7] 0 (fun g t wx => w2 = wx ∧ g = 0 ∧ t = .int .i64 1)
      case atStart => exact ⟨rfl, rfl, rfl⟩
      case round =>
        obtain ⟨rfl, hg, rfl⟩ := hrel
        clear hg
        go_wp2
        go_ret2
        exact ⟨rfl, k2⟩
    | false =>
      rw [hs] at co
      generalize clsI n = x at co
      clear hs h
      go_enter Tryz.func98, Tryz.ntmps98
      go_wp2_with (go_at_call 97; refine co.mono ?_; rintro e w2 ⟨rfl, k2⟩)
      go_loopg [7] 63 (fun g t wx => ∃ k : Int, w2 = wx ∧ k + g = 64 ∧ 1 ≤ k ∧ t = .int .i64 k ∧ (k - 1) * 64 < n + 2)
      case atStart => exact ⟨1, rfl, by omega, by omega, rfl, by omega⟩
      case round =>
        obtain ⟨k, rfl, hg, hk, rfl, hl⟩ := hrel
        by_cases hc : k * 64 < n + 2
        · go_wp2
          go_roundg (63 - k.toNat)
          case measure => omega
          case rel => exact ⟨k + 1, rfl, by omega, by omega, by go_num, by omega⟩
        · have HQ : Hid (p = k) := by
            show p = k
            rw [HP.out]
            omega
          go_wp2
          go_ret2
          refine ⟨?_, k2⟩
          rw [HQ.out]
          rfl
  · rw [errW_out h] at co ⊢
    rw [pagI_out h]
    generalize clsI n = x at co
    generalize smaI n = y at co
    go_enter Tryz.func98, Tryz.ntmps98
    go_wp2_with (go_at_call 97; refine co.mono ?_; rintro e w2 ⟨rfl, k2⟩)
    go_ret2
    exact ⟨rfl, k2⟩

end Cl
end Go.Proofs.YtlmfojkhfipdnaaGreatDoor

/-
  The reference's Slots, and the walk of ClassSizes.
-/
namespace Go.Proofs.YtlmfojkhfipdnaaGreatDoor
open Go.RowKit
namespace Cl

theorem rSlots_out (c : Int) (h : ¬ C c) (w : World) : Calls Tryz.prog 161 #[.int .i64 c] w fun e W' => e = .returned (.tuple #[.int .i64 0, .int .i64 2]) ∧ K w W' := by
  unfold C at h
  by_cases h0 : c < 0
  · clear h
    go_enter Tryz.func161, Tryz.ntmps161
    go_wp2_with (go_at_call 137; refine (rSizes_ok _).mono ?_; rintro e w2 ⟨b, rfl, k2, _⟩)
    go_ret2
    exact ⟨rfl, k2⟩
  · have h1 : 8 ≤ c := by omega
    clear h
    go_enter Tryz.func161, Tryz.ntmps161
    go_wp2_with (go_at_call 137; refine (rSizes_ok _).mono ?_; rintro e w2 ⟨b, rfl, k2, _⟩)
    go_ret2
    exact ⟨rfl, k2⟩

/-- The cell of a class. -/
theorem Row.at {w : World} {b : Nat} (R : Row w b) (c : Int) (h : errC c = 0) : w.cell? ⟨b, c.toNat, none⟩ = some (.int .i64 (sizI c)) := by
  rcases siz_cases c with ⟨rfl, a, _, _⟩ | ⟨rfl, a, _, _⟩ | ⟨rfl, a, _, _⟩ | ⟨rfl, a, _, _⟩ | ⟨rfl, a, _, _⟩ | ⟨rfl, a, _, _⟩ | ⟨rfl, a, _, _⟩ | ⟨rfl, a, _, _⟩ | ⟨_, _, a, _⟩
  case inr.inr.inr.inr.inr.inr.inr.inr => omega
  · rw [a]; exact R.c0
  · rw [a]; exact R.c1
  · rw [a]; exact R.c2
  · rw [a]; exact R.c3
  · rw [a]; exact R.c4
  · rw [a]; exact R.c5
  · rw [a]; exact R.c6
  · rw [a]; exact R.c7

theorem slots_end {s k m : Int} (hs : 2 ≤ s) (hm : k * s = m) (h0 : m ≤ 62) (h1 : 62 < m + s) : 62 / s = k := by
  have e : 62 = (62 - m) + k * s := by omega
  rw [e, Int.add_mul_ediv_right _ _ (by omega), Int.ediv_eq_zero_of_lt (by omega) (by omega)]
  omega

theorem rSlots_in (c : Int) (he : errC c = 0) (w : World) : Calls Tryz.prog 161 #[.int .i64 c] w fun e W' => e = .returned (.tuple #[.int .i64 (sloI c), .int .i64 0]) ∧ K w W' := by
  obtain ⟨s0, s1, hq, c0, c1⟩ := siz_in he
  have HQ : Hid (sloI c = 62 / sizI c) := hq
  have HR : Hid (∀ (w : World) (b : Nat), Row w b → w.cell? ⟨b, c.toNat, none⟩ = some (.int .i64 (sizI c))) := fun w b R => R.at c he
  clear hq he
  generalize sizI c = s at s0 s1 HQ HR
  generalize sloI c = q at HQ
  have h0 : ¬ c < 0 := by omega
  have h1 : ¬ 8 ≤ c := by omega
  go_enter Tryz.func161, Tryz.ntmps161
  go_wp2_with (go_at_call 137; refine (rSizes_ok _).mono ?_; rintro e w2 ⟨b, rfl, k2, R⟩)
  have hc := HR.out _ _ R
  clear R
  go_loopg [5] 31 (fun g t wx => ∃ k m : Int, w2 = wx ∧ k + g = 31 ∧ 0 ≤ k ∧ t = .int .i64 k ∧ Hid (k * s = m) ∧ 0 ≤ m ∧ m ≤ 62)
  case atStart => exact ⟨0, 0, rfl, by omega, by omega, rfl, Int.zero_mul _, by omega, by omega⟩
  case round =>
    obtain ⟨k, m, rfl, hg, hk, rfl, HM, m0, m1⟩ := hrel
    have HN : Hid ((k + 1) * s = m + s) := by
      show (k + 1) * s = m + s
      rw [Int.add_mul, Int.one_mul, HM.out]
    have key : wrap64 ((k + 1) * s) = m + s := by
      rw [HN.out]
      unfold wrap64
      omega
    have hh := Int.mul_le_mul_of_nonneg_left s0 (show 0 ≤ k + 1 by omega)
    rw [HN.out] at hh
    by_cases hl : m + s ≤ 62
    · go_wp2_with (simp only [key])
      go_roundg (30 - k.toNat)
      case measure => omega
      case rel => exact ⟨k + 1, m + s, rfl, by omega, by omega, by go_num, HN, by omega, by omega⟩
    · have HE : Hid (q = k) := by
        show q = k
        rw [HQ.out]
        exact slots_end s0 HM.out m1 (by omega)
      clear HQ
      go_wp2_with (simp only [key])
      go_ret2
      refine ⟨?_, k2⟩
      rw [HE.out]
      rfl

theorem rSlots_any (c : Int) (w : World) : Calls Tryz.prog 161 #[.int .i64 c] w fun e W' => e = .returned (.tuple #[.int .i64 (sloI c), .int .i64 (errC c)]) ∧ K w W' := by
  by_cases he : errC c = 0
  · rw [he]
    exact rSlots_in c he w
  · obtain ⟨_, h2, h3, h4⟩ := siz_out he
    rw [h2, h3]
    exact rSlots_out c h4 w

/-- Since B nothing has turned, and the reference's sizes lie in block b. -/
structure T (B : World) (b : Nat) (w : World) : Prop where
  k : K B w
  r : Row w b
theorem T.step {B w w' : World} {b : Nat} (t : T B b w) (h : K w w') : T B b w' := ⟨t.k.trans h, t.r.keep h⟩

end Cl
end Go.Proofs.YtlmfojkhfipdnaaGreatDoor

/-
  The reference's entries (loftref04): as cells, and as the heap's own entries.
-/
namespace Go.Proofs.YtlmfojkhfipdnaaGreatDoor
open Go.RowKit Go.Maps
namespace Hp

/-- Is slot k of an entry taken? -/
def tkB (p : Pg) (k : Nat) : Bool := if p.kind = 2 then decide (k = 0 ∧ p.taken = 0) else Bt.hasI p.taken k
def lgB (p : Pg) : Bool := decide (p.kind = 2)
def wdI (p : Pg) (j : Int) : Int := if p.kind = 2 then p.words else j
/-- An entry of the reference: ours, and what it says of the words where they do not matter. -/
abbrev Re : Type := Pg × Int
def reList (e : Re) : List Value := [.int .i64 e.1.n, .int .i64 e.1.span, .int .i64 e.1.cls, .int .i64 (wdI e.1 e.2), .bool (lgB e.1)] ++ (List.range 31).map fun k => .bool (tkB e.1 k)
def reVals (E : List Re) : List Value := E.flatMap reList

theorem reList_len (e : Re) : (reList e).length = 36 := by simp [reList]
theorem reVals_len : ∀ E, (reVals E).length = E.length * 36
  | [] => rfl
  | e :: E => by
    have := reVals_len E
    rw [show reVals (e :: E) = reList e ++ reVals E from rfl, List.length_append, reList_len, this, List.length_cons]
    omega
theorem reVals_app (A B : List Re) : reVals (A ++ B) = reVals A ++ reVals B := by simp [reVals]
theorem reList_one (e : Re) : ∀ u ∈ reList e, u.oneCell' = true := fun u hu => by
  simp only [reList, List.mem_append, List.mem_cons, List.not_mem_nil, or_false, List.mem_map] at hu
  rcases hu with (rfl | rfl | rfl | rfl | rfl) | ⟨k, _, rfl⟩ <;> rfl
theorem reVals_one : ∀ E, ∀ u ∈ reVals E, u.oneCell' = true
  | [], _, h => by cases h
  | e :: E, u, h => by
    rcases List.mem_append.1 (show u ∈ reList e ++ reVals E from h) with h | h
    · exact reList_one e u h
    · exact reVals_one E u h
theorem reVals_at : ∀ {E : List Re} {i : Nat} {e : Re}, E[i]? = some e → ∀ j, j < 36 → (reVals E)[i * 36 + j]? = (reList e)[j]?
  | [], i, _, h, _, _ => by simp at h
  | u :: T, 0, t, h, j, hj => by
    obtain rfl : u = t := by simpa using h
    rw [show reVals (u :: T) = reList u ++ reVals T from rfl, Nat.zero_mul, Nat.zero_add, List.getElem?_append_left (by rw [reList_len]; exact hj)]
  | u :: T, i + 1, t, h, j, hj => by
    have ih := reVals_at (E := T) (i := i) (e := t) (by simpa using h) j hj
    rw [show reVals (u :: T) = reList u ++ reVals T from rfl, show (i + 1) * 36 + j = (reList u).length + (i * 36 + j) by rw [reList_len]; omega, List.getElem?_append_right (by omega), Nat.add_sub_cancel_left]
    exact ih
theorem reVals_set : ∀ {E : List Re} {i : Nat} {e : Re}, E[i]? = some e → ∀ (e' : Re) (j : Nat) (v : Value), j < 36 → (reList e).set j v = reList e' → (reVals E).set (i * 36 + j) v = reVals (E.set i e')
  | [], i, _, h, _, _, _, _, _ => by simp at h
  | u :: T, 0, t, h, e', j, v, hj, hl => by
    obtain rfl : u = t := by simpa using h
    rw [show reVals (u :: T) = reList u ++ reVals T from rfl, Nat.zero_mul, Nat.zero_add, List.set_append_left _ _ (by rw [reList_len]; exact hj), hl]
    rfl
  | u :: T, i + 1, t, h, e', j, v, hj, hl => by
    have ih := reVals_set (E := T) (i := i) (e := t) (by simpa using h) e' j v hj hl
    rw [show reVals (u :: T) = reList u ++ reVals T from rfl, show (i + 1) * 36 + j = (reList u).length + (i * 36 + j) by rw [reList_len]; omega, List.set_append_right _ _ (by omega), Nat.add_sub_cancel_left, ih]
    rfl
theorem reVals_take (E : List Re) (k : Nat) (hk : k ≤ E.length) : (reVals E).take (k * 36) = reVals (E.take k) := by
  have e : reVals E = reVals (E.take k) ++ reVals (E.drop k) := by rw [← reVals_app, List.take_append_drop]
  have l : (reVals (E.take k)).length = k * 36 := by rw [reVals_len, List.length_take, Nat.min_eq_left hk]
  rw [e, ← l]
  exact List.take_left
theorem reVals_drop (E : List Re) (k : Nat) (hk : k ≤ E.length) : (reVals E).drop (k * 36) = reVals (E.drop k) := by
  have e : reVals E = reVals (E.take k) ++ reVals (E.drop k) := by rw [← reVals_app, List.take_append_drop]
  have l : (reVals (E.take k)).length = k * 36 := by rw [reVals_len, List.length_take, Nat.min_eq_left hk]
  rw [e, ← l]
  exact List.drop_left

theorem reList_tk {e : Re} {k : Nat} (hk : k < 31) : (reList e)[5 + k]? = some (.bool (tkB e.1 k)) := by
  unfold reList
  rw [List.getElem?_append_right (by simp)]
  simp [hk]
/-- A slot is taken, or left. -/
theorem reList_turnG {p : Pg} {j : Int} {t' : Int} {k : Nat} {b : Bool} (hk : k < 31) (e0 : ∀ i : Nat, i < 31 → tkB (withT p t') i = if i = k then b else tkB p i) : (reList (p, j)).set (5 + k) (.bool b) = reList (withT p t', j) := by
  apply List.ext_getElem?
  intro i
  rw [List.getElem?_set, reList_len]
  by_cases e : 5 + k = i
  · subst e
    rw [if_pos rfl, if_pos (by omega), reList_tk hk, e0 k hk, if_pos rfl]
  · rw [if_neg e]
    by_cases h5 : i < 5
    · unfold reList
      rw [List.getElem?_append_left (by simpa using h5), List.getElem?_append_left (by simpa using h5)]
      rfl
    · by_cases h36 : i < 36
      · obtain ⟨m, rfl⟩ : ∃ m, i = 5 + m := ⟨i - 5, by omega⟩
        rw [reList_tk (by omega), reList_tk (by omega), e0 m (by omega), if_neg (by omega)]
      · rw [List.getElem?_eq_none (by rw [reList_len]; omega), List.getElem?_eq_none (by rw [reList_len]; omega)]
theorem reList_turn {p : Pg} {j : Int} {t' : Int} {k : Nat} {b : Bool} (h1 : p.kind = 1) (hk : k < 31) (ht : ∀ i : Nat, i < 31 → Bt.hasI t' i = if i = k then b else Bt.hasI p.taken i) : (reList (p, j)).set (5 + k) (.bool b) = reList (withT p t', j) :=
  reList_turnG hk fun i hi => by
    have h2 : ¬ p.kind = 2 := by omega
    unfold tkB
    rw [if_neg (show ¬ (withT p t').kind = 2 from h2), if_neg h2]
    exact ht i hi

end Hp
end Go.Proofs.YtlmfojkhfipdnaaGreatDoor

/-
  The reference's heap in memory; walks of its functions that only count and compare.
-/
namespace Go.Proofs.YtlmfojkhfipdnaaGreatDoor
open Go.RowKit Go.Maps
namespace Hp
variable {w w' : World} {B br : Nat} {q : Int} {v : Value} {E : List Re}

theorem run_ixE (g len cap i : Nat) (hi : i < len) (w' : World) : (Instr.indexAt 29 (.slice (some ⟨g, 0, none⟩) len cap) (.int .i64 (i : Int))).run Tryz.prog w' = .ok (.pointer (some ⟨g, i * 36, none⟩)) w' := by
  have hel : Tryz.prog.elem 29 = 176 := by kernel_rfl
  have hsz : (sizeOf 176).run Tryz.prog w' = .ok 36 w' := by kernel_rfl
  have hu : Tryz.prog.underlying 29 = some (.slice (Tryz.prog.elem 29)) := by kernel_rfl
  rw [run_indexAt_slice w' 29 _ len cap .i64 i hu, if_pos (by omega), hel, hsz]
  simp only [Result.andThen_ok, Int.toNat_natCast]
  rw [Go.WideShapes.add_plain, Nat.zero_add]

/-- The entries' row, at block g. -/
structure RowE (w : World) (g : Nat) (a : Option Addr) (cap : Nat) (E : List Re) : Prop where
  ix : ∀ i : Nat, i < E.length → ∀ w', (Instr.indexAt 29 (.slice a E.length cap) (.int .i64 (i : Int))).run Tryz.prog w' = .ok (.pointer (some ⟨g, i * 36, none⟩)) w'
  cell : ∀ (j : Nat) (u : Value), (reVals E)[j]? = some u → w.cell? ⟨g, j, none⟩ = some u
theorem RowE.keep {g : Nat} {a : Option Addr} {cap : Nat} (h : RowE w g a cap E) (k : K w w') : RowE w' g a cap E := ⟨h.ix, fun j u hu => k.cell (h.cell j u hu)⟩
theorem RowE.at {g : Nat} {a : Option Addr} {cap : Nat} (h : RowE w g a cap E) {i : Nat} {e : Re} (he : E[i]? = some e) : w.cell? ⟨g, i * 36, none⟩ = some (.int .i64 e.1.n) ∧ w.cell? ⟨g, i * 36 + 1, none⟩ = some (.int .i64 e.1.span) ∧ w.cell? ⟨g, i * 36 + 2, none⟩ = some (.int .i64 e.1.cls) ∧ w.cell? ⟨g, i * 36 + 3, none⟩ = some (.int .i64 (wdI e.1 e.2)) ∧ w.cell? ⟨g, i * 36 + 4, none⟩ = some (.bool (lgB e.1)) := by
  have key : ∀ j u, j < 36 → (reList e)[j]? = some u → w.cell? ⟨g, i * 36 + j, none⟩ = some u := fun j u hj hu => h.cell _ _ (by rw [reVals_at he j hj]; exact hu)
  exact ⟨key 0 _ (by omega) rfl, key 1 _ (by omega) rfl, key 2 _ (by omega) rfl, key 3 _ (by omega) rfl, key 4 _ (by omega) rfl⟩
theorem RowE.tk {g : Nat} {a : Option Addr} {cap : Nat} (h : RowE w g a cap E) {i : Nat} {e : Re} (he : E[i]? = some e) {k : Nat} (hk : k < 31) : w.cell? ⟨g, i * 36 + 5 + k, none⟩ = some (.bool (tkB e.1 k)) := by
  have := h.cell (i * 36 + (5 + k)) _ (by rw [reVals_at he (5 + k) (by omega)]; exact reList_tk hk)
  rw [← Nat.add_assoc] at this
  exact this
theorem RowE.range {g : Nat} {a : Option Addr} {cap : Nat} (h : RowE w g a cap E) {i : Nat} {e : Re} (he : E[i]? = some e) : w.rangeAt g (i * 36) (reList e) := fun j u hu => h.cell _ _ (by rw [reVals_at he j (by have := (List.getElem?_eq_some_iff.1 hu).1; rw [reList_len] at this; exact this)]; exact hu)

theorem rowE_form (h : w.ownsRow B 176 36 v E.length (reVals E)) : ∃ g a cap, v = .slice a E.length cap ∧ RowE w g a cap E ∧ ((a = some ⟨g, 0, none⟩ ∧ B ≤ g ∧ g < w.heap.size) ∨ (a = none ∧ E = [] ∧ cap = 0)) ∧ E.length ≤ cap ∧ (a = some ⟨g, 0, none⟩ → ∀ j, w.frozen? ⟨g, j, none⟩ = false) := by
  rcases h.2 with ⟨h1, h0⟩ | ⟨g, cap, cur, h1, hbase, hbk, h2, h3, h4, h5⟩
  · have hK : E = [] := List.eq_nil_of_length_eq_zero h0
    subst hK
    exact ⟨0, none, 0, by rw [h1]; rfl, ⟨fun i hi => by simp at hi, fun j u hu => by simp [reVals] at hu⟩, Or.inr ⟨rfl, rfl, rfl⟩, Nat.le_refl _, fun h => nomatch h⟩
  · have cell : ∀ (j : Nat) (u : Value), (reVals E)[j]? = some u → w.cell? ⟨g, j, none⟩ = some u := fun j u hu => by
      have hj := (List.getElem?_eq_some_iff.1 hu).1
      rw [reVals_len] at hj
      rw [← h5, List.getElem?_take, if_pos hj] at hu
      simp only [World.cell?, hbk]
      rw [if_neg (by simp), ← Array.getElem?_toList]
      exact hu
    exact ⟨g, some ⟨g, 0, none⟩, cap, h1, ⟨fun i hi w' => run_ixE g _ _ i hi w', cell⟩, Or.inl ⟨rfl, hbase, (Array.getElem?_eq_some_iff.1 hbk).1⟩, h2, fun _ j => by simp [World.frozen?, hbk]⟩

def entsR (E : List Re) : List Pg := E.map Prod.fst
/-- What is so of the reference's entries. -/
structure Eo (E : List Re) : Prop where
  wl : Wl (entsR E)
  len : E.length ≤ 64
  n1 : ∀ e ∈ E, e.1.n ≤ 4096
theorem Eo.at (h : Eo E) {i : Nat} {e : Re} (he : E[i]? = some e) : Ent e.1 ∧ 0 ≤ e.1.n ∧ e.1.n ≤ 4096 ∧ 1 ≤ e.1.span ∧ e.1.span ≤ 63 := by
  have hm : e.1 ∈ entsR E := List.mem_map.2 ⟨e, List.mem_of_getElem? he, rfl⟩
  have h1 := h.wl.ent _ hm
  exact ⟨h1, h.wl.n0 _ hm, h.n1 e (List.mem_of_getElem? he), h1.span.1, h1.span.2⟩

theorem granted_app (A B : List Pg) : granted (A ++ B) = granted A + granted B := by simp [granted]
theorem granted_take {E : List Re} {i : Nat} {e : Re} (he : E[i]? = some e) : granted (entsR (E.take (i + 1))) = granted (entsR (E.take i)) + e.1.span := by
  obtain ⟨hi, h2⟩ := List.getElem?_eq_some_iff.1 he
  rw [List.take_succ_eq_append_getElem hi, h2]
  simp only [entsR, List.map_append, granted_app]
  simp [granted]

set_option maxHeartbeats 1000000 in
theorem rGranted_any {g cap : Nat} {a : Option Addr} (hr : RowE w g a cap E) (hE : Eo E) : Calls Tryz.prog 101 #[.agg #[.int .i64 q, .slice a E.length cap]] w fun e w' => e = .returned (.int .i64 (granted (entsR E))) ∧ K w w' := by
  have hk0 : K w (w.alloc (.cells #[.int .i64 q, .slice a E.length cap] 31)) := (K.refl _).alloc _
  have HR : Aside _ := hr.keep hk0
  have HE : Aside _ := hE
  have hl := hE.len
  clear hr hE
  go_enter Tryz.func101, Tryz.ntmps101
  go_wp2
  go_loopg [3, 4] E.length (fun gh t3 t4 wx => ∃ (i : Nat) (s : Int), i + gh = E.length ∧ t4 = .int .i64 i ∧ t3 = .int .i64 s ∧ 0 ≤ s ∧ s ≤ 63 * i ∧ Aside (s = granted (entsR (E.take i))) ∧ w.alloc (.cells #[.int .i64 q, .slice a E.length cap] 31) = wx)
  case atStart => exact ⟨0, 0, by omega, rfl, rfl, Int.le_refl _, by omega, rfl, rfl⟩
  case round =>
    obtain ⟨i, s, hig, rfl, rfl, s0, s1, HS, rfl⟩ := hrel
    by_cases hlt : i < E.length
    · obtain ⟨e, he⟩ : ∃ e, E[i]? = some e := ⟨_, List.getElem?_eq_getElem hlt⟩
      have hix := HR.out.ix i hlt
      obtain ⟨_, d1, _⟩ := HR.out.at he
      obtain ⟨_, _, _, p0, p1⟩ := HE.out.at he
      have HGT : Aside _ := granted_take he
      clear he
      go_wp2
      go_roundg (E.length - (i + 1))
      case measure => omega
      case rel => exact ⟨i + 1, s + e.1.span, by omega, by go_num, rfl, by omega, by omega, by show _ = _; rw [HGT.out, ← HS.out], rfl⟩
    · have HS2 : Hid (granted (entsR E) = s) := by
        show granted (entsR E) = s
        rw [HS.out, List.take_of_length_le (by omega)]
      go_wp2
      go_ret
      exact ⟨by rw [HS2.out]; rfl, hk0⟩

/-- Does an entry lie in the run? -/
def hitsB (f m : Int) (p : Pg) : Bool := decide (p.n < f + m) && decide (f < p.n + p.span)
/-- No entry but the one named lies in the run. -/
def frB (E : List Re) (f m own : Int) : Prop := ∀ (i : Nat) (e : Re), E[i]? = some e → (i : Int) ≠ own → hitsB f m e.1 = false

set_option maxRecDepth 100000 in
set_option maxHeartbeats 1000000 in
theorem rFree_any {g cap : Nat} {a : Option Addr} (hr : RowE w g a cap E) (hE : Eo E) (f m own : Int) (f0 : 0 ≤ f) (f1 : f ≤ 8192) (m0 : 1 ≤ m) (m1 : m ≤ 63) : Calls Tryz.prog 139 #[.agg #[.int .i64 q, .slice a E.length cap], .int .i64 f, .int .i64 m, .int .i64 own] w fun e w' => ((e = .returned (.bool true) ∧ frB E f m own) ∨ (e = .returned (.bool false) ∧ ¬ frB E f m own)) ∧ K w w' := by
  have hk0 : K w (w.alloc (.cells #[.int .i64 q, .slice a E.length cap] 31)) := (K.refl _).alloc _
  have hb : (w.alloc (.cells #[.int .i64 q, .slice a E.length cap] 31)).heap[w.heap.size]? = some (.cells #[.int .i64 q, .slice a E.length cap] 31) := (MapKept.heap_alloc w _).1
  have HR : Aside _ := hr.keep hk0
  have HE : Aside _ := hE
  have hl := hE.len
  clear hr hE
  go_enter Tryz.func139, Tryz.ntmps139
  go_wp2
  generalize w.alloc (.cells #[.int .i64 q, .slice a E.length cap] 31) = W at *
  go_loopg [9] E.length (fun gh t9 wx => ∃ i : Nat, i + gh = E.length ∧ t9 = .int .i64 i ∧ Aside (∀ (j : Nat) (e : Re), j < i → E[j]? = some e → (j : Int) ≠ own → hitsB f m e.1 = false) ∧ K W wx)
  case atStart => exact ⟨0, by omega, rfl, fun j e hj => by omega, K.refl _⟩
  case round =>
    obtain ⟨i, hig, rfl, HI, hk⟩ := hrel
    have hbx := hk.block hb
    have b1 : wr.cell? ⟨w.heap.size, 1, none⟩ = some (.slice a E.length cap) := by simp [World.cell?, hbx]
    clear hbx
    by_cases hlt : i < E.length
    · obtain ⟨e, he⟩ : ∃ e, E[i]? = some e := ⟨_, List.getElem?_eq_getElem hlt⟩
      have hix := HR.out.ix i hlt
      obtain ⟨d0, d1, _⟩ := (HR.out.keep hk).at he
      obtain ⟨_, n0, n1, p0, p1⟩ := HE.out.at he
      have step : ((i : Int) ≠ own → hitsB f m e.1 = false) → ∀ wx, K wr wx → ∃ i' : Nat, i' + (E.length - (i + 1)) = E.length ∧ Value.int .i64 ((i : Int) + 1) = .int .i64 i' ∧ Aside (∀ (j : Nat) (e : Re), j < i' → E[j]? = some e → (j : Int) ≠ own → hitsB f m e.1 = false) ∧ K W wx := fun hx wx k => by
        refine ⟨i + 1, by omega, by simp, fun j t hj ht hne => ?_, hk.trans k⟩
        by_cases e2 : j = i
        · subst e2
          obtain rfl : e = t := Option.some.inj (he.symm.trans ht)
          exact hx hne
        · exact HI.out j t (by omega) ht hne
      have STEP : Aside _ := step
      have HGE : Aside _ := he
      clear he step
      by_cases ho : (i : Int) = own
      · have hd : ((i : Int) != own) = false := by simpa using ho
        have X : Aside ((i : Int) ≠ own → hitsB f m e.1 = false) := fun h => absurd ho h
        clear ho
        go_wp2
        go_quiet (fail)
        go_wp2
        go_roundg (E.length - (i + 1))
        case measure => omega
        case rel => exact STEP.out X.out _ ((K.refl _).drewN _)
      · have hd : ((i : Int) != own) = true := by simpa using ho
        have HO : Aside _ := ho
        clear ho
        by_cases h1 : e.1.n < f + m
        · by_cases h2 : f < e.1.n + e.1.span
          · have X : Aside (¬ frB E f m own) := fun hf => by
              have := hf i e HGE.out HO.out
              simp [hitsB, h1, h2] at this
            go_wp2
            go_quiet (fail)
            go_wp2
            go_ret
            exact ⟨.inr ⟨rfl, X.out⟩, (hk0.trans hk).drewN _⟩
          · have X : Aside ((i : Int) ≠ own → hitsB f m e.1 = false) := fun _ => by simp [hitsB, h2]
            go_wp2
            go_quiet (fail)
            go_wp2
            go_roundg (E.length - (i + 1))
            case measure => omega
            case rel => exact STEP.out X.out _ ((K.refl _).drewN _)
        · have X : Aside ((i : Int) ≠ own → hitsB f m e.1 = false) := fun _ => by simp [hitsB, h1]
          have hdd : decide (e.1.n < f + m) = false := by simpa using h1
          go_wp2
          go_quiet (fail)
          go_wp2
          go_roundg (E.length - (i + 1))
          case measure => omega
          case rel => exact STEP.out X.out _ ((K.refl _).drewN _)
    · have X : Aside (frB E f m own) := fun j e he hne => HI.out j e (by have := (List.getElem?_eq_some_iff.1 he).1; omega) he hne
      go_wp2
      go_ret
      exact ⟨.inl ⟨rfl, X.out⟩, hk0.trans hk⟩

set_option maxHeartbeats 1000000 in
theorem rLowest_any {g cap : Nat} {a : Option Addr} (hr : RowE w g a cap E) (hE : Eo E) (m own f : Int) (f0 : 0 ≤ f) (f1 : f ≤ 8000) (m0 : 1 ≤ m) (m1 : m ≤ 63) (hf : frB E f m own) (hn : ∀ h, 0 ≤ h → h < f → ¬ frB E h m own) : Calls Tryz.prog 102 #[.agg #[.int .i64 q, .slice a E.length cap], .int .i64 m, .int .i64 own] w fun e w' => e = .returned (.int .i64 f) ∧ K w w' := by
  have hk0 : K w (w.alloc (.cells #[.int .i64 q, .slice a E.length cap] 31)) := (K.refl _).alloc _
  have hb : (w.alloc (.cells #[.int .i64 q, .slice a E.length cap] 31)).heap[w.heap.size]? = some (.cells #[.int .i64 q, .slice a E.length cap] 31) := (MapKept.heap_alloc w _).1
  have HR : Aside _ := hr.keep hk0
  have HE : Aside _ := hE
  have HF : Aside (frB E f m own ∧ ∀ h, 0 ≤ h → h < f → ¬ frB E h m own) := ⟨hf, hn⟩
  clear hr hE hf hn
  go_enter Tryz.func102, Tryz.ntmps102
  go_wp2
  generalize w.alloc (.cells #[.int .i64 q, .slice a E.length cap] 31) = W at *
  go_loopg [7] (f.toNat + 1) (fun gh t7 wx => ∃ h : Int, 0 ≤ h ∧ h + gh = f + 1 ∧ h ≤ f ∧ t7 = .int .i64 h ∧ K W wx)
  case atStart => exact ⟨0, by omega, by omega, by omega, rfl, K.refl _⟩
  case round =>
    obtain ⟨h, h0, hg, h1, rfl, hk⟩ := hrel
    have hbx := hk.block hb
    have b0 : wr.cell? ⟨w.heap.size, 0, none⟩ = some (.int .i64 q) := by simp [World.cell?, hbx]
    have b1 : wr.cell? ⟨w.heap.size, 1, none⟩ = some (.slice a E.length cap) := by simp [World.cell?, hbx]
    have cf := rFree_any (q := q) (HR.out.keep hk) HE.out h m own h0 (by omega) m0 m1
    clear hbx
    go_wp2_with fail
    refine cf.mono ?_
    rintro e w2 ⟨(⟨rfl, hy⟩ | ⟨rfl, hy⟩), k2⟩
    · obtain rfl : h = f := by
        by_cases e : h = f
        · exact e
        · exact absurd hy (HF.out.2 h h0 (by omega))
      clear cf hy
      go_wp2
      go_ret
      exact ⟨rfl, (hk0.trans hk).trans k2⟩
    · have hlt : h < f := by
        by_cases e : h = f
        · subst e; exact absurd HF.out.1 hy
        · omega
      clear cf hy
      go_wp2
      go_roundg (f + 1 - (h + 1)).toNat
      case measure => omega
      case rel => exact ⟨h + 1, by omega, by omega, by omega, by go_num, hk.trans k2⟩

/-- How many slots an entry has. -/
def nslI (p : Pg) : Int := if p.kind = 2 then 1 else Cl.sloI p.cls

theorem rslots_kd (p : Pg) (j : Int) (hp : p.kind = 1 ∨ p.kind = 2) (w : World) : Calls Tryz.prog 138 #[.agg (reList (p, j)).toArray] w fun e w' => e = .returned (.int .i64 (nslI p)) ∧ K w w' := by
  have hk0 : K w (w.alloc (.cells (reList (p, j)).toArray 176)) := (K.refl _).alloc _
  have d2 : (w.alloc (.cells (reList (p, j)).toArray 176)).cell? ⟨w.heap.size, 2, none⟩ = some (.int .i64 p.cls) := by rw [World.cell?_alloc_new]; rfl
  have d4 : (w.alloc (.cells (reList (p, j)).toArray 176)).cell? ⟨w.heap.size, 4, none⟩ = some (.bool (lgB p)) := by rw [World.cell?_alloc_new]; rfl
  generalize (reList (p, j)).toArray = arr at *
  rcases hp with h1 | h2
  · have hl : lgB p = false := by simp [lgB, h1]
    have E : Hid (nslI p = Cl.sloI p.cls) := by
      show nslI p = _
      unfold nslI
      rw [if_neg (by omega)]
    rw [hl] at d4
    have cs := fun w => Cl.rSlots_any p.cls w
    generalize p.cls = c at *
    clear hl h1
    go_enter Tryz.func138, Tryz.ntmps138
    go_wp2_with fail
    refine (cs _).mono ?_
    rintro e w2 ⟨rfl, k2⟩
    go_wp2
    go_ret
    exact ⟨by rw [E.out]; rfl, hk0.trans (K.of_below k2.bel)⟩
  · have hl : lgB p = true := by simp [lgB, h2]
    have E : Hid (nslI p = 1) := by
      show nslI p = _
      unfold nslI
      rw [if_pos h2]
    rw [hl] at d4
    clear hl h2
    go_enter Tryz.func138, Tryz.ntmps138
    go_wp2
    go_ret
    exact ⟨by rw [E.out]; rfl, hk0⟩
theorem rslots_any (p : Pg) (j : Int) (hp : Ent p) (w : World) : Calls Tryz.prog 138 #[.agg (reList (p, j)).toArray] w fun e w' => e = .returned (.int .i64 (nslI p)) ∧ K w w' := rslots_kd p j hp.kind w

end Hp
end Go.Proofs.YtlmfojkhfipdnaaGreatDoor

/-
  The reference's Place, Find, spot.
-/
namespace Go.Proofs.YtlmfojkhfipdnaaGreatDoor
open Go.RowKit Go.Maps
namespace Hp
variable {w w' : World} {B br : Nat} {q : Int} {v : Value} {E : List Re}

theorem sz_range {c : Int} (h0 : 0 ≤ c) (h1 : c ≤ 7) : 2 ≤ Cl.sizI c ∧ Cl.sizI c ≤ 28 ∧ 2 ≤ Cl.sloI c ∧ Cl.sloI c ≤ 31 := by
  rcases Cl.siz_cases c with ⟨_, a, _, b⟩ | ⟨_, a, _, b⟩ | ⟨_, a, _, b⟩ | ⟨_, a, _, b⟩ | ⟨_, a, _, b⟩ | ⟨_, a, _, b⟩ | ⟨_, a, _, b⟩ | ⟨_, a, _, b⟩ | ⟨a, _⟩
  case inr.inr.inr.inr.inr.inr.inr.inr => exact absurd ⟨h0, h1⟩ a
  all_goals
    rw [a, b]
    decide

theorem nsl_range {p : Pg} (h : Ent p) : 1 ≤ nslI p ∧ nslI p ≤ 31 := by
  unfold nslI
  rcases h.kind with h1 | h2
  · rw [if_neg (by omega)]
    have := sz_range (h.small h1).1 (h.small h1).2.1
    omega
  · rw [if_pos h2]
    omega

theorem run_ixz (b i : Nat) (hi : i < 8) (w' : World) : (Instr.indexAt 81 (.slice (some ⟨b, 0, none⟩) 8 8) (.int .i64 (i : Int))).run Tryz.prog w' = .ok (.pointer (some ⟨b, i, none⟩)) w' := by
  have hel : Tryz.prog.elem 81 = 3 := by kernel_rfl
  have hsz : (sizeOf 3).run Tryz.prog w' = .ok 1 w' := by kernel_rfl
  have hu : Tryz.prog.underlying 81 = some (.slice (Tryz.prog.elem 81)) := by kernel_rfl
  rw [run_indexAt_slice w' 81 _ 8 8 .i64 i hu, if_pos (by omega), hel, hsz]
  simp only [Result.andThen_ok, Int.toNat_natCast, Nat.mul_one]
  rw [Go.WideShapes.add_plain, Nat.zero_add]

set_option maxHeartbeats 1000000 in
theorem rPlace_any (p : Pg) (j : Int) (s : Nat) (hp : Ent p) (n0 : 0 ≤ p.n) (n1 : p.n ≤ 8192) (hs : (s : Int) < nslI p) (w : World) : Calls Tryz.prog 100 #[.agg (reList (p, j)).toArray, .int .i64 (s : Int)] w fun e w' => e = .returned (.int .i64 (addrI p s)) ∧ K w w' := by
  have hk0 : K w (w.alloc (.cells (reList (p, j)).toArray 176)) := (K.refl _).alloc _
  have d0 : (w.alloc (.cells (reList (p, j)).toArray 176)).cell? ⟨w.heap.size, 0, none⟩ = some (.int .i64 p.n) := by rw [World.cell?_alloc_new]; rfl
  have d2 : (w.alloc (.cells (reList (p, j)).toArray 176)).cell? ⟨w.heap.size, 2, none⟩ = some (.int .i64 p.cls) := by rw [World.cell?_alloc_new]; rfl
  have d4 : (w.alloc (.cells (reList (p, j)).toArray 176)).cell? ⟨w.heap.size, 4, none⟩ = some (.bool (lgB p)) := by rw [World.cell?_alloc_new]; rfl
  have hr := nsl_range hp
  generalize (reList (p, j)).toArray = arr at *
  rcases hp.kind with h1 | h2
  · have hl : lgB p = false := by simp [lgB, h1]
    obtain ⟨c0, c1, _⟩ := hp.small h1
    obtain ⟨z0, z1, _, _⟩ := sz_range c0 c1
    have hs2 : (s : Int) < Cl.sloI p.cls := by
      unfold nslI at hs
      rw [if_neg (by omega)] at hs
      exact hs
    obtain ⟨t, ht⟩ : ∃ t : Int, (s : Int) * Cl.sizI p.cls = t := ⟨_, rfl⟩
    have t0 : 0 ≤ t := by rw [← ht]; exact Int.mul_nonneg (by omega) (by omega)
    have t1 : t ≤ 868 := by
      rw [← ht]
      have := Int.mul_le_mul (show (s : Int) ≤ 31 by omega) z1 (by omega) (by omega)
      omega
    have E : Hid (addrI p s = 64 * p.n + 2 + t) := by
      show addrI p s = _
      unfold addrI atI
      rw [if_neg (by omega), Cl.plaI_in ⟨by omega, hs2⟩, ht]
      omega
    have hmul : wrap64 ((s : Int) * Cl.sizI p.cls) = t := by rw [ht]; unfold wrap64; omega
    rw [hl] at d4
    have cs := fun w => Cl.rSizes_ok w
    have hat : ∀ (W : World) (b : Nat), Cl.Row W b → W.cell? ⟨b, p.cls.toNat, none⟩ = some (.int .i64 (Cl.sizI p.cls)) := fun W b R => R.at p.cls (errC_in c0 c1)
    obtain ⟨c, hc⟩ : ∃ c : Nat, p.cls = (c : Int) := ⟨p.cls.toNat, by omega⟩
    rw [hc] at d2 hmul hat
    simp only [Int.toNat_natCast] at hat
    have hix := fun b w' => run_ixz b c (by omega) w'
    generalize Cl.sizI (c : Int) = sz at *
    generalize p.n = n at *
    have HAT : Aside _ := hat
    have hcc : (c : Int) ≤ 7 := by omega
    clear hl h1 hp hs hs2 ht hc c0 c1 hat hr
    have HSUM : Hid (IntKind.i64.wrap (IntKind.i64.wrap (IntKind.i64.wrap (64 * n) + 2) + IntKind.i64.wrap ((s : Int) * sz)) = 64 * n + 2 + t) := by
      show IntKind.i64.wrap (IntKind.i64.wrap (IntKind.i64.wrap (64 * n) + 2) + IntKind.i64.wrap ((s : Int) * sz)) = 64 * n + 2 + t
      rw [show IntKind.i64.wrap ((s : Int) * sz) = t from (IntWalk.i64_left _).trans hmul, wrap_i64 (x := 64 * n) (by omega) (by omega), wrap_i64 (x := 64 * n + 2) (by omega) (by omega), wrap_i64 (by omega) (by omega)]
    go_enter Tryz.func100, Tryz.ntmps100
    go_wp2
    generalize w.alloc (.cells arr 176) = W at *
    go_region_with (go_at_call 137; refine (cs _).mono ?_; rintro e w2 ⟨b, rfl, k2, R2⟩; have g2 := HAT.out w2 b R2; have k3 := K.of_below k2.bel; have e0 := k3.cell (p := ⟨w.heap.size, 0, none⟩) d0; have e2 := k3.cell (p := ⟨w.heap.size, 2, none⟩) d2)
    all_goals
      go_wp2
      go_ret
      refine ⟨?_, ?_⟩
      · rw [E.out, ← HSUM.out]
        rfl
      · first | exact hk0.trans k3 | exact (hk0.trans k3).drew | exact (hk0.drew).trans k3 | exact (hk0.drewN _).trans k3 | exact ((hk0.drewN _).trans k3).drewN _
  · have hl : lgB p = true := by simp [lgB, h2]
    have hs0 : s = 0 := by
      unfold nslI at hs
      rw [if_pos h2] at hs
      omega
    have E : Hid (addrI p s = 64 * p.n + 2) := by
      show addrI p s = _
      unfold addrI atI
      rw [if_pos h2]
      omega
    rw [hl] at d4
    clear hl h2 hp hs hs0 hr
    go_enter Tryz.func100, Tryz.ntmps100
    go_wp2
    go_ret
    exact ⟨by rw [E.out]; rfl, hk0⟩

theorem run_ixT (g o k : Nat) (hk : k < 31) (w' : World) : (Instr.indexAt 174 (.pointer (some ⟨g, o, none⟩)) (.int .i64 (k : Int))).run Tryz.prog w' = .ok (.pointer (some ⟨g, o + k, none⟩)) w' := by
  have hal : Tryz.prog.arrayLen 174 = 31 := by kernel_rfl
  have hel : Tryz.prog.elem 174 = 4 := by kernel_rfl
  have hsz : (sizeOf 4).run Tryz.prog w' = .ok 1 w' := by kernel_rfl
  have hu : Tryz.prog.underlying 174 = some (.array (Tryz.prog.arrayLen 174) (Tryz.prog.elem 174)) := by kernel_rfl
  rw [run_indexAt_array w' 174 _ .i64 k hu, hal, if_pos (by omega), hel, hsz]
  simp only [Result.andThen_ok, Int.toNat_natCast, Nat.mul_one]
  rw [Go.WideShapes.add_plain]

theorem wpList_load_re {ops : Array Oper} {rest : List Oper} {ac : Act} {w : World} {Q : Exit → Act → World → Prop} {d : Option Tmp} {ty : TypeId} {ps : String} {af : Array Edge} {x : Operand} (g o : Nat) (e : Re) (hc : w.rangeAt g o (reList e)) (hx : ac.eval x = .pointer (some ⟨g, o, none⟩))
    (h : wpList Tryz.prog ops Q rest (ac.put d (.agg (reList e).toArray)) w) : wpList Tryz.prog ops Q ({ dst := d, op := Op.load 176 x, type := ty, pos := ps, after := af, guard := none } :: rest) ac w :=
  wpList_load_mid rfl 176 x rfl g o hx (reList e) _ hc Tryz.underlying176 rfl (by rw [reList_len]; kernel_rfl) h

end Hp
end Go.Proofs.YtlmfojkhfipdnaaGreatDoor

/-
  The reference's Find.
-/
namespace Go.Proofs.YtlmfojkhfipdnaaGreatDoor
open Go.RowKit Go.Maps
namespace Hp
variable {w w' : World} {B br : Nat} {q : Int} {v : Value} {E : List Re}

/-- Slot k of the entry i is a block at a. -/
def HitE (E : List Re) (a : Int) (i k : Nat) : Prop := ∃ e : Re, E[i]? = some e ∧ (k : Int) < nslI e.1 ∧ tkB e.1 k = true ∧ addrI e.1 k = a

theorem wpList_load_reG {ops : Array Oper} {rest : List Oper} {ac : Act} {w : World} {Q : Exit → Act → World → Prop} {d : Option Tmp} {ty : TypeId} {ps : String} {af : Array Edge} {x : Operand} {gd : Nat × Bool} (g o : Nat) (e : Re) (hw : Region.wanted { dst := d, op := Op.load 176 x, type := ty, pos := ps, after := af, guard := some gd } (yielded ops ac.tmps) = true) (hc : w.rangeAt g o (reList e)) (hx : ac.eval x = .pointer (some ⟨g, o, none⟩))
    (h : wpList Tryz.prog ops Q rest (ac.put d (.agg (reList e).toArray)) w) : wpList Tryz.prog ops Q ({ dst := d, op := Op.load 176 x, type := ty, pos := ps, after := af, guard := some gd } :: rest) ac w :=
  wpList_step fun K hK => by
    rw [if_pos hw]
    exact wp_load_mid 176 x rfl g o hx (reList e) _ hc Tryz.underlying176 rfl (by rw [reList_len]; kernel_rfl) (hK _ _ h)

set_option maxRecDepth 100000 in
set_option maxHeartbeats 2000000 in
theorem rFind_any {g cap : Nat} {ad : Option Addr} (hr : RowE w g ad cap E) (hE : Eo E) (a : Int) : Calls Tryz.prog 109 #[.agg #[.int .i64 q, .slice ad E.length cap], .int .i64 a] w fun e w' => ((∃ i k : Nat, e = .returned (.tuple #[.int .i64 i, .int .i64 k]) ∧ HitE E a i k) ∨ (e = .returned (.tuple #[.int .i64 (-1), .int .i64 0]) ∧ ∀ i k, ¬ HitE E a i k)) ∧ K w w' := by
  have hk0 : K w (w.alloc (.cells #[.int .i64 q, .slice ad E.length cap] 31)) := (K.refl _).alloc _
  have hb : (w.alloc (.cells #[.int .i64 q, .slice ad E.length cap] 31)).heap[w.heap.size]? = some (.cells #[.int .i64 q, .slice ad E.length cap] 31) := (MapKept.heap_alloc w _).1
  have HR : Aside _ := hr.keep hk0
  have HE : Aside _ := hE
  have hl := hE.len
  clear hr hE
  go_enter Tryz.func109, Tryz.ntmps109
  go_wp2
  generalize w.alloc (.cells #[.int .i64 q, .slice ad E.length cap] 31) = W at *
  have BOX : Aside (∀ wx, K W wx → wx.cell? ⟨w.heap.size, 1, none⟩ = some (.slice ad E.length cap)) := fun wx k => by
    have := k.block hb
    simp [World.cell?, this]
  clear hb
  go_loopg [6] E.length (fun gh t6 wx => ∃ i : Nat, i + gh = E.length ∧ t6 = .int .i64 i ∧ Aside (∀ i' k, i' < i → ¬ HitE E a i' k) ∧ K W wx)
  case atStart => exact ⟨0, by omega, rfl, fun i' k h => by omega, K.refl _⟩
  case round =>
    obtain ⟨i, hig, rfl, HI, hk⟩ := hrel
    have b1 := BOX.out _ hk
    by_cases hlt : i < E.length
    · obtain ⟨⟨p, j⟩, he⟩ : ∃ e, E[i]? = some e := ⟨_, List.getElem?_eq_getElem hlt⟩
      have hix := HR.out.ix i hlt
      obtain ⟨hp, n0, n1, _, _⟩ := HE.out.at he
      have n0 : 0 ≤ p.n := n0
      have n1 : p.n ≤ 4096 := n1
      have hp : Ent p := hp
      obtain ⟨s0, s1⟩ := nsl_range hp
      have HGE : Aside _ := he
      have HP : Aside _ := hp
      clear he hp
      go_wp2
      go_loopg [7] (nslI p).toNat (fun gh t7 wx => ∃ k : Nat, (k : Int) + gh = nslI p ∧ t7 = .int .i64 k ∧ Aside (∀ k', k' < k → ¬ HitE E a i k') ∧ K W wx)
      case atStart => exact ⟨0, by omega, rfl, fun k h => by omega, hk⟩
      case round =>
        obtain ⟨k, hkg, rfl, HK, hk2⟩ := hrel
        clear hk b1
        have b1 := BOX.out _ hk2
        have HRG : Aside (wr.rangeAt g (i * 36) (reList (p, j))) := (HR.out.keep hk2).range HGE.out
        have csl := fun w => rslots_any p j HP.out w
        by_cases hkn : (k : Int) < nslI p
        · have hk31 : k < 31 := by omega
          have hixT := run_ixT g (i * 36 + 5) k hk31
          have cpl := fun w => rPlace_any p j k HP.out n0 (by omega) hkn w
          cases htk : tkB p k with
          | false =>
            have X : Aside (¬ HitE E a i k) := fun ⟨e, he, _, h2, _⟩ => by
              obtain rfl : (p, j) = e := Option.some.inj (HGE.out.symm.trans he)
              rw [show (p, j).1 = p from rfl, htk] at h2
              cases h2
            go_wp2_with (first
              | ((with_reducible refine wpList_load_re g (i * 36) (p, j) ?_ ?_ ?_); (· exact HRG.out); (· rfl))
              | (go_at_call 138; refine (csl _).mono ?_; rintro e w2 ⟨rfl, k2⟩; have hk3 := hk2.trans k2; have b2 := BOX.out _ hk3; have ht := (HR.out.keep hk3).tk HGE.out hk31; have HRG2 : Aside (w2.rangeAt g (i * 36) (reList (p, j))) := (HR.out.keep hk3).range HGE.out; rw [show (p, j).1 = p from rfl, htk] at ht)
              | ((with_reducible refine wpList_load_reG g (i * 36) (p, j) ?_ ?_ ?_ ?_); (· first | rfl | simp [Region.wanted, yielded]); (· exact HRG2.out); (· rfl))
              | (go_at_call 100; refine (cpl _).mono ?_; rintro e w3 ⟨rfl, k3⟩))
            go_roundg ((nslI p).toNat - (k + 1))
            case measure => omega
            case rel =>
              refine ⟨k + 1, by omega, by go_num, fun k' h => ?_, hk3⟩
              by_cases e : k' = k
              · subst e; exact X.out
              · exact HK.out k' (by omega)
          | true =>
            by_cases hea : addrI p k = a
            · have hd : (addrI p (k : Int) == a) = true := by simpa using hea
              have X : Aside (HitE E a i k) := ⟨(p, j), HGE.out, hkn, htk, hea⟩
              clear hea
              go_wp2_with (first
                | ((with_reducible refine wpList_load_re g (i * 36) (p, j) ?_ ?_ ?_); (· exact HRG.out); (· rfl))
                | (go_at_call 138; refine (csl _).mono ?_; rintro e w2 ⟨rfl, k2⟩; have hk3 := hk2.trans k2; have b2 := BOX.out _ hk3; have ht := (HR.out.keep hk3).tk HGE.out hk31; have HRG2 : Aside (w2.rangeAt g (i * 36) (reList (p, j))) := (HR.out.keep hk3).range HGE.out; rw [show (p, j).1 = p from rfl, htk] at ht)
                | ((with_reducible refine wpList_load_reG g (i * 36) (p, j) ?_ ?_ ?_ ?_); (· first | rfl | simp [Region.wanted, yielded]); (· exact HRG2.out); (· rfl))
                | (go_at_call 100; refine (cpl _).mono ?_; rintro e w3 ⟨rfl, k3⟩))
              go_ret2
              exact ⟨.inl ⟨i, k, rfl, X.out⟩, (hk0.trans hk3).trans k3⟩
            · have hd : (addrI p (k : Int) == a) = false := by simpa using hea
              have X : Aside (¬ HitE E a i k) := fun ⟨e, he, _, _, h2⟩ => by
                obtain rfl : (p, j) = e := Option.some.inj (HGE.out.symm.trans he)
                exact hea h2
              clear hea
              go_wp2_with (first
                | ((with_reducible refine wpList_load_re g (i * 36) (p, j) ?_ ?_ ?_); (· exact HRG.out); (· rfl))
                | (go_at_call 138; refine (csl _).mono ?_; rintro e w2 ⟨rfl, k2⟩; have hk3 := hk2.trans k2; have b2 := BOX.out _ hk3; have ht := (HR.out.keep hk3).tk HGE.out hk31; have HRG2 : Aside (w2.rangeAt g (i * 36) (reList (p, j))) := (HR.out.keep hk3).range HGE.out; rw [show (p, j).1 = p from rfl, htk] at ht)
                | ((with_reducible refine wpList_load_reG g (i * 36) (p, j) ?_ ?_ ?_ ?_); (· first | rfl | simp [Region.wanted, yielded]); (· exact HRG2.out); (· rfl))
                | (go_at_call 100; refine (cpl _).mono ?_; rintro e w3 ⟨rfl, k3⟩))
              go_roundg ((nslI p).toNat - (k + 1))
              case measure => omega
              case rel =>
                refine ⟨k + 1, by omega, by go_num, fun k' h => ?_, hk3.trans k3⟩
                by_cases e : k' = k
                · subst e; exact X.out
                · exact HK.out k' (by omega)
        · have X : Aside (∀ i' k, i' < i + 1 → ¬ HitE E a i' k) := fun i' k' h hh => by
            by_cases e : i' = i
            · subst e
              have hh2 := hh
              obtain ⟨e, he, h1, _⟩ := hh2
              obtain rfl : (p, j) = e := Option.some.inj (HGE.out.symm.trans he)
              have h1 : (k' : Int) < nslI p := h1
              exact HK.out k' (by omega) hh
            · exact HI.out i' k' (by omega) hh
          go_wp2_with (first
            | ((with_reducible refine wpList_load_re g (i * 36) (p, j) ?_ ?_ ?_); (· exact HRG.out); (· rfl))
            | (go_at_call 138; refine (csl _).mono ?_; rintro e w2 ⟨rfl, k2⟩))
          go_roundg (E.length - (i + 1))
          case measure => omega
          case rel => exact ⟨i + 1, by omega, by go_num, X.out, hk2.trans k2⟩
    · have X : Aside (∀ i k, ¬ HitE E a i k) := fun i' k ⟨e, he, h⟩ => HI.out i' k (by have := (List.getElem?_eq_some_iff.1 he).1; omega) ⟨e, he, h⟩
      go_wp2
      go_ret2
      exact ⟨.inr ⟨rfl, X.out⟩, hk0.trans hk⟩

end Hp
end Go.Proofs.YtlmfojkhfipdnaaGreatDoor

/-
  The reference's spot: the least free slot of a class.
-/
namespace Go.Proofs.YtlmfojkhfipdnaaGreatDoor
open Go.RowKit Go.Maps
namespace Hp
variable {w w' : World} {B br : Nat} {q : Int} {v : Value} {E : List Re}

theorem freeB_at {E : List Re} {c : Int} : ∀ {i : Nat} {p : Pg} {j s : Int}, E[i]? = some (p, j) → freeOf c p = some (p, s) → (∀ (i' : Nat) (e : Re), i' < i → E[i']? = some e → freeOf c e.1 = none) → freeB (entsR E) c = some (p, s) := by
  induction E with
  | nil => intro i p j s h; simp at h
  | cons e E ih =>
    intro i p j s h hf hn
    unfold freeB entsR
    rw [List.map_cons, List.findSome?_cons]
    cases i with
    | zero =>
      obtain rfl : e = (p, j) := by simpa using h
      rw [show freeOf c (p, j).1 = some (p, s) from hf]
    | succ i =>
      rw [hn 0 e (by omega) rfl]
      exact ih (i := i) (by simpa using h) hf (fun i' e' hi he => hn (i' + 1) e' (by omega) (by simpa using he))
theorem freeB_no {c : Int} (hn : ∀ (i : Nat) (e : Re), E[i]? = some e → freeOf c e.1 = none) : freeB (entsR E) c = none := by
  unfold freeB
  rw [List.findSome?_eq_none_iff]
  intro p hp
  obtain ⟨e, he, rfl⟩ := List.mem_map.1 hp
  obtain ⟨i, hi⟩ := List.getElem?_of_mem he
  exact hn i e hi

theorem freeOf_other {c : Int} {p : Pg} (h : p.kind = 2 ∨ p.cls ≠ c) : freeOf c p = none := by
  unfold freeOf
  rw [if_neg]
  intro hx
  simp at hx
  rcases h with h | h <;> omega
theorem freeOf_full {c : Int} {p : Pg} (hp : Ent p) (h1 : p.kind = 1) (h : ∀ k : Nat, (k : Int) < Cl.sloI p.cls → Bt.hasI p.taken k = true) : freeOf c p = none := by
  obtain ⟨c0, c1, _⟩ := hp.small h1
  obtain ⟨_, _, s0, s1⟩ := sz_range c0 c1
  unfold freeOf
  split
  · rw [if_neg]
    intro hx
    rcases free_cases (t := p.taken) (n := Cl.sloI p.cls) (by omega) s1 with ⟨e, _⟩ | ⟨f0, f1, f2, _⟩
    · omega
    · have := h (Bt.freI p.taken (Cl.sloI p.cls)).toNat (by omega)
      rw [Int.toNat_of_nonneg f0, f2] at this
      cases this
  · rfl
theorem freeOf_at {p : Pg} (hp : Ent p) (h1 : p.kind = 1) {k : Nat} (hk : (k : Int) < Cl.sloI p.cls) (hf : Bt.hasI p.taken k = false) (h : ∀ k' : Nat, k' < k → Bt.hasI p.taken k' = true) : freeOf p.cls p = some (p, (k : Int)) := by
  obtain ⟨c0, c1, _⟩ := hp.small h1
  obtain ⟨_, _, s0, s1⟩ := sz_range c0 c1
  have e : Bt.freI p.taken (Cl.sloI p.cls) = k := by
    rcases free_cases (t := p.taken) (n := Cl.sloI p.cls) (by omega) s1 with ⟨_, g⟩ | ⟨f0, f1, f2, f3⟩
    · rw [g k (by omega) hk] at hf
      cases hf
    · rcases Int.lt_trichotomy (Bt.freI p.taken (Cl.sloI p.cls)) k with h3 | h3 | h3
      · have := h (Bt.freI p.taken (Cl.sloI p.cls)).toNat (by omega)
        rw [Int.toNat_of_nonneg f0, f2] at this
        cases this
      · exact h3
      · rw [f3 k (by omega) h3] at hf
        cases hf
  unfold freeOf
  rw [if_pos (by simp [h1]), e, if_pos (by omega)]

set_option maxRecDepth 100000 in
set_option maxHeartbeats 2000000 in
theorem rspot_any {g cap : Nat} {ad : Option Addr} (hr : RowE w g ad cap E) (hE : Eo E) (c : Int) : Calls Tryz.prog 99 #[.agg #[.int .i64 q, .slice ad E.length cap], .int .i64 c] w fun e w' => ((∃ (i k : Nat) (p : Pg) (j : Int), e = .returned (.tuple #[.int .i64 i, .int .i64 k]) ∧ E[i]? = some (p, j) ∧ freeB (entsR E) c = some (p, (k : Int))) ∨ (e = .returned (.tuple #[.int .i64 (-1), .int .i64 0]) ∧ freeB (entsR E) c = none)) ∧ K w w' := by
  have hk0 : K w (w.alloc (.cells #[.int .i64 q, .slice ad E.length cap] 31)) := (K.refl _).alloc _
  have hb : (w.alloc (.cells #[.int .i64 q, .slice ad E.length cap] 31)).heap[w.heap.size]? = some (.cells #[.int .i64 q, .slice ad E.length cap] 31) := (MapKept.heap_alloc w _).1
  have HR : Aside _ := hr.keep hk0
  have HE : Aside _ := hE
  have hl := hE.len
  clear hr hE
  go_enter Tryz.func99, Tryz.ntmps99
  go_wp2
  generalize w.alloc (.cells #[.int .i64 q, .slice ad E.length cap] 31) = W at *
  have BOX : Aside (∀ wx, K W wx → wx.cell? ⟨w.heap.size, 1, none⟩ = some (.slice ad E.length cap)) := fun wx k => by
    have := k.block hb
    simp [World.cell?, this]
  clear hb
  go_loopg [6] E.length (fun gh t6 wx => ∃ i : Nat, i + gh = E.length ∧ t6 = .int .i64 i ∧ Aside (∀ (i' : Nat) (e : Re), i' < i → E[i']? = some e → freeOf c e.1 = none) ∧ K W wx)
  case atStart => exact ⟨0, by omega, rfl, fun i' k h => by omega, K.refl _⟩
  case round =>
    obtain ⟨i, hig, rfl, HI, hk⟩ := hrel
    have b1 := BOX.out _ hk
    by_cases hlt : i < E.length
    · obtain ⟨⟨p, j⟩, he⟩ : ∃ e, E[i]? = some e := ⟨_, List.getElem?_eq_getElem hlt⟩
      have hix := HR.out.ix i hlt
      obtain ⟨hp, _⟩ := HE.out.at he
      have hp : Ent p := hp
      obtain ⟨_, _, e2, _, e4⟩ := (HR.out.keep hk).at he
      have d2 : wr.cell? ⟨g, i * 36 + 2, none⟩ = some (.int .i64 p.cls) := e2
      have d4 : wr.cell? ⟨g, i * 36 + 4, none⟩ = some (.bool (lgB p)) := e4
      clear e2 e4
      have HGE : Aside _ := he
      have HP : Aside _ := hp
      have STEP : Aside (freeOf c p = none → ∀ wx, K W wx → ∃ i' : Nat, i' + (E.length - (i + 1)) = E.length ∧ Value.int .i64 ((i : Int) + 1) = .int .i64 i' ∧ Aside (∀ (j : Nat) (e : Re), j < i' → E[j]? = some e → freeOf c e.1 = none) ∧ K W wx) := fun hx wx k => by
        refine ⟨i + 1, by omega, by simp, fun i' t hj ht => ?_, k⟩
        by_cases e2 : i' = i
        · subst e2
          obtain rfl : (p, j) = t := Option.some.inj (HGE.out.symm.trans ht)
          exact hx
        · exact HI.out i' t (by omega) ht
      clear he hp
      rcases Ent.kind HP.out with h1 | h2
      · have hlg : lgB p = false := by simp [lgB, h1]
        rw [hlg] at d4
        obtain ⟨cl, hcl⟩ : ∃ cl, p.cls = cl := ⟨_, rfl⟩
        rw [hcl] at d2
        have HCL : Aside (p.cls = cl) := hcl
        clear hcl
        by_cases hc : cl = c
        · subst hc
          have hcc : (cl != cl) = false := by simp
          have H1 : Aside _ := h1
          have hns : nslI p = Cl.sloI p.cls := by unfold nslI; rw [if_neg (by omega)]
          have HNS : Aside _ := hns
          obtain ⟨s0, s1⟩ := nsl_range HP.out
          clear h1 hlg hns
          go_wp2
          go_loopg [7] (nslI p).toNat (fun gh t7 wx => ∃ k : Nat, (k : Int) + gh = nslI p ∧ t7 = .int .i64 k ∧ Aside (∀ k' : Nat, k' < k → Bt.hasI p.taken k' = true) ∧ K W wx)
          case atStart => exact ⟨0, by omega, rfl, fun k h => by omega, hk⟩
          case round =>
            obtain ⟨k, hkg, rfl, HK, hk2⟩ := hrel
            clear hk b1 d2 d4
            have b1 := BOX.out _ hk2
            have HRG : Aside (wr.rangeAt g (i * 36) (reList (p, j))) := (HR.out.keep hk2).range HGE.out
            have csl := fun w => rslots_any p j HP.out w
            by_cases hkn : (k : Int) < nslI p
            · have hk31 : k < 31 := by omega
              have hixT := run_ixT g (i * 36 + 5) k hk31
              have htk : tkB p k = Bt.hasI p.taken k := by
                unfold tkB
                rw [if_neg (by have := H1.out; omega)]
              have HTK : Aside _ := htk
              clear htk
              cases hh : Bt.hasI p.taken (k : Int) with
              | true =>
                have HH : Aside _ := hh
                go_wp2_with (first
                  | ((with_reducible refine wpList_load_re g (i * 36) (p, j) ?_ ?_ ?_); (· exact HRG.out); (· rfl))
                  | (go_at_call 138; refine (csl _).mono ?_; rintro e w2 ⟨rfl, k2⟩; have hk3 := hk2.trans k2; have b2 := BOX.out _ hk3; have ht := (HR.out.keep hk3).tk HGE.out hk31; rw [show (p, j).1 = p from rfl, HTK.out, HH.out] at ht))
                go_roundg ((nslI p).toNat - (k + 1))
                case measure => omega
                case rel =>
                  refine ⟨k + 1, by omega, by go_num, fun k' h => ?_, hk3⟩
                  by_cases e : k' = k
                  · subst e; exact HH.out
                  · exact HK.out k' (by omega)
              | false =>
                have HH : Aside _ := hh
                have X : Aside (freeB (entsR E) cl = some (p, (k : Int))) := freeB_at HGE.out (by rw [← HCL.out]; exact freeOf_at HP.out H1.out (by rw [← HNS.out]; exact hkn) HH.out HK.out) HI.out
                go_wp2_with (first
                  | ((with_reducible refine wpList_load_re g (i * 36) (p, j) ?_ ?_ ?_); (· exact HRG.out); (· rfl))
                  | (go_at_call 138; refine (csl _).mono ?_; rintro e w2 ⟨rfl, k2⟩; have hk3 := hk2.trans k2; have b2 := BOX.out _ hk3; have ht := (HR.out.keep hk3).tk HGE.out hk31; rw [show (p, j).1 = p from rfl, HTK.out, HH.out] at ht))
                go_ret2
                exact ⟨.inl ⟨i, k, p, j, rfl, HGE.out, X.out⟩, hk0.trans hk3⟩
            · have X : Aside (freeOf cl p = none) := freeOf_full HP.out H1.out (fun k' h => HK.out k' (by rw [← HNS.out] at h; omega))
              go_wp2_with (first
                | ((with_reducible refine wpList_load_re g (i * 36) (p, j) ?_ ?_ ?_); (· exact HRG.out); (· rfl))
                | (go_at_call 138; refine (csl _).mono ?_; rintro e w2 ⟨rfl, k2⟩))
              go_roundg (E.length - (i + 1))
              case measure => omega
              case rel => exact STEP.out X.out _ (hk2.trans k2)
        · have hcc : (cl != c) = true := by simpa using hc
          have X : Aside (freeOf c p = none) := freeOf_other (.inr (by rw [HCL.out]; exact hc))
          clear h1 hlg hc
          go_wp2
          go_roundg (E.length - (i + 1))
          case measure => omega
          case rel => exact STEP.out X.out _ hk
      · have hlg : lgB p = true := by simp [lgB, h2]
        rw [hlg] at d4
        have X : Aside (freeOf c p = none) := freeOf_other (.inl h2)
        clear h2 hlg
        go_wp2
        go_roundg (E.length - (i + 1))
        case measure => omega
        case rel => exact STEP.out X.out _ hk
    · have X : Aside (freeB (entsR E) c = none) := freeB_no (fun i' e he => HI.out i' e (by have := (List.getElem?_eq_some_iff.1 he).1; omega) he)
      go_wp2
      go_ret2
      exact ⟨.inr ⟨rfl, X.out⟩, hk0.trans hk⟩

end Hp
end Go.Proofs.YtlmfojkhfipdnaaGreatDoor

/-
  The reference's Live.
-/
namespace Go.Proofs.YtlmfojkhfipdnaaGreatDoor
open Go.RowKit Go.Maps
namespace Hp
variable {w w' : World} {B br : Nat} {q : Int} {v : Value} {E : List Re}

def takenE (p : Pg) (n : Nat) : List Int := ((List.range n).filter fun k => tkB p k).map fun (k : Nat) => (k : Int)
theorem takenE_succ (p : Pg) (n : Nat) : takenE p (n + 1) = takenE p n ++ (if tkB p n = true then [(n : Int)] else []) := by
  unfold takenE
  rw [List.range_succ, List.filter_append, List.map_append]
  congr 1
  simp only [List.filter_cons, List.filter_nil]
  split <;> rfl
theorem takenE_all {p : Pg} (hp : Ent p) : takenE p (nslI p).toNat = slotsOf p := by
  rcases hp.kind with h1 | h2
  · unfold slotsOf nslI takenE takenTo
    rw [if_neg (by omega), if_neg (by omega), if_pos h1, List.filter_map]
    congr 1
    apply List.filter_congr
    intro k _
    unfold tkB
    rw [if_neg (by omega)]
    rfl
  · unfold slotsOf nslI
    rw [if_pos h2, if_pos h2]
    show takenE p 1 = [0]
    rw [takenE_succ]
    simp [takenE, tkB, h2, (hp.large h2).2.1]

theorem ownsRow_keepR {A C : World} {n₀ k m : Nat} {t : TypeId} {v : Value} {xs : List Value} (h : A.ownsRow n₀ t m v k xs) (kk : K A C) : C.ownsRow n₀ t m v k xs := by
  obtain ⟨h1, h2⟩ := h
  refine ⟨h1, ?_⟩
  rcases h2 with h2 | ⟨g, cap, cur, rfl, hb, hg, rest⟩
  · exact .inl h2
  · exact .inr ⟨g, cap, cur, rfl, hb, kk.block hg, rest⟩

end Hp
end Go.Proofs.YtlmfojkhfipdnaaGreatDoor

/-
  The reference's Find, told of the entries; Room, Spare, Numbers.
-/
namespace Go.Proofs.YtlmfojkhfipdnaaGreatDoor
open Go.RowKit Go.Maps
namespace Hp
variable {w w' : World} {B br : Nat} {q : Int} {v : Value} {E : List Re}

theorem slot_of_tk {p : Pg} (hp : Ent p) {k : Nat} (hk : (k : Int) < nslI p) (ht : tkB p k = true) : (k : Int) ∈ slotsOf p := by
  rw [← takenE_all hp]
  exact List.mem_map.2 ⟨k, List.mem_filter.2 ⟨List.mem_range.2 (by omega), ht⟩, rfl⟩
theorem hit_find (hE : Eo E) {a : Int} {i k : Nat} (h : HitE E a i k) : ∃ e, E[i]? = some e ∧ (k : Int) < nslI e.1 ∧ tkB e.1 k = true ∧ findB (entsR E) a = some (e.1, (k : Int)) := by
  obtain ⟨e, he, hk, ht, ha⟩ := h
  have hm : e.1 ∈ entsR E := List.mem_map.2 ⟨e, List.mem_of_getElem? he, rfl⟩
  refine ⟨e, he, hk, ht, ?_⟩
  rw [← ha]
  exact hE.wl.find hm (slot_of_tk (hE.wl.ent _ hm) hk ht)
theorem nohit_find (hE : Eo E) {a : Int} (h : ∀ i k, ¬ HitE E a i k) : findB (entsR E) a = none := by
  cases hf : findB (entsR E) a with
  | none => rfl
  | some ps =>
    obtain ⟨p, s⟩ := ps
    obtain ⟨hp, hs, ha⟩ := findB_some hf
    obtain ⟨e, he, rfl⟩ := List.mem_map.1 hp
    obtain ⟨i, hi⟩ := List.getElem?_of_mem he
    rw [← takenE_all (hE.wl.ent _ hp)] at hs
    obtain ⟨k, hk, rfl⟩ := List.mem_map.1 hs
    obtain ⟨h1, h2⟩ := List.mem_filter.1 hk
    exact absurd ⟨e, hi, by have := List.mem_range.1 h1; omega, h2, ha⟩ (h i k)

def runP (p : Pg) (n : Nat) : List Int := (List.range n).map fun (i : Nat) => p.n + (i : Int)
end Hp
end Go.Proofs.YtlmfojkhfipdnaaGreatDoor
