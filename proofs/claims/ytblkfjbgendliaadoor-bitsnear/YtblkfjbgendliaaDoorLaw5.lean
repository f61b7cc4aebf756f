/-
  The walk of the statement BitsNear.
-/
import Derived.Test.YtblkfjbgendliaaDoorLaw1
import Derived.Deep.LoopGhost
namespace Go.Proofs.YtblkfjbgendliaaDoor
open Go.RowKit
namespace Bt

theorem near_free {a n i : Int} (h0 : 0 ≤ i) (h1 : i < n) (h2 : n ≤ 64) : (hasI a i = true → freI a n ≠ i) ∧ (hasI a i = false → 0 ≤ freI a n ∧ freI a n ≤ i) := by
  have hm := mN_of n (by omega) h2
  have hN := hasI_N (a := a) (k := i) ⟨h0, by omega⟩
  have e : freI a n = fre a.toNat (mN n) := rfl
  rcases fre_cases a.toNat (mN n) with ⟨e1, e2⟩ | ⟨k, k1, k2, k3, k4⟩
  · have h3 := e2 i.toNat (by omega)
    rw [hN, h3, e, e1]
    exact ⟨fun _ => by omega, fun h => by cases h⟩
  · rw [hN, e, k2]
    constructor
    · intro h3 h4
      rw [show i.toNat = k by omega, k3] at h3
      cases h3
    · intro h3
      refine ⟨by omega, ?_⟩
      apply Int.not_lt.1
      intro h4
      rw [k4 i.toNat (by omega)] at h3
      cases h3

theorem near_last {a n i : Int} (h0 : 0 ≤ i) (h1 : i < n) (h2 : n ≤ 64) : (hasI a i = true → i ≤ lstI a n) ∧ (hasI a i = false → lstI a n ≠ i) := by
  have hm := mN_of n (by omega) h2
  have hN := hasI_N (a := a) (k := i) ⟨h0, by omega⟩
  have e : lstI a n = lst a.toNat (mN n) := rfl
  rcases lst_cases a.toNat (mN n) with ⟨e1, e2⟩ | ⟨k, k1, k2, k3, k4⟩
  · have h3 := e2 i.toNat (by omega)
    rw [hN, h3, e, e1]
    exact ⟨fun h => (by cases h), fun _ => by omega⟩
  · rw [hN, e, k2]
    constructor
    · intro h3
      apply Int.not_lt.1
      intro h4
      rw [k4 i.toNat (by omega) (by omega)] at h3
      cases h3
    · intro h3 h4
      rw [show i.toNat = k by omega, k3] at h3
      cases h3

theorem near_counts {a n : Int} (h0 : 0 ≤ n) (h2 : n ≤ 64) : (freI a n < 0 ↔ cntI a n = n) ∧ (lstI a n < 0 ↔ cntI a n = 0) := by
  have hm := mN_of n h0 h2
  have ec : cntI a n = (cnt a.toNat (mN n) : Nat) := rfl
  constructor
  · have e : freI a n = fre a.toNat (mN n) := rfl
    rw [e, ec]
    rcases fre_cases a.toNat (mN n) with ⟨e1, e2⟩ | ⟨k, k1, k2, k3, k4⟩
    · rw [cnt_full.2 e2, e1]
      omega
    · rw [k2]
      constructor
      · intro h; omega
      · intro h
        rw [cnt_full.1 (show cnt a.toNat (mN n) = mN n by omega) k k1] at k3
        cases k3
  · have e : lstI a n = lst a.toNat (mN n) := rfl
    rw [e, ec]
    rcases lst_cases a.toNat (mN n) with ⟨e1, e2⟩ | ⟨k, k1, k2, k3, k4⟩
    · rw [cnt_zero.2 e2, e1]
      omega
    · rw [k2]
      constructor
      · intro h; omega
      · intro h
        rw [cnt_zero.1 (show cnt a.toNat (mN n) = 0 by omega) k k1] at k3
        cases k3

set_option maxHeartbeats 8000000 in
theorem near_walk (a n : Int) (h : U a) (w : World) (s : S w w) : Calls Tryd.prog 8 #[.int .u64 a, .int .i64 n] w fun e w' => e = .returned (.bool true) ∧ S w w' := by
  have ca := awake_ok w
  by_cases h0 : n < 0
  · go_enter Tryd.func8, Tryd.ntmps8
    go_wp2_with (go_at_call 15; refine (ca _ (by assumption)).mono ?_; rintro e w6 ⟨rfl, s6⟩)
    go_ret
    exact ⟨rfl, s6⟩
  by_cases h1 : 64 < n
  · go_enter Tryd.func8, Tryd.ntmps8
    go_wp2_with (go_at_call 15; refine (ca _ (by assumption)).mono ?_; rintro e w6 ⟨rfl, s6⟩)
    go_ret
    exact ⟨rfl, s6⟩
  have c1 := free_s w a n h
  have c2 := last_s w a n h
  have c3 := count_s w a n h
  have HF : Hid (∀ i, 0 ≤ i → i < n → (hasI a i = true → freI a n ≠ i) ∧ (hasI a i = false → 0 ≤ freI a n ∧ freI a n ≤ i)) := fun i g0 g1 => near_free g0 g1 (by omega)
  have HL : Hid (∀ i, 0 ≤ i → i < n → (hasI a i = true → i ≤ lstI a n) ∧ (hasI a i = false → lstI a n ≠ i)) := fun i g0 g1 => near_last g0 g1 (by omega)
  have HC : Hid ((freI a n < 0 ↔ cntI a n = n) ∧ (lstI a n < 0 ↔ cntI a n = 0)) := near_counts (by omega) (by omega)
  generalize freI a n = f at c1 HF HC
  generalize lstI a n = l at c2 HL HC
  generalize cntI a n = c at c3 HC
  go_enter Tryd.func8, Tryd.ntmps8
  go_wp2_with (first
    | (go_at_call 16; refine (c1 _ (by assumption)).mono ?_; rintro e w1 ⟨rfl, s1⟩)
    | (go_at_call 18; refine (c2 _ (by assumption)).mono ?_; rintro e w2 ⟨rfl, s2⟩))
  go_loopg [7] n.toNat (fun g t wx => ∃ i : Int, 0 ≤ i ∧ i + g = n ∧ t = .int .i64 i ∧ S w wx)
  case atStart => exact ⟨0, by omega, by omega, rfl, s2⟩
  case round =>
    clear s1 s2 c1 c2
    obtain ⟨i, hi0, hig, rfl, hsx⟩ := hrel
    by_cases hin : i < n
    · have F := HF.out i hi0 hin
      have L := HL.out i hi0 hin
      have cH := fun wx => has_any a i h wx
      clear HF HL HC
      cases hb : hasI a i
      · have F1 := (F.2 hb).1
        have F2 := (F.2 hb).2
        have L1 := L.2 hb
        rw [hb] at cH
        clear F L hb
        by_cases fi : f = i
        · subst fi
          by_cases li : f < l
          · go_wp2_with (go_at_call 13; refine (cH _).mono ?_; rintro e w' ⟨rfl, rfl⟩)
            go_roundg (n - (f + 1)).toNat
            case measure => omega
            case rel => exact ⟨f + 1, by omega, by omega, by go_num, hsx⟩
          · have li2 : l < f := by omega
            go_wp2_with (go_at_call 13; refine (cH _).mono ?_; rintro e w' ⟨rfl, rfl⟩)
            go_roundg (n - (f + 1)).toNat
            case measure => omega
            case rel => exact ⟨f + 1, by omega, by omega, by go_num, hsx⟩
        · have fi2 : f < i := by omega
          by_cases li : i < l
          · go_wp2_with (go_at_call 13; refine (cH _).mono ?_; rintro e w' ⟨rfl, rfl⟩)
            go_roundg (n - (i + 1)).toNat
            case measure => omega
            case rel => exact ⟨i + 1, by omega, by omega, by go_num, hsx⟩
          · have li2 : l < i := by omega
            go_wp2_with (go_at_call 13; refine (cH _).mono ?_; rintro e w' ⟨rfl, rfl⟩)
            go_roundg (n - (i + 1)).toNat
            case measure => omega
            case rel => exact ⟨i + 1, by omega, by omega, by go_num, hsx⟩
      · have F1 := F.1 hb
        have L1 := L.1 hb
        rw [hb] at cH
        clear F L hb
        by_cases f0 : f < 0
        · by_cases li : i = l
          · subst li
            go_wp2_with (go_at_call 13; refine (cH _).mono ?_; rintro e w' ⟨rfl, rfl⟩)
            go_roundg (n - (i + 1)).toNat
            case measure => omega
            case rel => exact ⟨i + 1, by omega, by omega, by go_num, hsx⟩
          · have li2 : i < l := by omega
            go_wp2_with (go_at_call 13; refine (cH _).mono ?_; rintro e w' ⟨rfl, rfl⟩)
            go_roundg (n - (i + 1)).toNat
            case measure => omega
            case rel => exact ⟨i + 1, by omega, by omega, by go_num, hsx⟩
        · by_cases fi : f < i
          · by_cases li : i = l
            · subst li
              go_wp2_with (go_at_call 13; refine (cH _).mono ?_; rintro e w' ⟨rfl, rfl⟩)
              go_roundg (n - (i + 1)).toNat
              case measure => omega
              case rel => exact ⟨i + 1, by omega, by omega, by go_num, hsx⟩
            · have li2 : i < l := by omega
              go_wp2_with (go_at_call 13; refine (cH _).mono ?_; rintro e w' ⟨rfl, rfl⟩)
              go_roundg (n - (i + 1)).toNat
              case measure => omega
              case rel => exact ⟨i + 1, by omega, by omega, by go_num, hsx⟩
          · have fi2 : i < f := by omega
            by_cases li : i = l
            · subst li
              go_wp2_with (go_at_call 13; refine (cH _).mono ?_; rintro e w' ⟨rfl, rfl⟩)
              go_roundg (n - (i + 1)).toNat
              case measure => omega
              case rel => exact ⟨i + 1, by omega, by omega, by go_num, hsx⟩
            · have li2 : i < l := by omega
              go_wp2_with (go_at_call 13; refine (cH _).mono ?_; rintro e w' ⟨rfl, rfl⟩)
              go_roundg (n - (i + 1)).toNat
              case measure => omega
              case rel => exact ⟨i + 1, by omega, by omega, by go_num, hsx⟩
    · have C := HC.out
      clear HF HL HC
      by_cases f0 : f < 0
      · have e1 := C.1.1 f0
        subst e1
        by_cases l0 : l < 0
        · have e2 := C.2.1 l0
          subst e2
          clear C
          go_wp2_with (first
            | (go_at_call 20; refine (c3 _ (by assumption)).mono ?_; rintro e w3 ⟨rfl, s3⟩)
            | (go_at_call 15; refine (ca _ (by assumption)).mono ?_; rintro e w6 ⟨rfl, s6⟩))
          go_ret
          exact ⟨rfl, s6⟩
        · have e2 : (c == 0) = false := by simpa using fun e => l0 (C.2.2 e)
          clear C
          go_wp2_with (first
            | (go_at_call 20; refine (c3 _ (by assumption)).mono ?_; rintro e w3 ⟨rfl, s3⟩)
            | (go_at_call 15; refine (ca _ (by assumption)).mono ?_; rintro e w6 ⟨rfl, s6⟩))
          go_ret
          refine ⟨?_, s6⟩
          show Ending.returned (Value.bool (!decide (l < 0))) = Ending.returned (Value.bool true)
          rw [decide_eq_false (by omega)]
          rfl
      · have e1 : (c == n) = false := by simpa using fun e => f0 (C.1.2 e)
        by_cases l0 : l < 0
        · have e2 := C.2.1 l0
          subst e2
          clear C
          go_wp2_with (first
            | (go_at_call 20; refine (c3 _ (by assumption)).mono ?_; rintro e w3 ⟨rfl, s3⟩)
            | (go_at_call 15; refine (ca _ (by assumption)).mono ?_; rintro e w6 ⟨rfl, s6⟩))
          go_ret
          exact ⟨rfl, s6⟩
        · have e2 : (c == 0) = false := by simpa using fun e => l0 (C.2.2 e)
          clear C
          go_wp2_with (first
            | (go_at_call 20; refine (c3 _ (by assumption)).mono ?_; rintro e w3 ⟨rfl, s3⟩)
            | (go_at_call 15; refine (ca _ (by assumption)).mono ?_; rintro e w6 ⟨rfl, s6⟩))
          go_ret
          refine ⟨?_, s6⟩
          show Ending.returned (Value.bool (!decide (l < 0))) = Ending.returned (Value.bool true)
          rw [decide_eq_false (by omega)]
          rfl

end Bt
end Go.Proofs.YtblkfjbgendliaaDoor
