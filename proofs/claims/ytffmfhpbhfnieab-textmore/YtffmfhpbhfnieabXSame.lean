/-
  The statements' helpers: Same of two rows, awake; and rows that are built in place.
-/
import Derived.Test.YtffmfhpbhfnieabXOfW
namespace Go.Proofs.Ytffmfhpbhfnieab
open Go.RowKit
namespace Tx
open Hp (Kept K No)
variable {w w' : World} {a a' : Option Addr} {b off cap b' off' cap' : Nat} {L M : List Int}

theorem Src.nil (w : World) (c : Nat) (a : Option Addr) : Src w a 0 0 c [] := ⟨fun i hi => absurd hi (Nat.not_lt_zero i), fun i x hx => by simp at hx, fun x hx => by simp at hx, by simp [maxLen]⟩

set_option maxRecDepth 100000 in
set_option maxHeartbeats 2000000 in
theorem same_any (h : Src w a b off cap L) (h' : Src w a' b' off' cap' M) : Calls Try.prog 9 #[.slice a L.length cap, .slice a' M.length cap'] w fun e w' => e = .returned (.bool (decide (L = M))) ∧ K w w' := by
  have k0 := K.refl w
  by_cases hl : L.length = M.length
  case neg =>
    have hne : ((L.length : Int) == (M.length : Int)) = false := by rw [beq_eq_false_iff_ne]; omega
    have hd : decide (L = M) = false := decide_eq_false (fun e => hl (by rw [e]))
    rw [hd]
    have hne2 : ((L.length : Int) != (M.length : Int)) = true := by simpa using hne
    clear hl hd h h'
    generalize L.length = p at *
    generalize M.length = q at *
    go_enter Try.func9, Try.ntmps9
    go_wp2
    go_ret
    exact ⟨rfl, k0⟩
  have H : Aside _ := h
  have H' : Aside _ := h'
  have HL : Aside (M.length = L.length) := hl.symm
  have K0 : Aside _ := k0
  have hmax := h.max
  unfold maxLen at hmax
  clear h h' k0
  rw [← hl]
  clear hl
  obtain ⟨n, hn⟩ : ∃ n, n = L.length := ⟨_, rfl⟩
  have HN : Aside (L.length = n) := hn.symm
  rw [← hn] at hmax ⊢
  clear hn
  go_enter Try.func9, Try.ntmps9
  go_wp2
  go_loopw [5] (fun t wr => ∃ k : Nat, t = .int .i64 k ∧ k ≤ n ∧ Aside (L.take k = M.take k) ∧ Aside (K w wr)) (fun t _ => n - (intOf t).toNat)
  case atStart => exact ⟨0, rfl, by omega, rfl, K0⟩
  case round =>
    obtain ⟨k, rfl, hk, E, Kk⟩ := hrel
    clear K0
    by_cases hlt : k < n
    · have hk1 : k < L.length := by have := HN.out; omega
      have hk2 : k < M.length := by have := HL.out; omega
      have h1 := Kk.out.cell (H.out.at hk1)
      have h2 := Kk.out.cell (H'.out.at hk2)
      have i1 := H.out.ix k hk1
      have i2 := H'.out.ix k hk2
      rw [HN.out] at i1
      rw [HL.out, HN.out] at i2
      by_cases hxy : L.getD k 0 = M.getD k 0
      · have E2 : Aside (L.take (k + 1) = M.take (k + 1)) := by
          show _ = _
          rw [List.take_add_one, List.take_add_one, E.out, getD_at hk1, getD_at hk2, hxy]
        rw [← hxy] at h2
        clear hxy E hk1 hk2
        generalize L.getD k 0 = x at *
        go_wp2
        go_region
        go_wp2_with fail
        go_roundw
        case measure => simp [intOf]; omega
        case rel => exact ⟨k + 1, by go_num, by omega, E2, Kk.out.drew⟩
      · have hne : (L.getD k 0 != M.getD k 0) = true := by simpa using hxy
        have hd : decide (L = M) = false := decide_eq_false (fun e => hxy (by rw [e]))
        have HD : Aside _ := hd
        clear hxy E hk1 hk2 hd
        generalize L.getD k 0 = x at *
        generalize M.getD k 0 = y at *
        go_wp2
        go_region
        go_wp2_with fail
        go_ret
        refine ⟨?_, Kk.out.drew⟩
        rw [HD.out]
        rfl
    · obtain rfl : k = n := by omega
      have hd : decide (L = M) = true := by
        have := E.out
        rw [List.take_of_length_le (by rw [HN.out]; exact Nat.le_refl _), List.take_of_length_le (by rw [HL.out, HN.out]; exact Nat.le_refl _)] at this
        exact decide_eq_true this
      have HD : Aside _ := hd
      clear hd
      go_wp2
      go_ret
      refine ⟨?_, Kk.out⟩
      rw [HD.out]
      rfl

/-- A row that is built in place. -/
theorem Row.built {w0 : World} (w : World) (L : List Int) (cs : Array Value) (h : cs = (L.map encU).toArray) (k : w0.heap.size ≤ w.heap.size) (hm : L.length ≤ maxLen) : Row (w.alloc (.cells cs 22)) w0.heap.size w.heap.size L.length L := by
  subst h
  have := World.ownsRow_lit (base := w0.heap.size) (e := 22) (size := 1) w (L.map encU).toArray L.length k hm (by simp)
  simpa using this

def abc : ByteArray := ⟨#[97, 98, 99]⟩
def ab : ByteArray := ⟨#[97, 98]⟩
theorem abc_wds : wds (bs abc) = [3, 7017280021047803904] := by decide
theorem one_not : ¬ Is [1, 1] := fun h => absurd h.rest (by decide)
theorem ab_cmp : Lib.compareBytes (bs ab) (bs abc) = -1 := by decide

set_option maxRecDepth 100000 in
set_option maxHeartbeats 2000000 in
theorem awake_any (w0 w : World) (k : K w0 w) : Calls Try.prog 5 #[] w fun e w' => e = .returned (.bool true) ∧ K w0 w' := by
  have cw := words_ok abc (by decide) w
  rw [abc_wds] at cw
  unfold abc at cw
  have k0 : Aside _ := k
  clear k
  go_enter Try.func5, Try.ntmps5
  go_wp2_with fail
  refine cw.mono ?_
  rintro e w1 ⟨g, cap, rfl, R1, k1⟩
  clear cw
  have K1 : Aside _ := k1
  clear k1
  go_wp2_with fail
  have A1 := Row.built (w0 := w1) w1 [1, 1] #[.int .u64 1, .int .u64 1] rfl (Nat.le_refl _) (by simp [maxLen])
  refine (of_no (A1.src (by unfold Us; decide) (by simp [maxLen])) one_not).mono ?_
  rintro e w2 ⟨rfl, k2⟩
  have K2 : Aside (K w1 w2) := (Hp.K.alloc (K.refl w1) _).trans k2
  clear A1 k2
  go_wp2_with fail
  have A2 := Row.built (w0 := w2) w2 [3, 7017280021047803904] #[.int .u64 3, .int .u64 7017280021047803904] rfl (Nat.le_refl _) (by simp [maxLen])
  have kx : K w1 (w2.alloc (.cells #[.int .u64 3, .int .u64 7017280021047803904] 22)) := Hp.K.alloc K2.out _
  have A3 := (R1.out.src (by unfold Us; decide) (by simp [maxLen])).keep kx
  refine (same_any A3 (A2.src (by unfold Us; decide) (by simp [maxLen]))).mono ?_
  rintro e w3 ⟨rfl, k3⟩
  have K3 : Aside (K w0 w3) := k0.out.trans (K1.out.trans (kx.trans k3))
  clear A2 A3 kx k3 R1 K1 K2
  have hd : decide ([(3 : Int), 7017280021047803904] = [3, 7017280021047803904]) = true := by decide
  rw [hd]
  clear hd
  have cc := compare_any ab abc w3
  rw [ab_cmp] at cc
  unfold ab abc at cc
  go_wp2_with (go_at_call 10; refine cc.mono ?_; rintro e w4 ⟨rfl, rfl⟩)
  go_ret
  exact ⟨rfl, K3⟩

end Tx
end Go.Proofs.Ytffmfhpbhfnieab
