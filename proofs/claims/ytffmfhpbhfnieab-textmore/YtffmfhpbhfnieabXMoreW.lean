/-
  The walk of TextMore.
-/
import Derived.Test.YtffmfhpbhfnieabXBackW
import Derived.Maps.AppendAt
import Derived.Deep.AppendSrc
import Derived.WalkSpells
namespace Go.Proofs.Ytffmfhpbhfnieab
open Go.RowKit Go.Maps
namespace Tx
open Hp (Kept K No)
variable {w w' : World}

theorem src_one (w : World) (cells : Array Value) (ty : TypeId) : ∀ j u, cells.toList[j]? = some u → (w.alloc (.cells cells ty)).cell? ((⟨w.heap.size, 0, none⟩ : Addr).add j) = some u := fun j u hu => by
  rw [Go.WideShapes.add_plain, Nat.zero_add, World.cell?_alloc_new, ← Array.getElem?_toList]
  exact hu
theorem all_u (L : List Int) : ∀ u ∈ L.map encU, u.oneCell' = true := fun u hu => by
  obtain ⟨x, _, rfl⟩ := List.mem_map.1 hu
  rfl
theorem own_form {B n m : Nat} {ty : TypeId} {v : Value} {xs : List Value} (h : w.ownsRow B ty m v n xs) (hn : 0 < n) : ∃ g cap, v = .slice (some ⟨g, 0, none⟩) n cap := by
  rcases h.2 with ⟨_, e⟩ | ⟨g, cap, _, e, _⟩
  · omega
  · exact ⟨g, cap, e⟩
theorem own_lt {n₀ k m : Nat} {t : TypeId} {v : Value} {ys : List Value} (h : w.ownsRow n₀ t m v k ys) {g : Nat} (hg : some g = v.ownBlock) : n₀ ≤ g ∧ g < w.heap.size := by
  rcases h.2 with ⟨rfl, _⟩ | ⟨g2, cap, cur, rfl, hb, hh, _⟩
  · cases hg
  · obtain rfl : g = g2 := by simpa [Value.ownBlock] using hg
    exact ⟨hb, (Array.getElem?_eq_some_iff.1 hh).1⟩
theorem K.thenGrown {w0 w w1 : World} {o : Obj} (h : K w0 w) {row : Option Nat} (hg : (w.alloc o).grownBy w1 row) (hr : ∀ g, some g = row → w0.heap.size ≤ g) : K w0 w1 := K.grown (h.alloc o) hg hr
theorem Row.src_at {base g cap : Nat} {X : List Int} (R : Row w base g cap X) : ∀ j u, (X.map encU)[j]? = some u → w.cell? ((⟨g, 0, none⟩ : Addr).add j) = some u := fun j u hu => by
  rw [Go.WideShapes.add_plain, Nat.zero_add]
  rw [List.getElem?_map] at hu
  obtain ⟨x, hx, rfl⟩ := Option.map_eq_some_iff.1 hu
  exact R.cell hx

theorem K.row' {a b : World} {base g cap : Nat} {L : List Int} (h : Row a base g cap L) (k : K a b) : Row b base g cap L :=
  World.ownsRow.kept h (row := none) ⟨k.os, k.tape, k.output, k.size, fun j hj _ => k.same j hj (fun x => x)⟩ (.inr (by simp [Value.ownBlock]))

theorem cut_in (cut : Int) (x : Nat) (hx : 0 < x) (hx2 : x ≤ 200) : ∃ k : Nat, k < x ∧ (wrap64 (cut.tmod x + x)).tmod x = (k : Int) := by
  have h1 := Int.tmod_lt_of_pos cut (b := (x : Int)) (by omega)
  have h2 := Int.lt_tmod_of_pos cut (b := (x : Int)) (by omega)
  generalize cut.tmod x = y at *
  have e : wrap64 (y + x) = y + x := by unfold wrap64; omega
  rw [e, Int.tmod_eq_emod_of_nonneg (by omega)]
  have h3 := Int.emod_nonneg (y + x) (show (x : Int) ≠ 0 by omega)
  have h4 := Int.emod_lt_of_pos (y + x) (show (0 : Int) < x by omega)
  exact ⟨((y + x) % x).toNat, by omega, by omega⟩
theorem Row.cap {base g cap : Nat} {X : List Int} (R : Row w base g cap X) : X.length ≤ cap := by
  rcases R.2 with ⟨h, _⟩ | ⟨g2, cap2, cur, hv, _, _, hc, _⟩
  · simp at h
  · simp only [Value.slice.injEq, Option.some.injEq, Addr.mk.injEq, and_true, true_and] at hv
    obtain ⟨_, rfl⟩ := hv
    exact hc

/-- A text's words, and one more, or fewer, are none. -/
theorem not_more {l : List UInt8} (h : l.length ≤ 1000) (v : Int) : ¬ Is (wds l ++ [v]) := fun i => by
  have e := i.len
  have hz : (wds l ++ [v]).getD 0 0 = (l.length : Int) := by
    rw [List.getD_eq_getElem?_getD, List.getElem?_append_left (by rw [wds_len]; omega), ← List.getD_eq_getElem?_getD, wds_zero]
  rw [hz, List.length_append, wds_len] at e
  simp at e
  omega
theorem not_less {l : List UInt8} {k : Nat} (hk : k < (wds l).length) : ¬ Is ((wds l).take k) := fun i => by
  have e := i.len
  have hne := i.ne
  rw [List.length_take] at e hne
  have hz : ((wds l).take k).getD 0 0 = (l.length : Int) := by
    rw [List.getD_eq_getElem?_getD, List.getElem?_take, if_pos (by omega), ← List.getD_eq_getElem?_getD, wds_zero]
  rw [hz] at e
  rw [wds_len] at e hk
  omega
/-- Another length. -/
theorem len_other {X : List Int} {v : Int} (h : Is (X.set 0 v)) (v0 : 0 ≤ v) : v ≤ 1000 ∧ ((ofT (X.set 0 v)).length : Int) = v ∧ (X.length : Int) = mn v := by
  have e := h.len
  have hle := h.le
  have hne := h.ne
  rw [List.length_set] at e hne
  have hz : (X.set 0 v).getD 0 0 = v := by
    rw [List.getD_eq_getElem?_getD, List.getElem?_set, if_pos rfl, if_pos hne]
    rfl
  rw [hz] at e hle
  refine ⟨hle, by rw [ofT_len, hz]; omega, ?_⟩
  rw [mn_in v0 hle]
  exact e

set_option maxRecDepth 100000 in
set_option maxHeartbeats 2000000 in
theorem more_out (s : ByteArray) (v cut : Int) (w : World) (h : 300 < s.size) : Calls Try.prog 3 #[.string s, .int .u64 v, .int .i64 cut] w fun e w' => e = .returned (.bool true) ∧ K w w' := by
  have ca := awake_any w
  by_cases h1 : s.size ≤ 1000
  · have c1 := words_ok s h1 w
    go_enter Try.func3, Try.ntmps3
    go_wp2_with fail
    refine c1.mono ?_
    rintro e w1 ⟨g1, p1, rfl, R1, k1⟩
    go_wp2_with (go_at_call 5; refine (ca _ (by assumption)).mono ?_; rintro e w6 ⟨rfl, k6⟩)
    go_ret
    exact ⟨rfl, k6⟩
  · have c1 := long_no s (by omega) w
    go_enter Try.func3, Try.ntmps3
    go_wp2_with fail
    refine c1.mono ?_
    rintro e w1 ⟨rfl, k1⟩
    go_wp2_with (go_at_call 5; refine (ca _ (by assumption)).mono ?_; rintro e w6 ⟨rfl, k6⟩)
    go_ret
    exact ⟨rfl, k6⟩

set_option maxRecDepth 100000 in
set_option maxHeartbeats 4000000 in
theorem more_in (s : ByteArray) (v cut : Int) (w : World) (h : s.size ≤ 300) (v0 : 0 ≤ v) (v1 : v ≤ 18446744073709551615) : Calls Try.prog 3 #[.string s, .int .u64 v, .int .i64 cut] w fun e w' => e = .returned (.bool true) ∧ K w w' := by
  obtain ⟨iu, hiu, hs1, hs2, hz⟩ := info_u64
  have HU : Aside (Try.prog.info? 22 = some iu ∧ iu.zero = some (.int .u64 0) ∧ iu.size = 1 ∧ iu.bytes = 8) := ⟨hiu, hz, hs1, hs2⟩
  clear hiu hs1 hs2 hz
  have ca := awake_any w
  have U1 : Aside (Us (wds (bs s))) := wds_us' (by omega)
  have M1 : Aside ((wds (bs s)).length ≤ 200) := by show _ ≤ _; rw [wds_len, bs_len]; omega
  have P1 : Aside (0 < (wds (bs s)).length) := by show _ < _; rw [wds_len]; omega
  have N1 : Aside (¬ Is (wds (bs s) ++ [v])) := not_more (by rw [bs_len]; omega) v
  have N2 : Aside (∀ k, k < (wds (bs s)).length → ¬ Is ((wds (bs s)).take k)) := fun k hk => not_less hk
  have c1 := words_ok s (by omega) w
  generalize wds (bs s) = X at *
  obtain ⟨x, hx⟩ : ∃ x, X.length = x := ⟨_, rfl⟩
  rw [hx] at c1
  have HX : Aside _ := hx
  have hx200 : x ≤ 200 := by have := M1.out; omega
  have hx0 : 0 < x := by have := P1.out; omega
  have hxb : ((x : Int) == 0) = false := by rw [beq_eq_false_iff_ne]; omega
  clear hx
  go_enter Try.func3, Try.ntmps3
  go_wp2_with fail
  refine c1.mono ?_
  rintro e w1 ⟨g1, p1, rfl, R1, k1⟩
  have K1 : Aside _ := k1
  clear k1
  have hsz1 : w.heap.size ≤ w1.heap.size := K1.out.size
  have hg1 : g1 < w1.heap.size := R1.out.lt.2
  have hp1 : x ≤ p1 := by have := R1.out.cap; rw [HX.out] at this; exact this
  obtain ⟨k, hkx, hk⟩ := cut_in cut x hx0 hx200
  have RE : Aside ((w1.alloc (.cells #[] 22)).ownsRow w.heap.size 22 1 (.slice (some ⟨w1.heap.size, 0, none⟩) 0 0) 0 []) := World.ownsRow_lit (base := w.heap.size) (e := 22) (size := 1) w1 #[] 0 hsz1 (by simp [maxLen]) rfl
  go_wp2_with (first
    | (at_builtin
       refine wpList_append_own_at _ rfl _ _ 23 rfl w.heap.size 22 iu (.int .u64 0) 1 8 Try.underlying23 HU.out.1 HU.out.2.1 HU.out.2.2.1 HU.out.2.2.2 rfl (by decide) _ 0 [] rfl RE.out ⟨g1, 0, none⟩ x p1 (X.map encU) rfl (by rw [List.length_map, HX.out, Nat.mul_one]) (Row.src_at (World.ownsRow.alloc R1.out _)) (all_u X) (by unfold maxLen; omega) (by omega) (by simp; omega) ?_
       intro v4 w4 hown hgrow _ hat
       have k4 : Aside (K w w4) := K.thenGrown K1.out hgrow (fun g hg => (own_lt RE.out hg).1)
       have R4 : Aside (Row w4 w.heap.size g1 p1 X) := World.ownsRow.kept (World.ownsRow.alloc R1.out _) hgrow (.inr (fun e => Nat.ne_of_lt hg1 (Option.some.inj e)))
       rw [Nat.zero_add, List.nil_append] at hown
       obtain ⟨a4, c4, hv4⟩ := own_form hown hx0
       subst hv4
       have ha4 : g1 < a4 := by
         rcases hat with e | e
         · have e2 : a4 = w1.heap.size := Option.some.inj e
           omega
         · have e2 : a4 = (w1.alloc (.cells #[] 22)).heap.size := Option.some.inj e
           simp at e2
           omega
       have r4 : Aside _ := hown
       have hsz4 : w.heap.size ≤ w4.heap.size := k4.out.size
       clear hown hgrow hat K1 RE)
    | (at_builtin
       refine wpList_append_own_at _ rfl _ _ 23 rfl w.heap.size 22 iu (.int .u64 0) 1 8 Try.underlying23 HU.out.1 HU.out.2.1 HU.out.2.2.1 HU.out.2.2.2 rfl (by decide) _ x _ rfl (World.ownsRow.alloc r4.out _) ⟨w4.heap.size, 0, none⟩ 1 1 [encU v] rfl rfl (src_one w4 #[.int .u64 v] 22) (all_u [v]) (by unfold maxLen; omega) (by omega) (by simp; omega) ?_
       intro v5 w5 hown hgrow _ hat
       have k5 : Aside (K w w5) := K.thenGrown k4.out hgrow (fun g hg => (own_lt r4.out hg).1)
       have R5 : Aside (Row w5 w.heap.size g1 p1 X) := World.ownsRow.kept (World.ownsRow.alloc R4.out _) hgrow (.inr (fun e => Nat.ne_of_lt ha4 (Option.some.inj e)))
       rw [show X.map encU ++ [encU v] = (X ++ [v]).map encU by rw [List.map_append]; rfl] at hown
       obtain ⟨a5, c5, hv5⟩ := own_form hown (by omega)
       subst hv5
       have r5 : Aside _ := hown
       clear hown hgrow hat R4 r4 k4 ha4))
  have hlx : (X ++ [v]).length = x + 1 := by rw [List.length_append, HX.out]; rfl
  have S5 := Row.src (Row.of r5.out hlx) (fun y hy => by
    rcases List.mem_append.1 hy with hy | hy
    · exact U1.out y hy
    · obtain rfl : y = v := by simpa using hy
      exact ⟨v0, v1⟩) (by rw [hlx]; unfold maxLen; omega)
  refine (of_noX S5 N1.out hlx).mono ?_
  rintro e w6 ⟨rfl, k6⟩
  have R6 : Aside (Row w6 w.heap.size g1 p1 X) := K.row' R5.out k6
  have K6 : Aside (K w w6) := k5.out.trans k6
  clear S5 hlx r5 k6 k5 R5 hsz4
  go_wp2_with fail
  have htk : (X.take k).length = k := by rw [List.length_take, HX.out]; omega
  have S6 : Src w6 (some ⟨g1, 0, none⟩) g1 0 p1 (X.take k) := by
    have S0 := R6.out.src U1.out (by rw [HX.out]; unfold maxLen; omega)
    refine ⟨fun i hi w' => ?_, fun i y hy => ?_, fun y hy => U1.out y (List.mem_of_mem_take hy), by rw [htk]; unfold maxLen; omega⟩
    · exact ixW g1 0 _ p1 i hi w'
    · rw [List.getElem?_take] at hy
      split at hy
      · exact S0.cell i y hy
      · cases hy
  refine (of_noX S6 (N2.out k (by rw [HX.out]; exact hkx)) htk).mono ?_
  rintro e w7 ⟨rfl, k7⟩
  have R7 : Aside (Row w7 w.heap.size g1 p1 X) := K.row' R6.out k7
  have K7 : Aside (K w w7) := K6.out.trans k7
  have hsz7 : w.heap.size ≤ w7.heap.size := K7.out.size
  have hg7 : g1 < w7.heap.size := R7.out.lt.2
  have RE : Aside ((w7.alloc (.cells #[] 22)).ownsRow w.heap.size 22 1 (.slice (some ⟨w7.heap.size, 0, none⟩) 0 0) 0 []) := World.ownsRow_lit (base := w.heap.size) (e := 22) (size := 1) w7 #[] 0 hsz7 (by simp [maxLen]) rfl
  clear S6 htk k7 K6 R6
  go_wp2_with (
    at_builtin
    refine wpList_append_own_at _ rfl _ _ 23 rfl w.heap.size 22 iu (.int .u64 0) 1 8 Try.underlying23 HU.out.1 HU.out.2.1 HU.out.2.2.1 HU.out.2.2.2 rfl (by decide) _ 0 [] rfl RE.out ⟨g1, 0, none⟩ x p1 (X.map encU) rfl (by rw [List.length_map, HX.out, Nat.mul_one]) (Row.src_at (World.ownsRow.alloc R7.out _)) (all_u X) (by unfold maxLen; omega) (by omega) (by simp; omega) ?_
    intro v8 w8 hown hgrow _ hat
    have k8 : Aside (K w w8) := K.thenGrown K7.out hgrow (fun g hg => (own_lt RE.out hg).1)
    rw [Nat.zero_add, List.nil_append] at hown
    obtain ⟨a8, c8, hv8⟩ := own_form hown hx0
    subst hv8
    have r8 : Aside (Row w8 w.heap.size a8 c8 X) := Row.of hown HX.out
    have x8 : w8.cell? ⟨a8, 0, none⟩ = some (.int .u64 (X.getD 0 0)) := r8.out.cell (getD_at P1.out)
    have f8 : w8.frozen? ⟨a8, 0, none⟩ = false := r8.out.free 0
    clear hown hgrow hat K7 RE R7)
  have R9 := r8.out.put 0 v
  have k9 : K w (w8.setCell ⟨a8, 0, none⟩ (.int .u64 v)) := Hp.K.setCell k8.out _ r8.out.lt.1
  clear x8 f8 r8 k8
  generalize w8.setCell ⟨a8, 0, none⟩ (.int .u64 v) = w9 at *
  have hlx : (X.set 0 v).length = x := by rw [List.length_set, HX.out]
  have S9 := R9.src (fun y hy => by
    rcases List.mem_or_eq_of_mem_set hy with hy | rfl
    · exact U1.out y hy
    · exact ⟨v0, v1⟩) (by rw [hlx]; unfold maxLen; omega)
  have K9 : Aside _ := k9
  clear R9 k9
  by_cases hi : Is (X.set 0 v)
  · obtain ⟨h1000, ht, hm⟩ := len_other hi v0
    rw [HX.out] at hm
    refine (of_yesX S9 hi hlx).mono ?_
    rintro e w10 ⟨rfl, k10⟩
    have k11 : K w w10 := K9.out.trans k10
    have hsz : ((⟨(ofT (X.set 0 v)).toArray⟩ : ByteArray).size : Int) = v := by rw [← bs_len]; exact ht
    have cm := many_any v
    rw [← hm] at cm
    clear S9 hlx hi ht hm k10 K9 hk
    generalize (⟨(ofT (X.set 0 v)).toArray⟩ : ByteArray) = T at *
    obtain ⟨tn, htn⟩ : ∃ tn, T.size = tn := ⟨_, rfl⟩
    rw [htn] at hsz
    subst hsz
    go_wp2_with (first
      | (go_at_call 7; refine (cm _).mono ?_; rintro e w11 ⟨rfl, rfl⟩)
      | (go_at_call 5; refine (ca _ (by assumption)).mono ?_; rintro e w12 ⟨rfl, k12⟩))
    go_ret
    exact ⟨rfl, k12⟩
  · refine (of_noX S9 hi hlx).mono ?_
    rintro e w10 ⟨rfl, k10⟩
    have k11 : K w w10 := K9.out.trans k10
    clear S9 hlx hi k10 K9 hk
    go_wp2_with (go_at_call 5; refine (ca _ (by assumption)).mono ?_; rintro e w12 ⟨rfl, k12⟩)
    go_ret
    exact ⟨rfl, k12⟩

theorem more_walk (s : ByteArray) (v : Int) (hv : 0 ≤ v ∧ v ≤ 18446744073709551615) (cut : Int) (w : World) : Calls Try.prog 3 #[.string s, .int .u64 v, .int .i64 cut] w fun e w' => e = .returned (.bool true) ∧ K w w' := by
  by_cases h : s.size ≤ 300
  · exact more_in s v cut w h hv.1 hv.2
  · exact more_out s v cut w (by omega)

end Tx
end Go.Proofs.Ytffmfhpbhfnieab
