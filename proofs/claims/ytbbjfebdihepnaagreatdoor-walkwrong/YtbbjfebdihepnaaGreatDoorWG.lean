/-
  Rows of pairs, as they come in or are sorted; the reference's Long, Rank, Find.
-/
import Derived.Test.YtbbjfebdihepnaaGreatDoorWF
import Derived.Test.YtbbjfebdihepnaaGreatDoorX3
import Derived.Maps.AppendAt
import Derived.Deep.QuietTactic
import Derived.BigQuiet
namespace Go.Proofs.YtbbjfebdihepnaaGreatDoor
open Go.RowKit Go.Maps
attribute [local go_sem ↓] Go.wp_at_zero Go.wp_at_succ
namespace Wa
open Hp (Kept K No)
open Nd (Nv encU)
variable {w w' : World} {a : Option Addr} {n cap : Nat}

structure Pr where
  k : ByteArray
  x : ByteArray
def prs (l : List Pr) : List Value := l.flatMap fun p => [.string p.k, .string p.x]
/-- A slice that holds these pairs. -/
structure Srp (w : World) (a : Option Addr) (n cap : Nat) (l : List Pr) : Prop where
  len : l.length = n
  ad : 0 < n → ∃ b off, a = some ⟨b, off, none⟩ ∧ ∀ (i : Nat) p, l[i]? = some p → w.cell? ⟨b, off + i * 2, none⟩ = some (.string p.k) ∧ w.cell? ⟨b, off + i * 2 + 1, none⟩ = some (.string p.x)
  cp : n ≤ cap
  mx : cap ≤ maxLen
theorem Srp.keep {l : List Pr} (h : Srp w a n cap l) (k : K w w') : Srp w' a n cap l := ⟨h.len, fun hn => by
  obtain ⟨b, off, e, hc⟩ := h.ad hn
  exact ⟨b, off, e, fun i p hp => ⟨k.cell (hc i p hp).1, k.cell (hc i p hp).2⟩⟩, h.cp, h.mx⟩
theorem run_ixQ (b off n cap i : Nat) (hi : i < n) (w' : World) : (Instr.indexAt 22 (.slice (some ⟨b, off, none⟩) n cap) (.int .i64 (i : Int))).run Tryz.prog w' = .ok (.pointer (some ⟨b, off + i * 2, none⟩)) w' :=
  So.run_ixg (t := 22) (e := 39) (m := 2) (by kernel_rfl) (by kernel_rfl) (fun w => by kernel_rfl) b off n cap i hi w'
theorem Srp.at {l : List Pr} (h : Srp w a n cap l) {i : Nat} (hi : i < n) : ∃ b off p, a = some ⟨b, off, none⟩ ∧ l[i]? = some p ∧ w.cell? ⟨b, off + i * 2, none⟩ = some (.string p.k) ∧ w.cell? ⟨b, off + i * 2 + 1, none⟩ = some (.string p.x) := by
  obtain ⟨b, off, e, hc⟩ := h.ad (by omega)
  obtain ⟨p, hp⟩ : ∃ p, l[i]? = some p := ⟨_, List.getElem?_eq_getElem (by rw [h.len]; exact hi)⟩
  exact ⟨b, off, p, e, hp, hc i p hp⟩

/-- All texts are short. -/
def shortL (l : List Pr) : Prop := ∀ p ∈ l, p.k.size ≤ 1000 ∧ p.x.size ≤ 1000

set_option maxRecDepth 100000 in
set_option maxHeartbeats 2000000 in
theorem long_any {l : List Pr} (h : Srp w a n cap l) (hs : ∀ p ∈ l, p.k.size ≤ maxLen ∧ p.x.size ≤ maxLen) : Calls Tryz.prog 9 #[.slice a n cap] w fun e w' => ∃ b, e = .returned (.bool b) ∧ Aside (b = false → shortL l) ∧ K w w' := by
  have H : Aside _ := h
  have HS : Aside _ := hs
  have hn : n ≤ maxLen := Nat.le_trans h.cp h.mx
  have hn2 : n ≤ 9223372036854775807 := by unfold maxLen at hn; omega
  have k0 : Aside (K w w) := K.refl w
  clear h hs hn
  go_enter Tryz.func9, Tryz.ntmps9
  go_wp2_with fail
  go_loopw [3] (fun t wr => ∃ i : Nat, t = .int .i64 i ∧ i ≤ n ∧ Aside (K w wr ∧ ∀ (j : Nat) p, j < i → l[j]? = some p → p.k.size ≤ 1000 ∧ p.x.size ≤ 1000)) (fun t _ => n - (intOf t).toNat)
  case atStart => exact ⟨0, rfl, by omega, k0.out, fun j p hj => absurd hj (Nat.not_lt_zero j)⟩
  case round =>
    obtain ⟨i, rfl, hi, HI⟩ := hrel
    clear k0
    by_cases hlt : i < n
    · obtain ⟨b, off, p, rfl, hp, c0, c1⟩ := (H.out.keep HI.out.1).at hlt
      have ix := fun w' => run_ixQ b off n cap i hlt w'
      have hm := HS.out p (List.mem_of_getElem? hp)
      obtain ⟨k1, k2⟩ := hm
      have hk1 : p.k.size ≤ 9223372036854775807 := by unfold maxLen at k1; omega
      have hk2 : p.x.size ≤ 9223372036854775807 := by unfold maxLen at k2; omega
      have HP : Aside (l[i]? = some p) := hp
      obtain ⟨pk, px⟩ := p
      simp only at c0 c1 hk1 hk2
      clear hp k1 k2
      by_cases h1 : 1000 < pk.size
      · have hd : decide ((1000 : Int) < (pk.size : Int)) = true := decide_eq_true (by omega)
        have KF : Aside _ := HI.out.1
        go_wp2_with fail
        go_ret
        exact ⟨true, rfl, (fun h => (by cases h) : true = false → shortL l), KF.out⟩
      · have hd : decide ((1000 : Int) < (pk.size : Int)) = false := decide_eq_false (by omega)
        by_cases h2 : 1000 < px.size
        · have hd2 : decide ((1000 : Int) < (px.size : Int)) = true := decide_eq_true (by omega)
          have KF : Aside _ := HI.out.1
          go_wp2_with fail
          go_ret
          exact ⟨true, rfl, (fun h => (by cases h) : true = false → shortL l), KF.out⟩
        · have hd2 : decide ((1000 : Int) < (px.size : Int)) = false := decide_eq_false (by omega)
          have H2 : Aside (pk.size ≤ 1000 ∧ px.size ≤ 1000) := ⟨by omega, by omega⟩
          clear h1 h2
          go_wp2_with fail
          go_roundw
          case measure => simp [intOf]; omega
          case rel =>
            refine ⟨i + 1, by go_num, by omega, HI.out.1, fun j p hj hp => ?_⟩
            by_cases e : j < i
            · exact HI.out.2 j p e hp
            · obtain rfl : j = i := by omega
              obtain rfl := Option.some.inj (HP.out.symm.trans hp)
              exact H2.out
    · obtain rfl : i = n := by omega
      have FIN : Aside (shortL l ∧ K w wr) := ⟨fun p hp => by
        obtain ⟨j, hj, e⟩ := List.mem_iff_getElem.1 hp
        exact HI.out.2 j p (by rw [← H.out.len]; exact hj) (by rw [List.getElem?_eq_getElem hj, e]), HI.out.1⟩
      clear HI
      go_wp2_with fail
      go_ret
      exact ⟨false, rfl, (fun _ => FIN.out.1 : false = false → shortL l), FIN.out.2⟩

/-- How many keys are below one. -/
def rankP (l : List Pr) (key : ByteArray) : Nat := l.countP fun p => decide (cmp p.k key < 0)
theorem rankP_take (l : List Pr) (key : ByteArray) {i : Nat} {p : Pr} (h : l[i]? = some p) : rankP (l.take (i + 1)) key = rankP (l.take i) key + if cmp p.k key < 0 then 1 else 0 := by
  unfold rankP
  rw [List.take_add_one, h, List.countP_append]
  by_cases hc : cmp p.k key < 0 <;> simp [hc]
theorem rankP_le (l : List Pr) (key : ByteArray) : rankP l key ≤ l.length := List.countP_le_length

set_option maxRecDepth 100000 in
set_option maxHeartbeats 2000000 in
theorem rrank_any {l : List Pr} (h : Srp w a n cap l) (hs : shortL l) (hn : n ≤ 1000) (key : ByteArray) (hk : key.size ≤ 2000) : Calls Tryz.prog 17 #[.slice a n cap, .string key] w fun e w' => e = .returned (.int .i64 (rankP l key : Int)) ∧ K w w' := by
  have H : Aside _ := h
  have HS : Aside _ := hs
  have k0 : Aside (K w w) := K.refl w
  have cc : Aside (∀ (p : Pr) V, p ∈ l → Calls Tryz.prog 37 #[.string p.k, .string key] V fun e w' => e = .returned (.int .i64 (cmp p.k key)) ∧ K V w') := fun p V hp => Tx.rCompare_any p.k key (by have := (hs p hp).1; omega) hk V
  clear h hs
  go_enter Tryz.func17, Tryz.ntmps17
  go_wp2_with fail
  go_loopw [5, 6] (fun s t wr => ∃ (i : Nat), s = .int .i64 (rankP (l.take i) key : Int) ∧ t = .int .i64 i ∧ i ≤ n ∧ Aside (K w wr)) (fun _ t _ => n - (intOf t).toNat)
  case atStart => exact ⟨0, by simp [rankP], rfl, by omega, k0.out⟩
  case round =>
    obtain ⟨i, rfl, rfl, hi, HI⟩ := hrel
    clear k0
    by_cases hlt : i < n
    · obtain ⟨b, off, p, rfl, hp, c0, c1⟩ := (H.out.keep HI.out).at hlt
      have ix := fun w' => run_ixQ b off n cap i hlt w'
      have c5 := cc.out p wr (List.mem_of_getElem? hp)
      have hr := rankP_take l key hp
      have hrl : rankP (l.take i) key ≤ 1000 := Nat.le_trans (rankP_le _ _) (by rw [List.length_take]; omega)
      have HR : Aside _ := hr
      obtain ⟨pk, px⟩ := p
      simp only at c0 c1 c5
      obtain ⟨cv, hcv⟩ : ∃ cv, cmp pk key = cv := ⟨_, rfl⟩
      rw [hcv] at c5
      have HCV : Aside (cmp pk key = cv) := hcv
      obtain ⟨rk, hrk⟩ : ∃ rk, rankP (l.take i) key = rk := ⟨_, rfl⟩
      rw [hrk] at hrl ⊢
      have HRK : Aside (rankP (l.take i) key = rk) := hrk
      clear hp hr hcv hrk
      go_wp2_with fail
      refine c5.mono ?_
      rintro e w5 ⟨rfl, k5⟩
      have KF : Aside _ := HI.out.trans k5
      clear c5 k5 HI
      by_cases hc : cv < 0
      · have hd : decide (cv < (0 : Int)) = true := decide_eq_true hc
        go_wp2_with fail
        go_roundw
        case measure => simp [intOf]; omega
        case rel =>
          refine ⟨i + 1, ?_, by go_num, by omega, KF.out⟩
          have e := HR.out
          simp only [HCV.out, HRK.out, if_pos hc] at e
          rw [e]
          go_num
      · have hd : decide (cv < (0 : Int)) = false := decide_eq_false hc
        go_wp2_with fail
        go_roundw
        case measure => simp [intOf]; omega
        case rel =>
          refine ⟨i + 1, ?_, by go_num, by omega, KF.out⟩
          have e := HR.out
          simp only [HCV.out, HRK.out, if_neg (show ¬ cv < 0 by omega)] at e
          rw [e]
          rfl
    · obtain rfl : i = n := by omega
      have e : l.take i = l := List.take_of_length_le (by rw [H.out.len]; exact Nat.le_refl _)
      rw [e]
      clear H HS cc
      go_wp2_with fail
      go_ret
      exact ⟨rfl, HI.out⟩

end Wa
end Go.Proofs.YtbbjfebdihepnaaGreatDoor

/-
  Rows of pairs: cut, appended to; the reference's Find, Put, Sorted.
-/
namespace Go.Proofs.YtbbjfebdihepnaaGreatDoor
open Go.RowKit Go.Maps
attribute [local go_sem ↓] Go.wp_at_zero Go.wp_at_succ
namespace Wa
open Hp (Kept K No)
open Nd (Nv encU)
variable {w w' : World} {a : Option Addr} {n cap : Nat}

theorem Srp.lo {l : List Pr} (h : Srp w a n cap l) {k : Nat} (hk : k ≤ n) : (∀ w, (Instr.slice 22 (.slice a n cap) none (some (.int .i64 (k : Int))) none).run Tryz.prog w = .ok (.slice a k cap) w) ∧ Srp w a k cap (l.take k) := by
  refine ⟨fun w => ?_, by rw [List.length_take, h.len]; omega, fun h0 => ?_, by have := h.cp; omega, h.mx⟩
  · have hel : Tryz.prog.elem 22 = 39 := by kernel_rfl
    have hsz : (sizeOf 39).run Tryz.prog w = .ok 2 w := by kernel_rfl
    have hu : Tryz.prog.underlying 22 = some (.slice (Tryz.prog.elem 22)) := by kernel_rfl
    rw [run_slice_h (P := Tryz.prog) w 22 a n cap hu .i64 k (by omega) (by have := h.cp; omega), hel, hsz]
    simp only [Result.andThen_ok, sliced, Int.toNat_natCast, Nat.zero_mul, Nat.sub_zero]
    cases a with
    | none => simp
    | some x => split <;> simp [Addr.add]
  · obtain ⟨b, off, e, hc⟩ := h.ad (by omega)
    refine ⟨b, off, e, fun i p hp => hc i p ?_⟩
    rw [List.getElem?_take] at hp
    split at hp
    · exact hp
    · cases hp
theorem Srp.hi {l : List Pr} (h : Srp w a n cap l) {k : Nat} (hk : k ≤ n) : ∃ oa, (∀ w, (Instr.slice 22 (.slice a n cap) (some (.int .i64 (k : Int))) none none).run Tryz.prog w = .ok (.slice oa (n - k) (cap - k)) w) ∧ Srp w oa (n - k) (cap - k) (l.drop k) ∧ (k < n → ∀ b off, a = some ⟨b, off, none⟩ → oa = some ⟨b, off + k * 2, none⟩) := by
  have hcp := h.cp
  refine ⟨if cap = k then a else a.map (fun x => x.add (k * 2)), fun w => ?_, ⟨by rw [List.length_drop, h.len], fun h0 => ?_, by omega, by have := h.mx; omega⟩, fun h1 b off e => by rw [e, if_neg (by omega)]; simp [Go.WideShapes.add_plain]⟩
  · have hel : Tryz.prog.elem 22 = 39 := by kernel_rfl
    have hsz : (sizeOf 39).run Tryz.prog w = .ok 2 w := by kernel_rfl
    have hu : Tryz.prog.underlying 22 = some (.slice (Tryz.prog.elem 22)) := by kernel_rfl
    rw [run_slice_l (P := Tryz.prog) w 22 a n cap hu .i64 k (by omega) (by omega), hel, hsz]
    simp only [Result.andThen_ok, sliced, Int.toNat_natCast]
  · obtain ⟨b, off, e, hc⟩ := h.ad (by omega)
    subst e
    rw [if_neg (by omega)]
    refine ⟨b, off + k * 2, by simp [Go.WideShapes.add_plain], fun i p hp => ?_⟩
    rw [List.getElem?_drop] at hp
    obtain ⟨h1, h2⟩ := hc _ p hp
    rw [show off + k * 2 + i * 2 = off + (k + i) * 2 by omega]
    exact ⟨h1, h2⟩

theorem prs_cons (p : Pr) (l : List Pr) : prs (p :: l) = .string p.k :: .string p.x :: prs l := rfl
theorem prs_len : ∀ l : List Pr, (prs l).length = l.length * 2
  | [] => rfl
  | p :: l => by
    rw [prs_cons, List.length_cons, List.length_cons, prs_len l, List.length_cons]
    omega
theorem prs_app (a b : List Pr) : prs (a ++ b) = prs a ++ prs b := by simp [prs]
theorem prs_at : ∀ {l : List Pr} {i : Nat} {p : Pr}, l[i]? = some p → (prs l)[i * 2]? = some (.string p.k) ∧ (prs l)[i * 2 + 1]? = some (.string p.x)
  | [], _, _, h => by simp at h
  | q :: l, 0, p, h => by
    obtain rfl : q = p := by simpa using h
    exact ⟨rfl, rfl⟩
  | q :: l, i + 1, p, h => by
    have ih := prs_at (l := l) (i := i) (p := p) (by simpa using h)
    rw [prs_cons, show (i + 1) * 2 = i * 2 + 1 + 1 by omega, show i * 2 + 1 + 1 + 1 = (i * 2 + 1) + 1 + 1 by omega]
    simp only [List.getElem?_cons_succ]
    exact ih
theorem prs_one (l : List Pr) : ∀ u ∈ prs l, u.oneCell' = true := fun u hu => by
  obtain ⟨p, _, hp⟩ := List.mem_flatMap.1 hu
  simp only [List.mem_cons, List.not_mem_nil, or_false] at hp
  rcases hp with rfl | rfl <;> rfl
theorem prs_ix : ∀ {l : List Pr} {j : Nat} {u : Value}, (prs l)[j]? = some u → ∃ i p, l[i]? = some p ∧ ((j = i * 2 ∧ u = .string p.k) ∨ (j = i * 2 + 1 ∧ u = .string p.x))
  | [], _, _, h => by simp [prs] at h
  | p :: l, 0, u, h => ⟨0, p, rfl, .inl ⟨rfl, by rw [prs_cons] at h; exact (Option.some.inj h).symm⟩⟩
  | p :: l, 1, u, h => ⟨0, p, rfl, .inr ⟨rfl, by rw [prs_cons] at h; exact (Option.some.inj h).symm⟩⟩
  | p :: l, j + 2, u, h => by
    rw [prs_cons] at h
    obtain ⟨i, q, h1, h2⟩ := prs_ix (l := l) (j := j) (u := u) (by simpa using h)
    exact ⟨i + 1, q, by simpa using h1, by rcases h2 with ⟨e, h⟩ | ⟨e, h⟩
                                           · exact .inl ⟨by omega, h⟩
                                           · exact .inr ⟨by omega, h⟩⟩
/-- The cells of a slice, as a source. -/
theorem Srp.src {l : List Pr} (h : Srp w a n cap l) : (n = 0 ∧ prs l = []) ∨ ∃ ad, a = some ad ∧ ∀ j u, (prs l)[j]? = some u → w.cell? (ad.add j) = some u := by
  by_cases h0 : 0 < n
  · obtain ⟨b, off, e, hc⟩ := h.ad h0
    refine .inr ⟨_, e, fun j u hu => ?_⟩
    obtain ⟨i, p, hp, (⟨rfl, rfl⟩ | ⟨rfl, rfl⟩)⟩ := prs_ix hu
    · rw [Go.WideShapes.add_plain]
      exact (hc i p hp).1
    · rw [Go.WideShapes.add_plain, ← Nat.add_assoc]
      exact (hc i p hp).2
  · have : l = [] := List.eq_nil_of_length_eq_zero (by have := h.len; omega)
    exact .inl ⟨by omega, by rw [this]; rfl⟩
/-- A row of one's own is such a slice. -/
theorem own_srp {B : Nat} {l : List Pr} (h : w.ownsRow B 39 2 (.slice a n cap) n (prs l)) (hl : l.length = n) : Srp w a n cap l := by
  rcases h.2 with ⟨e, h0⟩ | ⟨g, cap', cur, e, hg, hb, hn, hc, hs, ht⟩
  · cases e
    exact ⟨by rw [hl], fun h => by omega, by omega, by unfold maxLen; omega⟩
  · cases e
    refine ⟨hl, fun _ => ⟨g, 0, rfl, fun i p hp => ?_⟩, hn, hc⟩
    have hi := (List.getElem?_eq_some_iff.1 hp).1
    obtain ⟨h1, h2⟩ := prs_at hp
    have hat : ∀ j u, (prs l)[j]? = some u → w.cell? ⟨g, j, none⟩ = some u := fun j u hu => by
      rw [← ht, List.getElem?_take] at hu
      split at hu
      · simp only [World.cell?, hb]
        rw [if_neg (by simp), ← Array.getElem?_toList]
        exact hu
      · cases hu
    rw [Nat.zero_add]
    exact ⟨hat _ _ h1, hat _ _ h2⟩

/-- Such a slice in a block of pairs. -/
structure Srt (w : World) (a : Option Addr) (n cap : Nat) (l : List Pr) : Prop where
  p : Srp w a n cap l
  kd : 0 < n → ∃ b off cs, a = some ⟨b, off, none⟩ ∧ w.heap[b]? = some (.cells cs 39)
theorem own_srt {B : Nat} {l : List Pr} (h : w.ownsRow B 39 2 (.slice a n cap) n (prs l)) (hl : l.length = n) : Srt w a n cap l := by
  refine ⟨own_srp h hl, fun h0 => ?_⟩
  rcases h.2 with ⟨e, h1⟩ | ⟨g, cap', cur, e, hg, hb, _⟩
  · omega
  · cases e
    exact ⟨g, 0, cur, rfl, hb⟩
theorem Srt.keep {l : List Pr} (h : Srt w a n cap l) (k : K w w') : Srt w' a n cap l := ⟨h.p.keep k, fun h0 => by
  obtain ⟨b, off, cs, e, hb⟩ := h.kd h0
  exact ⟨b, off, cs, e, k.block hb⟩⟩
theorem info_pair : ∃ i0, Tryz.prog.info? 39 = some i0 ∧ i0.size = 2 ∧ i0.bytes = 32 ∧ ∃ z, i0.zero = some z ∧ z.cells.size = 2 := by
  have hi : (Tryz.prog.info? 39).map (fun i => (i.zero.map (fun z => z.cells.size), i.size, i.bytes)) = some (some 2, 2, 32) := by kernel_rfl
  cases h : Tryz.prog.info? 39 with
  | none => rw [h] at hi; cases hi
  | some i =>
    rw [h] at hi
    simp only [Option.map_some, Option.some.injEq, Prod.mk.injEq] at hi
    obtain ⟨h1, h2, h3⟩ := hi
    obtain ⟨z, hz1, hz2⟩ := Option.map_eq_some_iff.1 h1
    exact ⟨i, rfl, h2, h3, z, hz1, hz2⟩
theorem run_append_nilp (g n cap : Nat) (oa : Option Addr) (c : Nat) (hn : n ≤ cap) (ty : TypeId) (w : World) : (Builtin.append_ #[22, 22] ty #[.slice (some ⟨g, 0, none⟩) n cap, .slice oa 0 c]).run Tryz.prog w = .ok (.slice (some ⟨g, 0, none⟩) n cap) w := by
  obtain ⟨i0, hi, hs, _, _⟩ := info_pair
  cases oa with
  | none =>
    have := run_append_room_src (P := Tryz.prog) w 22 22 ty 39 i0 Tryz.underlying22 hi g 0 n cap (.slice none 0 c) 0 [] (_root_.Go.Src.ofNil w Tryz.underlying22 c) (by omega) (fun j hj => by simp at hj) (fun j hj => by simp at hj)
    simpa [World.setCells] using this
  | some ad =>
    have := run_append_room_src (P := Tryz.prog) w 22 22 ty 39 i0 Tryz.underlying22 hi g 0 n cap (.slice (some ad) 0 c) 0 [] (_root_.Go.Src.ofSlice w Tryz.underlying22 ad 0 c [] (by simp) (by simp) (by simp)) (by omega) (fun j hj => by simp at hj) (fun j hj => by simp at hj)
    simpa [World.setCells] using this
theorem wpList_append_pairs {ops : Array Oper} {rest : List Oper} {o : Oper} {ac : Act} {Q : Exit → Act → World → Prop} (w : World) (hgd : o.guard = none) (s x : Operand)
    (ho : o.op = .call { callee := .builtin .append, args := #[s, x], argTypes := #[22, 22] })
    (base : Nat) (v : Value) (n : Nat) (xs : List Value) (hs : ac.eval s = v) (hown : w.ownsRow base 39 2 v n xs) (hv : v.ownBlock.isSome = true)
    (oa : Option Addr) (m c : Nat) (l : List Pr) (hx : ac.eval x = .slice oa m c) (hl : Srp w oa m c l) (hb : n + m ≤ 100000) (hbase : base ≤ w.heap.size)
    (h : ∀ v' w', w'.ownsRow base 39 2 v' (n + m) (xs ++ prs l) → w.grownBy w' v.ownBlock → (v'.ownBlock = v.ownBlock ∨ v'.ownBlock = some w.heap.size) → wpList Tryz.prog ops Q rest (ac.put o.dst v') w') :
    wpList Tryz.prog ops Q (o :: rest) ac w := by
  obtain ⟨i0, hi, hsz, hby, z, hz, hzs⟩ := info_pair
  rcases hl.src with ⟨rfl, hn0⟩ | ⟨ad, rfl, hc⟩
  · refine wpList_plain hgd fun K hK => ?_
    rcases hown.2 with ⟨rfl, _⟩ | ⟨g, cap, cur, hvv, r1, r2, r3, r4⟩
    · cases hv
    · have hrun := run_append_nilp g n cap oa c r3 o.type w
      rw [← hvv] at hrun
      unfold Oper.wp execOp
      simp only [ho, resolve, invoke, builtin, Sem.run_bind, Sem.run_pure, Result.andThen_ok, List.map_toArray, List.map_cons, List.map_nil, hs, hx, hrun]
      refine hK _ _ (h v w ?_ ⟨rfl, rfl, rfl, Nat.le_refl _, fun _ _ _ => rfl⟩ (Or.inl rfl))
      rw [hn0, List.append_nil]
      exact hown
  · exact wpList_append_own_at w hgd s x 22 ho base 39 i0 z 2 32 Tryz.underlying22 hi hz hsz hby hzs (by decide) v n xs hs hown ad m c (prs l) hx (by rw [prs_len, hl.len]) hc (prs_one l) (by unfold maxLen; omega) (by omega) hbase (fun v' w' r1 r2 _ r4 => h v' w' r1 r2 r4)

theorem str_yes {a b : ByteArray} (h : a = b) : (a.toList == b.toList) = true := by rw [h]; simp
theorem str_no {a b : ByteArray} (h : a ≠ b) : (a.toList == b.toList) = false := by
  rw [beq_eq_false_iff_ne, ByteArray.toList_eq, ByteArray.toList_eq]
  intro e
  apply h
  cases a; cases b
  congr
  exact Array.ext' e
/-- What the reference's Find tells. -/
def findP (l : List Pr) (key : ByteArray) : Int := match l[rankP l key]? with
  | some p => if p.k = key then (rankP l key : Int) else -1
  | none => -1
/-- Put. -/
def putP (l : List Pr) (p : Pr) : List Pr := l.take (rankP l p.k) ++ p :: l.drop (match l[rankP l p.k]? with
  | some q => if q.k = p.k then rankP l p.k + 1 else rankP l p.k
  | none => rankP l p.k)
def sortedP (l : List Pr) : List Pr := l.foldl putP []

theorem wrapd2 {p : Prop} (h : Nd.Wrapd p) : p := h
theorem own_any {B sz : Nat} {t : TypeId} {v : Value} {xs : List Value} (h : w.ownsRow B t sz v n xs) (hv : v.ownBlock.isSome = true) : ∃ g c, v = .slice (some ⟨g, 0, none⟩) n c := by
  rcases h.2 with ⟨rfl, _⟩ | ⟨g, c, _, e, _⟩
  · cases hv
  · exact ⟨g, c, e⟩
theorem grown_k {w1 w2 : World} {o : Obj} {b : Nat} (h : (w1.alloc o).grownBy w2 (some b)) (hb : w.heap.size ≤ b) (k : K w w1) : K w w2 := by
  have hg := h.size
  simp only [World.size_alloc] at hg
  have k1 := k.size
  exact ⟨h.os.trans k.os, h.tape.trans k.tape, h.output.trans k.output, by omega, fun j hj _ => by
    rw [h.block j (by simp only [World.size_alloc]; omega) (fun e => by have := Option.some.inj e; omega), Below.heap_alloc w1 o j (by omega)]
    exact k.same j hj (fun x => x)⟩

set_option maxRecDepth 100000 in
set_option maxHeartbeats 4000000 in
theorem rput_any {l : List Pr} (h : Srp w a n cap l) (hs : shortL l) (hn : n ≤ 900) (p : Pr) (hk : p.k.size ≤ 1000) : Calls Tryz.prog 39 #[.slice a n cap, prV p.k p.x] w fun e w' => ∃ a' n' cap', e = .returned (.slice a' n' cap') ∧ Aside (Srt w' a' n' cap' (putP l p) ∧ n' ≤ n + 1) ∧ K w w' := by
  obtain ⟨ip, hip, hs2, hb32, zp, hzp, hz2⟩ := info_pair
  have HU : Aside (Tryz.prog.info? 39 = some ip ∧ ip.zero = some zp ∧ ip.size = 2 ∧ ip.bytes = 32 ∧ zp.cells.size = 2) := ⟨hip, hzp, hs2, hb32, hz2⟩
  have H : Aside _ := h
  have cr := rrank_any (h.keep ((K.refl w).alloc (.cells #[.string p.k, .string p.x] 39))) hs (by omega) p.k (by omega)
  have hr : rankP l p.k ≤ n := by rw [← h.len]; exact rankP_le _ _
  obtain ⟨pk, px⟩ := p
  simp only at cr hr hk
  obtain ⟨r, er⟩ : ∃ r, rankP l pk = r := ⟨_, rfl⟩
  rw [er] at cr hr
  have ER : Aside (rankP l pk = r) := er
  have lo := (h.lo hr).1
  clear h hs er hip hs2 hb32 hzp hz2
  go_enter Tryz.func39, Tryz.ntmps39
  go_wp2_with fail
  refine cr.mono ?_
  rintro e w1 ⟨rfl, k1⟩
  have K1 : Aside (K w w1) := ((K.refl w).alloc _).trans k1
  have HB : Aside (w1.heap[w.heap.size]? = some (.cells #[.string pk, .string px] 39)) := k1.block (World.alloc_heap_new _ _)
  have hsz1 : w.heap.size + 1 ≤ w1.heap.size := by have := k1.size; simpa using this
  clear cr k1
  go_wp2_with (at_builtin; refine wrapd2 ?_)
  unfold Nd.Wrapd
  have lit : (w1.alloc (.cells #[] 39)).ownsRow (w.heap.size + 1) 39 2 (.slice (some ⟨w1.heap.size, 0, none⟩) 0 0) 0 [] := World.ownsRow_lit (base := w.heap.size + 1) (e := 39) (size := 2) w1 #[] 0 (by omega) (by unfold maxLen; omega) rfl
  refine wpList_append_pairs _ rfl _ _ rfl (w.heap.size + 1) (.slice (some ⟨w1.heap.size, 0, none⟩) 0 0) 0 [] rfl lit rfl a r cap (l.take r) rfl ((H.out.keep (K1.out.alloc _)).lo hr).2 (by omega) (by simp only [World.size_alloc]; omega) ?_
  intro v2 w2 hown2 hgrow2 hat2
  have hv2 : v2.ownBlock.isSome = true := by rcases hat2 with e | e <;> rw [e] <;> rfl
  rw [Nat.zero_add, List.nil_append] at hown2
  obtain ⟨g2, c2, rfl⟩ := own_any hown2 hv2
  have K2 : Aside (K w w2) := grown_k (b := w1.heap.size) hgrow2 (by omega) K1.out
  have G2 : Aside (w.heap.size + 1 ≤ g2 ∧ g2 < w2.heap.size) := Hd.own_lt hown2 rfl
  have HB2 : Aside (w2.heap[w.heap.size]? = some (.cells #[.string pk, .string px] 39)) := by
    show w2.heap[w.heap.size]? = _
    rw [hgrow2.block _ (by simp only [World.size_alloc]; omega) (fun e => by have e : w.heap.size = w1.heap.size := Option.some.inj e; omega), Below.heap_alloc w1 _ _ (by omega)]
    exact HB.out
  have R2 : Aside (w2.ownsRow (w.heap.size + 1) 39 2 (.slice (some ⟨g2, 0, none⟩) r c2) r (prs (l.take r))) := hown2
  obtain ⟨p0, p1⟩ := two HB2.out
  have hsz2 : w.heap.size + 1 ≤ w2.heap.size := by have := G2.out; omega
  clear hown2 hgrow2 hat2 hv2 lit lo
  go_wp2_with (at_builtin; refine wrapd2 ?_)
  unfold Nd.Wrapd
  have s1 : Srp (w2.alloc (.cells #[.string pk, .string px] 39)) (some ⟨w2.heap.size, 0, none⟩) 1 1 [⟨pk, px⟩] := own_srp (B := 0) (World.ownsRow_lit (base := 0) (e := 39) (size := 2) w2 #[.string pk, .string px] 1 (by omega) (by unfold maxLen; omega) rfl) rfl
  refine wpList_append_pairs _ rfl _ _ rfl (w.heap.size + 1) (.slice (some ⟨g2, 0, none⟩) r c2) r (prs (l.take r)) rfl (R2.out.alloc _) rfl (some ⟨w2.heap.size, 0, none⟩) 1 1 [⟨pk, px⟩] rfl s1 (by omega) (by simp only [World.size_alloc]; omega) ?_
  intro v3 w3 hown3 hgrow3 hat3
  have hv3 : v3.ownBlock.isSome = true := by rcases hat3 with e | e <;> rw [e] <;> rfl
  obtain ⟨g3, c3, rfl⟩ := own_any hown3 hv3
  have K3 : Aside (K w w3) := grown_k (b := g2) hgrow3 (by have := G2.out; omega) K2.out
  have G3 : Aside (w.heap.size + 1 ≤ g3 ∧ g3 < w3.heap.size) := Hd.own_lt hown3 rfl
  have HB3 : Aside (w3.heap[w.heap.size]? = some (.cells #[.string pk, .string px] 39)) := by
    show w3.heap[w.heap.size]? = _
    rw [hgrow3.block _ (by simp only [World.size_alloc]; omega) (fun e => by have e : w.heap.size = g2 := Option.some.inj e; have := G2.out; omega), Below.heap_alloc w2 _ _ (by omega)]
    exact HB2.out
  have R3 : Aside (w3.ownsRow (w.heap.size + 1) 39 2 (.slice (some ⟨g3, 0, none⟩) (r + 1) c3) (r + 1) (prs (l.take r) ++ prs [⟨pk, px⟩])) := hown3
  clear p0 p1 hown3 hgrow3 hat3 hv3 s1
  obtain ⟨p0, p1⟩ := two HB3.out
  by_cases hlt : r < n
  · obtain ⟨b, off, q, rfl, hq, c0, c1⟩ := (H.out.keep K3.out).at hlt
    have ix := fun w' => run_ixQ b off n cap r hlt w'
    have hd : decide ((r : Int) < (n : Int)) = true := decide_eq_true (by omega)
    have hlt2 : (r : Int) < (n : Int) := by omega
    have HQ : Aside (l[r]? = some q) := hq
    obtain ⟨qk, qx⟩ := q
    simp only at c0 c1
    clear hq
    by_cases he : qk = pk
    · have hb := str_yes he
      have HE : Aside (qk = pk) := he
      clear he
      obtain ⟨oa, hsl, hsp, _⟩ := H.out.hi (k := r + 1) (by omega)
      have hsl : ∀ w, (Instr.slice 22 (.slice (some ⟨b, off, none⟩) n cap) (some (.int .i64 ((r : Int) + 1))) none none).run Tryz.prog w = .ok (.slice oa (n - (r + 1)) (cap - (r + 1))) w := fun w => hsl w
      have SH : Aside (∀ V, K w V → Srp V oa (n - (r + 1)) (cap - (r + 1)) (l.drop (r + 1))) := fun V k => hsp.keep k
      clear hsp
      go_wp2_with fail
      go_quiet (fail)
      have K4 : Aside (K w (w3.drewN nq)) := ⟨K3.out.os, K3.out.tape, K3.out.output, K3.out.size, K3.out.same⟩
      go_wp2_with (at_builtin; refine wrapd2 ?_)
      unfold Nd.Wrapd
      refine wpList_append_pairs _ rfl _ _ rfl (w.heap.size + 1) (.slice (some ⟨g3, 0, none⟩) (r + 1) c3) (r + 1) (prs (l.take r) ++ prs [⟨pk, px⟩]) rfl R3.out rfl oa (n - (r + 1)) (cap - (r + 1)) (l.drop (r + 1)) rfl (SH.out _ K4.out) (by omega) (by show w.heap.size + 1 ≤ w3.heap.size; have := G3.out; omega) ?_
      intro v5 w5 hown5 hgrow5 hat5
      have hv5 : v5.ownBlock.isSome = true := by rcases hat5 with e | e <;> rw [e] <;> rfl
      obtain ⟨g5, c5, rfl⟩ := own_any hown5 hv5
      have K5 : Aside (K w w5) := by
        have hg := hgrow5.size
        have k1 := K4.out.size
        exact ⟨hgrow5.os.trans K4.out.os, hgrow5.tape.trans K4.out.tape, hgrow5.output.trans K4.out.output, by omega, fun i hi _ => by
          rw [hgrow5.block i (by omega) (fun e => by have e : i = g3 := Option.some.inj e; have := G3.out; omega)]
          exact K4.out.same i hi (fun x => x)⟩
      have EP : Aside (putP l ⟨pk, px⟩ = l.take r ++ ⟨pk, px⟩ :: l.drop (r + 1)) := by
        show putP l ⟨pk, px⟩ = _
        unfold putP
        simp only [ER.out]
        rw [HQ.out]
        simp only [if_pos HE.out]
      have FIN : Aside (Srt w5 (some ⟨g5, 0, none⟩) (r + 1 + (n - (r + 1))) c5 (putP l ⟨pk, px⟩) ∧ r + 1 + (n - (r + 1)) ≤ n + 1) := by
        refine ⟨own_srt (B := w.heap.size + 1) ?_ ?_, by omega⟩
        · rw [EP.out, prs_app, prs_cons]
          rw [List.append_assoc] at hown5
          exact hown5
        · rw [EP.out]
          have := H.out.len
          simp only [List.length_append, List.length_take, List.length_cons, List.length_drop]
          omega
      clear hown5 hgrow5 hat5 hv5
      go_wp2_with fail
      go_ret
      exact ⟨_, _, c5, rfl, FIN, K5.out⟩
    · have hb := str_no he
      have HE : Aside (qk ≠ pk) := he
      clear he
      obtain ⟨oa, hsl, hsp, _⟩ := H.out.hi (k := r) (by omega)
      have SH : Aside (∀ V, K w V → Srp V oa (n - (r)) (cap - (r)) (l.drop (r))) := fun V k => hsp.keep k
      clear hsp
      go_wp2_with fail
      go_quiet (fail)
      have K4 : Aside (K w (w3.drewN nq)) := ⟨K3.out.os, K3.out.tape, K3.out.output, K3.out.size, K3.out.same⟩
      go_wp2_with (at_builtin; refine wrapd2 ?_)
      unfold Nd.Wrapd
      refine wpList_append_pairs _ rfl _ _ rfl (w.heap.size + 1) (.slice (some ⟨g3, 0, none⟩) (r + 1) c3) (r + 1) (prs (l.take r) ++ prs [⟨pk, px⟩]) rfl R3.out rfl oa (n - (r)) (cap - (r)) (l.drop (r)) rfl (SH.out _ K4.out) (by omega) (by show w.heap.size + 1 ≤ w3.heap.size; have := G3.out; omega) ?_
      intro v5 w5 hown5 hgrow5 hat5
      have hv5 : v5.ownBlock.isSome = true := by rcases hat5 with e | e <;> rw [e] <;> rfl
      obtain ⟨g5, c5, rfl⟩ := own_any hown5 hv5
      have K5 : Aside (K w w5) := by
        have hg := hgrow5.size
        have k1 := K4.out.size
        exact ⟨hgrow5.os.trans K4.out.os, hgrow5.tape.trans K4.out.tape, hgrow5.output.trans K4.out.output, by omega, fun i hi _ => by
          rw [hgrow5.block i (by omega) (fun e => by have e : i = g3 := Option.some.inj e; have := G3.out; omega)]
          exact K4.out.same i hi (fun x => x)⟩
      have EP : Aside (putP l ⟨pk, px⟩ = l.take r ++ ⟨pk, px⟩ :: l.drop (r)) := by
        show putP l ⟨pk, px⟩ = _
        unfold putP
        simp only [ER.out]
        rw [HQ.out]
        simp only [if_neg HE.out]
      have FIN : Aside (Srt w5 (some ⟨g5, 0, none⟩) (r + 1 + (n - (r))) c5 (putP l ⟨pk, px⟩) ∧ r + 1 + (n - (r)) ≤ n + 1) := by
        refine ⟨own_srt (B := w.heap.size + 1) ?_ ?_, by omega⟩
        · rw [EP.out, prs_app, prs_cons]
          rw [List.append_assoc] at hown5
          exact hown5
        · rw [EP.out]
          have := H.out.len
          simp only [List.length_append, List.length_take, List.length_cons, List.length_drop]
          omega
      clear hown5 hgrow5 hat5 hv5
      go_wp2_with fail
      go_ret
      exact ⟨_, _, c5, rfl, FIN, K5.out⟩
  · have hd : decide ((r : Int) < (n : Int)) = false := decide_eq_false (by omega)
    have HL : Aside (l.length ≤ r) := by show l.length ≤ r; rw [H.out.len]; omega
    obtain ⟨oa, hsl, hsp, _⟩ := H.out.hi (k := r) (by omega)
    have SH : Aside (∀ V, K w V → Srp V oa (n - (r)) (cap - (r)) (l.drop (r))) := fun V k => hsp.keep k
    clear hsp
    go_wp2_with fail
    go_quiet (fail)
    have K4 : Aside (K w (w3.drewN nq)) := ⟨K3.out.os, K3.out.tape, K3.out.output, K3.out.size, K3.out.same⟩
    go_wp2_with (at_builtin; refine wrapd2 ?_)
    unfold Nd.Wrapd
    refine wpList_append_pairs _ rfl _ _ rfl (w.heap.size + 1) (.slice (some ⟨g3, 0, none⟩) (r + 1) c3) (r + 1) (prs (l.take r) ++ prs [⟨pk, px⟩]) rfl R3.out rfl oa (n - (r)) (cap - (r)) (l.drop (r)) rfl (SH.out _ K4.out) (by omega) (by show w.heap.size + 1 ≤ w3.heap.size; have := G3.out; omega) ?_
    intro v5 w5 hown5 hgrow5 hat5
    have hv5 : v5.ownBlock.isSome = true := by rcases hat5 with e | e <;> rw [e] <;> rfl
    obtain ⟨g5, c5, rfl⟩ := own_any hown5 hv5
    have K5 : Aside (K w w5) := by
      have hg := hgrow5.size
      have k1 := K4.out.size
      exact ⟨hgrow5.os.trans K4.out.os, hgrow5.tape.trans K4.out.tape, hgrow5.output.trans K4.out.output, by omega, fun i hi _ => by
        rw [hgrow5.block i (by omega) (fun e => by have e : i = g3 := Option.some.inj e; have := G3.out; omega)]
        exact K4.out.same i hi (fun x => x)⟩
    have EP : Aside (putP l ⟨pk, px⟩ = l.take r ++ ⟨pk, px⟩ :: l.drop (r)) := by
      show putP l ⟨pk, px⟩ = _
      unfold putP
      simp only [ER.out]
      rw [List.getElem?_eq_none HL.out]
    have FIN : Aside (Srt w5 (some ⟨g5, 0, none⟩) (r + 1 + (n - (r))) c5 (putP l ⟨pk, px⟩) ∧ r + 1 + (n - (r)) ≤ n + 1) := by
      refine ⟨own_srt (B := w.heap.size + 1) ?_ ?_, by omega⟩
      · rw [EP.out, prs_app, prs_cons]
        rw [List.append_assoc] at hown5
        exact hown5
      · rw [EP.out]
        have := H.out.len
        simp only [List.length_append, List.length_take, List.length_cons, List.length_drop]
        omega
    clear hown5 hgrow5 hat5 hv5
    go_wp2_with fail
    go_ret
    exact ⟨_, _, c5, rfl, FIN, K5.out⟩

end Wa
end Go.Proofs.YtbbjfebdihepnaaGreatDoor
