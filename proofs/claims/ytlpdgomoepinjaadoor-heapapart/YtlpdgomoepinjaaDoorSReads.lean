/-
  Walks of package slab's functions that only read an arena: made, Is, fits, haveAll, haveSpan, pageOf, Read, Quota.
-/
import Derived.Test.YtlpdgomoepinjaaDoorSLeaf
import Derived.Test.YtlpdgomoepinjaaDoorSWorld
namespace Go.Proofs.YtlpdgomoepinjaaDoor
open Go.RowKit Go.Maps
namespace Sl

theorem made_nil (w : World) : Calls Tryd.prog 36 #[.pointer none] w fun e w' => e = .returned (.bool false) ∧ w = w' := by
  go_enter Tryd.func36, Tryd.ntmps36
  go_wp2
  go_ret
  exact ⟨rfl, rfl⟩

theorem made_zero (b : Nat) (w : World) (c1 : w.cell? ⟨b, 1, none⟩ = some (.map none)) : Calls Tryd.prog 36 #[.pointer (some ⟨b, 0, none⟩)] w fun e w' => e = .returned (.bool false) ∧ w = w' := by
  have q51 : ∀ (w : World) (r : Option Nat), (binOp .neq 69 (.map r) (.map none)).run Tryd.prog w = .ok (.bool (!r.isNone)) w := fun w r => run_neq_map_nil w _ _ _ r Tryd.underlying69
  go_enter Tryd.func36, Tryd.ntmps36
  go_wp2
  go_ret
  exact ⟨rfl, rfl⟩

theorem made_yes (b bm : Nat) (w : World) (c1 : w.cell? ⟨b, 1, none⟩ = some (.map (some bm))) : Calls Tryd.prog 36 #[.pointer (some ⟨b, 0, none⟩)] w fun e w' => e = .returned (.bool true) ∧ w = w' := by
  have q51 : ∀ (w : World) (r : Option Nat), (binOp .neq 69 (.map r) (.map none)).run Tryd.prog w = .ok (.bool (!r.isNone)) w := fun w r => run_neq_map_nil w _ _ _ r Tryd.underlying69
  go_enter Tryd.func36, Tryd.ntmps36
  go_wp2
  go_ret
  exact ⟨rfl, rfl⟩

variable {w : World} {bs bm : Nat} {q : Int} {pg : List (Int × Nat)} {W : Int → Int}

theorem is_any (h : Arena w bs bm q pg W) (p : Int) (hp : (Lit.int .i64 p).wf = true) :
    Calls Tryd.prog 58 #[.pointer (some ⟨bs, 0, none⟩), .int .i64 p] w fun e w' => e = .returned (.bool (blk pg p).isSome) ∧ w = w' := by
  have c1 := h.c1
  have hlk := h.pm.look hp
  have hm := made_yes bs bm w c1
  cases hb : blk pg p with
  | none =>
    rw [hb] at hlk
    simp only [ptrOf] at hlk
    go_enter Tryd.func58, Tryd.ntmps58
    go_wp2_with (go_at_call 36; refine hm.mono ?_; rintro e w' ⟨rfl, rfl⟩)
    go_ret
    exact ⟨rfl, rfl⟩
  | some b =>
    rw [hb] at hlk
    simp only [ptrOf] at hlk
    go_enter Tryd.func58, Tryd.ntmps58
    go_wp2_with (go_at_call 36; refine hm.mono ?_; rintro e w' ⟨rfl, rfl⟩)
    go_ret
    exact ⟨rfl, rfl⟩

theorem fits_any (h : Arena w bs bm q pg W) (n : Int) (h0 : 0 ≤ n) (h1 : n ≤ 4096) :
    Calls Tryd.prog 54 #[.pointer (some ⟨bs, 0, none⟩), .int .i64 n] w fun e w' => e = .returned (.bool (decide (((pg.length : Int) + n) * 64 ≤ q))) ∧ ∃ k, w' = w.drewN k := by
  have c0 := h.c0
  have c1 := h.c1
  have hlen := h.len
  have hl : ∀ ty nq, (Builtin.len_ #[69] ty #[.map (some bm)]).run Tryd.prog (w.drewN nq) = .ok (.int .i64 (pg.length : Nat)) (w.drewN nq) := fun ty nq => by
    have := World.ownsMap.len (h.drewN nq).pm Tryd.underlying69 ty
    rw [this]
    simp [pd, Maps.size_eq]
  go_enter Tryd.func54, Tryd.ntmps54
  go_wp2
  go_quiet (fail)
  go_wp2
  go_ret
  exact ⟨rfl, _, rfl⟩

theorem haveAll_any (h : Arena w bs bm q pg W) (p : Int) (n : Nat) (hp0 : 0 ≤ p) (hp1 : p ≤ 1048576) (hn : n ≤ 1048576) :
    Calls Tryd.prog 40 #[.pointer (some ⟨bs, 0, none⟩), .int .i64 p, .int .i64 n] w fun e w' => e = .returned (.bool (allIn pg p n)) ∧ w = w' := by
  go_enter Tryd.func40, Tryd.ntmps40
  go_wp2
  go_loop [7, 9] (fun _ t => ∃ k : Nat, k ≤ n ∧ t = .int .i64 k ∧ allIn pg p k = true) (fun _ t => n - (intOf t).toNat)
  case atStart => exact ⟨0, Nat.zero_le _, rfl, rfl⟩
  case round =>
    obtain ⟨k, hk, rfl, hall⟩ := hrel
    by_cases hlt : k < n
    · have hi := is_any h (p + k) (wf64 (by omega))
      cases hb : (blk pg (p + k)).isSome with
      | true =>
        have hs := allIn_succ hall hb
        rw [hb] at hi
        go_wp2_with (go_at_call 58; refine hi.mono ?_; rintro e w' ⟨rfl, rfl⟩)
        go_round
        case rel => exact ⟨k + 1, by omega, by go_num, hs⟩
        case measure => simp [intOf]; omega
      | false =>
        have hs := allIn_not hlt hb
        rw [hb] at hi
        go_wp2_with (go_at_call 58; refine hi.mono ?_; rintro e w' ⟨rfl, rfl⟩)
        go_ret
        exact ⟨by rw [hs]; rfl, rfl⟩
    · obtain rfl : k = n := by omega
      go_wp2
      go_ret
      exact ⟨rfl, rfl⟩

/-- The pages of n words from an address on are all granted (0 words are of no page). -/
def spanIn (pg : List (Int × Nat)) (a n : Int) : Bool := if n = 0 then true else allIn pg (a / 64) ((a + n - 1) / 64 - a / 64 + 1).toNat

theorem haveSpan_any (h : Arena w bs bm q pg W) (a n : Int) (hs : isSpanB a n = true) :
    Calls Tryd.prog 61 #[.pointer (some ⟨bs, 0, none⟩), .int .i64 a, .int .i64 n] w fun e w' => e = .returned (.bool (spanIn pg a n)) ∧ w = w' := by
  simp [isSpanB] at hs
  obtain ⟨h0, h1, h2, h3, h4⟩ := hs
  by_cases hn : n = 0
  · subst hn
    go_enter Tryd.func61, Tryd.ntmps61
    go_wp2
    go_ret
    exact ⟨rfl, rfl⟩
  · have e1 : (((((a + n - 1) / 64 - a / 64 + 1).toNat : Nat)) : Int) = (a + n - 1) / 64 - a / 64 + 1 := by omega
    have hh := haveAll_any h (a / 64) ((a + n - 1) / 64 - a / 64 + 1).toNat (by omega) (by omega) (by omega)
    rw [e1] at hh
    have HE : Hid (spanIn pg a n = allIn pg (a / 64) ((a + n - 1) / 64 - a / 64 + 1).toNat) := by simp [spanIn, hn, Hid]
    have hn' : (n == 0) = false := by simpa using hn
    clear e1
    go_enter Tryd.func61, Tryd.ntmps61
    go_wp2_with (go_at_call 40; refine hh.mono ?_; rintro e w' ⟨rfl, rfl⟩)
    go_ret
    exact ⟨by rw [HE.out]; rfl, rfl⟩

/-- pageOf: the address may not be. -/
theorem pageOf_arg (h : Arena w bs bm q pg W) (a : Int) (hs : isSpanB a 1 = false) :
    Calls Tryd.prog 19 #[.pointer (some ⟨bs, 0, none⟩), .int .i64 a] w fun e w' => e = .returned (.tuple #[.pointer none, .int .i64 2]) ∧ w = w' := by
  have hm := made_yes bs bm w h.c1
  have hi := isSpan_any a 1 w
  rw [hs] at hi
  go_enter Tryd.func19, Tryd.ntmps19
  go_wp2_with (first | (go_at_call 36; refine hm.mono ?_; rintro e w' ⟨rfl, rfl⟩) | (go_at_call 37; refine hi.mono ?_; rintro e w' ⟨rfl, rfl⟩))
  go_ret2
  exact ⟨rfl, rfl⟩

/-- pageOf: its page is not granted. -/
theorem pageOf_none (h : Arena w bs bm q pg W) (a : Int) (hs : isSpanB a 1 = true) (hb : blk pg (a / 64) = none) :
    Calls Tryd.prog 19 #[.pointer (some ⟨bs, 0, none⟩), .int .i64 a] w fun e w' => e = .returned (.tuple #[.pointer none, .int .i64 5]) ∧ w = w' := by
  have hm := made_yes bs bm w h.c1
  have hi := isSpan_any a 1 w
  rw [hs] at hi
  simp [isSpanB] at hs
  have c1 := h.c1
  have hlk := h.pm.look (k := a / 64) (wf64 (by omega))
  rw [hb] at hlk
  simp only [ptrOf] at hlk
  go_enter Tryd.func19, Tryd.ntmps19
  go_wp2_with (first | (go_at_call 36; refine hm.mono ?_; rintro e w' ⟨rfl, rfl⟩) | (go_at_call 37; refine hi.mono ?_; rintro e w' ⟨rfl, rfl⟩))
  go_ret2
  exact ⟨rfl, rfl⟩

theorem pageOf_some (h : Arena w bs bm q pg W) (a : Int) (b : Nat) (hs : isSpanB a 1 = true) (hb : blk pg (a / 64) = some b) :
    Calls Tryd.prog 19 #[.pointer (some ⟨bs, 0, none⟩), .int .i64 a] w fun e w' => e = .returned (.tuple #[.pointer (some ⟨b, 0, none⟩), .int .i64 0]) ∧ w = w' := by
  have hm := made_yes bs bm w h.c1
  have hi := isSpan_any a 1 w
  rw [hs] at hi
  simp [isSpanB] at hs
  have c1 := h.c1
  have hlk := h.pm.look (k := a / 64) (wf64 (by omega))
  rw [hb] at hlk
  simp only [ptrOf] at hlk
  go_enter Tryd.func19, Tryd.ntmps19
  go_wp2_with (first | (go_at_call 36; refine hm.mono ?_; rintro e w' ⟨rfl, rfl⟩) | (go_at_call 37; refine hi.mono ?_; rintro e w' ⟨rfl, rfl⟩))
  go_ret2
  exact ⟨rfl, rfl⟩

/-- What Read answers: the word and the error. -/
def readE (pg : List (Int × Nat)) (a : Int) : Int := if isSpanB a 1 = true then (if (blk pg (a / 64)).isSome = true then 0 else 5) else 2
def readV (pg : List (Int × Nat)) (W : Int → Int) (a : Int) : Int := if readE pg a = 0 then W a else 0

theorem Arena.word (h : Arena w bs bm q pg W) {k : Int} {b : Nat} (hb : blk pg k = some b) (i : Nat) (hi : i < 64) : w.cell? ⟨b, i, none⟩ = some (.int .u64 (W (64 * k + i))) := by
  have := h.page _ (blk_mem hb)
  simp only [World.cell?, this]
  simpa using words_get W k i hi

theorem read_any (h : Arena w bs bm q pg W) (a : Int) :
    Calls Tryd.prog 7 #[.pointer (some ⟨bs, 0, none⟩), .int .i64 a] w fun e w' => e = .returned (.tuple #[.int .u64 (readV pg W a), .int .i64 (readE pg a)]) ∧ w = w' := by
  cases hs : isSpanB a 1 with
  | false =>
    have hp := pageOf_arg h a hs
    have HE : Hid (readE pg a = 2) := by simp [readE, hs, Hid]
    have HV : Hid (readV pg W a = 0) := by simp [readV, HE.out, Hid]
    go_enter Tryd.func7, Tryd.ntmps7
    go_wp2_with (go_at_call 19; refine hp.mono ?_; rintro e w' ⟨rfl, rfl⟩)
    go_ret2
    exact ⟨by rw [HE.out, HV.out]; rfl, rfl⟩
  | true =>
    cases hb : blk pg (a / 64) with
    | none =>
      have hp := pageOf_none h a hs hb
      have HE : Hid (readE pg a = 5) := by simp [readE, hs, hb, Hid]
      have HV : Hid (readV pg W a = 0) := by simp [readV, HE.out, Hid]
      go_enter Tryd.func7, Tryd.ntmps7
      go_wp2_with (go_at_call 19; refine hp.mono ?_; rintro e w' ⟨rfl, rfl⟩)
      go_ret2
      exact ⟨by rw [HE.out, HV.out]; rfl, rfl⟩
    | some b =>
      have hp := pageOf_some h a b hs hb
      have HE : Hid (readE pg a = 0) := by simp [readE, hs, hb, Hid]
      have HV : Hid (readV pg W a = W a) := by simp [readV, HE.out, Hid]
      simp [isSpanB] at hs
      obtain ⟨h0, h1, _⟩ := hs
      have hc := h.word hb (a % 64).toNat (by omega)
      rw [show 64 * (a / 64) + ((a % 64).toNat : Int) = a from by omega] at hc
      go_enter Tryd.func7, Tryd.ntmps7
      go_wp2_with (go_at_call 19; refine hp.mono ?_; rintro e w' ⟨rfl, rfl⟩)
      go_ret2
      exact ⟨by rw [HE.out, HV.out]; rfl, rfl⟩

end Sl
end Go.Proofs.YtlpdgomoepinjaaDoor
