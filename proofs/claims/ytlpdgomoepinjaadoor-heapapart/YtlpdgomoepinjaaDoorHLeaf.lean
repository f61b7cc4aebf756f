/-
  Walks of package heap's small functions: of a page, a block, a head.
-/
import Derived.Test.YtlpdgomoepinjaaDoorHWorld
import Derived.Deep.RegionHeld3
import Derived.Deep.DrawnRows
namespace Go.Proofs.YtlpdgomoepinjaaDoor
open Go.RowKit
attribute [local go_sem ↓] Go.wp_at_zero Go.wp_at_succ
namespace Hp

/-- A page's value. -/
abbrev pgV (p : Pg) : Value := .agg #[.int .i64 p.n, .int .i64 p.kind, .int .i64 p.cls, .int .u64 p.taken, .int .i64 p.words, .int .i64 p.span]
/-- A block's value: its page and its slot. -/
abbrev bkV (p : Pg) (s : Int) : Value := .agg #[.int .i64 p.n, .int .i64 p.kind, .int .i64 p.cls, .int .u64 p.taken, .int .i64 p.words, .int .i64 p.span, .int .i64 s]

section
variable {w : World} {bh bs bm : Nat} {q : Int} {pg : List (Int × Nat)} {W : Int → Int}

theorem haveAll_any (h : Hw w bh bs bm q pg W) (p : Int) (n : Nat) (hp0 : 0 ≤ p) (hp1 : p ≤ 1048576) (hn : n ≤ 1048576) :
    Calls Tryd.prog 69 #[hp bh, .int .i64 p, .int .i64 n] w fun e w' => e = .returned (.bool (Sl.allIn pg p n)) ∧ w = w' := by
  have c0 := h.c0
  go_enter Tryd.func69, Tryd.ntmps69
  go_wp2
  go_loop [7, 9] (fun _ t => ∃ k : Nat, k ≤ n ∧ t = .int .i64 k ∧ Sl.allIn pg p k = true) (fun _ t => n - (intOf t).toNat)
  case atStart => exact ⟨0, Nat.zero_le _, rfl, rfl⟩
  case round =>
    obtain ⟨k, hk, rfl, hall⟩ := hrel
    by_cases hlt : k < n
    · have hi := Sl.is_any h.ar (p + k) (Sl.wf64 (by omega))
      cases hb : (Sl.blk pg (p + k)).isSome with
      | true =>
        have hs := Sl.allIn_succ hall hb
        rw [hb] at hi
        go_wp2_with (go_at_call 58; refine hi.mono ?_; rintro e w' ⟨rfl, rfl⟩)
        go_round
        case rel => exact ⟨k + 1, by omega, by go_num, hs⟩
        case measure => simp [intOf]; omega
      | false =>
        have hs := Sl.allIn_not hlt hb
        rw [hb] at hi
        go_wp2_with (go_at_call 58; refine hi.mono ?_; rintro e w' ⟨rfl, rfl⟩)
        go_ret
        exact ⟨by rw [hs]; rfl, rfl⟩
    · obtain rfl : k = n := by omega
      go_wp2
      go_ret
      exact ⟨rfl, rfl⟩
end

theorem pageSlots_any (p : Pg) (w : World) : Calls Tryd.prog 49 #[pgV p] w fun e w' => e = .returned (.int .i64 (Cl.sloI p.cls)) ∧ K w w' := by
  have cs := fun w => Cl.slots_any p.cls w
  go_enter Tryd.func49, Tryd.ntmps49
  go_wp2_with (go_at_call 70; refine (cs _).mono ?_; rintro e w' ⟨rfl, k2⟩)
  go_ret
  exact ⟨rfl, ((K.refl w).alloc _).trans (K.cl k2)⟩

theorem pageIsOf_any (p : Pg) (c : Int) (w : World) : Calls Tryd.prog 52 #[pgV p, .int .i64 c] w fun e w' => e = .returned (.bool (p.kind == 1 && p.cls == c)) ∧ K w w' := by
  by_cases h1 : p.kind = 1
  · go_enter Tryd.func52, Tryd.ntmps52
    go_wp2
    go_ret
    exact ⟨by simp [h1], (K.refl w).alloc _⟩
  · have h2 : (p.kind == 1) = false := by simpa using h1
    go_enter Tryd.func52, Tryd.ntmps52
    go_wp2
    go_ret
    exact ⟨by simp [h1], (K.refl w).alloc _⟩

theorem cells7 {w : World} {b : Nat} {v0 v1 v2 v3 v4 v5 v6 : Value} {t : TypeId} {f : Nat × Nat} (h : w.heap[b]? = some (.cells #[v0, v1, v2, v3, v4, v5, v6] t f)) :
    w.cell? ⟨b, 0, none⟩ = some v0 ∧ w.cell? ⟨b, 1, none⟩ = some v1 ∧ w.cell? ⟨b, 2, none⟩ = some v2 ∧ w.cell? ⟨b, 3, none⟩ = some v3 ∧ w.cell? ⟨b, 4, none⟩ = some v4 ∧ w.cell? ⟨b, 5, none⟩ = some v5 ∧ w.cell? ⟨b, 6, none⟩ = some v6 := by
  simp [World.cell?, h]
theorem cells6 {w : World} {b : Nat} {v0 v1 v2 v3 v4 v5 : Value} {t : TypeId} {f : Nat × Nat} (h : w.heap[b]? = some (.cells #[v0, v1, v2, v3, v4, v5] t f)) :
    w.cell? ⟨b, 0, none⟩ = some v0 ∧ w.cell? ⟨b, 1, none⟩ = some v1 ∧ w.cell? ⟨b, 2, none⟩ = some v2 ∧ w.cell? ⟨b, 3, none⟩ = some v3 ∧ w.cell? ⟨b, 4, none⟩ = some v4 ∧ w.cell? ⟨b, 5, none⟩ = some v5 := by
  simp [World.cell?, h]

/-- At which of its page's words a block begins. -/
def atI (p : Pg) (s : Int) : Int := if p.kind = 2 then 2 else Cl.plaI p.cls s
def addrI (p : Pg) (s : Int) : Int := p.n * 64 + atI p s
def roomI (p : Pg) : Int := if p.kind = 2 then p.words else Cl.sizI p.cls

theorem at_any (p : Pg) (s : Int) (w : World) : Calls Tryd.prog 51 #[bkV p s] w fun e w' => e = .returned (.int .i64 (atI p s)) ∧ K w w' := by
  have cs := fun w => Cl.place_any p.cls s w
  unfold atI
  by_cases h1 : p.kind = 2
  · go_enter Tryd.func51, Tryd.ntmps51
    go_wp2
    go_ret
    exact ⟨by simp, (K.refl w).alloc _⟩
  · have h2 : (p.kind == 2) = false := by simpa using h1
    rw [if_neg h1]
    go_enter Tryd.func51, Tryd.ntmps51
    go_wp2_with (go_at_call 71; refine (cs _).mono ?_; rintro e w' ⟨rfl, k2⟩)
    go_ret
    exact ⟨rfl, ((K.refl w).alloc _).trans (K.cl k2)⟩

theorem room_any (p : Pg) (s : Int) (w : World) : Calls Tryd.prog 46 #[bkV p s] w fun e w' => e = .returned (.int .i64 (roomI p)) ∧ K w w' := by
  have cs := fun w => Cl.size_any p.cls w
  unfold roomI
  by_cases h1 : p.kind = 2
  · go_enter Tryd.func46, Tryd.ntmps46
    go_wp2
    go_ret
    exact ⟨by simp, (K.refl w).alloc _⟩
  · have h2 : (p.kind == 2) = false := by simpa using h1
    rw [if_neg h1]
    go_enter Tryd.func46, Tryd.ntmps46
    go_wp2_with (go_at_call 64; refine (cs _).mono ?_; rintro e w' ⟨rfl, k2⟩)
    go_ret
    exact ⟨rfl, ((K.refl w).alloc _).trans (K.cl k2)⟩

theorem pla_range (c s : Int) : 0 ≤ Cl.plaI c s ∧ Cl.plaI c s ≤ 64 := by
  by_cases h : Cl.Sl c s
  · have he : Cl.errC c = 0 := by
      rcases Cl.siz_cases c with ⟨_, _, a, _⟩ | ⟨_, _, a, _⟩ | ⟨_, _, a, _⟩ | ⟨_, _, a, _⟩ | ⟨_, _, a, _⟩ | ⟨_, _, a, _⟩ | ⟨_, _, a, _⟩ | ⟨_, _, a, _⟩ | ⟨_, _, _, a⟩
      case inr.inr.inr.inr.inr.inr.inr.inr =>
        have := h.1
        have := h.2
        omega
      all_goals exact a
    have := Cl.slot_fits he h
    have := (Cl.siz_in he).1
    rw [Cl.plaI_in h]
    omega
  · rw [Cl.plaI_out h]
    omega
theorem at_range (p : Pg) (s : Int) : 0 ≤ atI p s ∧ atI p s ≤ 64 := by
  unfold atI
  split
  · omega
  · exact pla_range _ _

theorem wrap_i64 {x : Int} (h0 : -9223372036854775808 ≤ x) (h1 : x ≤ 9223372036854775807) : IntKind.i64.wrap x = x := by simp [IntKind.wrap, IntKind.signed, IntKind.bits]; omega

theorem addr_any (p : Pg) (s : Int) (h0 : 0 ≤ p.n) (h1 : p.n ≤ 1048575) (w : World) : Calls Tryd.prog 27 #[bkV p s] w fun e w' => e = .returned (.int .i64 (addrI p s)) ∧ K w w' := by
  have ca := fun w => at_any p s w
  obtain ⟨a0, a1⟩ := at_range p s
  unfold addrI
  generalize atI p s = x at *
  have e1 : IntKind.i64.wrap (p.n * 64) = p.n * 64 := wrap_i64 (by omega) (by omega)
  have e2 : IntKind.i64.wrap (p.n * 64 + x) = p.n * 64 + x := wrap_i64 (by omega) (by omega)
  go_enter Tryd.func27, Tryd.ntmps27
  go_wp2
  obtain ⟨w1, hw1⟩ : ∃ w1, w1 = w.alloc (.cells #[.int .i64 p.n, .int .i64 p.kind, .int .i64 p.cls, .int .u64 p.taken, .int .i64 p.words, .int .i64 p.span, .int .i64 s] 58) := ⟨_, rfl⟩
  have k1 : K w w1 := by rw [hw1]; exact (K.refl w).alloc _
  have hb : w1.heap[w.heap.size]? = some (.cells #[.int .i64 p.n, .int .i64 p.kind, .int .i64 p.cls, .int .u64 p.taken, .int .i64 p.words, .int .i64 p.span, .int .i64 s] 58) := by rw [hw1]; exact World.alloc_heap_new _ _
  have cs := cells7 hb
  obtain ⟨c0, c1, c2, c3, c4, c5, c6⟩ := cs
  rw [← hw1]
  clear hw1 hb
  generalize w.heap.size = b at *
  go_region_held3 (fun w' => w'.cell? ⟨b, 0, none⟩ = some (.int .i64 p.n) ∧ w'.cell? ⟨b, 1, none⟩ = some (.int .i64 p.kind) ∧ w'.cell? ⟨b, 2, none⟩ = some (.int .i64 p.cls) ∧ w'.cell? ⟨b, 3, none⟩ = some (.int .u64 p.taken) ∧ w'.cell? ⟨b, 4, none⟩ = some (.int .i64 p.words) ∧ w'.cell? ⟨b, 5, none⟩ = some (.int .i64 p.span) ∧ w'.cell? ⟨b, 6, none⟩ = some (.int .i64 s) ∧ K w w')
    (first | exact ⟨c0, c1, c2, c3, c4, c5, c6, k1.drew⟩ | exact ⟨k2.cell c0, k2.cell c1, k2.cell c2, k2.cell c3, k2.cell c4, k2.cell c5, k2.cell c6, k1.drew.trans k2⟩) ((go_at_call 51; refine (ca _).mono ?_; rintro e w' ⟨rfl, k2⟩))
  go_wp2
  go_ret
  exact ⟨rfl, k1.drew.trans k2⟩

theorem and_full {h n : Int} (hU : Bt.U h) : bits BinOp.and IntKind.u64 h (Bt.fulI n) = Bt.cutI n h := by
  obtain ⟨x, rfl⟩ := Int.eq_ofNat_of_zero_le hU.1
  have h1 := hU.2
  have h2 : 2 ^ Bt.mN n ≤ 2 ^ 64 := Nat.pow_le_pow_right (by decide) (Bt.mN_le n)
  have h3 : 0 < 2 ^ Bt.mN n := Nat.two_pow_pos _
  unfold Bt.fulI Bt.cutI
  rw [bits_and_u64_nat x _ (by omega) (by rw [Bt.two64]; omega), Int.toNat_natCast, Nat.and_two_pow_sub_one_eq_mod]

theorem cells2 {w : World} {b : Nat} {v0 v1 : Value} {t : TypeId} {f : Nat × Nat} (h : w.heap[b]? = some (.cells #[v0, v1] t f)) : w.cell? ⟨b, 0, none⟩ = some v0 ∧ w.cell? ⟨b, 1, none⟩ = some v1 := by
  simp [World.cell?, h]

theorem eql_head (w : World) (a b c d : Int) : (binOp .eql 77 (.agg #[.int .u64 a, .int .u64 b]) (.agg #[.int .u64 c, .int .u64 d])).run Tryd.prog w = .ok (.bool (a == c && b == d)) w := by
  rw [run_eql_struct, run_equalIn_agg w 9999 77 _ _ (by kernel_rfl) (by kernel_rfl)]
  have u := Tryd.underlying34
  simp only [Program.fieldsOf, Tryd.underlying77, Op.eqFields]
  by_cases h1 : a = c <;> by_cases h2 : b = d <;> simp [go_sem, u, h1, h2]

set_option maxRecDepth 100000 in
theorem headClass_any (m h : Int) (hm : Bt.U m) (hh : Bt.U h) (w : World) : Calls Tryd.prog 67 #[hdV m h] w fun e w' => ∃ c, e = .returned (.tuple #[.int .i64 c, .bool (classOk m h)]) ∧ (classOk m h = true → c = m / 256) ∧ K w w' := by
  have m0 := hm.1
  have m1 := hm.2
  have d0 : 0 ≤ m / 256 := by omega
  have d1 : m / 256 ≤ 72057594037927936 := by omega
  have cs := fun w => Cl.slots_any (m / 256) w
  obtain ⟨w1, hw1⟩ : ∃ w1, w1 = w.alloc (.cells #[.int .u64 m, .int .u64 h] 77) := ⟨_, rfl⟩
  have k1 : K w w1 := by rw [hw1]; exact (K.refl w).alloc _
  have hb : w1.heap[w.heap.size]? = some (.cells #[.int .u64 m, .int .u64 h] 77) := by rw [hw1]; exact World.alloc_heap_new _ _
  obtain ⟨f0, f1⟩ := cells2 hb
  by_cases he : Cl.errC (m / 256) = 0
  · have hC := (Cl.siz_in he).2.2.2
    have c0 := hC.1
    have c1 := hC.2
    rw [he] at cs
    by_cases hz : h = 0
    · subst hz
      have hk : classOk m 0 = false := by simp [classOk]
      rw [hk]
      generalize Cl.sloI (m / 256) = n at cs
      clear he hC
      have cw := cs w1
      go_enter Tryd.func67, Tryd.ntmps67
      go_wp2_with fail
      rw [← hw1]
      refine cw.mono ?_
      rintro e w' ⟨rfl, k2⟩
      have g1 := (K.cl k2).cell f1
      go_wp2
      go_ret2
      exact ⟨0, rfl, fun h => (by cases h), k1.trans (K.cl k2)⟩
    · have key := and_full (n := Cl.sloI (m / 256)) hh
      have hk : classOk m h = (m == 1 + 256 * (m / 256) && h == Bt.cutI (Cl.sloI (m / 256)) h) := by
        have e : (h == 0) = false := by simpa using hz
        unfold classOk
        rw [he, e]
        rw [show (Bt.cutI (Cl.sloI (m / 256)) h == h) = (h == Bt.cutI (Cl.sloI (m / 256)) h) from Bool.beq_comm]
        simp
      rw [hk]
      clear hk
      have hz' : (h == 0) = false := by simpa using hz
      generalize Cl.sloI (m / 256) = n at *
      generalize Bt.cutI n h = t at *
      clear he hC hz
      have cw := cs w1
      have cf := fun w => Bt.full_any n w
      have qh := eql_head
      have ch := fun w => smallHead_any (m / 256) t c0 (by omega) w
      generalize Bt.fulI n = u at *
      go_enter Tryd.func67, Tryd.ntmps67
      go_wp2_with fail
      rw [← hw1]
      refine cw.mono ?_
      rintro e w2 ⟨rfl, k2⟩
      have k2 := K.cl k2
      have g0 := k2.cell f0
      have g1 := k2.cell f1
      have k3 := k1.trans k2
      clear hw1 hb
      generalize w.heap.size = b at *
      go_wp2
      go_region_held3 (fun w' => w'.cell? ⟨b, 0, none⟩ = some (.int .u64 m) ∧ w'.cell? ⟨b, 1, none⟩ = some (.int .u64 h) ∧ K w w')
        (first | exact ⟨g0, g1, k3.drew⟩ | exact ⟨k5.cell (k4.cell g0), k5.cell (k4.cell g1), (k3.drew.trans k4).trans k5⟩ | exact ⟨k4.cell g0, k4.cell g1, k3.drew.trans k4⟩)
        (first | (go_at_call 78; refine (cf _).mono ?_; rintro e w' ⟨rfl, k4⟩; have k4 := K.bt k4) | (go_at_call 43; (try rw [key]); refine (ch _).mono ?_; rintro e w' ⟨rfl, k5⟩))
      go_wp2
      go_ret2
      exact ⟨m / 256, rfl, fun _ => rfl, (k3.drew.trans k4).trans k5⟩
  · have hk : classOk m h = false := by simp [classOk, he]
    have h2 := (Cl.siz_out he).2.2.1
    rw [h2] at cs
    rw [hk]
    generalize Cl.sloI (m / 256) = n at cs
    clear he h2
    have cw := cs w1
    go_enter Tryd.func67, Tryd.ntmps67
    go_wp2_with fail
    rw [← hw1]
    refine cw.mono ?_
    rintro e w' ⟨rfl, k2⟩
    have g1 := (K.cl k2).cell f1
    go_wp2
    go_ret2
    exact ⟨0, rfl, fun h => (by cases h), k1.trans (K.cl k2)⟩

theorem wrap_h {h : Int} (hh : Bt.U h) : (IntKind.i64.wrap h = h ∧ h ≤ 9223372036854775807) ∨ (IntKind.i64.wrap h < 0 ∧ 9223372036854775807 < h) := by
  have h0 := hh.1
  have h1 := hh.2
  by_cases h2 : h ≤ 9223372036854775807
  · exact .inl ⟨wrap_i64 (by omega) h2, h2⟩
  · refine .inr ⟨?_, by omega⟩
    simp [IntKind.wrap, IntKind.signed, IntKind.bits]
    omega

set_option maxRecDepth 100000 in
theorem headLarge_any (m h : Int) (hh : Bt.U h) (w : World) : Calls Tryd.prog 68 #[hdV m h] w fun e w' => ∃ a p, e = .returned (.tuple #[.int .i64 a, .int .i64 p, .bool (largeOk m h)]) ∧ (largeOk m h = true → a = h ∧ p = Cl.pagI h) ∧ K w w' := by
  have h0 := hh.1
  have h1 := hh.2
  obtain ⟨w1, hw1⟩ : ∃ w1, w1 = w.alloc (.cells #[.int .u64 m, .int .u64 h] 77) := ⟨_, rfl⟩
  have k1 : K w w1 := by rw [hw1]; exact (K.refl w).alloc _
  have hb : w1.heap[w.heap.size]? = some (.cells #[.int .u64 m, .int .u64 h] 77) := by rw [hw1]; exact World.alloc_heap_new _ _
  obtain ⟨f0, f1⟩ := cells2 hb
  by_cases hx : Cl.Wd (IntKind.i64.wrap h) ∧ Cl.smaI (IntKind.i64.wrap h) = false
  · have ew : IntKind.i64.wrap h = h := by
      rcases wrap_h hh with h2 | h2
      · exact h2.1
      · have := hx.1.1
        omega
    rw [ew] at hx
    obtain ⟨hw, hs⟩ := hx
    have co := Cl.of_any h w1
    rw [Cl.errW_in hw, hs] at co
    have cp := fun w => Cl.pages_any h w
    rw [Cl.errW_in hw] at cp
    have hk : largeOk m h = (m == 2 + 256 * Cl.pagI h) := by
      unfold largeOk
      rw [hs, decide_eq_true (show 1 ≤ h ∧ h ≤ 4000 from hw)]
      simp
    rw [hk]
    have pr := pag_range hw.1 hw.2
    have pr0 := pr.1
    have pr1 := pr.2
    have n1 := hw.2
    generalize Cl.clsI h = c at co
    generalize Cl.pagI h = p at *
    have ch := fun w => largeHead_any h p h0 (by omega) (by omega) (by omega) w
    have qh := eql_head
    clear hk hw hs pr
    go_enter Tryd.func68, Tryd.ntmps68
    go_wp2_with fail
    rw [← hw1]
    refine co.mono ?_
    rintro e w2 ⟨rfl, k2⟩
    have k2 := K.cl k2
    go_wp2_with fail
    refine (cp _).mono ?_
    rintro e w3 ⟨rfl, k3⟩
    have k3 := K.cl k3
    have g0 := k3.cell (k2.cell f0)
    have g1 := k3.cell (k2.cell f1)
    have k3 := (k1.trans k2).trans k3
    clear hw1 hb
    generalize w.heap.size = b at *
    go_wp2
    go_region_held3 (fun w' => w'.cell? ⟨b, 0, none⟩ = some (.int .u64 m) ∧ w'.cell? ⟨b, 1, none⟩ = some (.int .u64 h) ∧ K w w')
      (first | exact ⟨g0, g1, k3.drew⟩ | exact ⟨k4.cell g0, k4.cell g1, k3.drew.trans k4⟩)
      (first | (go_at_call 35; refine (ch _).mono ?_; rintro e w' ⟨rfl, k4⟩))
    go_wp2
    go_ret3
    exact ⟨h, p, by simp, fun _ => ⟨rfl, rfl⟩, k3.drew.trans k4⟩
  · have hk : largeOk m h = false := by
      cases hl : largeOk m h with
      | false => rfl
      | true =>
        obtain ⟨a, b, c, _⟩ := largeOk_inv hl
        have ew : IntKind.i64.wrap h = h := wrap_i64 (by omega) (by omega)
        rw [ew] at hx
        exact absurd ⟨⟨a, b⟩, c⟩ hx
    rw [hk]
    have co := Cl.of_any (IntKind.i64.wrap h) w1
    have hc : (Cl.errW (IntKind.i64.wrap h) = 2) ∨ (Cl.errW (IntKind.i64.wrap h) = 0 ∧ Cl.smaI (IntKind.i64.wrap h) = true) := by
      by_cases hw : Cl.Wd (IntKind.i64.wrap h)
      · refine .inr ⟨Cl.errW_in hw, ?_⟩
        cases hs : Cl.smaI (IntKind.i64.wrap h) with
        | true => rfl
        | false => exact absurd ⟨hw, hs⟩ hx
      · exact .inl (Cl.errW_out hw)
    generalize Cl.clsI (IntKind.i64.wrap h) = c at co
    generalize Cl.smaI (IntKind.i64.wrap h) = sm at co hc
    generalize Cl.errW (IntKind.i64.wrap h) = er at co hc
    clear hx hk
    obtain ⟨x, ex⟩ : ∃ x, IntKind.i64.wrap h = x := ⟨_, rfl⟩
    have ex2 : wrap64 h = x := (IntWalk.i64_left h).symm.trans ex
    rw [ex] at co
    rcases hc with rfl | ⟨rfl, rfl⟩
    all_goals
      go_enter Tryd.func68, Tryd.ntmps68
      go_wp2_with fail
      rw [← hw1]
      refine co.mono ?_
      rintro e w2 ⟨rfl, k2⟩
      go_wp2
      go_ret3
      exact ⟨0, 0, rfl, fun h => (by cases h), k1.trans (K.cl k2)⟩

end Hp
end Go.Proofs.YtlpdgomoepinjaaDoor
