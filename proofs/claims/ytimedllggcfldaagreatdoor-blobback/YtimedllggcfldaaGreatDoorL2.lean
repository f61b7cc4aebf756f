/-
  The walk of package blob's Put.
-/
import Derived.Test.YtimedllggcfldaaGreatDoorL1
import Derived.Test.YtimedllggcfldaaGreatDoorE7
import Derived.Test.YtimedllggcfldaaGreatDoorX1
namespace Go.Proofs.YtimedllggcfldaaGreatDoor
open Go.RowKit Go.Maps
attribute [local go_sem ↓] Go.wp_at_zero Go.wp_at_succ
namespace Bb
open Hp (Kept K No Pg BlR Bl Wl Same allocL)
open Hd (U64 findL openL)
open Go.Proofs.YtimedllggcfldaaGreatDoor.So (Ad Sb Sw Rec Stp sp lE lN wE wA pW MadeOk MadeNo)
variable {w w' : World} {B : Nat} {A : Ad} {pg pg' : List (Int × Nat)} {W W' : Int → Int} {L L' : List Pg} {v v' : Value} {T T' : List Hd.Sl}

theorem put_long (h : Sw w B A pg W L v T) (t : ByteArray) (ht : 1000 < t.size) : Calls Tryz.prog 14 #[sp A.st, .string t] w fun e w' => e = .returned (.tuple #[.int .u64 0, .int .i64 4]) ∧ K w w' := by
  have hm := made_yes h
  have cw := Tx.long_no t ht
  clear h
  go_enter Tryz.func14, Tryz.ntmps14
  go_wp2_with (first | (go_at_call 41; refine hm.mono ?_; rintro e w1 ⟨rfl, k1⟩) | (go_at_call 42; refine (cw _).mono ?_; rintro e w2 ⟨rfl, k2⟩))
  go_ret2
  exact ⟨rfl, k1.trans k2⟩

/-- What a Put makes of the words. -/
def PutOk (w : World) (B : Nat) (A : Ad) (pg : List (Int × Nat)) (W : Int → Int) (L : List Pg) (v : Value) (T : List Hd.Sl) (ws : List Int) (e : Ending) (w' : World) : Prop :=
  ∃ a L' x T', allocL A.q L (2 + (ws.length : Int)) = (a, 0, L') ∧ openL A.m A.z T a = (x, 0, T') ∧ e = .returned (.tuple #[.int .u64 x, .int .i64 0]) ∧ ∃ pg' W' v', Sw w' B A pg' W' L' v' T' ∧ Same L W W' ∧ Ho T' W' x ws ∧ Stp A pg pg' v v' w w'
def PutNo (w : World) (B : Nat) (A : Ad) (pg : List (Int × Nat)) (W : Int → Int) (L : List Pg) (v : Value) (T : List Hd.Sl) (ws : List Int) (e : Ending) (w' : World) : Prop :=
  ∃ er, (er != 0) = true ∧ ((∃ a, allocL A.q L (2 + (ws.length : Int)) = (a, er, L) ∧ er ≠ 0) ∨ (er = 10 ∧ So.fullB A.m A.z T = true ∧ ∃ a L', allocL A.q L (2 + (ws.length : Int)) = (a, 0, L'))) ∧ e = .returned (.tuple #[.int .u64 0, .int .i64 er]) ∧ ∃ pg' W' v', Sw w' B A pg' W' L v' T ∧ Same L W W' ∧ Stp A pg pg' v v' w w'

theorem wordOk_of {y : Int} (h0 : 0 ≤ y) (h1 : y ≤ 18446744073709551615) : Sl.WordOk y := by
  unfold Sl.WordOk
  have e1 : IntKind.u64.min = 0 := rfl
  have e2 : IntKind.u64.max = 18446744073709551615 := rfl
  simp only [Lit.wf, Bool.and_eq_true, decide_eq_true_eq]
  omega

/-- A word more of the new record. -/
theorem same_put (l : Wl L) (l' : Wl L') {q n a k y : Int} (n0 : 0 ≤ n) (n1 : n ≤ 3998) (ea : allocL q L (2 + n) = (a, 0, L')) (hs : Same L W W') (k0 : 0 ≤ k) (k1 : k < n) : Same L W (Sl.upd W' (a + 2 + k) y) := by
  obtain ⟨hn, hR⟩ := So.allocRm l (x := 2 + n) ⟨by omega, by omega⟩ ea
  have hg := So.rm_ge (x := 2 + n) ⟨by omega, by omega⟩
  have hA : BlR L' a (So.rmI (2 + n)) := (hR _ _).2 (.inl ⟨rfl, rfl⟩)
  intro p hp s hs' i i0 i1
  have hb : BlR L (Hp.addrI p s) (Hp.roomI p) := ⟨p, hp, s, hs', rfl, rfl⟩
  have hB : BlR L' (Hp.addrI p s) (Hp.roomI p) := (hR _ _).2 (.inr hb)
  have hne : Hp.addrI p s ≠ a := fun e => hn (e ▸ hb.bl)
  have := l'.apart hB hA hne (i := i) (j := 2 + k) i0 i1 (by omega) (by omega)
  rw [So.upd_off (by omega)]
  exact hs p hp s hs' i i0 i1

theorem row_step {n₀ g cap : Nat} {ws : List Int} (R : Tx.Row w n₀ g cap ws) (hf : ¬ So.foot A pg v g) (s : Stp A pg pg' v v' w w') : Tx.Row w' n₀ g cap ws ∧ ¬ So.foot A pg' v' g :=
  ⟨Hd.ownsRow_kept R s.k (fun j hj e => by
    have : j = g := by simpa [Value.ownBlock] using hj
    subst this
    exact hf e), fun e => by
    rcases s.inn g e with h | h
    · exact hf h
    · have := R.lt.2
      omega⟩

/-- The new record, k of its words put. -/
structure Pk (w1 w : World) (B : Nat) (A : Ad) (pg0 : List (Int × Nat)) (W0 : Int → Int) (L0 : List Pg) (v0 : Value) (L : List Pg) (T : List Hd.Sl) (a x : Int) (ws : List Int) (g cap n₀ : Nat) (k : Nat) : Prop where
  ex : ∃ pg W v, Sw w B A pg W L v T ∧ Same L0 W0 W ∧ W (a + 1) = ws.length ∧ (∀ (j : Nat) y, j < k → ws[j]? = some y → W (a + 2 + j) = y) ∧ Stp A pg0 pg v0 v w1 w ∧ Tx.Row w n₀ g cap ws ∧ ¬ So.foot A pg v g

theorem Pk.cell {w1 : World} {pg0 : List (Int × Nat)} {W0 : Int → Int} {L0 : List Pg} {v0 : Value} {a x : Int} {ws : List Int} {g cap n₀ k : Nat} (h : Pk w1 w B A pg0 W0 L0 v0 L T a x ws g cap n₀ k) {y : Int} (hy : ws[k]? = some y) : w.cell? ⟨g, k, none⟩ = some (.int .u64 y) := by
  obtain ⟨_, _, _, _, _, _, _, _, R, _⟩ := h.ex
  exact R.cell hy

theorem Pk.put {w1 : World} {pg0 : List (Int × Nat)} {W0 : Int → Int} {L0 : List Pg} {v0 : Value} {a x : Int} {ws : List Int} {g cap n₀ k : Nat} (h : Pk w1 w B A pg0 W0 L0 v0 L T a x ws g cap n₀ k) (l0 : Wl L0) {q : Int} (hn : ws.length ≤ 3998) (ea : allocL q L0 (2 + (ws.length : Int)) = (a, 0, L)) {i : Nat} {gg : Int} (hf : findL T x = some i) (hi : T[i]? = some ⟨true, gg, a⟩) (hx : U64 x) (hB : B ≤ w1.heap.size) {y : Int} (hy : ws[k]? = some y) (y0 : 0 ≤ y) (y1 : y ≤ 18446744073709551615) :
    Calls Tryz.prog 31 #[sp A.st, .int .u64 x, .int .i64 (k : Int), .int .u64 y] w fun e w' => e = .returned (.int .i64 0) ∧ Pk w1 w' B A pg0 W0 L0 v0 L T a x ws g cap n₀ (k + 1) := by
  obtain ⟨pg, W, v, sw, sm, hl, hw, st, R, hg⟩ := h.ex
  have hk := (List.getElem?_eq_some_iff.1 hy).1
  have ea1 : Hd.addrAt T i = a := by simp [Hd.addrAt, hi]
  have e0 : wE T W x (k : Int) = 0 := by simp only [wE, hf, ea1, hl]; rw [if_pos ⟨by omega, by omega⟩]
  have eA : wA T x (k : Int) = a + 2 + k := by simp [wA, hf, ea1]
  have cp := So.put_any sw (Nat.le_trans hB st.k.size) x (k : Int) y hx (wordOk_of y0 y1)
  unfold pW at cp
  rw [if_pos e0, eA, e0] at cp
  refine cp.mono ?_
  rintro e w2 ⟨rfl, sw2, st2⟩
  obtain ⟨R2, hg2⟩ := row_step R hg st2
  refine ⟨rfl, ⟨pg, _, v, sw2, same_put l0 sw.b.wl (by omega) (by omega) ea sm (by omega) (by omega), ?_, fun j z hj hz => ?_, st.trans st2, R2, hg2⟩⟩
  · rw [So.upd_off (by omega)]
    exact hl
  · by_cases e : j = k
    · subst e
      rw [hy] at hz
      cases hz
      exact So.upd_on ..
    · rw [So.upd_off (by omega)]
      exact hw j z (by omega) hz

set_option maxRecDepth 100000 in
set_option maxHeartbeats 2000000 in
theorem put_short (h : Sw w B A pg W L v T) (hB : B ≤ w.heap.size) (t : ByteArray) (ht : t.size ≤ 1000) : Calls Tryz.prog 14 #[sp A.st, .string t] w fun e w' => PutOk w B A pg W L v T (Tx.wds (Tx.bs t)) e w' ∨ PutNo w B A pg W L v T (Tx.wds (Tx.bs t)) e w' := by
  have hm := made_yes h
  have cw := Tx.words_ok t ht
  have hl : (Tx.wds (Tx.bs t)).length ≤ 126 ∧ 1 ≤ (Tx.wds (Tx.bs t)).length := by
    have := Tx.wds_len (Tx.bs t)
    have := Tx.bs_len t
    omega
  have hu := Tx.wds_us (l := Tx.bs t) (by rw [Tx.bs_len]; exact ht)
  generalize Tx.wds (Tx.bs t) = ws at *
  have H : Aside _ := h
  clear h
  go_enter Tryz.func14, Tryz.ntmps14
  go_wp2_with (first | (go_at_call 41; refine hm.mono ?_; rintro e w1 ⟨rfl, k1⟩) | (go_at_call 42; refine (cw _).mono ?_; rintro e w2 ⟨g, cap, rfl, R2, k2⟩))
  have k12 := k1.trans k2
  have ma := So.make_any (H.out.keep k12) (Nat.le_trans hB k12.size) (ws.length : Int)
  refine ma.mono ?_
  rintro e w3 (hok | hno)
  · obtain ⟨n0, n1, a, L', x, T', ea, eo, rfl, pg', W', v', sw3, sm, hwa, hwn, _, st3⟩ := hok
    have h2 := H.out.keep k12
    have a0 : 0 ≤ a := by
      obtain ⟨_, hR⟩ := So.allocRm h2.b.wl (x := 2 + (ws.length : Int)) ⟨by omega, by omega⟩ ea
      have := sw3.b.at ((hR _ _).2 (.inl ⟨rfl, rfl⟩))
      omega
    obtain ⟨⟨i, gg, hf, hi⟩, _, _, _, _⟩ := find_make a0 h2.b.tl eo
    have hx := (So.nm_word a0 h2.b.tl sw3.b.tb.wf eo).2
    have hg0 : ¬ So.foot A pg v g := fun hf => by
      have := h2.b.flt hf
      have := H.out.b.flt hf
      have := R2.lt.1
      have := k1.size
      omega
    obtain ⟨R3, hg3⟩ := row_step R2.out hg0 st3
    have P0 : Pk w2 w3 B A pg W L v L' T' a x ws g cap w1.heap.size 0 := ⟨⟨pg', W', v', sw3, sm, hwn, fun j y hj => (by omega), st3, R3, hg3⟩⟩
    have wl := h2.b.wl
    have FIN : Aside (∀ V, Pk w2 V B A pg W L v L' T' a x ws g cap w1.heap.size ws.length → PutOk w B A pg W L v T ws (.returned (.tuple #[.int .u64 x, .int .i64 0])) V) := fun V p => by
      obtain ⟨pg4, W4, v4, sw4, sm4, hl4, hw4, st4, _, _⟩ := p.ex
      refine ⟨a, L', x, T', ea, eo, rfl, pg4, W4, v4, sw4, sm4, ⟨by rw [hf]; rfl, ?_⟩, (Stp.ofK k12).trans st4⟩
      rw [rwI_some hf hi]
      exact wdA_of hl4 fun k y hy => hw4 k y (List.getElem?_eq_some_iff.1 hy).1 hy
    have STEP : Aside (∀ V k y, Pk w2 V B A pg W L v L' T' a x ws g cap w1.heap.size k → ws[k]? = some y → Calls Tryz.prog 31 #[sp A.st, .int .u64 x, .int .i64 (k : Int), .int .u64 y] V fun e w' => e = .returned (.int .i64 0) ∧ Pk w2 w' B A pg W L v L' T' a x ws g cap w1.heap.size (k + 1)) := fun V k y p hy => by
      have hu2 := hu y (List.mem_of_getElem? hy)
      exact p.put wl (by omega) ea hf hi hx (Nat.le_trans hB k12.size) hy hu2.1 hu2.2
    have P0' : Aside _ := P0
    have ix := fun (i : Nat) (hi : i < ws.length) => Tx.ixW0 g ws.length cap i hi
    have CL : Aside (∀ V k y, Pk w2 V B A pg W L v L' T' a x ws g cap w1.heap.size k → ws[k]? = some y → V.cell? ⟨g, k, none⟩ = some (.int .u64 y)) := fun V k y p hy => p.cell hy
    clear P0 ea eo sw3 sm hwa hwn st3 h2 R2 R3 hg3 hg0 hi hf wl ma hm cw H
    clear a0
    have AT : Aside (∀ k, k < ws.length → ∃ y, ws[k]? = some y) := fun k hk => ⟨_, List.getElem?_eq_getElem hk⟩
    generalize ws.length = n at *
    go_wp2_with fail
    go_loopw [34] (fun t wr => ∃ k : Nat, t = .int .i64 k ∧ k ≤ n ∧ Aside (Pk w2 wr B A pg W L v L' T' a x ws g cap w1.heap.size k)) (fun t _ => n - (intOf t).toNat)
    case atStart => exact ⟨0, rfl, by omega, P0'⟩
    case round =>
      obtain ⟨k, rfl, hk, PK⟩ := hrel
      clear P0'
      by_cases hlt : k < n
      · obtain ⟨y, hy⟩ := AT.out k hlt
        have hc := CL.out wr k y PK.out hy
        have st := STEP.out wr k y PK.out hy
        have ixk := ix k hlt
        clear ix hy PK
        go_wp2_with (go_at_call 31; refine st.mono ?_; rintro e w5 ⟨rfl, p5⟩)
        go_roundw
        case measure => simp [intOf]; omega
        case rel => exact ⟨k + 1, by go_num, by omega, p5⟩
      · obtain rfl : k = n := by omega
        have hfin := FIN.out wr PK.out
        go_wp2
        go_ret2
        exact .inl hfin
  · obtain ⟨er, her, hcase, rfl, pg', W', v', sw3, sm, st3⟩ := hno
    have hfin : Aside (PutNo w B A pg W L v T ws (.returned (.tuple #[.int .u64 0, .int .i64 er])) w3) := by
      refine ⟨er, her, ?_, rfl, pg', W', v', sw3, sm, (Stp.ofK k12).trans st3⟩
      rcases hcase with ⟨_, h2⟩ | ⟨_, _, h3⟩
      · exact absurd (by omega) h2
      · exact h3
    clear hcase sw3 sm st3 R2
    go_wp2_with fail
    go_ret2
    exact .inr hfin.out

end Bb
end Go.Proofs.YtimedllggcfldaaGreatDoor
