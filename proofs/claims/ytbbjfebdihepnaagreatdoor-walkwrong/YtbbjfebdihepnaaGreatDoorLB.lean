/-
  The walk of package blob's Put.
-/
import Derived.Test.YtbbjfebdihepnaaGreatDoorLA
import Derived.Test.YtbbjfebdihepnaaGreatDoorE7
import Derived.Test.YtbbjfebdihepnaaGreatDoorX2
import Derived.Test.YtbbjfebdihepnaaGreatDoorE4
namespace Go.Proofs.YtbbjfebdihepnaaGreatDoor
open Go.RowKit Go.Maps
attribute [local go_sem ↓] Go.wp_at_zero Go.wp_at_succ
namespace Bb
open Hp (Kept K No Pg BlR Bl Wl Same allocL)
open Hd (U64 findL openL)
open Go.Proofs.YtbbjfebdihepnaaGreatDoor.So (Ad Sb Sw Rec Stp sp lE lN wE wA pW MadeOk MadeNo)
variable {w w' : World} {B : Nat} {A : Ad} {pg pg' : List (Int × Nat)} {W W' : Int → Int} {L L' : List Pg} {v v' : Value} {T T' : List Hd.Sl}

/-- What a Put makes of the words. -/
def PutOk (w : World) (B : Nat) (A : Ad) (pg : List (Int × Nat)) (W : Int → Int) (L : List Pg) (v : Value) (T : List Hd.Sl) (ws : List Int) (e : Ending) (w' : World) : Prop :=
  ∃ a L' x T', allocL A.q L (2 + (ws.length : Int)) = (a, 0, L') ∧ openL A.m A.z T a = (x, 0, T') ∧ e = .returned (.tuple #[.int .u64 x, .int .i64 0]) ∧ ∃ pg' W' v', Sw w' B A pg' W' L' v' T' ∧ Same L W W' ∧ Ho T' W' x ws ∧ Stp A pg pg' v v' w w'
def PutNo (w : World) (B : Nat) (A : Ad) (pg : List (Int × Nat)) (W : Int → Int) (L : List Pg) (v : Value) (T : List Hd.Sl) (ws : List Int) (e : Ending) (w' : World) : Prop :=
  ∃ er, (er != 0) = true ∧ ((∃ a, allocL A.q L (2 + (ws.length : Int)) = (a, er, L) ∧ er ≠ 0) ∨ (er = 10 ∧ So.fullB A.m A.z T = true ∧ ∃ a L', allocL A.q L (2 + (ws.length : Int)) = (a, 0, L'))) ∧ e = .returned (.tuple #[.int .u64 0, .int .i64 er]) ∧ ∃ pg' W' v', Sw w' B A pg' W' L v' T ∧ Same L W W' ∧ Stp A pg pg' v v' w w'

theorem wordOk_of {y : Int} (h0 : 0 ≤ y) (h1 : y ≤ 18446744073709551615) : Sl.WordOk y := by
  unfold Sl.WordOk
  have e1 : IntKind.u64.min = 0 := rfl
  have e2 : IntKind.u64.max = 18446744073709551615 := rfl
  simp only [Lit.wf, Bool.and_eq_true, decide_eq_true_eq]
  omega

/-- A word more of the new record. -/
theorem same_put (l : Wl L) (l' : Wl L') {q n a k y : Int} (n0 : 0 ≤ n) (n1 : n ≤ 3998) (ea : allocL q L (2 + n) = (a, 0, L')) (hs : Same L W W') (k0 : 0 ≤ k) (k1 : k < n) : Same L W (Sl.upd W' (a + 2 + k) y) := by
  obtain ⟨hn, hR⟩ := So.allocRm l (x := 2 + n) ⟨by omega, by omega⟩ ea
  have hg := So.rm_ge (x := 2 + n) ⟨by omega, by omega⟩
  have hA : BlR L' a (So.rmI (2 + n)) := (hR _ _).2 (.inl ⟨rfl, rfl⟩)
  intro p hp s hs' i i0 i1
  have hb : BlR L (Hp.addrI p s) (Hp.roomI p) := ⟨p, hp, s, hs', rfl, rfl⟩
  have hB : BlR L' (Hp.addrI p s) (Hp.roomI p) := (hR _ _).2 (.inr hb)
  have hne : Hp.addrI p s ≠ a := fun e => hn (e ▸ hb.bl)
  have := l'.apart hB hA hne (i := i) (j := 2 + k) i0 i1 (by omega) (by omega)
  rw [So.upd_off (by omega)]
  exact hs p hp s hs' i i0 i1

theorem row_step {n₀ g cap : Nat} {ws : List Int} (R : Tx.Row w n₀ g cap ws) (hf : ¬ So.foot A pg v g) (s : Stp A pg pg' v v' w w') : Tx.Row w' n₀ g cap ws ∧ ¬ So.foot A pg' v' g :=
  ⟨Hd.ownsRow_kept R s.k (fun j hj e => by
    have : j = g := by simpa [Value.ownBlock] using hj
    subst this
    exact hf e), fun e => by
    rcases s.inn g e with h | h
    · exact hf h
    · have := R.lt.2
      omega⟩

/-- The new record, k of its words put. -/
structure Pk (w1 w : World) (B : Nat) (A : Ad) (pg0 : List (Int × Nat)) (W0 : Int → Int) (L0 : List Pg) (v0 : Value) (L : List Pg) (T : List Hd.Sl) (a x : Int) (ws : List Int) (g cap n₀ : Nat) (k : Nat) : Prop where
  ex : ∃ pg W v, Sw w B A pg W L v T ∧ Same L0 W0 W ∧ W (a + 1) = ws.length ∧ (∀ (j : Nat) y, j < k → ws[j]? = some y → W (a + 2 + j) = y) ∧ Stp A pg0 pg v0 v w1 w ∧ Tx.Row w n₀ g cap ws ∧ ¬ So.foot A pg v g

theorem Pk.cell {w1 : World} {pg0 : List (Int × Nat)} {W0 : Int → Int} {L0 : List Pg} {v0 : Value} {a x : Int} {ws : List Int} {g cap n₀ k : Nat} (h : Pk w1 w B A pg0 W0 L0 v0 L T a x ws g cap n₀ k) {y : Int} (hy : ws[k]? = some y) : w.cell? ⟨g, k, none⟩ = some (.int .u64 y) := by
  obtain ⟨_, _, _, _, _, _, _, _, R, _⟩ := h.ex
  exact R.cell hy

theorem Pk.put {w1 : World} {pg0 : List (Int × Nat)} {W0 : Int → Int} {L0 : List Pg} {v0 : Value} {a x : Int} {ws : List Int} {g cap n₀ k : Nat} (h : Pk w1 w B A pg0 W0 L0 v0 L T a x ws g cap n₀ k) (l0 : Wl L0) {q : Int} (hn : ws.length ≤ 3998) (ea : allocL q L0 (2 + (ws.length : Int)) = (a, 0, L)) {i : Nat} {gg : Int} (hf : findL T x = some i) (hi : T[i]? = some ⟨true, gg, a⟩) (hx : U64 x) (hB : B ≤ w1.heap.size) {y : Int} (hy : ws[k]? = some y) (y0 : 0 ≤ y) (y1 : y ≤ 18446744073709551615) :
    Calls Tryz.prog 59 #[sp A.st, .int .u64 x, .int .i64 (k : Int), .int .u64 y] w fun e w' => e = .returned (.int .i64 0) ∧ Pk w1 w' B A pg0 W0 L0 v0 L T a x ws g cap n₀ (k + 1) := by
  obtain ⟨pg, W, v, sw, sm, hl, hw, st, R, hg⟩ := h.ex
  have hk := (List.getElem?_eq_some_iff.1 hy).1
  have ea1 : Hd.addrAt T i = a := by simp [Hd.addrAt, hi]
  have e0 : wE T W x (k : Int) = 0 := by simp only [wE, hf, ea1, hl]; rw [if_pos ⟨by omega, by omega⟩]
  have eA : wA T x (k : Int) = a + 2 + k := by simp [wA, hf, ea1]
  have cp := So.put_any sw (Nat.le_trans hB st.k.size) x (k : Int) y hx (wordOk_of y0 y1)
  unfold pW at cp
  rw [if_pos e0, eA, e0] at cp
  refine cp.mono ?_
  rintro e w2 ⟨rfl, sw2, st2⟩
  obtain ⟨R2, hg2⟩ := row_step R hg st2
  refine ⟨rfl, ⟨pg, _, v, sw2, same_put l0 sw.b.wl (by omega) (by omega) ea sm (by omega) (by omega), ?_, fun j z hj hz => ?_, st.trans st2, R2, hg2⟩⟩
  · rw [So.upd_off (by omega)]
    exact hl
  · by_cases e : j = k
    · subst e
      rw [hy] at hz
      cases hz
      exact So.upd_on ..
    · rw [So.upd_off (by omega)]
      exact hw j z (by omega) hz

set_option maxRecDepth 100000 in
set_option maxHeartbeats 2000000 in
theorem put_short (h : Sw w B A pg W L v T) (hB : B ≤ w.heap.size) (t : ByteArray) (ht : t.size ≤ 1000) : Calls Tryz.prog 40 #[sp A.st, .string t] w fun e w' => PutOk w B A pg W L v T (Tx.wds (Tx.bs t)) e w' ∨ PutNo w B A pg W L v T (Tx.wds (Tx.bs t)) e w' := by
  have hm := made_yes h
  have cw := Tx.words_ok t ht
  have hl : (Tx.wds (Tx.bs t)).length ≤ 126 ∧ 1 ≤ (Tx.wds (Tx.bs t)).length := by
    have := Tx.wds_len (Tx.bs t)
    have := Tx.bs_len t
    omega
  have hu := Tx.wds_us (l := Tx.bs t) (by rw [Tx.bs_len]; exact ht)
  generalize Tx.wds (Tx.bs t) = ws at *
  have H : Aside _ := h
  clear h
  go_enter Tryz.func40, Tryz.ntmps40
  go_wp2_with (first | (go_at_call 56; refine hm.mono ?_; rintro e w1 ⟨rfl, k1⟩) | (go_at_call 57; refine (cw _).mono ?_; rintro e w2 ⟨g, cap, rfl, R2, k2⟩))
  have k12 := k1.trans k2
  have ma := So.make_any (H.out.keep k12) (Nat.le_trans hB k12.size) (ws.length : Int)
  refine ma.mono ?_
  rintro e w3 (hok | hno)
  · obtain ⟨n0, n1, a, L', x, T', ea, eo, rfl, pg', W', v', sw3, sm, hwa, hwn, _, st3⟩ := hok
    have h2 := H.out.keep k12
    have a0 : 0 ≤ a := by
      obtain ⟨_, hR⟩ := So.allocRm h2.b.wl (x := 2 + (ws.length : Int)) ⟨by omega, by omega⟩ ea
      have := sw3.b.at ((hR _ _).2 (.inl ⟨rfl, rfl⟩))
      omega
    obtain ⟨⟨i, gg, hf, hi⟩, _, _, _, _⟩ := find_make a0 h2.b.tl eo
    have hx := (So.nm_word a0 h2.b.tl sw3.b.tb.wf eo).2
    have hg0 : ¬ So.foot A pg v g := fun hf => by
      have := h2.b.flt hf
      have := H.out.b.flt hf
      have := R2.lt.1
      have := k1.size
      omega
    obtain ⟨R3, hg3⟩ := row_step R2.out hg0 st3
    have P0 : Pk w2 w3 B A pg W L v L' T' a x ws g cap w1.heap.size 0 := ⟨⟨pg', W', v', sw3, sm, hwn, fun j y hj => (by omega), st3, R3, hg3⟩⟩
    have wl := h2.b.wl
    have FIN : Aside (∀ V, Pk w2 V B A pg W L v L' T' a x ws g cap w1.heap.size ws.length → PutOk w B A pg W L v T ws (.returned (.tuple #[.int .u64 x, .int .i64 0])) V) := fun V p => by
      obtain ⟨pg4, W4, v4, sw4, sm4, hl4, hw4, st4, _, _⟩ := p.ex
      refine ⟨a, L', x, T', ea, eo, rfl, pg4, W4, v4, sw4, sm4, ⟨by rw [hf]; rfl, ?_⟩, (Stp.ofK k12).trans st4⟩
      rw [rwI_some hf hi]
      exact wdA_of hl4 fun k y hy => hw4 k y (List.getElem?_eq_some_iff.1 hy).1 hy
    have STEP : Aside (∀ V k y, Pk w2 V B A pg W L v L' T' a x ws g cap w1.heap.size k → ws[k]? = some y → Calls Tryz.prog 59 #[sp A.st, .int .u64 x, .int .i64 (k : Int), .int .u64 y] V fun e w' => e = .returned (.int .i64 0) ∧ Pk w2 w' B A pg W L v L' T' a x ws g cap w1.heap.size (k + 1)) := fun V k y p hy => by
      have hu2 := hu y (List.mem_of_getElem? hy)
      exact p.put wl (by omega) ea hf hi hx (Nat.le_trans hB k12.size) hy hu2.1 hu2.2
    have P0' : Aside _ := P0
    have ix := fun (i : Nat) (hi : i < ws.length) => Tx.ixW0 g ws.length cap i hi
    have CL : Aside (∀ V k y, Pk w2 V B A pg W L v L' T' a x ws g cap w1.heap.size k → ws[k]? = some y → V.cell? ⟨g, k, none⟩ = some (.int .u64 y)) := fun V k y p hy => p.cell hy
    clear P0 ea eo sw3 sm hwa hwn st3 h2 R2 R3 hg3 hg0 hi hf wl ma hm cw H
    clear a0
    have AT : Aside (∀ k, k < ws.length → ∃ y, ws[k]? = some y) := fun k hk => ⟨_, List.getElem?_eq_getElem hk⟩
    generalize ws.length = n at *
    go_wp2_with fail
    go_loopw [34] (fun t wr => ∃ k : Nat, t = .int .i64 k ∧ k ≤ n ∧ Aside (Pk w2 wr B A pg W L v L' T' a x ws g cap w1.heap.size k)) (fun t _ => n - (intOf t).toNat)
    case atStart => exact ⟨0, rfl, by omega, P0'⟩
    case round =>
      obtain ⟨k, rfl, hk, PK⟩ := hrel
      clear P0'
      by_cases hlt : k < n
      · obtain ⟨y, hy⟩ := AT.out k hlt
        have hc := CL.out wr k y PK.out hy
        have st := STEP.out wr k y PK.out hy
        have ixk := ix k hlt
        clear ix hy PK
        go_wp2_with (go_at_call 59; refine st.mono ?_; rintro e w5 ⟨rfl, p5⟩)
        go_roundw
        case measure => simp [intOf]; omega
        case rel => exact ⟨k + 1, by go_num, by omega, p5⟩
      · obtain rfl : k = n := by omega
        have hfin := FIN.out wr PK.out
        go_wp2
        go_ret2
        exact .inl hfin
  · obtain ⟨er, her, hcase, rfl, pg', W', v', sw3, sm, st3⟩ := hno
    have hfin : Aside (PutNo w B A pg W L v T ws (.returned (.tuple #[.int .u64 0, .int .i64 er])) w3) := by
      refine ⟨er, her, ?_, rfl, pg', W', v', sw3, sm, (Stp.ofK k12).trans st3⟩
      rcases hcase with ⟨_, h2⟩ | ⟨_, _, h3⟩
      · exact absurd (by omega) h2
      · exact h3
    clear hcase sw3 sm st3 R2
    go_wp2_with fail
    go_ret2
    exact .inr hfin.out

end Bb
end Go.Proofs.YtbbjfebdihepnaaGreatDoor

/-
  The walk of package blob's Get, and of Drop.
-/
namespace Go.Proofs.YtbbjfebdihepnaaGreatDoor
open Go.RowKit Go.Maps
attribute [local go_sem] Oper.semAt_some
namespace Bb
open Hp (Kept K No Pg BlR Bl Wl Grows lt_of_cell wide outer)
open Hd (U64 findL)
open Co (Off SeqS range_S)
open Go.Proofs.YtbbjfebdihepnaaGreatDoor.So (Ad Sb Sw Rec sp lE lN gV wE len_any get_any)
variable {w w' : World} {B : Nat} {A : Ad} {pg : List (Int × Nat)} {W : Int → Int} {L : List Pg} {v : Value} {T : List Hd.Sl} {x : Int}

theorem gV_us (h : Sw w B A pg W L v T) (k : Int) : 0 ≤ gV T W x k ∧ gV T W x k ≤ 18446744073709551615 := by
  unfold gV
  split
  · exact So.word_u64 h.b _
  · omega
theorem rwI_us (h : Sw w B A pg W L v T) : Tx.Us (rwI T W x) := fun y hy => by
  obtain ⟨k, _, rfl⟩ := List.mem_map.1 hy
  exact gV_us h _

/-- A row of one's own, as a slice that holds words. -/
theorem src_of {n₀ : Nat} {V : World} {u : Value} {l : List Int} (h : V.ownsRow n₀ 27 1 u l.length (l.map Tx.encU)) (hu : Tx.Us l) (hm : l.length ≤ maxLen) : ∃ a b cap, u = .slice a l.length cap ∧ Tx.Src V a b 0 cap l := by
  obtain ⟨g, a, cap, rfl, ha, hc⟩ := So.row1 h
  refine ⟨a, g, cap, rfl, ⟨fun i hi w' => ?_, fun i y hy => ?_, hu, hm⟩⟩
  · rw [ha (by omega)]
    exact Tx.ixW g 0 l.length cap i hi w'
  · rw [Nat.zero_add]
    exact hc i _ (by rw [List.getElem?_map, hy]; rfl)

/-- What Of answers on these words. -/
theorem of_any {a : Option Addr} {b off cap : Nat} {l : List Int} (h : Tx.Src w a b off cap l) : Calls Tryz.prog 80 #[.slice a l.length cap] w fun e w' => e = .returned (.tuple #[.string ⟨(if Tx.Is l then Tx.ofT l else []).toArray⟩, .int .i64 (if Tx.Is l then 0 else 8)]) ∧ K w w' := by
  by_cases hi : Tx.Is l
  · rw [if_pos hi, if_pos hi]
    exact Tx.of_yes h hi
  · rw [if_neg hi, if_neg hi]
    exact Tx.of_no h hi

/-- In a round, and between two: the row so far, the iterator's cells, the deferred calls. -/
structure Gi (w : World) (st : Nat) (x : Int) (bx b1 b2 D N : Nat) (xs : List Int) (M : Nat → Prop) (V : World) : Prop where
  row : RowU w.heap.size bx xs M V
  rd : Rd w st x b1 b2 V
  d : V.heap[D]? = some (.deferred (some []))
  m1 : ¬ M b1
  m2 : ¬ M b2
  m3 : ¬ M D
  lx : bx < N
  l1 : b1 < N
  l2 : b2 < N
  l3 : D < N
  ln : N ≤ V.heap.size
  wN : w.heap.size ≤ N

theorem kthen {O : Nat → Prop} {a b c : World} (h : K a b) (k : Kept O b c) (hO : ∀ j, O j → a.heap.size ≤ j) : K a c :=
  ⟨k.os.trans h.os, k.tape.trans h.tape, k.output.trans h.output, Nat.le_trans h.size k.size, fun j hj _ => (k.same j (Nat.lt_of_lt_of_le hj h.size) (fun e => by have := hO j e; omega)).trans (h.same j hj (fun z => z))⟩

theorem Gi.kept {st bx b1 b2 D N : Nat} {xs : List Int} {M : Nat → Prop} {V V' : World} (h : Gi w st x bx b1 b2 D N xs M V) (k : Kept (Off N M) V V') : Gi w st x bx b1 b2 D N xs M V' :=
  ⟨h.row.next k (fun g hg e => e.2 hg), ⟨kthen h.rd.k k (fun j hj => Nat.le_trans h.wN hj.1), k.cell h.rd.c1 (fun e => by have h1 : N ≤ b1 := e.1; have := h.l1; omega), k.cell h.rd.c2 (fun e => by have h1 : N ≤ b2 := e.1; have := h.l2; omega)⟩, k.block h.d (fun e => by have := e.1; have := h.l3; omega), h.m1, h.m2, h.m3, h.lx, h.l1, h.l2, h.l3, Nat.le_trans h.ln k.size, h.wN⟩
theorem Gi.next {st bx b1 b2 D N : Nat} {xs ys : List Int} {M M' : Nat → Prop} {V V' : World} (h : Gi w st x bx b1 b2 D N xs M V) (k : Kept M V V') (r : RowU w.heap.size bx ys M' V') (g : Grows M M' V) : Gi w st x bx b1 b2 D N ys M' V' := by
  have off : ∀ j, ¬ M j → j < N → ¬ M' j := fun j hj hN hM => by
    rcases g j hM with h1 | h1
    · exact hj h1
    · have := h.ln
      omega
  exact ⟨r, ⟨kthen h.rd.k k (fun j hj => (h.row.lt hj).2), k.cell h.rd.c1 h.m1, k.cell h.rd.c2 h.m2⟩, k.block h.d h.m3, off _ h.m1 h.l1, off _ h.m2 h.l2, off _ h.m3 h.l3, h.lx, h.l1, h.l2, h.l3, Nat.le_trans h.ln k.size, h.wN⟩

set_option maxRecDepth 100000 in
set_option maxHeartbeats 2000000 in
theorem get_some (h : Sw w B A pg W L v T) (hx : U64 x) (hf : (findL T x).isSome = true) : CallsIn Fence.wide 0 Tryz.prog 54 #[sp A.st, .int .u64 x] w fun e w' => e = .returned (.tuple #[.string ⟨(if Tx.Is (rwI T W x) then Tx.ofT (rwI T W x) else []).toArray⟩, .int .i64 (if Tx.Is (rwI T W x) then 0 else 8)]) ∧ K w w' := by
  have ln := len_any h x hx
  obtain ⟨n0, n1⟩ := lN_rng h x
  have e0 : lE T x = 0 := by
    obtain ⟨i, hi⟩ := Option.isSome_iff_exists.1 hf
    simp [lE, hi]
  rw [e0] at ln
  have hlen := rwI_len T W x
  have hus := rwI_us (x := x) h
  have hsq := fun (b1 b2 : Nat) (O : Nat → Prop) (wa : World) => words_seq h hx b1 b2 O wa
  obtain ⟨iu, hiu, hs1, hs2, hz⟩ := Tx.info_u64
  have HU : Aside (Tryz.prog.info? 27 = some iu ∧ iu.zero = some (.int .u64 0) ∧ iu.size = 1 ∧ iu.bytes = 8) := ⟨hiu, hz, hs1, hs2⟩
  clear hiu hs1 hs2 hz h hf e0
  generalize lN T W x = n at *
  generalize rwI T W x = ws at *
  have OF : Aside (∀ (V : World) (a : Option Addr) (b cap : Nat), Tx.Src V a b 0 cap ws → Calls Tryz.prog 80 #[.slice a ws.length cap] V fun e w' => e = .returned (.tuple #[.string ⟨(if Tx.Is ws then Tx.ofT ws else []).toArray⟩, .int .i64 (if Tx.Is ws then 0 else 8)]) ∧ K V w') := fun V a b cap hs => of_any hs
  generalize (⟨(if Tx.Is ws then Tx.ofT ws else []).toArray⟩ : ByteArray) = str at *
  generalize (if Tx.Is ws then (0 : Int) else 8) = er at *
  obtain ⟨nn, rfl⟩ : ∃ nn : Nat, n = (nn : Int) := ⟨n.toNat, by omega⟩
  rw [Int.toNat_natCast] at hlen
  refine callsIn_of_wp_marks Tryz.func54 rfl trivial ?_ rfl
  simp only [Tryz.ntmps54, List.size_toArray, List.length_cons, List.length_nil, Nat.reduceAdd, Nat.reduceSub, Array.replicate_succ, Array.replicate_zero, List.push_toArray, List.append_toArray, List.nil_append, List.cons_append]
  gi_wp2
  refine ⟨trivial, rfl, (callsIn_wide.2 ln).mono ?_⟩
  rintro e w1 ⟨rfl, k1⟩
  clear ln
  have hn2 : nn ≤ 3998 := by omega
  have ow : Aside (∀ W5 : World, W5.ownsRow w.heap.size 27 1 (.slice (some ⟨w1.heap.size, 0, none⟩) 0 nn) 0 [] → w1.grownBy W5 none → W5.ownsRow w.heap.size 27 1 (.slice (some ⟨w1.heap.size, 0, none⟩) 0 nn) 0 [] ∧ K w W5 ∧ w1.heap.size < W5.heap.size) := fun W5 h5 g5 => ⟨h5, Tx.K.grown k1 g5 (fun g hg => by cases hg), (Hd.own_lt h5 (show some w1.heap.size = _ from rfl)).2⟩
  have hk1 := k1.size
  gi_wp2_with (
    gi_at_make
    refine wpListIn_make_own _ rfl _ _ 112 rfl w.heap.size 27 iu (.int .u64 0) 1 Tryz.underlying112 HU.out.1 HU.out.2.1 HU.out.2.2.1 .i64 .i64 (nn : Int) nn rfl rfl rfl (by rw [HU.out.2.2.2]; omega) (by unfold maxLen; omega) hk1 ?_
    intro W5 hown5 hgrow5
    have Q5 : Aside _ := ow.out W5 hown5 hgrow5
    clear hown5 hgrow5)
  obtain ⟨h5, k5, lt5⟩ := Q5.out
  clear Q5 ow
  obtain ⟨W6, hw6⟩ : ∃ W6, W6 = W5.alloc (.cells #[.slice (some ⟨w1.heap.size, 0, none⟩) 0 nn] 112) := ⟨_, rfl⟩
  have bx6 : Boxed W6 W5.heap.size 112 (.slice (some ⟨w1.heap.size, 0, none⟩) 0 nn) := by rw [hw6]; exact Boxed.new _ _ _
  have row6 : W6.ownsRow w.heap.size 27 1 (.slice (some ⟨w1.heap.size, 0, none⟩) 0 nn) 0 [] := by rw [hw6]; exact World.ownsRow.alloc h5 _
  have k6 : K w W6 := by rw [hw6]; exact k5.alloc _
  have s6 : W6.heap.size = W5.heap.size + 1 := by rw [hw6]; simp
  rw [← hw6]
  clear hw6 h5
  refine ⟨trivial, rfl, (callsIn_wide.2 (words_any A.st x W6)).mono ?_⟩
  rintro e W7 ⟨rfl, hw7⟩
  have k7 : K W6 W7 := by rw [hw7]; exact ((K.refl W6).alloc _).alloc _
  have s7 : W7.heap.size = W6.heap.size + 2 := by rw [hw7]; simp
  have c1 : W7.cell? ⟨W6.heap.size, 0, none⟩ = some (sp A.st) := by
    rw [hw7]
    exact Boxed.cell ((Boxed.new W6 26 (sp A.st)).alloc _)
  have c2 : W7.cell? ⟨W6.heap.size + 1, 0, none⟩ = some (.int .u64 x) := by
    rw [hw7]
    have := Boxed.new (W6.alloc (.cells #[sp A.st] 26)) 28 (.int .u64 x)
    simp only [World.size_alloc] at this
    exact this.cell
  clear hw7
  obtain ⟨W8, hw8⟩ : ∃ W8, W8 = W7.alloc (.deferred (some [])) := ⟨_, rfl⟩
  have k8 : K W7 W8 := by rw [hw8]; exact (K.refl W7).alloc _
  have s8 : W8.heap.size = W7.heap.size + 1 := by rw [hw8]; simp
  have d8 : W8.heap[W7.heap.size]? = some (.deferred (some [])) := by rw [hw8]; exact World.alloc_heap_new _ _
  have k5s := k5.size
  have G0 : Gi w A.st x W5.heap.size W6.heap.size (W6.heap.size + 1) W7.heap.size W8.heap.size [] (mine W5.heap.size (.slice (some ⟨w1.heap.size, 0, none⟩) 0 nn)) W8 :=
    have off : ∀ j, W6.heap.size ≤ j → ¬ mine W5.heap.size (.slice (some ⟨w1.heap.size, 0, none⟩) 0 nn) j := fun j hj h => by
      rcases h with h | h
      · omega
      · have : j = w1.heap.size := by simpa [Value.ownBlock] using h
        omega
    ⟨⟨_, (k7.trans k8).boxed bx6, Hd.ownsRow_kept row6 (k7.trans k8) (fun _ _ z => z), (fun e => by
      have : W5.heap.size = w1.heap.size := by simpa [Value.ownBlock] using e
      omega), by omega, rfl⟩, ⟨(k6.trans k7).trans k8, k8.cell c1, k8.cell c2⟩, d8, off _ (by omega), off _ (by omega), off _ (by omega), by omega, by omega, by omega, by omega, Nat.le_refl _, by omega⟩
  have HLN : Aside (ws.length = nn) := hlen
  clear hlen
  have S6 : w.heap.size ≤ W7.heap.size := by omega
  clear bx6 row6 c1 c2 d8 s6 s7 s8
  gi_wp2
  refine range_S (r := none) (w' := W7.alloc (.deferred (some []))) (mark := [{ target := .collected W7.heap.size, args := #[] }]) (gf := 112) (ba := #[]) (cp := #[.pointer (some ⟨W6.heap.size, 0, none⟩), .pointer (some ⟨W6.heap.size + 1, 0, none⟩)]) rfl (enters_of Tryz.func112 (by kernel_rfl) rfl) (fun fn => outer W7)
    (hsq W6.heap.size (W6.heap.size + 1) (mine W5.heap.size (.slice (some ⟨w1.heap.size, 0, none⟩) 0 nn)) W7) ((K.refl W7).alloc _) (fun k hk => by rw [← hw8]; exact (G0.row.lt hk).1) (fun _ => rfl)
    (fun pre M V => Gi w A.st x W5.heap.size W6.heap.size (W6.heap.size + 1) W7.heap.size W8.heap.size pre M V)
    (fun _ _ _ _ => False)
    (fun pre y M a' V => Gi w A.st x W5.heap.size W6.heap.size (W6.heap.size + 1) W7.heap.size W8.heap.size pre M V ∧ a' = { tmps := #[sp A.st, .int .u64 x, undef, undef, .string ⟨#[]⟩, .int .i64 0, .int .i64 (nn : Int), .int .i64 0, .pointer (some ⟨W5.heap.size, 0, none⟩), .int .u64 y, .tuple #[.int .i64 (nn : Int), .int .i64 0], sp A.st, .int .u64 x, .tuple #[.int .i64 (nn : Int), .int .i64 0], .int .i64 (nn : Int), .int .i64 0, .int .i64 0, .bool false, undef, .int .i64 (nn : Int), .slice (some ⟨w1.heap.size, 0, none⟩) 0 nn, sp A.st, .int .u64 x, .func (.func 112) #[] #[.pointer (some ⟨W6.heap.size, 0, none⟩), .pointer (some ⟨W6.heap.size + 1, 0, none⟩)], .int .u64 y, undef, undef, undef, undef, undef, undef, undef, undef], defers := [] })
    ?hI ?hIx ?hAx ?hS ?h0 ?hassign ?hbody ?hdone ?hstop
  case hI =>
    rintro s M A' B' hg k
    rw [← hw8] at k
    exact hg.kept k
  case hIx => exact fun _ _ _ _ _ hf _ => hf
  case hAx =>
    rintro s y M a' A' B' ⟨hg, ha⟩ hM k
    rw [← hw8] at k hM
    exact ⟨hg.kept (k.mono (fun j _ hj => by subst hj; exact ⟨Nat.le_refl _, hM⟩)), ha⟩
  case hS => exact fun _ _ _ hg => hg.rd
  case h0 =>
    rw [← hw8]
    exact G0
  case hassign =>
    rintro pre y M V _ hg _ _
    gi_wp2
    exact ⟨Kept.refl _ _, hg, trivial⟩
  case hbody =>
    rintro pre y M a' V hpre _ _ ⟨hg, rfl⟩
    obtain ⟨u, q1, q2, q3, q4, rfl⟩ := hg.row
    have HG : Aside _ := hg
    have hl : pre.length < nn := by
      obtain ⟨t, ht⟩ := hpre
      have := congrArg List.length ht
      simp at this
      have := HLN.out
      omega
    have bc := q1.cell
    have hsz : w.heap.size ≤ V.heap.size := hg.rd.k.size
    generalize hpl : pre.length = pl at *
    clear hg hpre G0
    gi_wp2_with (
      gi_at_builtin
      refine wpListIn_append_own_at _ rfl _ _ 112 rfl w.heap.size 27 iu (.int .u64 0) 1 8 Tryz.underlying112 HU.out.1 HU.out.2.1 HU.out.2.2.1 HU.out.2.2.2 rfl (by decide) u pl (pre.map Tx.encU) rfl (World.ownsRow.alloc q2 _) ⟨V.heap.size, 0, none⟩ 1 1 [.int .u64 y] rfl rfl (Hd.src_one V #[.int .u64 y] 27) (Hd.one_u _) (by unfold maxLen; omega) (by omega) (by simp; omega) ?_
      intro v' W3 hown hgrow _ hat
      obtain ⟨a4, c4, hv4⟩ := Hd.own_form hown
      subst hv4
      have FF : Aside _ := RowU.app q1 q3 q4 (by rw [hpl]; exact hown) hgrow hat
      have fz := FF.out.1.frozen
      have fc := FF.out.1.cell
      clear hown hgrow hat)
    exact ⟨FF.out.2.1, _, HG.out.next FF.out.2.1 FF.out.2.2.1 FF.out.2.2.2, FF.out.2.2.2⟩
  case hdone =>
    rintro M V hg
    obtain ⟨u, q1, q2, _, _, rfl⟩ := hg.row
    obtain ⟨a, b, cap, rfl, sr⟩ := src_of q2 hus (by unfold maxLen; have := HLN.out; omega)
    have cof := OF.out _ _ _ _ sr
    have bc := q1.cell
    have HG : Aside _ := hg
    clear q2 sr hg G0
    gi_wp2
    refine ⟨trivial, rfl, (callsIn_wide.2 cof).mono ?_⟩
    rintro e V2 ⟨rfl, k2⟩
    gi_wp2
    refine ⟨by simp, .inl ⟨_, _, rfl, run_takeDeferred (k2.block HG.out.d), .tuple #[.string str, .int .i64 er], ?_, rfl, Kept.putObj (HG.out.rd.k.trans k2) _ (.inr (by omega))⟩⟩
    simp [results, Tryz.f54, go_sem]
  case hstop =>
    rintro cd pre M V _ hf
    exact hf.elim

theorem get_any (h : Sw w B A pg W L v T) (hx : U64 x) : Calls Tryz.prog 54 #[sp A.st, .int .u64 x] w fun e w' => e = .returned (.tuple #[.string ⟨(gtS T W x).toArray⟩, .int .i64 (gtE T W x)]) ∧ K w w' := by
  cases hf : (findL T x).isSome with
  | true =>
    have := callsIn_wide.1 (get_some h hx hf)
    have e1 : gtS T W x = if Tx.Is (rwI T W x) then Tx.ofT (rwI T W x) else [] := by simp [gtS, hf]
    have e2 : gtE T W x = if Tx.Is (rwI T W x) then 0 else 8 := by simp [gtE, hf]
    rw [e1, e2]
    exact this
  | false =>
    have hn : findL T x = none := by cases hq : findL T x with | none => rfl | some i => rw [hq] at hf; cases hf
    obtain ⟨e1, e2⟩ := get_none (W := W) hn
    rw [e1, e2]
    have ln := len_any h x hx
    rw [show lE T x = 7 by simp [lE, hn], show lN T W x = 0 by simp [lN, hn]] at ln
    go_enter Tryz.func54, Tryz.ntmps54
    go_wp2_with (go_at_call 52; refine ln.mono ?_; rintro e w1 ⟨rfl, k1⟩)
    go_ret2
    exact ⟨rfl, k1⟩

end Bb
end Go.Proofs.YtbbjfebdihepnaaGreatDoor
