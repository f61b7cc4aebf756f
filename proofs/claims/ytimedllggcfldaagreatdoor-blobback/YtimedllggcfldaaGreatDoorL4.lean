/-
  Put where there is room, on a store made since: what it leaves of all that is held; and the document's answers that each statement asks for.
-/
import Derived.Test.YtimedllggcfldaaGreatDoorL2
import Derived.Test.YtimedllggcfldaaGreatDoorL3
import Derived.WalkSpells
namespace Go.Proofs.YtimedllggcfldaaGreatDoor
open Go.RowKit Go.Maps
attribute [local go_sem ↓] Go.wp_at_zero Go.wp_at_succ
namespace Bb
open Hp (Kept K No Pg BlR Bl Wl Same allocL granted)
open Hd (U64 findL openL)
open Go.Proofs.YtimedllggcfldaaGreatDoor.So (Ad Sb Sw Rec Rn Stp sp lE lN wE wA)
variable {w0 w w' : World} {B : Nat} {A : Ad} {pg pg' : List (Int × Nat)} {W W' : Int → Int} {L L' : List Pg} {v v' : Value} {T T' : List Hd.Sl}

theorem full_no {m z a x : Int} {er : Int} (a0 : 0 ≤ a) (hk : (T.length : Int) < m) (e : openL m z T a = (x, er, T')) : er = 0 ∧ T'.length ≤ T.length + 1 := by
  have hf : So.fullB m z T = false := by unfold So.fullB; rw [decide_eq_false (by omega)]; rfl
  have h0 : er = 0 := by
    rcases So.full_open a0 e with ⟨_, h⟩ | ⟨h, _⟩
    · exact h
    · rw [hf] at h; cases h
  subst h0
  refine ⟨rfl, ?_⟩
  unfold openL at e
  rw [if_neg (by omega)] at e
  split at e
  · simp only [Prod.mk.injEq] at e
    obtain ⟨_, _, rfl⟩ := e
    simp
  · split at e
    · simp only [Prod.mk.injEq] at e
      obtain ⟨_, _, rfl⟩ := e
      simp
    · omega

/-- What a Put that fits leaves. -/
structure Fits (w0 w w' : World) (A : Ad) (pg : List (Int × Nat)) (W : Int → Int) (v : Value) (T : List Hd.Sl) (L' : List Pg) (x : Int) (ws : List Int) (pg' : List (Int × Nat)) (W' : Int → Int) (v' : Value) (T' : List Hd.Sl) : Prop where
  rn : Rn w0 w' A pg' W' L' v' T'
  len : T'.length ≤ T.length + 1
  ho : Ho T' W' x ws
  old : ∀ y ys, Ho T W y ys → y ≠ x ∧ Ho T' W' y ys
  off : ∀ y, y ≠ x → findL T' y = findL T y
  st : Stp A pg pg' v v' w w'

theorem put_fits (h : Rn w0 w A pg W L v T) (t : ByteArray) (ht : t.size ≤ 1000) {a : Int} (ea : allocL A.q L (2 + ((Tx.wds (Tx.bs t)).length : Int)) = (a, 0, L')) (hk : (T.length : Int) < A.m) :
    Calls Tryz.prog 14 #[sp A.st, .string t] w fun e w' => ∃ x, e = .returned (.tuple #[.int .u64 x, .int .i64 0]) ∧ Aside (U64 x ∧ x ≠ 0 ∧ ∃ pg' W' v' T', Fits w0 w w' A pg W v T L' x (Tx.wds (Tx.bs t)) pg' W' v' T') := by
  have hsz : (Tx.wds (Tx.bs t)).length ≤ 126 := by
    have := Tx.wds_len (Tx.bs t)
    have := Tx.bs_len t
    omega
  refine (put_short h.s h.k.size t ht).mono ?_
  rintro e w2 (⟨a2, L2, x, T2, ea2, eo, rfl, pg2, W2, v2, sw, sm, ho, st⟩ | ⟨er, her, hc, rfl, _⟩)
  · rw [ea] at ea2
    simp only [Prod.mk.injEq] at ea2
    obtain ⟨rfl, _, rfl⟩ := ea2
    have a0 : 0 ≤ a := by
      obtain ⟨_, hR⟩ := So.allocRm h.s.b.wl (x := 2 + ((Tx.wds (Tx.bs t)).length : Int)) ⟨by omega, by omega⟩ ea
      have := sw.b.at ((hR _ _).2 (.inl ⟨rfl, rfl⟩))
      omega
    obtain ⟨_, _, x0, hoff, _⟩ := find_make a0 h.s.b.tl eo
    exact ⟨x, rfl, (So.nm_word a0 h.s.b.tl sw.b.tb.wf eo).2, x0, pg2, W2, v2, T2, ⟨sw, h.kst st⟩, (full_no a0 hk eo).2, ho, fun y ys hy => Ho.make h.s.r sm a0 h.s.b.tl eo hy, hoff, st⟩
  · exfalso
    rcases hc with ⟨a2, e2, hne⟩ | ⟨_, hf, _⟩
    · rw [ea] at e2
      simp only [Prod.mk.injEq] at e2
      exact hne e2.2.1.symm
    · unfold So.fullB at hf
      rw [decide_eq_false (by omega)] at hf
      cases hf

/-- A blob's answer. -/
theorem get_held (h : Rn w0 w A pg W L v T) {x : Int} (hx : U64 x) {t : ByteArray} (ht : t.size ≤ 1000) (ho : Ho T W x (Tx.wds (Tx.bs t))) : Calls Tryz.prog 15 #[sp A.st, .int .u64 x] w fun e w' => e = .returned (.tuple #[.string t, .int .i64 0]) ∧ K w w' := by
  have cg := get_any h.s hx
  obtain ⟨e1, e2⟩ := ho.get (by rw [Tx.bs_len]; exact ht)
  rw [e1, e2] at cg
  exact cg
theorem get_gone (h : Rn w0 w A pg W L v T) {x : Int} (hx : U64 x) (hn : findL T x = none) : Calls Tryz.prog 15 #[sp A.st, .int .u64 x] w fun e w' => e = .returned (.tuple #[.string ⟨#[]⟩, .int .i64 7]) ∧ K w w' := by
  have cg := get_any h.s hx
  obtain ⟨e1, e2⟩ := get_none (W := W) hn
  rw [e1, e2] at cg
  exact cg
theorem len_held (h : Rn w0 w A pg W L v T) {x : Int} (hx : U64 x) {ws : List Int} (ho : Ho T W x ws) : Calls Tryz.prog 21 #[sp A.st, .int .u64 x] w fun e w' => e = .returned (.tuple #[.int .i64 (ws.length : Int), .int .i64 0]) ∧ K w w' := by
  have ln := So.len_any h.s x hx
  obtain ⟨n0, _⟩ := lN_rng h.s x
  have e1 : lE T x = 0 := by
    obtain ⟨i, hi⟩ := Option.isSome_iff_exists.1 ho.1
    simp [lE, hi]
  have e2 : lN T W x = (ws.length : Int) := by
    rw [← ho.2, rwI_len]
    omega
  rw [e1, e2] at ln
  exact ln

def abc : ByteArray := ⟨#[97, 98, 99]⟩
theorem abc_len : (Tx.wds (Tx.bs abc)).length = 2 := by decide

set_option maxRecDepth 100000 in
set_option maxHeartbeats 2000000 in
theorem awake_any (w : World) (hT : Bt.Tab w) : Calls Tryz.prog 9 #[] w fun e w' => e = .returned (.bool true) ∧ K w w' := by
  have cn := Rn.new 640 9 9 w hT (by decide) (by decide) (by decide) (by decide) (by decide) (by decide)
  go_enter Tryz.func9, Tryz.ntmps9
  go_wp2_with fail
  refine cn.mono ?_
  rintro e w1 ⟨A, v, rfl, HA, k1⟩
  obtain ⟨rn, hq, hm, hz, _, _⟩ := HA.out
  have ea : allocL A.q [] (2 + ((Tx.wds (Tx.bs abc)).length : Int)) = (2, 0, [⟨0, 1, 2, 1, 0, 1⟩]) := by rw [hq, abc_len]; exact So.aw1
  have cp := put_fits rn abc (by decide) ea (by rw [hm]; decide)
  have c0 := fun w => cost_any 0 w
  have c8 := fun w => cost_any 8 w
  rw [show cstI 0 = 3 by decide] at c0
  rw [show cstI 8 = 4 by decide] at c8
  clear HA ea rn cn
  go_wp2_with fail
  refine cp.mono ?_
  rintro e w2 ⟨x, rfl, HX⟩
  obtain ⟨hx, x0, pg2, W2, v2, T2, F⟩ := HX.out
  have cl := len_held F.rn hx F.ho
  rw [abc_len] at cl
  have cg := fun w3 (k : K w2 w3) => get_held (F.rn.keep k) hx (by decide) F.ho
  have kk := F.rn.k
  have CG : Aside _ := cg
  clear HX F cp cg
  go_wp2_with fail
  refine cl.mono ?_
  rintro e w3 ⟨rfl, k3⟩
  have cg : Calls Tryz.prog 15 #[sp A.st, .int .u64 x] w3 fun e w' => e = .returned (.tuple #[.string ⟨#[97, 98, 99]⟩, .int .i64 0]) ∧ K w3 w' := CG.out w3 k3
  have k03 := kk.trans k3
  clear CG cl
  go_wp2_with (first | (go_at_call 15; refine cg.mono ?_; rintro e w4 ⟨rfl, k4⟩) | (go_at_call 16; first | (refine (c0 _).mono ?_; rintro e w5 ⟨rfl, rfl⟩) | (refine (c8 _).mono ?_; rintro e w5 ⟨rfl, rfl⟩)))
  go_ret
  exact ⟨rfl, k03.trans k4⟩

end Bb
end Go.Proofs.YtimedllggcfldaaGreatDoor
