/-
  The walk of the statement on trees without a store, and on what is no node.
-/
import Derived.Test.YtbbjfebdihepnaaGreatDoorVWNilF
import Derived.Test.YtbbjfebdihepnaaGreatDoorWM
namespace Go.Proofs.YtbbjfebdihepnaaGreatDoor
open Go.RowKit Go.Maps
attribute [local go_sem ↓] Go.wp_at_zero Go.wp_at_succ
namespace Wa
open Hp (Kept K No)
open Hd (U64 findL)
open Nd (Nv encU)
open Go.Proofs.YtbbjfebdihepnaaGreatDoor.So (Ad sp)
variable {w0 w : World} {A : Ad} {W : Int → Int} {T : List Hd.Sl} {c : Nat} {x : Int}

theorem no_nd (h0 : Bb.op T = 0) (x : Int) : (vw T W).nd x = none := by
  cases e : (vw T W).nd x with
  | none => rfl
  | some n =>
    obtain ⟨i, hi⟩ := Option.isSome_iff_exists.1 (nd_some e).2.1
    obtain ⟨s, hs, so, _⟩ := Hd.findL_some hi
    have := List.countP_eq_zero.1 h0 s (List.mem_of_getElem? hs)
    rw [so] at this
    exact absurd rfl this
theorem right_nil (g : Vw) : Right g .nil := ⟨trivial, by simp [Tr.items, hsOf], by simp [Tr.items]⟩
theorem Gs.tv0 (h : Gs w0 w A c T W) : Tv w0 w A c T W .nil [] := ⟨h, right_nil _, ⟨by decide, by decide⟩, rfl⟩
theorem Gs.bad (h : Gs w0 w A c T W) (h0 : Bb.op T = 0) (hx : U64 x) (hne : x ≠ 0) : Calls Tryz.prog 12 #[sp A.st, .int .u64 x] w fun e w' => e = .returned (.int .i64 8) ∧ K w w' := by
  obtain ⟨pg, L, v, rn, r⟩ := h
  refine (check_any rn.s hx).mono ?_
  rintro e w1 ⟨r, rfl, hc, q⟩
  rcases hc with ⟨_, t, rfl, rt⟩ | ⟨rfl, _⟩
  · cases t with
    | nil => exact absurd rfl hne
    | node i l r =>
      have := rt.lay.1.nd
      rw [no_nd h0] at this
      cases this
  · exact ⟨rfl, q⟩
/-- Behind Free of nothing. -/
theorem Gs.free0 (h : Gs w0 w A c T W) : Calls Tryz.prog 23 #[sp A.st, .int .u64 0] w fun e w' => e = .returned (.int .i64 0) ∧ Aside (∃ T' W', Gs w0 w' A c T' W') := by
  refine (free_any h (t := .nil) ⟨by decide, by decide⟩ (right_nil _)).mono ?_
  rintro e w1 ⟨rfl, hf⟩
  obtain ⟨_, T', W', gs, _⟩ := hf.out
  exact ⟨rfl, T', W', gs⟩

set_option maxRecDepth 100000 in
set_option maxHeartbeats 4000000 in
theorem none_walk (w : World) (h : Int) (hu : 0 ≤ h ∧ h ≤ 18446744073709551615) (key : ByteArray) (hk : key.size ≤ maxLen) (k : Int) (_ : Hp.In64 k) (hT : Bt.Tab w) :
    Calls Tryz.prog 7 #[.int .u64 h, .string key, .int .i64 k] w fun e w' => e = .returned (.bool true) ∧ K w w' := by
  have CA : Aside (∀ V, K w V → Calls Tryz.prog 10 #[] V fun e w' => e = .returned (.bool true) ∧ K w w') := fun V k => (awake_any V (hT.keep ⟨k.below⟩)).mono fun e w2 h => ⟨h.1, k.trans h.2⟩
  have hkm : key.size ≤ 9223372036854775807 := by unfold maxLen at hk; omega
  by_cases h1 : 1000 < key.size
  · have hd : decide ((1000 : Int) < (key.size : Int)) = true := decide_eq_true (by omega)
    have ca := CA.out w (K.refl w)
    go_enter Tryz.func7, Tryz.ntmps7
    clear CA
    go_wp2_with fail
    refine ca.mono ?_
    rintro e wx ⟨rfl, kx⟩
    clear ca
    go_wp2_with fail
    go_ret
    exact ⟨rfl, kx⟩
  have hd : decide ((1000 : Int) < (key.size : Int)) = false := decide_eq_false (by omega)
  have cm := made_any hT (Prw.nil w).p (l := []) (by intro p hp; cases hp) (by decide) (Shp.nil w)
  have HU : Aside (U64 h) := ⟨hu.1, hu.2⟩
  clear hT hu
  go_enter Tryz.func7, Tryz.ntmps7
  go_wp2_with fail
  refine cm.mono ?_
  rintro e w1 ⟨A, root, a3, n3, c3, rfl, hm⟩
  obtain ⟨⟨T, W, t, tv, hroot, ho⟩, _, _⟩ := hm.out
  have GS : Aside (Gs w w1 A 180 T W ∧ Bb.op T = 0) := ⟨tv.gs, ho⟩
  have K1 : Aside (K w w1) := tv.k
  clear cm hm tv ho hroot
  go_wp2_with fail
  refine (nil_find h key _).mono ?_
  rintro e w2 ⟨rfl, k2⟩
  have K2 : Aside (K w1 w2) := k2
  clear k2
  go_wp2_with fail
  refine (nil_at h k _).mono ?_
  rintro e w3 ⟨rfl, k3⟩
  have K3 : Aside (K w1 w3) := K2.out.trans k3
  clear k3 K2
  go_wp2_with fail
  refine (nil_pair h _).mono ?_
  rintro e w4 ⟨rfl, k4⟩
  have K4 : Aside (K w1 (w4.alloc (.cells #[.string ⟨#[]⟩, .string ⟨#[]⟩] 39))) := K3.out.trans (k4.alloc _)
  obtain ⟨e0, e1⟩ := two (World.alloc_heap_new w4 (.cells #[.string ⟨#[]⟩, .string ⟨#[]⟩] 39))
  clear k4 K3
  go_wp2_with fail
  refine (nil_check h _).mono ?_
  rintro e w5 ⟨rfl, k5⟩
  have K5 : Aside (K w1 w5) := K4.out.trans k5
  clear k5 K4 e0 e1
  go_wp2_with fail
  refine (nil_free h _).mono ?_
  rintro e w6 ⟨rfl, k6⟩
  have K6 : Aside (K w1 w6) := K5.out.trans k6
  clear k6 K5
  go_wp2_with fail
  refine (nil_size h _).mono ?_
  rintro e w7 ⟨rfl, k7⟩
  have K7 : Aside (K w1 w7) := K6.out.trans k7
  clear k7 K6
  go_wp2_with fail
  refine (nil_rank h key _).mono ?_
  rintro e w8 ⟨rfl, k8⟩
  have K8 : Aside (K w1 w8) := K7.out.trans k8
  clear k8 K7
  go_wp2_with fail
  refine (nil_list HU.out _).mono ?_
  rintro e w9 ⟨⟨a9, c9, rfl⟩, k9⟩
  have K9 : Aside (K w1 w9) := K8.out.trans k9
  clear k9 K8
  by_cases h0 : h = 0
  · subst h0
    have cc := ((GS.out.1.keep K9.out).tv0).check
    go_wp2_with fail
    refine cc.mono ?_
    rintro e w10 ⟨rfl, k10⟩
    have cf := (GS.out.1.keep (K9.out.trans k10)).free0
    clear cc k10 K9 GS K1
    go_wp2_with fail
    refine cf.mono ?_
    rintro e w11 ⟨rfl, h11⟩
    obtain ⟨T', W', gs⟩ := h11.out
    have G11 : Aside (Gs w w11 A 180 T' W') := gs
    have cs := gs.tv0.size
    clear cf h11 gs
    go_wp2_with fail
    refine cs.mono ?_
    rintro e w12 ⟨rfl, k12⟩
    have G12 : Aside (Gs w w12 A 180 T' W') := G11.out.keep k12
    have cl := G12.out.tv0.list
    clear cs k12 G11
    go_wp2_with fail
    refine cl.mono ?_
    rintro e w13 ⟨v, rfl, hrow, k13⟩
    obtain ⟨g, a13, c13, rfl, _⟩ := So.row1 hrow
    have ca := CA.out w13 (G12.out.keep k13).k
    clear cl hrow k13 G12
    clear CA
    go_wp2_with fail
    refine ca.mono ?_
    rintro e wx ⟨rfl, kx⟩
    clear ca
    go_wp2_with fail
    go_ret
    exact ⟨rfl, kx⟩
  · have hb : (h == 0) = false := by simpa using h0
    have hb2 : (h != 0) = true := by simpa using h0
    have cc := (GS.out.1.keep K9.out).bad GS.out.2 HU.out h0
    have FR : Aside (∀ V, K w1 V → Calls Tryz.prog 23 #[sp A.st, .int .u64 h] V fun e w' => e = .returned (.int .i64 8) ∧ K V w') := fun V k => free_no fun V2 k2 => (GS.out.1.keep (k.trans k2)).bad GS.out.2 HU.out h0
    clear h0 GS
    go_wp2_with fail
    refine cc.mono ?_
    rintro e w10 ⟨rfl, k10⟩
    have K10 : Aside (K w1 w10) := K9.out.trans k10
    have cf := FR.out w10 K10.out
    clear cc k10 K9 FR
    go_wp2_with fail
    refine cf.mono ?_
    rintro e w11 ⟨rfl, k11⟩
    have ca := CA.out w11 (K1.out.trans (K10.out.trans k11))
    clear cf k11 K10 K1
    clear CA
    go_wp2_with fail
    refine ca.mono ?_
    rintro e wx ⟨rfl, kx⟩
    clear ca
    go_wp2_with fail
    go_ret
    exact ⟨rfl, kx⟩

end Wa
end Go.Proofs.YtbbjfebdihepnaaGreatDoor
