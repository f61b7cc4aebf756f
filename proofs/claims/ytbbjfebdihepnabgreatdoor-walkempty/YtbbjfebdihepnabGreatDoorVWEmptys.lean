/-
  The walk of the statement on a tree of nothing, and on two roots of one store.
-/
import Derived.Test.YtbbjfebdihepnabGreatDoorVWKeptF
namespace Go.Proofs.YtbbjfebdihepnabGreatDoor
open Go.RowKit Go.Maps
attribute [local go_sem ↓] Go.wp_at_zero Go.wp_at_succ
namespace Wa
open Hp (Kept K No)
open Hd (U64 findL)
open Nd (Nv encU)
open Go.Proofs.YtbbjfebdihepnabGreatDoor.So (Ad sp)
variable {w0 w wc w' V : World} {A : Ad} {W : Int → Int} {T : List Hd.Sl} {c : Nat} {x : Int} {t t2 : Tr} {P Q : List Pr}

theorem tv_nil (h : Gs w0 w A c T W) : Tv w0 w A c T W .nil [] := ⟨h, ⟨trivial, by simp [Tr.items, hsOf], by simp [Tr.items]⟩, ⟨by decide, by decide⟩, rfl⟩
theorem bad_of (h : Gs w0 w A c T W) (hn : (vw T W).nd x = none) (hx : U64 x) (hne : x ≠ 0) : Calls Tryz.prog 15 #[sp A.st, .int .u64 x] w fun e w' => e = .returned (.int .i64 8) ∧ K w w' := by
  obtain ⟨pg, L, v, rn, r⟩ := h
  refine (check_any rn.s hx).mono ?_
  rintro e w1 ⟨r, rfl, hc, q⟩
  rcases hc with ⟨_, t, rfl, rt⟩ | ⟨rfl, _⟩
  · cases t with
    | nil => exact absurd rfl hne
    | node i l r =>
      have h1 := rt.lay.1.nd
      have h2 : (vw T W).nd i.h = none := hn
      rw [h2] at h1
      cases h1
  · exact ⟨rfl, q⟩
/-- Two trees of one store. -/
def Tw2 (wc w' : World) (A : Ad) (t : Tr) (P Q : List Pr) (o : Int) : Prop :=
  ∃ (T : List Hd.Sl) (W : Int → Int) (t2 : Tr), Tv wc w' A 360 T W t P ∧ Tv wc w' A 360 T W t2 Q ∧ t2.root = o ∧ ∀ y ∈ hsOf t2.items, y ∉ hsOf t.items
theorem tw2_of {wc w3 w4 : World} {A : Ad} {T : List Hd.Sl} {W : Int → Int} {t : Tr} {P Q : List Pr} {h : Int} (tv : Tv wc w3 A 180 T W t P) (hn : Q.length ≤ 60) (up : upP Q) (g : GrowT wc w3 A 180 T W Q h w4) : Tw2 wc w4 A t P Q h := by
  obtain ⟨fr, t2, T2, W2, gs, le, rfl, hu, hl, hp, nd, fresh, op⟩ := g
  have gs2 := gs.mono (c' := 360) (by omega)
  exact ⟨T2, W2, t2, ⟨gs2, tv.rt.le le, tv.u, tv.pr⟩, ⟨gs2, right_of hl nd hp up, hu, hp⟩, rfl, fresh_off tv.rt.lay fresh⟩
theorem Tw2.keep {o : Int} (h : Tw2 wc w' A t P Q o) (k : K w' V) : Tw2 wc V A t P Q o := by
  obtain ⟨T, W, t2, h1, h2, h3⟩ := h
  exact ⟨T, W, t2, h1.keep k, h2.keep k, h3⟩
/-- Behind Free of the first one. -/
def Em (wc w' : World) (A : Ad) (root : Int) (P Q : List Pr) (o : Int) : Prop :=
  ∃ (T : List Hd.Sl) (W : Int → Int) (t2 : Tr), Gs wc w' A 360 T W ∧ Tv wc w' A 360 T W t2 Q ∧ t2.root = o ∧ (P ≠ [] → (vw T W).nd root = none ∧ root ≠ 0 ∧ U64 root)
theorem Em.keep {o root : Int} (h : Em wc w' A root P Q o) (k : K w' V) : Em wc V A root P Q o := by
  obtain ⟨T, W, t2, h1, h2, h3⟩ := h
  exact ⟨T, W, t2, h1.keep k, h2.keep k, h3⟩
theorem Tw2.free {o : Int} (h : Tw2 wc w' A t P Q o) (up : upP Q) :
    Calls Tryz.prog 11 #[sp A.st, .int .u64 t.root] w' fun e w2 => e = .returned (.int .i64 0) ∧ Aside (Em wc w2 A t.root P Q o) := by
  obtain ⟨T, W, t2, tv, tv2, rfl, ds⟩ := h
  refine (free_any tv.gs tv.u tv.rt).mono ?_
  rintro e w2 ⟨rfl, hf⟩
  obtain ⟨fr, T', W', gs, ho, hh, gone⟩ := hf.out
  refine ⟨rfl, T', W', t2, gs, ⟨gs, right_of (lay_on (fun y hy ys h => hh y ys (ds y hy) h) tv2.rt.lay) tv2.rt.nd tv2.pr up, tv2.u, tv2.pr⟩, rfl, fun hP => ?_⟩
  cases t with
  | nil => exact absurd tv.pr.symm hP
  | node i l r =>
    refine ⟨?_, root_ne tv.gs.fit tv.rt.lay, tv.u⟩
    show (vw T' W').nd i.h = none
    cases e : (vw T' W').nd i.h with
    | none => rfl
    | some n =>
      have h1 := (nd_some e).2.1
      rw [gone i.h (by simp [Tr.items, hs_app, hs_cons])] at h1
      cases h1

set_option maxRecDepth 100000 in
set_option maxHeartbeats 4000000 in
theorem empty_walk (w : World) (a : Option Addr) (n cap : Nat) (l : List Pr) (hP : Prw w a n cap l) (a' : Option Addr) (n' cap' : Nat) (l' : List Pr) (hP' : Prw w a' n' cap' l') (key : ByteArray) (hk : key.size ≤ maxLen) (hT : Bt.Tab w) :
    Calls Tryz.prog 3 #[.slice a n cap, .slice a' n' cap', .string key] w fun e w' => e = .returned (.bool true) ∧ K w w' := by
  have CA : Aside (∀ V, K w V → Calls Tryz.prog 5 #[] V fun e w' => e = .returned (.bool true) ∧ K w w') := fun V k => (awake_any V (hT.keep ⟨k.below⟩)).mono fun e w2 h => ⟨h.1, k.trans h.2⟩
  have hnm : n ≤ 9223372036854775807 := by have := hP.p.cp; have := hP.p.mx; unfold maxLen at *; omega
  have hnm' : n' ≤ 9223372036854775807 := by have := hP'.p.cp; have := hP'.p.mx; unfold maxLen at *; omega
  have hkm : key.size ≤ 9223372036854775807 := by unfold maxLen at hk; omega
  by_cases h60 : 40 < n
  · have hd : decide ((40 : Int) < (n : Int)) = true := decide_eq_true (by omega)
    have ca := CA.out w (K.refl w)
    go_enter Tryz.func3, Tryz.ntmps3

    clear CA
    go_wp2_with fail
    refine ca.mono ?_
    rintro e wx ⟨rfl, kx⟩
    clear ca
    go_wp2_with fail
    go_ret
    exact ⟨rfl, kx⟩
  have hd : decide ((40 : Int) < (n : Int)) = false := decide_eq_false (by omega)
  by_cases h61 : 40 < n'
  · have hd' : decide ((40 : Int) < (n' : Int)) = true := decide_eq_true (by omega)
    have ca := CA.out w (K.refl w)
    go_enter Tryz.func3, Tryz.ntmps3

    clear CA
    go_wp2_with fail
    refine ca.mono ?_
    rintro e wx ⟨rfl, kx⟩
    clear ca
    go_wp2_with fail
    go_ret
    exact ⟨rfl, kx⟩
  have hd' : decide ((40 : Int) < (n' : Int)) = false := decide_eq_false (by omega)
  have cl := long_any hP.p hP.mx
  have HP : Aside _ := hP
  have HP2 : Aside _ := hP'
  have HT : Aside (Bt.Tab w) := hT
  have h60 : n ≤ 40 := by omega
  have h61 : n' ≤ 40 := by omega
  clear hP hP' hT
  go_enter Tryz.func3, Tryz.ntmps3
  go_wp2_with fail
  refine cl.mono ?_
  rintro e w1 ⟨b, rfl, hb, k1⟩
  have K1 : Aside (K w w1) := k1
  have HB : Aside (b = false → shortL l) := hb.out
  clear cl hb k1
  cases b with
  | true =>
    have ca := CA.out w1 K1.out
    clear CA
    go_wp2_with fail
    refine ca.mono ?_
    rintro e wx ⟨rfl, kx⟩
    clear ca
    go_wp2_with fail
    go_ret
    exact ⟨rfl, kx⟩
  | false =>
    have HS : Aside (shortL l) := HB.out rfl
    have cl := long_any (HP2.out.keep K1.out).p HP2.out.mx
    clear HB
    go_wp2_with fail
    refine cl.mono ?_
    rintro e w2 ⟨b, rfl, hb, k2⟩
    have K2 : Aside (K w w2) := K1.out.trans k2
    have HB : Aside (b = false → shortL l') := hb.out
    clear cl hb k2 K1
    cases b with
    | true =>
      have ca := CA.out w2 K2.out
      clear CA
      go_wp2_with fail
      refine ca.mono ?_
      rintro e wx ⟨rfl, kx⟩
      clear ca
      go_wp2_with fail
      go_ret
      exact ⟨rfl, kx⟩
    | false =>
      have HS2 : Aside (shortL l') := HB.out rfl
      clear HB
      by_cases h2 : 1000 < key.size
      · have hd2 : decide ((1000 : Int) < (key.size : Int)) = true := decide_eq_true (by omega)
        have ca := CA.out w2 K2.out
        clear CA
        go_wp2_with fail
        refine ca.mono ?_
        rintro e wx ⟨rfl, kx⟩
        clear ca
        go_wp2_with fail
        go_ret
        exact ⟨rfl, kx⟩
      have hd2 : decide ((1000 : Int) < (key.size : Int)) = false := decide_eq_false (by omega)
      have cm := made_any (HT.out.keep ⟨K2.out.below⟩) (HP.out.p.keep K2.out) HS.out (by omega) (Shp.nil w2)
      clear h2
      go_wp2_with fail
      refine cm.mono ?_
      rintro e w3 ⟨A, root, a3, n3, c3, rfl, hm⟩
      obtain ⟨⟨T, W, t, tv, hroot, ho⟩, sr3, _⟩ := hm.out
      have h3 := sr3.p.len
      generalize sortedP l = P at tv h3
      subst hroot
      have TV : Aside (Tv w2 w3 A 180 T W t P) := tv
      have H3 : Aside (P.length = n3) := h3
      have cs := rsorted_any ((HP2.out.keep K2.out).p.keep tv.k) HS2.out (by omega)
      clear cm hm tv ho HP HS sr3 h3
      go_wp2_with fail
      refine cs.mono ?_
      rintro e w4 ⟨a4, n4, c4, rfl, h4, k4⟩
      have SR : Aside (Srt w4 a4 n4 c4 (sortedP l') ∧ n4 ≤ n') := h4.out
      have SS : Aside (shortL (sortedP l')) := sorted_allS HS2.out
      have UP : Aside (upP (sortedP l')) := sorted_all l'
      have TV4 : Aside (Tv w2 w4 A 180 T W t P) := TV.out.keep k4
      clear cs h4 k4 TV HS2 HP2
      generalize sortedP l' = Q at SR SS UP
      have HL : Aside (Q.length = n4) := SR.out.1.p.len
      have hn4 : n4 ≤ 60 := by have := SR.out.2; omega
      have cg := grow_any (sh := Shp.nil w2) n4 w4 180 T W a4 n4 c4 Q 0 (Nat.le_refl _) TV4.out.gs (by omega) SR.out.1 SS.out (by omega)
      go_wp2_with fail
      refine cg.mono ?_
      rintro e w5 ⟨o, rfl, h5⟩
      have TW : Aside (Tw2 w2 w5 A t P Q o) := tw2_of TV4.out (by rw [HL.out]; exact hn4) UP.out h5.out
      have cf : Calls Tryz.prog 9 #[sp A.st, .int .u64 0, .string key] w5 fun e w' => e = .returned (.tuple #[.int .u64 0, .bool false]) ∧ K w5 w' := by
        obtain ⟨T2, W2, t2, tv, _⟩ := TW.out
        exact (tv_nil tv.gs).find key
      clear cg h5 TV4 SR SS
      go_wp2_with fail
      refine cf.mono ?_
      rintro e w6 ⟨rfl, k6⟩
      have TW6 : Aside (Tw2 w2 w6 A t P Q o) := TW.out.keep k6
      have ct : Calls Tryz.prog 10 #[sp A.st, .int .u64 0, .int .i64 0] w6 fun e w' => e = .returned (.tuple #[.int .u64 0, .int .i64 2]) ∧ K w6 w' := by
        obtain ⟨T2, W2, t2, tv, _⟩ := TW6.out
        exact (tv_nil tv.gs).atno (.inr (by simp))
      clear cf k6 TW
      go_wp2_with fail
      refine ct.mono ?_
      rintro e w7 ⟨rfl, k7⟩
      have cf := (TW6.out.keep k7).free UP.out
      obtain ⟨root, hroot⟩ : ∃ root, t.root = root := ⟨_, rfl⟩
      rw [hroot] at cf ⊢
      clear ct k7 TW6 hroot
      go_wp2_with fail
      refine cf.mono ?_
      rintro e w8 ⟨rfl, h8⟩
      have EM : Aside (Em w2 w8 A root P Q o) := h8.out
      have cr : Calls Tryz.prog 12 #[sp A.st, .int .u64 0, .string key] w8 fun e w' => e = .returned (.int .i64 0) ∧ K w8 w' := by
        obtain ⟨T2, W2, t2, gs, _⟩ := EM.out
        exact (tv_nil gs).rank key
      clear cf h8
      go_wp2_with fail
      refine cr.mono ?_
      rintro e w9 ⟨rfl, k9⟩
      have E9 : Aside (Em w2 w9 A root P Q o) := EM.out.keep k9
      have cq : Calls Tryz.prog 13 #[sp A.st, .int .u64 0] w9 fun e w' => ∃ a c, e = .returned (.slice a 0 c) ∧ K w9 w' := by
        obtain ⟨T2, W2, t2, gs, _⟩ := E9.out
        refine (tv_nil gs).list.mono ?_
        rintro e w' ⟨v, rfl, hrow, k⟩
        obtain ⟨g, a, c, rfl, _⟩ := So.row1 hrow
        exact ⟨a, c, rfl, k⟩
      clear cr k9 EM
      go_wp2_with fail
      refine cq.mono ?_
      rintro e w10 ⟨a10, c10, rfl, k10⟩
      have E10 : Aside (Em w2 w10 A root P Q o) := E9.out.keep k10
      have cz : Calls Tryz.prog 14 #[sp A.st, .int .u64 o] w10 fun e w' => e = .returned (.int .i64 (n4 : Int)) ∧ K w10 w' := by
        obtain ⟨T2, W2, t2, gs, tv, rfl, _⟩ := E10.out
        have := tv.size
        rw [HL.out] at this
        exact this
      clear cq k10 E9
      go_wp2_with fail
      refine cz.mono ?_
      rintro e w11 ⟨rfl, k11⟩
      have E11 : Aside (Em w2 w11 A root P Q o) := E10.out.keep k11
      have K11 : Aside (K w w11) := by
        obtain ⟨T2, W2, t2, gs, _⟩ := E11.out
        exact K2.out.trans gs.k
      clear cz k11 E10
      by_cases h0 : n3 = 0
      · subst h0
        have ca := CA.out w11 K11.out
        clear CA
        go_wp2_with fail
        refine ca.mono ?_
        rintro e wx ⟨rfl, kx⟩
        clear ca
        go_wp2_with fail
        go_ret
        exact ⟨rfl, kx⟩
      · have hb0 : ((n3 : Int) == 0) = false := by simp; omega
        have cc : Calls Tryz.prog 15 #[sp A.st, .int .u64 root] w11 fun e w' => e = .returned (.int .i64 8) ∧ K w11 w' := by
          obtain ⟨T2, W2, t2, gs, _, _, hq⟩ := E11.out
          obtain ⟨q1, q2, q3⟩ := hq (fun e => h0 (by rw [← H3.out, e]; rfl))
          exact bad_of gs q1 q3 q2
        go_wp2_with fail
        refine cc.mono ?_
        rintro e w12 ⟨rfl, k12⟩
        have ca := CA.out w12 (K11.out.trans k12)
        clear cc k12
        clear CA
        go_wp2_with fail
        refine ca.mono ?_
        rintro e wx ⟨rfl, kx⟩
        clear ca
        go_wp2_with fail
        go_ret
        exact ⟨rfl, kx⟩

end Wa
end Go.Proofs.YtbbjfebdihepnabGreatDoor
