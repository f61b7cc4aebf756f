/-
  The walk of the statement on Free.
-/
import Derived.Test.YtbbjfebdihepnaaGreatDoorVWKeptF
import Derived.Test.YtbbjfebdihepnaaGreatDoorVWLists
namespace Go.Proofs.YtbbjfebdihepnaaGreatDoor
open Go.RowKit Go.Maps
attribute [local go_sem ↓] Go.wp_at_zero Go.wp_at_succ
namespace Wa
open Hp (Kept K No)
open Hd (U64 findL)
open Nd (Nv encU)
open Go.Proofs.YtbbjfebdihepnaaGreatDoor.So (Ad sp)

/-- What made and grow leave: a tree of each row. -/
def Two (wc w' : World) (A : Ad) (c : Nat) (P Q : List Pr) (root o : Int) (a : Option Addr) (n cap : Nat) : Prop :=
  ∃ (T : List Hd.Sl) (W : Int → Int) (t t2 : Tr), Tv wc w' A c T W t P ∧ t.root = root ∧ Tv wc w' A c T W t2 Q ∧ t2.root = o ∧ (∀ y ∈ hsOf t2.items, y ∉ hsOf t.items) ∧ Bb.op T = 3 * P.length + 3 * Q.length ∧ Srt w' a n cap Q
theorem two_trees {wc w3 w4 : World} {A : Ad} {T : List Hd.Sl} {W : Int → Int} {t : Tr} {P Q : List Pr} {h : Int} {a : Option Addr} {n cap : Nat} (tv : Tv wc w3 A 180 T W t P) (ho : Bb.op T = 3 * P.length) (sr : Srt w3 a n cap Q) (hn : Q.length ≤ 60) (up : upP Q) (g : GrowT wc w3 A 180 T W Q h w4) : Two wc w4 A 360 P Q t.root h a n cap := by
  obtain ⟨fr, t2, T2, W2, gs, le, rfl, hu, hl, hp, nd, fresh, op⟩ := g
  have gs2 := gs.mono (c' := 360) (by omega)
  exact ⟨T2, W2, t, t2, ⟨gs2, tv.rt.le le, tv.u, tv.pr⟩, rfl, ⟨gs2, right_of hl nd hp up, hu, hp⟩, rfl, fresh_off tv.rt.lay fresh, by omega, sr.fr fr⟩
/-- What is left when the first one is freed. -/
def One (wc w' : World) (A : Ad) (Q : List Pr) (o : Int) (a : Option Addr) (n cap : Nat) : Prop :=
  ∃ (T : List Hd.Sl) (W : Int → Int) (t2 : Tr), Tv wc w' A 360 T W t2 Q ∧ t2.root = o ∧ Bb.op T = 3 * Q.length ∧ Srt w' a n cap Q
theorem One.keep {wc w' V : World} {A : Ad} {Q : List Pr} {o : Int} {a : Option Addr} {n cap : Nat} (h : One wc w' A Q o a n cap) (k : K w' V) : One wc V A Q o a n cap := by
  obtain ⟨T, W, t2, tv, e, op, sr⟩ := h
  exact ⟨T, W, t2, tv.keep k, e, op, sr.fr (Fr.ofK k)⟩
theorem Two.free {wc w' : World} {A : Ad} {P Q : List Pr} {root o : Int} {a : Option Addr} {n cap : Nat} (h : Two wc w' A 360 P Q root o a n cap) (up : upP Q) :
    Calls Tryz.prog 23 #[sp A.st, .int .u64 root] w' fun e w2 => e = .returned (.int .i64 0) ∧ Aside (One wc w2 A Q o a n cap) := by
  obtain ⟨T, W, t, t2, tv, rfl, tv2, rfl, ds, op, sr⟩ := h
  refine (free_any tv.gs tv.u tv.rt).mono ?_
  rintro e w2 ⟨rfl, hf⟩
  obtain ⟨fr, T', W', tv', op'⟩ := hf.out.tv tv2.rt.lay tv2.rt.nd tv2.u tv2.pr up ds
  have hl := tv.len
  exact ⟨rfl, T', W', t2, tv', rfl, by omega, sr.fr fr⟩
/-- Nothing is left. -/
def Nil (wc w' : World) (A : Ad) : Prop := ∃ (T : List Hd.Sl) (W : Int → Int), Gs wc w' A 360 T W ∧ Bb.op T = 0
theorem One.free {wc w' : World} {A : Ad} {Q : List Pr} {o : Int} {a : Option Addr} {n cap : Nat} (h : One wc w' A Q o a n cap) :
    Calls Tryz.prog 23 #[sp A.st, .int .u64 o] w' fun e w2 => e = .returned (.int .i64 0) ∧ Aside (Nil wc w2 A) := by
  obtain ⟨T, W, t2, tv, rfl, op, sr⟩ := h
  refine (free_any tv.gs tv.u tv.rt).mono ?_
  rintro e w2 ⟨rfl, hf⟩
  obtain ⟨fr, T', W', gs, op', _⟩ := hf.out
  have hl := tv.len
  exact ⟨rfl, T', W', gs, by omega⟩
theorem One.all {wc w' : World} {A : Ad} {Q : List Pr} {o : Int} {a : Option Addr} {n cap : Nat} (h : One wc w' A Q o a n cap) :
    Calls Tryz.prog 24 #[sp A.st] w' fun e w2 => ∃ a c', e = .returned (.slice a (3 * Q.length) c') ∧ K w' w2 := by
  obtain ⟨T, W, t2, tv, rfl, op, sr⟩ := h
  have := tv.gs.all
  rw [op] at this
  exact this
theorem One.ans {wc w' : World} {A : Ad} {Q : List Pr} {o : Int} {a : Option Addr} {n cap : Nat} (h : One wc w' A Q o a n cap) (up : upP Q) : K wc w' ∧ (∃ hd, Ans w' A o Q hd) ∧ Srp w' a n cap Q := by
  obtain ⟨T, W, t2, tv, rfl, op, sr⟩ := h
  exact ⟨tv.k, ⟨_, tv.ans up⟩, sr.p⟩
theorem Nil.words {wc w' : World} {A : Ad} (h : Nil wc w' A) : Calls Tryz.prog 25 #[sp A.st] w' fun e w2 => e = .returned (.int .i64 0) ∧ K wc w2 := by
  obtain ⟨T, W, gs, op⟩ := h
  refine (gs.words0 op).mono ?_
  rintro e w2 ⟨rfl, k⟩
  exact ⟨rfl, gs.k.trans k⟩

set_option maxRecDepth 100000 in
set_option maxHeartbeats 4000000 in
theorem free_walk (w : World) (a : Option Addr) (n cap : Nat) (l : List Pr) (hP : Prw w a n cap l) (a' : Option Addr) (n' cap' : Nat) (l' : List Pr) (hP' : Prw w a' n' cap' l') (sa : Option Addr) (sn sc : Nat) (sh : Shp w sa sn sc) (hT : Bt.Tab w) :
    Calls Tryz.prog 5 #[.slice a n cap, .slice a' n' cap', .slice sa sn sc] w fun e w' => e = .returned (.bool true) ∧ K w w' := by
  have CA : Aside (∀ V, K w V → Calls Tryz.prog 10 #[] V fun e w' => e = .returned (.bool true) ∧ K w w') := fun V k => (awake_any V (hT.keep ⟨k.below⟩)).mono fun e w2 h => ⟨h.1, k.trans h.2⟩
  have hnm : n ≤ 9223372036854775807 := by have := hP.p.cp; have := hP.p.mx; unfold maxLen at *; omega
  have hnm' : n' ≤ 9223372036854775807 := by have := hP'.p.cp; have := hP'.p.mx; unfold maxLen at *; omega
  by_cases h60 : 60 < n
  · have hd : decide ((60 : Int) < (n : Int)) = true := decide_eq_true (by omega)
    have ca := CA.out w (K.refl w)
    go_enter Tryz.func5, Tryz.ntmps5

    clear CA
    go_wp2_with fail
    refine ca.mono ?_
    rintro e wx ⟨rfl, kx⟩
    clear ca
    go_wp2_with fail
    go_ret
    exact ⟨rfl, kx⟩
  have hd : decide ((60 : Int) < (n : Int)) = false := decide_eq_false (by omega)
  by_cases h61 : 60 < n'
  · have hd' : decide ((60 : Int) < (n' : Int)) = true := decide_eq_true (by omega)
    have ca := CA.out w (K.refl w)
    go_enter Tryz.func5, Tryz.ntmps5

    clear CA
    go_wp2_with fail
    refine ca.mono ?_
    rintro e wx ⟨rfl, kx⟩
    clear ca
    go_wp2_with fail
    go_ret
    exact ⟨rfl, kx⟩
  have hd' : decide ((60 : Int) < (n' : Int)) = false := decide_eq_false (by omega)
  have cl := long_any hP.p hP.mx
  have HP : Aside _ := hP
  have HP2 : Aside _ := hP'
  have SH : Aside _ := sh
  have HT : Aside (Bt.Tab w) := hT
  have h60 : n ≤ 60 := by omega
  have h61 : n' ≤ 60 := by omega
  clear hP hP' sh hT
  go_enter Tryz.func5, Tryz.ntmps5
  go_wp2_with fail
  refine cl.mono ?_
  rintro e w1 ⟨b, rfl, hb, k1⟩
  have K1 : Aside (K w w1) := k1
  have HB : Aside (b = false → shortL l) := hb.out
  clear cl hb k1
  cases b with
  | true =>
    have ca := CA.out w1 K1.out
    clear CA
    go_wp2_with fail
    refine ca.mono ?_
    rintro e wx ⟨rfl, kx⟩
    clear ca
    go_wp2_with fail
    go_ret
    exact ⟨rfl, kx⟩
  | false =>
    have HS : Aside (shortL l) := HB.out rfl
    have cl := long_any (HP2.out.keep K1.out).p HP2.out.mx
    clear HB
    go_wp2_with fail
    refine cl.mono ?_
    rintro e w2 ⟨b, rfl, hb, k2⟩
    have K2 : Aside (K w w2) := K1.out.trans k2
    have HB : Aside (b = false → shortL l') := hb.out
    clear cl hb k2 K1
    cases b with
    | true =>
      have ca := CA.out w2 K2.out
      clear CA
      go_wp2_with fail
      refine ca.mono ?_
      rintro e wx ⟨rfl, kx⟩
      clear ca
      go_wp2_with fail
      go_ret
      exact ⟨rfl, kx⟩
    | false =>
      have HS2 : Aside (shortL l') := HB.out rfl
      have cm := made_any (HT.out.keep ⟨K2.out.below⟩) (HP.out.p.keep K2.out) HS.out h60 (SH.out.keep K2.out)
      clear HB
      go_wp2_with fail
      refine cm.mono ?_
      rintro e w3 ⟨A, root, a3, n3, c3, rfl, hm⟩
      obtain ⟨⟨T, W, t, tv, hroot, ho⟩, _, _⟩ := hm.out
      generalize sortedP l = P at tv ho
      subst hroot
      have TV : Aside (Tv w2 w3 A 180 T W t P) := tv
      have HO : Aside (Bb.op T = 3 * P.length) := ho
      have cs := rsorted_any ((HP2.out.keep K2.out).p.keep tv.k) HS2.out (by omega)
      clear cm hm tv ho HP SH HS
      go_wp2_with fail
      refine cs.mono ?_
      rintro e w4 ⟨a4, n4, c4, rfl, h4, k4⟩
      have SR : Aside (Srt w4 a4 n4 c4 (sortedP l') ∧ n4 ≤ n') := h4.out
      have SS : Aside (shortL (sortedP l')) := sorted_allS HS2.out
      have UP : Aside (upP (sortedP l')) := sorted_all l'
      have TV4 : Aside (Tv w2 w4 A 180 T W t P) := TV.out.keep k4
      clear cs h4 k4 TV HS2 HP2
      generalize sortedP l' = Q at SR SS UP
      have HL : Aside (Q.length = n4) := SR.out.1.p.len
      have hn4 : n4 ≤ 60 := by have := SR.out.2; omega
      have cg := grow_any (sh := Shp.nil w2) n4 w4 180 T W a4 n4 c4 Q 0 (Nat.le_refl _) TV4.out.gs (by omega) SR.out.1 SS.out (by omega)
      go_wp2_with fail
      refine cg.mono ?_
      rintro e w5 ⟨o, rfl, h5⟩
      have TW : Aside (Two w2 w5 A 360 P Q t.root o a4 n4 c4) := two_trees TV4.out HO.out SR.out.1 (by rw [HL.out]; exact hn4) UP.out h5.out
      obtain ⟨root, hroot⟩ : ∃ root, t.root = root := ⟨_, rfl⟩
      rw [hroot] at TW ⊢
      have cf := TW.out.free UP.out
      clear cg h5 TV4 HO SR SS hroot TW
      go_wp2_with fail
      refine cf.mono ?_
      rintro e w6 ⟨rfl, h6⟩
      have ON : Aside (One w2 w6 A Q o a4 n4 c4) := h6.out
      obtain ⟨k6, ⟨hd9, an⟩, sr⟩ := h6.out.ans UP.out
      have AN : Aside _ := an
      have SR : Aside _ := sr
      have K6 : Aside (K w w6) := K2.out.trans k6
      have cc := an.check w6 (K.refl w6)
      clear cf h6 k6 an sr
      go_wp2_with fail
      refine cc.mono ?_
      rintro e w7 ⟨rfl, k7⟩
      have K7 : Aside (K w6 w7) := k7
      have ca := (ON.out.keep k7).all
      rw [HL.out] at ca
      clear cc k7
      go_wp2_with fail
      refine ca.mono ?_
      rintro e w8 ⟨a8, c8, rfl, k8⟩
      have K8 : Aside (K w6 w8) := K7.out.trans k8
      have cq := AN.out.list w8 K8.out
      rw [HL.out] at cq
      clear ca k8 K7
      go_wp2_with fail
      refine cq.mono ?_
      rintro e w9 ⟨v, rfl, hrow, k9⟩
      obtain ⟨g, a9, c9, rfl, ha9, hc9⟩ := So.row1 hrow
      have K9 : Aside (K w6 w9) := K8.out.trans k9
      have RH : Aside (∀ i, i < n4 → a9 = some ⟨g, 0, none⟩ ∧ w9.cell? ⟨g, i, none⟩ = some (.int .u64 (hd9 i))) := fun i hi => ⟨ha9 (by omega), by
        have := hc9 i (encU (hd9 i)) (by rw [List.getElem?_map, List.getElem?_range hi]; rfl)
        exact this⟩
      have k0 : Aside (K w9 w9) := K.refl w9
      clear cq k9 hrow ha9 hc9 K8
      go_wp2_with fail
      go_loopw [15] (fun t wr => ∃ i : Nat, t = .int .i64 i ∧ i ≤ n4 ∧ Aside (K w9 wr)) (fun t _ => n4 - (intOf t).toNat)
      case atStart => exact ⟨0, rfl, by omega, k0.out⟩
      case round =>
        obtain ⟨i, rfl, hi, HI⟩ := hrel
        clear k0
        by_cases hlt : i < n4
        · obtain ⟨rfl, cg⟩ := RH.out i hlt
          have ixg := fun w' => run_ixH g n4 c9 i hlt w'
          have KR : Aside (K w6 wr) := K9.out.trans HI.out
          have hcg := HI.out.cell cg
          obtain ⟨b, off, q, rfl, hq, _, _⟩ := (SR.out.keep KR.out).at hlt
          have ix := fun w' => run_ixQ b off n4 c4 i hlt w'
          have AT : Aside (∀ V, K w6 V → V.cell? ⟨b, off + i * 2, none⟩ = some (.string q.k) ∧ V.cell? ⟨b, off + i * 2 + 1, none⟩ = some (.string q.x)) := fun V k => by
            obtain ⟨b', off', q', e, hq', d0, d1⟩ := (SR.out.keep k).at hlt
            cases e
            obtain rfl := Option.some.inj (hq.symm.trans hq')
            exact ⟨d0, d1⟩
          have cp := AN.out.pair wr KR.out i q hq
          obtain ⟨x, ex⟩ : ∃ x, hd9 i = x := ⟨_, rfl⟩
          rw [ex] at hcg cp
          obtain ⟨qk, qx⟩ := q
          simp only at cp
          clear cg hq ex
          go_wp2_with fail
          refine cp.mono ?_
          rintro e w4 ⟨rfl, k4⟩
          have KB : Aside (K wr (w4.alloc (.cells #[.string qk, .string qx] 39))) := k4.alloc _
          obtain ⟨e0, e1⟩ := two (World.alloc_heap_new w4 (.cells #[.string qk, .string qx] 39))
          obtain ⟨d0, d1⟩ := AT.out _ (KR.out.trans KB.out)
          have KF : Aside (K w9 (w4.alloc (.cells #[.string qk, .string qx] 39))) := HI.out.trans KB.out
          clear cp k4 hcg KB HI AT KR
          go_wp2_with fail
          go_quiet (fail)
          clear e0 e1 d0 d1
          go_wp2_with fail
          go_roundw
          case measure => simp [intOf]; omega
          case rel => exact ⟨i + 1, by go_num, by omega, k_drawn KF.out _⟩
        · obtain rfl : i = n4 := by omega
          have cf := (ON.out.keep (K9.out.trans HI.out)).free
          clear HI
          go_wp2_with fail
          refine cf.mono ?_
          rintro e w10 ⟨rfl, h10⟩
          have cw := h10.out.words
          clear cf h10
          go_wp2_with fail
          refine cw.mono ?_
          rintro e w11 ⟨rfl, k11⟩
          have ca := CA.out w11 (K2.out.trans k11)
          clear cw k11
          go_wp2_with fail
          refine ca.mono ?_
          rintro e w12 ⟨rfl, k12⟩
          clear ca
          go_wp2_with fail
          go_ret
          exact ⟨rfl, k12⟩

end Wa
end Go.Proofs.YtbbjfebdihepnaaGreatDoor
