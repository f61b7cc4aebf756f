/-
  The reference's Open.
-/
import Derived.Test.YtfokpiapaacagaaDRefC
import Derived.Test.YtfokpiapaacagaaDEndsF
import Derived.RegionTactic
import Derived.ChangeAlike
namespace Go.Proofs.Ytfokpiapaacagaa
open Go.RowKit Go.Maps
namespace Hd
open Hp (Kept K No)
variable {w w' : World} {B br : Nat} {q z : Int} {v : Value} {R R' : List Sl}

theorem own_some {n m : Nat} {ty : TypeId} {xs : List Value} (h : w.ownsRow B ty m v n xs) (hv : v.ownBlock.isSome = true) : ∃ g cap, v = .slice (some ⟨g, 0, none⟩) n cap := by
  rcases h.2 with ⟨rfl, _⟩ | ⟨g, cap, _, e, _⟩
  · cases hv
  · exact ⟨g, cap, e⟩

theorem Rf.at {g n cap : Nat} (h : Rf w B br q z (.slice (some ⟨g, 0, none⟩) n cap) R) {i : Nat} {s : Sl} (hs : R[i]? = some s) : w.cell? ⟨g, i * 3, none⟩ = some (.bool s.o) ∧ w.cell? ⟨g, i * 3 + 1, none⟩ = some (.int .u32 s.g) ∧ w.cell? ⟨g, i * 3 + 2, none⟩ = some (.int .i64 s.a) ∧ ∀ j, w.frozen? ⟨g, j, none⟩ = false := by
  obtain ⟨g9, a9, c9, hv9, hr9, hf9, _, _, hz9⟩ := rowR_form h.row
  cases hv9
  have hlt := (List.getElem?_eq_some_iff.1 hs).1
  rcases hf9 with he9 | ⟨he9, _⟩ <;> cases he9
  exact ⟨hr9.c0 i s hs, hr9.c1 i s hs, hr9.c2 i s hs, hz9 (by omega)⟩

theorem grown_keptR {row : Option Nat} {o : Obj} (hgrow : (w.alloc o).grownBy w' row) : Kept (fun k => some k = row) w w' := by
  have hsz := hgrow.size
  simp at hsz
  exact ⟨hgrow.os, hgrow.tape, hgrow.output, by omega, fun k hk hn => by
    rw [hgrow.block k (by simp; omega) hn]
    exact Below.heap_alloc w o k hk⟩

/-- Behind the append of a slot to the copy, and its store. -/
theorem Rf.app {W X w5 : World} {g n cap g5 n5 cap5 : Nat} {s : Sl} {o : Obj} (h : Rf X B br q z (.slice (some ⟨g, 0, none⟩) n cap) R) (hown : w5.ownsRow B 73 3 (.slice (some ⟨g5, 0, none⟩) n5 cap5) (R.length + 1) (rowVals R ++ slVals s)) (hgrow : (X.alloc o).grownBy w5 (Value.slice (some ⟨g, 0, none⟩) n cap).ownBlock) (hat : (Value.slice (some ⟨g5, 0, none⟩) n5 cap5).ownBlock = (Value.slice (some ⟨g, 0, none⟩) n cap).ownBlock ∨ (Value.slice (some ⟨g5, 0, none⟩) n5 cap5).ownBlock = some (X.alloc o).heap.size) (wf : Wf q z (cls (R ++ [s]))) (hge : w.heap.size ≤ g) (kX : K W X) (k4 : Kept (fun j => j = br) w W) (hW : w.heap.size ≤ W.heap.size) :
    w5.cell? ⟨br, 2, none⟩ = some (.slice (some ⟨g, 0, none⟩) n cap) ∧ w5.frozen? ⟨br, 2, none⟩ = false ∧ Rf (w5.setCell ⟨br, 2, none⟩ (.slice (some ⟨g5, 0, none⟩) n5 cap5)) B br q z (.slice (some ⟨g5, 0, none⟩) n5 cap5) (R ++ [s]) ∧ RfPost w B br q z v (R ++ [s]) (w5.setCell ⟨br, 2, none⟩ (.slice (some ⟨g5, 0, none⟩) n5 cap5)) := by
  have hlt := h.lt
  have hXs := Kept.size kX
  have kk := grown_keptR hgrow
  have hbg : ¬ some br = (Value.slice (some ⟨g, 0, none⟩) n cap).ownBlock := fun e => h.ap e.symm
  have hd5 := kk.block h.hd hbg
  have h5 : w.heap.size ≤ g5 ∧ g5 ≠ br := by
    rcases hat with e | e
    · have e1 : g5 = g := Option.some.inj e
      subst e1
      exact ⟨hge, fun e2 => hbg (by rw [← e2]; rfl)⟩
    · have e1 : g5 = (X.alloc o).heap.size := Option.some.inj e
      simp at e1
      omega
  have k6 : Kept (fun j => j = br) w5 (w5.setCell ⟨br, 2, none⟩ (.slice (some ⟨g5, 0, none⟩) n5 cap5)) := (Kept.refl _ _).setCell _ (.inl rfl)
  have hR : Rf (w5.setCell ⟨br, 2, none⟩ (.slice (some ⟨g5, 0, none⟩) n5 cap5)) B br q z (.slice (some ⟨g5, 0, none⟩) n5 cap5) (R ++ [s]) := by
    refine ⟨?_, ?_, fun e => h5.2 (Option.some.inj e), wf, h.lo⟩
    · simp only [World.setCell]
      rw [Array.getElem?_modify, if_pos rfl, hd5]
      rfl
    · rw [List.length_append, row_app, show rowVals [s] = slVals s by simp [rowVals]]
      exact ownsRow_kept hown k6 (fun j hj e => h5.2 (by rw [← e]; exact (Option.some.inj hj).symm))
  refine ⟨by simp [World.cell?, hd5], by simp [World.frozen?, hd5], hR, _, hR, ?_, fun k hk => ?_⟩
  · refine ⟨((k6.os.trans kk.os).trans (Kept.os kX)).trans k4.os, ((k6.tape.trans kk.tape).trans (Kept.tape kX)).trans k4.tape, ((k6.output.trans kk.output).trans (Kept.output kX)).trans k4.output, Nat.le_trans (Nat.le_trans (Nat.le_trans hW hXs) kk.size) k6.size, fun k hk hn => ?_⟩
    have n1 : k ≠ br := fun e => hn (.inl e)
    have n2 : ¬ some k = (Value.slice (some ⟨g, 0, none⟩) n cap).ownBlock := fun e => by
      have : k = g := Option.some.inj e
      omega
    have l1 : k < W.heap.size := by omega
    have l2 : k < X.heap.size := by omega
    rw [k6.same k (Nat.lt_of_lt_of_le l2 kk.size) n1, kk.same k l2 n2, Kept.same kX k l1 (fun x => x), k4.same k hk n1]
  · rcases hk with rfl | hk
    · exact .inl (.inl rfl)
    · have : k = g5 := Option.some.inj hk
      exact .inr (by omega)

set_option maxRecDepth 100000 in
set_option maxHeartbeats 2000000 in
theorem rOpen_any (h : Rf w B br q z v R) (a : Int) (a1 : a ≤ 9223372036854775807) : Calls Try.prog 24 #[tp br, .int .i64 a] w fun e w' => e = .returned (.tuple #[.int .u64 (openL q z R a).1, .int .i64 (openL q z R a).2.1]) ∧ RfPost w B br q z v (openL q z R a).2.2 w' := by
  by_cases a0 : a < 0
  · have E : Hid (openL q z R a = (0, 2, R)) := openL_neg a0
    have P : Hid (RfPost w B br q z v R w) := .same h (K.refl _)
    clear h
    go_enter Try.func24, Try.ntmps24
    go_wp2
    go_ret2
    exact ⟨by rw [E.out]; rfl, by rw [E.out]; exact P.out⟩
  obtain ⟨g, ad, cap, rfl, hr, hsrc⟩ := h.src
  have c2 := h.c2
  have hbr := h.lt
  obtain ⟨hl1, hl2⟩ := h.len
  have HT : Aside _ := h
  have A0 : Hid (0 ≤ a) := by show 0 ≤ a; omega
  have HSRC : Aside _ := hsrc
  have z1 := h.wf.z1
  have z0 := h.wf.z0
  obtain ⟨i0, hi, hsz, hby, zz, hz, hzs⟩ := info_refslot
  have HI : Aside (Try.prog.info? 73 = some i0 ∧ i0.size = 3 ∧ i0.bytes = 16 ∧ i0.zero = some zz ∧ zz.cells.size = 3) := ⟨hi, hsz, hby, hz, hzs⟩
  clear h hr hsrc hi hsz hby hz hzs
  go_enter Try.func24, Try.ntmps24
  go_wp2_with (at_builtin
               refine wpList_append_refs _ rfl _ _ rfl w.heap.size _ 0 [] rfl (World.ownsRow_made w #[] 0 (Nat.le_refl _) (by unfold maxLen; omega) rfl) rfl ad R.length cap (rowVals R) rfl (row_len R) (HSRC.out _) (row_one R) (by omega) (by simp) ?_
               intro v3 w3 hown hgrow hat
               rw [Nat.zero_add, List.nil_append] at hown
               have k3 : K w w3 := K.thenGrown (K.refl w) hgrow (made_lo w)
               obtain ⟨g3, cap3, hv3⟩ := own_some hown (by rcases hat with e | e <;> rw [e] <;> rfl)
               subst hv3
               obtain ⟨_, hne, hge, hR4, k4⟩ := HT.out.copy k3 hown
               have hd3 := k3.block HT.out.hd
               have e2 : w3.cell? ⟨br, 2, none⟩ = some (.slice ad R.length cap) := by simp [World.cell?, hd3]
               have q2 : w3.frozen? ⟨br, 2, none⟩ = false := by simp [World.frozen?, hd3]
               clear hown hgrow hat hd3 k3 c2)
  generalize w3.setCell ⟨br, 2, none⟩ (.slice (some ⟨g3, 0, none⟩) R.length cap3) = W at *
  clear e2 q2
  have HR4 : Aside _ := hR4
  have K4 : Aside _ := k4
  clear hR4 k4
  go_loopg [6] R.length (fun gh t wx => ∃ i : Nat, i + gh = R.length ∧ t = .int .i64 i ∧ Aside (∀ (j : Nat) (s : Sl), j < i → R[j]? = some s → fr z s = false) ∧ K W wx)
  case atStart => exact ⟨0, by omega, rfl, fun j s hj => by omega, K.refl _⟩
  case round =>
    obtain ⟨i, hig, rfl, HF, hk⟩ := hrel
    have hR := HR4.out.keep hk
    have c0 := hR.c0
    have c1 := hR.c1
    have c2 := hR.c2
    have b2 := hR.fz 2
    have hbr4 := hR.lt
    by_cases hlt : i < R.length
    · obtain ⟨s, hs⟩ : ∃ s, R[i]? = some s := ⟨_, List.getElem?_eq_getElem hlt⟩
      have hix := run_ixr g3 R.length cap3 i hlt
      obtain ⟨d0, d1, d2, fz⟩ := hR.at hs
      obtain ⟨s0, s1, _⟩ := gen_of HR4.out.wf hs
      have hfl := fr_lt HR4.out.wf hs
      have HS : Aside _ := hs
      have HR : Aside _ := hR
      clear hs hR
      by_cases hfr : fr z s = true
      · have ho : s.o = false := by
          simp [fr] at hfr
          exact hfr.1
        have hgz : s.g < z := by
          rw [hfl, ho] at hfr
          simpa using hfr
        have hfa := freeAt_of HS.out hfr HF.out
        have E : Hid (openL q z R a = (nm (i + 1) (s.g + 1), 0, R.set i ⟨true, s.g + 1, a⟩)) := openL_free A0.out hfa HS.out
        have hwf := wf_openR HR4.out.wf (a := a) a1
        rw [E.out] at hwf
        have HWF : Aside _ := hwf
        have hnm : ∀ w, _ := fun w => rName_any (w := w) ((i : Int) + 1) (s.g + 1) (by omega) (by omega) (by omega) (by omega)
        have f0 := fz (i * 3)
        have f1 := fz (i * 3 + 1)
        have f2 := fz (i * 3 + 2)
        rw [ho] at d0
        have P : Aside (∀ m, RfPost w B br q z (.slice ad R.length cap) (R.set i ⟨true, s.g + 1, a⟩) (Hd.set3 (wr.drewN m) g3 i ⟨true, s.g + 1, a⟩)) := fun m => by
          have kd : K wr (wr.drewN m) := (K.refl wr).drewN m
          have kw : Kept (fun j => j = g3) W (wr.drewN m) := (hk.trans kd).kept _
          have k1 : Kept (fun j => j = g3) W ((wr.drewN m).setCell ⟨g3, i * 3, none⟩ (.bool true)) := kw.setCell _ (.inl rfl)
          have k2 : Kept (fun j => j = g3) W (((wr.drewN m).setCell ⟨g3, i * 3, none⟩ (.bool true)).setCell ⟨g3, i * 3 + 1, none⟩ (.int .u32 (s.g + 1))) := k1.setCell _ (.inl rfl)
          have k3 : Kept (fun j => j = g3) W (Hd.set3 (wr.drewN m) g3 i ⟨true, s.g + 1, a⟩) := k2.setCell (p := ⟨g3, i * 3 + 2, none⟩) (.int .i64 a) (.inl rfl)
          exact RfPost.of (K.refl w) K4.out k3 hge ((HR.out.keep kd).set3 hlt HWF.out)
        clear ho hfr hfl hfa hwf fz
        go_wp2
        go_quiet (fail)
        go_wp2
        go_region
        all_goals
          go_wp2_with (go_at_call 31; refine (hnm _).mono ?_; rintro e w1 ⟨rfl, rfl⟩)
          go_ret2
          exact ⟨by rw [E.out]; rfl, by rw [E.out]; exact P.out _⟩
      · have hfr2 : fr z s = false := by simpa using hfr
        have HFR : Aside _ := hfr2
        have step : ∀ wx : World, K wr wx → ∃ i' : Nat, i' + (R.length - (i + 1)) = R.length ∧ Value.int .i64 ((i : Int) + 1) = .int .i64 i' ∧ Aside (∀ (j : Nat) (s : Sl), j < i' → R[j]? = some s → fr z s = false) ∧ K W wx := fun wx k => by
          refine ⟨i + 1, by omega, by simp, fun j t hj ht => ?_, hk.trans k⟩
          by_cases e : j = i
          · subst e
            obtain rfl : s = t := Option.some.inj (HS.out.symm.trans ht)
            exact HFR.out
          · exact HF.out j t (by omega) ht
        have STEP : Aside _ := step
        cases ho : s.o with
        | true =>
          rw [ho] at d0
          clear ho hfr hfr2 hfl fz step
          go_wp2
          go_quiet (fail)
          go_wp2
          go_roundg (R.length - (i + 1))
          case measure => omega
          case rel => exact STEP.out _ ((K.refl _).drewN _)
        | false =>
          have hgz : ¬ s.g < z := by
            rw [hfl, ho] at hfr2
            simpa using hfr2
          rw [ho] at d0
          clear ho hfr hfr2 hfl fz step
          go_wp2
          go_quiet (fail)
          go_wp2
          go_roundg (R.length - (i + 1))
          case measure => omega
          case rel => exact STEP.out _ ((K.refl _).drewN _)
    · have hnone : freeAt z R = none := freeAt_none.2 fun s hs => by
        obtain ⟨j, hj⟩ := List.getElem?_of_mem hs
        exact HF.out j s (by have := (List.getElem?_eq_some_iff.1 hj).1; omega) hj
      have HR : Aside _ := hR
      by_cases hq : q ≤ (R.length : Int)
      · have E : Hid (openL q z R a = (0, 10, R)) := openL_full A0.out hnone hq
        have P : Aside (∀ wx, K wr wx → RfPost w B br q z (.slice ad R.length cap) R wx) := fun wx k => RfPost.of (K.refl w) K4.out ((hk.trans k).kept _) hge (HR.out.keep k)
        clear hnone HF hR
        go_wp2
        go_quiet (fail)
        go_wp2
        go_ret2
        exact ⟨by rw [E.out]; rfl, by rw [E.out]; exact P.out _ ((K.refl _).drewN _)⟩
      · have E : Hid (openL q z R a = (nm (R.length + 1) 1, 0, R ++ [⟨true, 1, a⟩])) := openL_new A0.out hnone (by omega)
        have hwf := wf_openR HR4.out.wf (a := a) a1
        rw [E.out] at hwf
        have HWF : Aside _ := hwf
        have hnm : ∀ w, _ := fun w => rName_any (w := w) ((R.length : Int) + 1) 1 (by omega) (by omega) (by omega) (by omega)
        have hBw : B ≤ w.heap.size := by have := HT.out.lo; omega
        have hWw := K4.out.size
        have hWr := Kept.size hk
        clear hnone HF hR hwf
        go_wp2
        go_quiet (fail)
        have hRX := HR.out.keep ((K.refl wr).drewN nq)
        have cX := hRX.c2
        have lX := hRX.lt
        have hrowX := hRX.row
        have hszX : wr.heap.size ≤ (wr.drewN nq).heap.size := Kept.size ((K.refl wr).drewN nq)
        have HX : Aside _ := hRX
        have HKX : Aside (K W (wr.drewN nq)) := hk.drewN _
        clear hRX c0 c1 c2 b2 hbr4 hk
        generalize wr.drewN nq = X at *
        go_wp2_with (first
          | (at_builtin
             refine wpList_append_own_at _ rfl _ _ 29 rfl B 73 i0 zz 3 16 Try.underlying29 HI.out.1 HI.out.2.2.2.1 HI.out.2.1 HI.out.2.2.1 HI.out.2.2.2.2 (by decide) _ R.length (rowVals R) rfl (hrowX.alloc _) ⟨X.heap.size, 0, none⟩ 1 1 (slVals ⟨true, 1, a⟩) rfl rfl (src_one X #[.bool true, .int .u32 1, .int .i64 a] 73) (row_one [⟨true, 1, a⟩]) (by unfold maxLen; omega) (by omega) (by simp; omega) ?_
             intro v5 w5 hown hgrow _ hat
             obtain ⟨g5, cap5, hv5⟩ := own_form hown
             subst hv5
             obtain ⟨e5, q5, hR5, hP5⟩ := HX.out.app hown hgrow hat HWF.out hge HKX.out K4.out hWw (v := .slice ad R.length cap)
             have P : Aside _ := hP5
             clear hown hgrow hat hR5 hP5 cX)
          | (go_at_call 31; refine (hnm _).mono ?_; rintro e w1 ⟨rfl, rfl⟩))
        go_ret2
        exact ⟨by rw [E.out]; rfl, by rw [E.out]; exact P.out⟩

end Hd
end Go.Proofs.Ytfokpiapaacagaa
