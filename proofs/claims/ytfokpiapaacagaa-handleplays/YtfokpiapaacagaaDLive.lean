/-
  The walk of Live.
-/
import Derived.Test.YtfokpiapaacagaaDAwake
namespace Go.Proofs.Ytfokpiapaacagaa
open Go.RowKit Go.Maps
namespace Hd
open Hp (Kept K No)
variable {w0 w w' : World} {B bt : Nat} {q z : Int} {v v' : Value} {L L' : List Sl}

def encU (x : Int) : Value := .int .u64 x

theorem live_app : ∀ (A C : List Sl) (n : Int), liveFrom n (A ++ C) = liveFrom n A ++ liveFrom (n + A.length) C
  | [], C, n => by simp [liveFrom]
  | s :: A, C, n => by
    have ih := live_app A C (n + 1)
    have e : n + 1 + (A.length : Int) = n + ((s :: A).length : Int) := by simp; omega
    rw [e] at ih
    generalize n + ((s :: A).length : Int) = m at ih ⊢
    rw [List.cons_append, show liveFrom n (s :: (A ++ C)) = if s.o then nm n s.g :: liveFrom (n + 1) (A ++ C) else liveFrom (n + 1) (A ++ C) from rfl, show liveFrom n (s :: A) = if s.o then nm n s.g :: liveFrom (n + 1) A else liveFrom (n + 1) A from rfl, ih]
    split <;> rfl
theorem live_succ {i : Nat} {s : Sl} (h : L[i]? = some s) : liveL (L.take (i + 1)) = liveL (L.take i) ++ (if s.o then [nm (i + 1) s.g] else []) := by
  obtain ⟨hi, he⟩ := List.getElem?_eq_some_iff.1 h
  unfold liveL
  rw [List.take_succ_eq_append_getElem hi, live_app, he, List.length_take, Nat.min_eq_left (by omega)]
  congr 1
  unfold liveFrom
  rw [show (1 : Int) + i = i + 1 by omega]
  cases s.o <;> rfl
theorem live_len : ∀ (A : List Sl) (n : Int), (liveFrom n A).length ≤ A.length
  | [], _ => Nat.le_refl _
  | s :: A, n => by
    have := live_len A (n + 1)
    unfold liveFrom
    split <;> simp <;> omega

theorem one_u (x : Int) : ∀ u ∈ [encU x], u.oneCell' = true := fun u hu => by
  obtain rfl : u = encU x := by simpa using hu
  rfl

theorem info_handle : ∃ i0, Try.prog.info? 39 = some i0 ∧ i0.size = 1 ∧ i0.bytes = 8 ∧ ∃ z, i0.zero = some z ∧ z.cells.size = 1 := by
  have hi : (Try.prog.info? 39).map (fun i => (i.zero.map (fun z => z.cells.size), i.size, i.bytes)) = some (some 1, 1, 8) := by kernel_rfl
  obtain ⟨i0, h1, h2⟩ := Option.map_eq_some_iff.1 hi
  simp only [Prod.mk.injEq] at h2
  obtain ⟨h3, h4, h5⟩ := h2
  obtain ⟨z, h6, h7⟩ := Option.map_eq_some_iff.1 h3
  exact ⟨i0, h1, h4, h5, z, h6, h7⟩

theorem K.thenGrown {w1 : World} {o : Obj} (h : K w0 w) {row : Option Nat} (hg : (w.alloc o).grownBy w1 row) (hr : ∀ g, some g = row → w0.heap.size ≤ g) : K w0 w1 := by
  have hsz := hg.size
  simp at hsz
  exact ⟨hg.os.trans h.os, hg.tape.trans h.tape, hg.output.trans h.output, Nat.le_trans h.size (by omega), fun j hj hn => by
    have hjw := Nat.lt_of_lt_of_le hj h.size
    rw [hg.block j (by simp; omega) (fun e => by have := hr j e; omega), Below.heap_alloc w o j hjw]
    exact h.same j hj hn⟩

set_option maxHeartbeats 1000000 in
theorem live_any (h : Tab w B bt q z v L) : Calls Try.prog 14 #[tp bt] w fun e w' => ∃ v', e = .returned v' ∧ w'.ownsRow w.heap.size 39 1 v' (liveL L).length ((liveL L).map encU) ∧ K w w' := by
  have hm := made_ok h
  obtain ⟨g, a, cap, rfl, hr, hg, hcap⟩ := h.form
  have c2 := h.c2
  have hlen := h.wf.len
  have hq1 := h.wf.q1
  obtain ⟨i0, hi, hsz, hby, zz, hz, hzs⟩ := info_handle
  have HI : Aside (Try.prog.info? 39 = some i0 ∧ i0.size = 1 ∧ i0.bytes = 8 ∧ i0.zero = some zz ∧ zz.cells.size = 1) := ⟨hi, hsz, hby, hz, hzs⟩
  have HT : Aside _ := h
  have HR : Aside _ := hr
  clear h hr hg hi hsz hby hz hzs
  go_enter Try.func14, Try.ntmps14
  go_wp2_with (go_at_call 28; refine hm.mono ?_; rintro e w1 ⟨rfl, rfl⟩)
  go_loopg [3, 14] L.length (fun gh t3 t wx => ∃ (i n : Nat), i + gh = L.length ∧ t = .int .i64 i ∧ n ≤ i ∧ Aside (wx.ownsRow w.heap.size 39 1 t3 n ((liveL (L.take i)).map encU)) ∧ Aside (n = (liveL (L.take i)).length) ∧ K w wx)
  case atStart => exact ⟨0, 0, by omega, rfl, Nat.le_refl _, World.ownsRow_nil _ _ _ _, rfl, K.refl _⟩
  case round =>
    obtain ⟨i, n, hig, rfl, hni, HW, HN, hk⟩ := hrel
    by_cases hlt : i < L.length
    · obtain ⟨s, hs⟩ : ∃ s, L[i]? = some s := ⟨L[i], List.getElem?_eq_getElem hlt⟩
      have hix := HR.out.ix i hlt
      have hrx := HR.out.keep hk
      have d0 := hrx.c0 i s hs
      have d1 := hrx.c1 i s hs
      have d2 := hrx.c2 i s hs
      have hk2 := hk.alloc (.cells #[.bool s.o, .int .u32 s.g, .int .i64 s.a] 62)
      have hkd := kindOf_any (HT.out.keep hk2) s
      have hok := HT.out.wf.get hs
      have g1 : s.g ≤ 4294967295 := Int.le_trans hok.hi HT.out.wf.z1
      have g0 := hok.lo
      have HS : Aside _ := hs
      clear hs hrx hok
      go_wp2_with fail
      refine hkd.mono ?_
      rintro e w2 ⟨rfl, hk3⟩
      have hk4 := hk2.trans hk3
      by_cases ho : s.o = true
      · have hd : (kd z s == 1) = true := by simp [kd, ho]
        have hnm : ∀ w, _ := fun w => name_any (w := w) ((i : Int) + 1) s.g (by omega) (by omega) (by omega) g1
        have d5 : w2.cell? ⟨wr.heap.size, 1, none⟩ = some (.int .u32 s.g) := hk3.cell (by simp [World.cell?_alloc_new])
        have hrow : w2.ownsRow w.heap.size 39 1 u3 n ((liveL (L.take i)).map encU) := ownsRow_kept (O := No) HW.out (((K.refl wr).alloc _).trans hk3) (fun _ _ x => x)
        have HO : Aside _ := ho
        have hB := Kept.size hk4
        clear hkd ho
        go_wp2_with (first
          | (go_at_call 30; refine (hnm _).mono ?_; rintro e w1 ⟨rfl, rfl⟩)
          | (at_builtin
             refine wpList_append_own_at _ rfl _ _ 34 rfl w.heap.size 39 i0 zz 1 8 Try.underlying34 HI.out.1 HI.out.2.2.2.1 HI.out.2.1 HI.out.2.2.1 HI.out.2.2.2.2 (by decide) _ n _ rfl (hrow.alloc _) ⟨w2.heap.size, 0, none⟩ 1 1 [encU (nm (i + 1) s.g)] rfl rfl (src_one w2 #[.int .u64 (nm (i + 1) s.g)] 39) (one_u _) (by unfold maxLen; omega) (by omega) (by simp; omega) ?_
             intro v4 w4 hown hgrow _ hat))
        go_roundg (L.length - (i + 1))
        case measure => omega
        case rel =>
          have e : liveL (L.take (i + 1)) = liveL (L.take i) ++ [nm (i + 1) s.g] := by
            rw [live_succ HS.out, if_pos HO.out]
          refine ⟨i + 1, n + 1, by omega, by go_num, by omega, ?_, ?_, K.thenGrown hk4 hgrow (fun g hg => (own_lt hrow hg).1)⟩
          · rw [e, List.map_append]
            exact hown
          · rw [e, List.length_append, ← HN.out]
            rfl
      · have hd : (kd z s == 1) = false := by
          by_cases e : s.g = z <;> simp [kd, ho, e]
        have HO : Aside _ := ho
        clear hkd ho
        go_wp2
        go_roundg (L.length - (i + 1))
        case measure => omega
        case rel =>
          have e : liveL (L.take (i + 1)) = liveL (L.take i) := by
            rw [live_succ HS.out, if_neg HO.out, List.append_nil]
          refine ⟨i + 1, n, by omega, by go_num, by omega, ?_, ?_, hk4⟩
          · rw [e]
            exact ownsRow_kept (O := No) HW.out (((K.refl wr).alloc _).trans hk3) (fun _ _ x => x)
          · rw [e]
            exact HN.out
    · go_wp2
      go_ret
      have e : L.take i = L := List.take_of_length_le (by omega)
      have := HW.out
      rw [HN.out, e] at this
      exact ⟨_, rfl, this, hk⟩

end Hd
end Go.Proofs.Ytfokpiapaacagaa
