/-
  The reference's table in memory; walks of its functions that only read.
-/
import Derived.Test.YtfokpiapaacagaaDRefF
namespace Go.Proofs.Ytfokpiapaacagaa
open Go.RowKit Go.Maps
namespace Hd
open Hp (Kept K No)
variable {w w' : World} {B br : Nat} {q z : Int} {v : Value} {R R' : List Sl}

theorem run_ixr (g len cap i : Nat) (hi : i < len) (w' : World) : (Instr.indexAt 29 (.slice (some ⟨g, 0, none⟩) len cap) (.int .i64 (i : Int))).run Try.prog w' = .ok (.pointer (some ⟨g, i * 3, none⟩)) w' := by
  have hel : Try.prog.elem 29 = 73 := by kernel_rfl
  have hsz : (sizeOf 73).run Try.prog w' = .ok 3 w' := by kernel_rfl
  have hu : Try.prog.underlying 29 = some (.slice (Try.prog.elem 29)) := by kernel_rfl
  rw [run_indexAt_slice w' 29 _ len cap .i64 i hu, if_pos (by omega), hel, hsz]
  simp only [Result.andThen_ok, Int.toNat_natCast]
  rw [Go.WideShapes.add_plain, Nat.zero_add]

/-- The slots' row, at block g. -/
structure RowR (w : World) (g : Nat) (a : Option Addr) (cap : Nat) (L : List Sl) : Prop where
  ix : ∀ i : Nat, i < L.length → ∀ w', (Instr.indexAt 29 (.slice a L.length cap) (.int .i64 (i : Int))).run Try.prog w' = .ok (.pointer (some ⟨g, i * 3, none⟩)) w'
  c0 : ∀ (i : Nat) (s : Sl), L[i]? = some s → w.cell? ⟨g, i * 3, none⟩ = some (.bool s.o)
  c1 : ∀ (i : Nat) (s : Sl), L[i]? = some s → w.cell? ⟨g, i * 3 + 1, none⟩ = some (.int .u32 s.g)
  c2 : ∀ (i : Nat) (s : Sl), L[i]? = some s → w.cell? ⟨g, i * 3 + 2, none⟩ = some (.int .i64 s.a)
theorem RowR.keep {g : Nat} {a : Option Addr} {cap : Nat} (h : RowR w g a cap R) (k : K w w') : RowR w' g a cap R :=
  ⟨h.ix, fun i s hs => k.cell (h.c0 i s hs), fun i s hs => k.cell (h.c1 i s hs), fun i s hs => k.cell (h.c2 i s hs)⟩

theorem rowR_form (h : w.ownsRow B 73 3 v R.length (rowVals R)) : ∃ g a cap, v = .slice a R.length cap ∧ RowR w g a cap R ∧ (a = some ⟨g, 0, none⟩ ∨ (a = none ∧ R = [] ∧ cap = 0)) ∧ R.length ≤ cap ∧ (∀ j u, (rowVals R)[j]? = some u → w.cell? ⟨g, j, none⟩ = some u) ∧ (0 < R.length → ∀ j, w.frozen? ⟨g, j, none⟩ = false) := by
  rcases h.2 with ⟨h1, h0⟩ | ⟨g, cap, cur, h1, hbase, hbk, h2, h3, h4, h5⟩
  · have hK : R = [] := List.eq_nil_of_length_eq_zero h0
    subst hK
    exact ⟨0, none, 0, by rw [h1]; rfl, ⟨fun i hi => by simp at hi, fun i N hi => by simp at hi, fun i N hi => by simp at hi, fun i N hi => by simp at hi⟩, Or.inr ⟨rfl, rfl, rfl⟩, Nat.le_refl _, fun j u hu => by simp [rowVals] at hu, fun h => by simp at h⟩
  · have cell : ∀ (j : Nat) (u : Value), (rowVals R)[j]? = some u → w.cell? ⟨g, j, none⟩ = some u := fun j u hu => by
      have hj := (List.getElem?_eq_some_iff.1 hu).1
      rw [row_len] at hj
      rw [← h5, List.getElem?_take, if_pos hj] at hu
      simp only [World.cell?, hbk]
      rw [if_neg (by simp), ← Array.getElem?_toList]
      exact hu
    exact ⟨g, some ⟨g, 0, none⟩, cap, h1, ⟨fun i hi w' => run_ixr g _ _ i hi w', fun i s hs => cell _ _ (row_at hs).1, fun i s hs => cell _ _ (row_at hs).2.1, fun i s hs => cell _ _ (row_at hs).2.2⟩, Or.inl rfl, h2, cell, fun _ j => by simp [World.frozen?, hbk]⟩

structure Rf (w : World) (B br : Nat) (q z : Int) (v : Value) (R : List Sl) : Prop where
  hd : w.heap[br]? = some (.cells #[.int .i64 q, .int .u32 z, v] 31)
  row : w.ownsRow B 73 3 v R.length (rowVals R)
  ap : v.ownBlock ≠ some br
  wf : Wf q z (cls R)
  lo : B ≤ br

theorem Rf.c0 (h : Rf w B br q z v R) : w.cell? ⟨br, 0, none⟩ = some (.int .i64 q) := by simp [World.cell?, h.hd]
theorem Rf.c1 (h : Rf w B br q z v R) : w.cell? ⟨br, 1, none⟩ = some (.int .u32 z) := by simp [World.cell?, h.hd]
theorem Rf.c2 (h : Rf w B br q z v R) : w.cell? ⟨br, 2, none⟩ = some v := by simp [World.cell?, h.hd]
theorem Rf.fz (h : Rf w B br q z v R) (i : Nat) : w.frozen? ⟨br, i, none⟩ = false := by simp [World.frozen?, h.hd]
theorem Rf.lt (h : Rf w B br q z v R) : br < w.heap.size := (Array.getElem?_eq_some_iff.1 h.hd).1
theorem Rf.kept (h : Rf w B br q z v R) {O : Nat → Prop} (k : Kept O w w') (hO : ∀ g, foot br v g → ¬ O g) : Rf w' B br q z v R :=
  ⟨k.block h.hd (hO br (.inl rfl)), ownsRow_kept h.row k (fun g hg => hO g (.inr hg)), h.ap, h.wf, h.lo⟩
theorem Rf.keep (h : Rf w B br q z v R) (k : K w w') : Rf w' B br q z v R := h.kept k (fun _ _ x => x)
theorem Rf.foot_lt (h : Rf w B br q z v R) {g : Nat} (hg : foot br v g) : B ≤ g ∧ g < w.heap.size := by
  rcases hg with rfl | hg
  · exact ⟨h.lo, h.lt⟩
  · exact own_lt h.row hg
theorem Rf.len (h : Rf w B br q z v R) : (R.length : Int) ≤ q ∧ q ≤ 65536 := by
  have := h.wf.len
  rw [cls_len] at this
  exact ⟨this, h.wf.q1⟩

theorem rName_any (n g : Int) (n0 : 0 ≤ n) (n1 : n ≤ 65536) (g0 : 0 ≤ g) (g1 : g ≤ 4294967295) : Calls Try.prog 31 #[.int .i64 n, .int .u32 g] w fun e w' => e = .returned (.int .u64 (nm n g)) ∧ w = w' := by
  have E : Hid (nm n g = g * 4294967296 + n) := rfl
  go_enter Try.func31, Try.ntmps31
  go_wp2
  go_ret
  exact ⟨by rw [E.out]; rfl, rfl⟩

def fdI (R : List Sl) (h : Int) : Int := match findL R h with | some i => i | none => -1

theorem findL_eq {h : Int} {i : Nat} {s : Sl} (hw : Wf q z (cls R)) (hs : R[i]? = some s) (ho : s.o = true) (e : nm (i + 1) s.g = h) : findL R h = some i := by
  rw [← e]
  exact findL_of hs ho (by have := (gen_of hw hs).2.2; omega)
theorem findL_no {h : Int} (hx : ∀ (i : Nat) (s : Sl), R[i]? = some s → s.o = true → nm (i + 1) s.g ≠ h) : findL R h = none := by
  cases e : findL R h with
  | none => rfl
  | some i =>
    obtain ⟨s, hs, ho, hg, hi⟩ := findL_some e
    exact absurd (by unfold nm; omega) (hx i s hs ho)

set_option maxHeartbeats 1000000 in
theorem rFind_any {g cap : Nat} {a : Option Addr} (hr : RowR w g a cap R) (hw : Wf q z (cls R)) (h : Int) : Calls Try.prog 36 #[.agg #[.int .i64 q, .int .u32 z, .slice a R.length cap], .int .u64 h] w fun e w' => e = .returned (.int .i64 (fdI R h)) ∧ K w w' := by
  have hk0 : K w (w.alloc (.cells #[.int .i64 q, .int .u32 z, .slice a R.length cap] 31)) := (K.refl _).alloc _
  have HR : Aside _ := hr.keep hk0
  have HW : Aside _ := hw
  have hl := hw.len
  have hq := hw.q1
  rw [cls_len] at hl
  clear hr hw
  go_enter Try.func36, Try.ntmps36
  go_wp2
  go_loopg [5] R.length (fun gh t wx => ∃ i : Nat, i + gh = R.length ∧ t = .int .i64 i ∧ Aside (∀ (j : Nat) (s : Sl), j < i → R[j]? = some s → s.o = true → nm (j + 1) s.g ≠ h) ∧ w.alloc (.cells #[.int .i64 q, .int .u32 z, .slice a R.length cap] 31) = wx)
  case atStart => exact ⟨0, by omega, rfl, fun j s hj => by omega, rfl⟩
  case round =>
    obtain ⟨i, hig, rfl, HI, rfl⟩ := hrel
    by_cases hlt : i < R.length
    · obtain ⟨s, hs⟩ : ∃ s, R[i]? = some s := ⟨_, List.getElem?_eq_getElem hlt⟩
      have hix := HR.out.ix i hlt
      have d0 := HR.out.c0 i s hs
      have d1 := HR.out.c1 i s hs
      obtain ⟨g0, g1, i1⟩ := gen_of HW.out hs
      have z1 := HW.out.z1
      have hnm : ∀ w, _ := fun w => rName_any (w := w) ((i : Int) + 1) s.g (by omega) (by omega) (by omega) (by omega)
      have HS : Aside _ := hs
      clear hs
      by_cases ho : s.o = true
      · rw [ho] at d0
        by_cases hn : nm (i + 1) s.g = h
        · have hd : (nm ((i : Int) + 1) s.g == h) = true := by simpa using hn
          have E : Hid (fdI R h = i) := by
            show fdI R h = i
            unfold fdI
            rw [findL_eq HW.out HS.out ho hn]
          clear hn ho
          go_wp2_with (go_at_call 31; refine (hnm _).mono ?_; rintro e w1 ⟨rfl, rfl⟩)
          go_ret
          exact ⟨by rw [E.out]; rfl, hk0⟩
        · have hd : (nm ((i : Int) + 1) s.g == h) = false := by simpa using hn
          have HNE : Aside _ := hn
          clear hn ho
          go_wp2_with (go_at_call 31; refine (hnm _).mono ?_; rintro e w1 ⟨rfl, rfl⟩)
          go_roundg (R.length - (i + 1))
          case measure => omega
          case rel =>
            refine ⟨i + 1, by omega, by go_num, fun j t hj ht hto => ?_, rfl⟩
            by_cases e : j = i
            · subst e
              obtain rfl : s = t := Option.some.inj (HS.out.symm.trans ht)
              exact HNE.out
            · exact HI.out j t (by omega) ht hto
      · have ho2 : s.o = false := by simpa using ho
        rw [ho2] at d0
        have HO : Aside _ := ho
        clear ho ho2
        go_wp2
        go_roundg (R.length - (i + 1))
        case measure => omega
        case rel =>
          refine ⟨i + 1, by omega, by go_num, fun j t hj ht hto => ?_, rfl⟩
          by_cases e : j = i
          · subst e
            obtain rfl : s = t := Option.some.inj (HS.out.symm.trans ht)
            exact absurd hto HO.out
          · exact HI.out j t (by omega) ht hto
    · have E : Hid (fdI R h = -1) := by
        show fdI R h = -1
        unfold fdI
        rw [findL_no (fun i' s hs ho => HI.out i' s (by have := (List.getElem?_eq_some_iff.1 hs).1; omega) hs ho)]
      go_wp2
      go_ret
      exact ⟨by rw [E.out]; rfl, hk0⟩

theorem rAt_any {g cap : Nat} {a : Option Addr} (hr : RowR w g a cap R) (hw : Wf q z (cls R)) (h : Int) : Calls Try.prog 25 #[.agg #[.int .i64 q, .int .u32 z, .slice a R.length cap], .int .u64 h] w fun e w' => e = .returned (.tuple #[.int .i64 (atL R h).1, .int .i64 (atL R h).2]) ∧ K w w' := by
  have hk0 : K w (w.alloc (.cells #[.int .i64 q, .int .u32 z, .slice a R.length cap] 31)) := (K.refl _).alloc _
  have hb : (w.alloc (.cells #[.int .i64 q, .int .u32 z, .slice a R.length cap] 31)).heap[w.heap.size]? = some (.cells #[.int .i64 q, .int .u32 z, .slice a R.length cap] 31) := (MapKept.heap_alloc w _).1
  have hf := rFind_any (hr.keep hk0) hw h
  have HR : Aside _ := hr.keep hk0
  clear hr hw
  go_enter Try.func25, Try.ntmps25
  go_wp2_with fail
  refine hf.mono ?_
  rintro e w1 ⟨rfl, hk⟩
  have hb1 := hk.block hb
  have b2 : w1.cell? ⟨w.heap.size, 2, none⟩ = some (.slice a R.length cap) := by simp [World.cell?, hb1]
  clear hf hb hb1
  cases e : findL R h with
  | none =>
    have E : Hid (atL R h = (0, 7)) := atL_none e
    have hfd : fdI R h = -1 := by simp [fdI, e]
    rw [hfd]
    clear e hfd
    go_wp2
    go_ret2
    exact ⟨by rw [E.out]; rfl, hk0.trans hk⟩
  | some i =>
    obtain ⟨s, hs, _⟩ := findL_some e
    have E : Hid (atL R h = (s.a, 0)) := atL_some e hs
    have hfd : fdI R h = i := by simp [fdI, e]
    have hlt := (List.getElem?_eq_some_iff.1 hs).1
    have hix := HR.out.ix i hlt
    have d2 := (HR.out.keep hk).c2 i s hs
    rw [hfd]
    clear e hfd hs
    go_wp2
    go_ret2
    exact ⟨by rw [E.out]; rfl, hk0.trans hk⟩

set_option maxHeartbeats 1000000 in
theorem rLive_any {g cap : Nat} {a : Option Addr} (hr : RowR w g a cap R) (hw : Wf q z (cls R)) : Calls Try.prog 15 #[.agg #[.int .i64 q, .int .u32 z, .slice a R.length cap]] w fun e w' => ∃ v', e = .returned v' ∧ w'.ownsRow w.heap.size 39 1 v' (liveL R).length ((liveL R).map encU) ∧ K w w' := by
  have hk0 : K w (w.alloc (.cells #[.int .i64 q, .int .u32 z, .slice a R.length cap] 31)) := (K.refl _).alloc _
  have hb : (w.alloc (.cells #[.int .i64 q, .int .u32 z, .slice a R.length cap] 31)).heap[w.heap.size]? = some (.cells #[.int .i64 q, .int .u32 z, .slice a R.length cap] 31) := (MapKept.heap_alloc w _).1
  have HR : Aside _ := hr.keep hk0
  have HW : Aside _ := hw
  have hl := hw.len
  have hq := hw.q1
  rw [cls_len] at hl
  obtain ⟨i0, hi, hsz, hby, zz, hz, hzs⟩ := info_handle
  have HI : Aside (Try.prog.info? 39 = some i0 ∧ i0.size = 1 ∧ i0.bytes = 8 ∧ i0.zero = some zz ∧ zz.cells.size = 1) := ⟨hi, hsz, hby, hz, hzs⟩
  have HWS : Aside ((w.alloc (.cells #[.int .i64 q, .int .u32 z, .slice a R.length cap] 31)).heap.size ≤ w.heap.size + 1) := by show _ ≤ _; simp
  clear hr hw hi hsz hby hz hzs
  go_enter Try.func15, Try.ntmps15
  go_wp2
  generalize w.alloc (.cells #[.int .i64 q, .int .u32 z, .slice a R.length cap] 31) = W at *
  go_loopg [3, 4] R.length (fun gh t3 t4 wx => ∃ (i n : Nat), i + gh = R.length ∧ t4 = .int .i64 i ∧ n ≤ i ∧ Aside (wx.ownsRow (w.heap.size + 1) 39 1 t3 n ((liveL (R.take i)).map encU)) ∧ Aside (n = (liveL (R.take i)).length) ∧ K W wx)
  case atStart => exact ⟨0, 0, by omega, rfl, Nat.le_refl _, World.ownsRow_nil _ _ _ _, rfl, K.refl _⟩
  case round =>
    obtain ⟨i, n, hig, rfl, hni, HWR, HN, hk⟩ := hrel
    have hbx := hk.block hb
    have b2 : wr.cell? ⟨w.heap.size, 2, none⟩ = some (.slice a R.length cap) := by simp [World.cell?, hbx]
    have hB : w.heap.size + 1 ≤ wr.heap.size := (Array.getElem?_eq_some_iff.1 hbx).1
    clear hbx
    by_cases hlt : i < R.length
    · obtain ⟨s, hs⟩ : ∃ s, R[i]? = some s := ⟨_, List.getElem?_eq_getElem hlt⟩
      have hix := HR.out.ix i hlt
      have hrx := HR.out.keep hk
      have d0 := hrx.c0 i s hs
      have d1 := hrx.c1 i s hs
      obtain ⟨g0, g1, i1⟩ := gen_of HW.out hs
      have z1 := HW.out.z1
      have hnm : ∀ w, _ := fun w => rName_any (w := w) ((i : Int) + 1) s.g (by omega) (by omega) (by omega) (by omega)
      have HS : Aside _ := hs
      clear hs hrx
      by_cases ho : s.o = true
      · rw [ho] at d0
        have HO : Aside _ := ho
        have hrow := HWR.out
        clear ho
        go_wp2_with (first
          | (go_at_call 31; refine (hnm _).mono ?_; rintro e w1 ⟨rfl, rfl⟩)
          | (at_builtin
             refine wpList_append_own_at _ rfl _ _ 34 rfl (w.heap.size + 1) 39 i0 zz 1 8 Try.underlying34 HI.out.1 HI.out.2.2.2.1 HI.out.2.1 HI.out.2.2.1 HI.out.2.2.2.2 (by decide) _ n _ rfl (hrow.alloc _) ⟨wr.heap.size, 0, none⟩ 1 1 [encU (nm (i + 1) s.g)] rfl rfl (src_one wr #[.int .u64 (nm (i + 1) s.g)] 39) (one_u _) (by unfold maxLen; omega) (by omega) (by simp; omega) ?_
             intro v4 w4 hown hgrow _ hat))
        have kk4 : K W w4 := by
          have kg : Kept (fun k => some k = u3.ownBlock) wr w4 := by
            have hs4 := hgrow.size
            simp at hs4
            exact ⟨hgrow.os, hgrow.tape, hgrow.output, by omega, fun k hk hn => by
              rw [hgrow.block k (by simp; omega) hn]
              exact Below.heap_alloc wr _ k hk⟩
          have hWs : W.heap.size ≤ w.heap.size + 1 := HWS.out
          exact ⟨kg.os.trans hk.os, kg.tape.trans hk.tape, kg.output.trans hk.output, Nat.le_trans (Kept.size hk) kg.size, fun j hj hn => (kg.same j (Nat.lt_of_lt_of_le hj (Kept.size hk)) (fun e => by have := (own_lt hrow e).1; omega)).trans (Kept.same hk j hj hn)⟩
        go_roundg (R.length - (i + 1))
        case measure => omega
        case rel =>
          have e : liveL (R.take (i + 1)) = liveL (R.take i) ++ [nm (i + 1) s.g] := by
            rw [live_succ HS.out, if_pos HO.out]
          refine ⟨i + 1, n + 1, by omega, by go_num, by omega, ?_, ?_, kk4⟩
          · rw [e, List.map_append]
            exact hown
          · rw [e, List.length_append, ← HN.out]
            rfl
      · have ho2 : s.o = false := by simpa using ho
        rw [ho2] at d0
        have HO : Aside _ := ho
        clear ho ho2
        go_wp2
        go_roundg (R.length - (i + 1))
        case measure => omega
        case rel =>
          have e : liveL (R.take (i + 1)) = liveL (R.take i) := by
            rw [live_succ HS.out, if_neg HO.out, List.append_nil]
          refine ⟨i + 1, n, by omega, by go_num, by omega, ?_, ?_, hk⟩
          · rw [e]
            exact HWR.out
          · rw [e]
            exact HN.out
    · go_wp2
      go_ret
      have e : R.take i = R := List.take_of_length_le (by omega)
      have h2 := HWR.out
      rw [HN.out, e] at h2
      refine ⟨_, rfl, ⟨h2.1, ?_⟩, hk0.trans hk⟩
      rcases h2.2 with h3 | ⟨g, cap, cur, e, hb, rest⟩
      · exact .inl h3
      · exact .inr ⟨g, cap, cur, e, by omega, rest⟩

set_option maxHeartbeats 1000000 in
theorem rSame_any {xs : List Int} {n B1 B2 : Nat} {v1 v2 : Value} (h1 : w.ownsRow B1 39 1 v1 n (xs.map encU)) (h2 : w.ownsRow B2 39 1 v2 n (xs.map encU)) (hn : xs.length = n) (hl : n ≤ 65536) : Calls Try.prog 13 #[v1, v2] w fun e w' => e = .returned (.bool true) ∧ K w w' := by
  have f1 : ∃ a cap, v1 = .slice a n cap := by
    rcases h1.2 with ⟨hv, h0⟩ | ⟨g, c, cur, hv, _⟩
    · exact ⟨none, 0, by rw [hv, h0]⟩
    · exact ⟨_, _, hv⟩
  have f2 : ∃ a cap, v2 = .slice a n cap := by
    rcases h2.2 with ⟨hv, h0⟩ | ⟨g, c, cur, hv, _⟩
    · exact ⟨none, 0, by rw [hv, h0]⟩
    · exact ⟨_, _, hv⟩
  obtain ⟨a1, c1, rfl⟩ := f1
  obtain ⟨a2, c2, rfl⟩ := f2
  have key : ∀ (a : Option Addr) (B c : Nat), w.ownsRow B 39 1 (.slice a n c) n (xs.map encU) → ∀ (i : Nat) (x : Int), xs[i]? = some x → ∃ g, (∀ w', (Instr.indexAt 34 (.slice a n c) (.int .i64 (i : Int))).run Try.prog w' = .ok (.pointer (some ⟨g, i, none⟩)) w') ∧ w.cell? ⟨g, i, none⟩ = some (.int .u64 x) := fun a B c ho i x hx => by
    have hi := (List.getElem?_eq_some_iff.1 hx).1
    rcases ho.2 with ⟨hv, h0⟩ | ⟨g, cap, cur, hv, _, hg, _, _, _, ht⟩
    · omega
    · cases hv
      refine ⟨g, fun w' => ?_, ?_⟩
      · have hel : Try.prog.elem 34 = 39 := by kernel_rfl
        have hsz : (sizeOf 39).run Try.prog w' = .ok 1 w' := by kernel_rfl
        have hu : Try.prog.underlying 34 = some (.slice (Try.prog.elem 34)) := by kernel_rfl
        rw [run_indexAt_slice w' 34 _ n c .i64 i hu, if_pos (by omega), hel, hsz]
        simp only [Result.andThen_ok, Int.toNat_natCast, Nat.mul_one]
        rw [Go.WideShapes.add_plain, Nat.zero_add]
      · have hx2 : (xs.map encU)[i]? = some (encU x) := by simp [hx]
        rw [← ht, List.getElem?_take, if_pos (by omega)] at hx2
        simp only [World.cell?, hg]
        rw [if_neg (by simp), ← Array.getElem?_toList]
        exact hx2
  have K1 : Aside _ := key a1 B1 c1 h1
  have K2 : Aside _ := key a2 B2 c2 h2
  have HN : Aside _ := hn
  clear h1 h2 key hn
  go_enter Try.func13, Try.ntmps13
  go_wp2
  go_loopg [5] n (fun gh t wx => ∃ i : Nat, i + gh = n ∧ t = .int .i64 i ∧ K w wx)
  case atStart => exact ⟨0, by omega, rfl, K.refl _⟩
  case round =>
    obtain ⟨i, hig, rfl, hk⟩ := hrel
    by_cases hlt : i < n
    · obtain ⟨x, hx⟩ : ∃ x, xs[i]? = some x := ⟨_, List.getElem?_eq_getElem (by rw [HN.out]; exact hlt)⟩
      obtain ⟨g1, ix1, d1⟩ := K1.out i x hx
      obtain ⟨g2, ix2, d2⟩ := K2.out i x hx
      have e1 := hk.cell d1
      have e2 := hk.cell d2
      have hxx : (x != x) = false := by simp
      clear hx d1 d2
      go_wp2
      go_quiet (fail)
      go_wp2
      go_roundg (n - (i + 1))
      case measure => omega
      case rel => exact ⟨i + 1, by omega, by go_num, hk.drewN _⟩
    · go_wp2
      go_ret
      exact ⟨rfl, hk⟩

end Hd
end Go.Proofs.Ytfokpiapaacagaa
