/-
  Walks of Clone, Raw, mayBe, Of.
-/
import Derived.Test.YtfokpiapaacagaaDLive
import Derived.WalkSpells
namespace Go.Proofs.Ytfokpiapaacagaa
open Go.RowKit Go.Maps
namespace Hd
open Hp (Kept K No)
variable {w w' : World} {B bt : Nat} {q z : Int} {v : Value} {L : List Sl}

/-- A slice that holds the slots L: nil, or the cells behind an address. -/
structure Src (w : World) (a : Option Addr) (b off n cap : Nat) (L : List Sl) : Prop where
  len : L.length = n
  ix : ∀ i : Nat, i < n → ∀ w', (Instr.indexAt 47 (.slice a n cap) (.int .i64 (i : Int))).run Try.prog w' = .ok (.pointer (some ⟨b, off + i * 3, none⟩)) w'
  cell : ∀ j u, (rowVals L)[j]? = some u → w.cell? ⟨b, off + j, none⟩ = some u
  form : 0 < n → a = some ⟨b, off, none⟩
theorem Src.keep {a : Option Addr} {b off n cap : Nat} (h : Src w a b off n cap L) (k : K w w') : Src w' a b off n cap L := ⟨h.len, h.ix, fun j u hu => k.cell (h.cell j u hu), h.form⟩

/-- A row of one's own is such a slice. -/
theorem src_own (h : w.ownsRow B 62 3 v L.length (rowVals L)) : ∃ a g cap, v = .slice a L.length cap ∧ Src w a g 0 L.length cap L := by
  obtain ⟨g, a, cap, hv, hr, hf, _⟩ := row_form h
  refine ⟨a, g, cap, hv, rfl, fun i hi w' => by rw [Nat.zero_add]; exact hr.ix i hi w', fun j u hu => ?_, fun hp => ?_⟩
  · rw [Nat.zero_add]
    rcases h.2 with ⟨_, h0⟩ | ⟨g2, c2, cur, hv2, _, hbk, _, _, _, h5⟩
    · have : L = [] := List.eq_nil_of_length_eq_zero h0
      subst this
      simp [rowVals] at hu
    · rw [hv] at hv2
      cases hv2
      rcases hf with ⟨he, _⟩ | ⟨he, _⟩
      · cases he
        have hj := (List.getElem?_eq_some_iff.1 hu).1
        rw [row_len] at hj
        rw [← h5, List.getElem?_take, if_pos hj] at hu
        simp only [World.cell?, hbk]
        rw [if_neg (by simp), ← Array.getElem?_toList]
        exact hu
      · cases he
  · rcases hf with ⟨he, _⟩ | ⟨_, he, _⟩
    · exact he
    · subst he
      simp at hp

set_option maxHeartbeats 1000000 in
theorem clone_any {a : Option Addr} {b off n cap : Nat} (h : Src w a b off n cap L) (hn : n ≤ 65536) : Calls Try.prog 35 #[.slice a n cap] w fun e w' => ∃ v', e = .returned v' ∧ w'.ownsRow w.heap.size 62 3 v' n (rowVals L) ∧ K w w' := by
  obtain ⟨i0, hi, hsz, hby, zz, hz, hzs⟩ := info_slot
  have HI : Aside (Try.prog.info? 62 = some i0 ∧ i0.size = 3 ∧ i0.bytes = 16 ∧ i0.zero = some zz ∧ zz.cells.size = 3) := ⟨hi, hsz, hby, hz, hzs⟩
  have hlen := h.len
  have HL : Aside (L.length = n) := hlen
  have HS : Aside _ := h
  clear hi hsz hby hz hzs h hlen
  cases a with
  | none =>
    have h0 : n = 0 := by
      by_cases e : n = 0
      · exact e
      · have := HS.out.form (by omega)
        cases this
    subst h0
    have hL : L = [] := List.eq_nil_of_length_eq_zero HL.out
    subst hL
    clear HS HL
    have heq : ∀ w, (binOp .eql 47 (.slice none 0 cap) (.slice none 0 0)).run Try.prog w = .ok (.bool true) w := fun w => Lib.run_eql_slice_nil w 47 62 none 0 cap 0 0 Try.underlying47
    go_enter Try.func35, Try.ntmps35
    go_wp2
    go_ret
    exact ⟨_, rfl, World.ownsRow_nil _ _ _ _, K.refl _⟩
  | some ad =>
    have hsrc : ∀ j u, (rowVals L)[j]? = some u → (w.alloc (.cells #[] 62)).cell? (ad.add j) = some u := fun j u hu => by
      have hp : 0 < n := by
        have := (List.getElem?_eq_some_iff.1 hu).1
        rw [row_len, HL.out] at this
        omega
      have e := HS.out.form hp
      cases e
      rw [Go.WideShapes.add_plain]
      exact ((K.refl w).alloc (.cells #[] 62)).cell (HS.out.cell j u hu)
    have HSRC : Aside _ := hsrc
    clear hsrc
    have heq : ∀ w, (binOp .eql 47 (.slice (some ad) n cap) (.slice none 0 0)).run Try.prog w = .ok (.bool false) w := fun w => Lib.run_eql_slice_nil w 47 62 (some ad) n cap 0 0 Try.underlying47
    go_enter Try.func35, Try.ntmps35
    go_wp2_with (at_builtin
                 refine wpList_append_own_at _ rfl _ _ 47 rfl w.heap.size 62 i0 zz 3 16 Try.underlying47 HI.out.1 HI.out.2.2.2.1 HI.out.2.1 HI.out.2.2.1 HI.out.2.2.2.2 (by decide) _ 0 [] rfl (World.ownsRow_made w #[] 0 (Nat.le_refl _) (by unfold maxLen; omega) rfl) ad n cap (rowVals L) rfl (by rw [row_len, HL.out]) HSRC.out (row_one L) (by unfold maxLen; omega) (by omega) (by simp) ?_
                 intro v4 w4 hown hgrow _ hat)
    go_ret
    refine ⟨_, rfl, ?_, K.thenGrown (K.refl w) hgrow (fun g hg => ?_)⟩
    · rw [Nat.zero_add, List.nil_append] at hown
      exact hown
    · have e : g = w.heap.size := Option.some.inj hg
      omega

theorem raw_any (h : Tab w B bt q z v L) : Calls Try.prog 22 #[tp bt] w fun e w' => ∃ v', e = .returned v' ∧ w'.ownsRow w.heap.size 62 3 v' L.length (rowVals L) ∧ K w w' := by
  have hm := made_ok h
  have c2 := h.c2
  obtain ⟨a, g, cap, rfl, hs⟩ := src_own h.row
  have hlen := h.wf.len
  have hq1 := h.wf.q1
  have hc := clone_any hs (by omega)
  clear h hs
  go_enter Try.func22, Try.ntmps22
  go_wp2_with (first
    | (go_at_call 28; refine hm.mono ?_; rintro e w1 ⟨rfl, rfl⟩)
    | (go_at_call 35; refine hc.mono ?_; rintro e w1 ⟨v1, rfl, hown, hk⟩))
  go_ret
  exact ⟨_, rfl, hown, hk⟩

/-- What may be a slot. -/
def mb (z : Int) (s : Sl) : Bool := decide (1 ≤ s.g) && decide (s.g ≤ z) && decide (0 ≤ s.a) && (s.o || decide (s.a = 0))

theorem mb_ok {s : Sl} (h : mb z s = true) (a1 : s.a ≤ 9223372036854775807) : Ok z s := by
  simp [mb] at h
  obtain ⟨⟨⟨h1, h2⟩, h3⟩, h4⟩ := h
  exact ⟨h1, h2, h3, a1, fun ho => by rcases h4 with h4 | h4 <;> first | (rw [ho] at h4; cases h4) | exact h4⟩
theorem ok_mb {s : Sl} (h : Ok z s) : mb z s = true := by
  have := h.cl
  simp [mb, h.lo, h.hi, h.a0]
  cases ho : s.o
  · exact .inr (this ho)
  · exact .inl rfl

set_option maxHeartbeats 1000000 in
theorem mayBe_any (h : Tab w B bt q z v L) (s : Sl) (_ : 0 ≤ s.g) : Calls Try.prog 34 #[tp bt, .agg #[.bool s.o, .int .u32 s.g, .int .i64 s.a]] w fun e w' => e = .returned (.bool (mb z s)) ∧ K w w' := by
  have c1 := h.c1
  have hlt := h.lt
  have hK : K w (w.alloc (.cells #[.bool s.o, .int .u32 s.g, .int .i64 s.a] 62)) := (K.refl _).alloc _
  have HT : Aside _ := h
  clear h
  have HKD : Aside (∀ wx, K w wx → Calls Try.prog 29 #[tp bt, .agg #[.bool s.o, .int .u32 s.g, .int .i64 s.a]] wx fun e w' => e = .returned (.int .i64 (kd z s)) ∧ K wx w') := fun wx k => kindOf_any (HT.out.keep k) s
  obtain ⟨o, g, a⟩ := s
  by_cases h1 : g < 1
  · have E : Hid (mb z ⟨o, g, a⟩ = false) := by
      have : ¬ 1 ≤ g := by omega
      simp [mb, this, Hid]
    go_enter Try.func34, Try.ntmps34
    go_wp2
    go_quiet (fail)
    go_wp2
    go_ret
    exact ⟨by rw [E.out]; rfl, hK.drewN _⟩
  by_cases h2 : z < g
  · have E : Hid (mb z ⟨o, g, a⟩ = false) := by
      have : ¬ g ≤ z := by omega
      simp [mb, this, Hid]
    go_enter Try.func34, Try.ntmps34
    go_wp2
    go_quiet (fail)
    go_wp2
    go_ret
    exact ⟨by rw [E.out]; rfl, hK.drewN _⟩
  by_cases h3 : a < 0
  · have E : Hid (mb z ⟨o, g, a⟩ = false) := by
      have : ¬ 0 ≤ a := by omega
      simp [mb, this, Hid]
    go_enter Try.func34, Try.ntmps34
    go_wp2
    go_quiet (fail)
    go_wp2
    go_ret
    exact ⟨by rw [E.out]; rfl, hK.drewN _⟩
  have E0 : Hid (mb z ⟨o, g, a⟩ = (o || decide (a = 0))) := by
    have g1 : 1 ≤ g := by omega
    have g2 : g ≤ z := by omega
    have g3 : 0 ≤ a := by omega
    simp [mb, g1, g2, g3, Hid]
  cases o with
  | true =>
    have hd : (kd z ⟨true, g, a⟩ == 1) = true := rfl
    have E : Hid (mb z ⟨true, g, a⟩ = true) := E0.out
    go_enter Try.func34, Try.ntmps34
    go_wp2
    go_quiet (fail)
    go_wp2_with fail
    refine (HKD.out _ (hK.drewN _)).mono ?_
    rintro e w3 ⟨rfl, k3⟩
    go_wp2
    go_ret
    exact ⟨by rw [E.out]; rfl, (hK.drewN _).trans k3⟩
  | false =>
    have hd : (kd z ⟨false, g, a⟩ == 1) = false := by by_cases e : g = z <;> simp [kd, e]
    have E : Hid (mb z ⟨false, g, a⟩ = decide (a = 0)) := E0.out
    have hcell : (w.alloc (.cells #[.bool false, .int .u32 g, .int .i64 a] 62)).cell? ⟨w.heap.size, 2, none⟩ = some (.int .i64 a) := by simp [World.cell?_alloc_new]
    go_enter Try.func34, Try.ntmps34
    go_wp2
    go_quiet (fail)
    go_wp2_with fail
    refine (HKD.out _ (hK.drewN _)).mono ?_
    rintro e w3 ⟨rfl, k3⟩
    have c3 := k3.cell (((K.refl _).drewN _).cell hcell)
    go_wp2
    go_ret
    exact ⟨by rw [E.out]; rfl, (hK.drewN _).trans k3⟩

/-- What Of takes. -/
def okL (q z : Int) (L : List Sl) : Bool := decide ((L.length : Int) ≤ q) && L.all (mb z)

theorem okL_wf (h : okL q z L = true) (q0 : 1 ≤ q) (q1 : q ≤ 65536) (z0 : 1 ≤ z) (z1 : z ≤ 4294967295) (ha : ∀ s ∈ L, s.a ≤ 9223372036854775807) : Wf q z L := by
  simp only [okL, Bool.and_eq_true, decide_eq_true_eq, List.all_eq_true] at h
  exact ⟨q0, q1, z0, z1, h.1, fun s hs => mb_ok (h.2 s hs) (ha s hs)⟩
theorem wf_okL (h : Wf q z L) : okL q z L = true := by
  simp only [okL, Bool.and_eq_true, decide_eq_true_eq, List.all_eq_true]
  exact ⟨h.len, fun s hs => ok_mb (h.ok s hs)⟩

theorem of_bad {a : Option Addr} {n cap : Nat} (q z : Int) (w : World) (h : badNew q z) : Calls Try.prog 21 #[.int .i64 q, .int .u32 z, .slice a n cap] w fun e w' => e = .returned (.tuple #[.pointer none, .int .i64 2]) ∧ w = w' := by
  have hn := new_no q z w h
  clear h
  go_enter Try.func21, Try.ntmps21
  go_wp2_with (go_at_call 10; refine hn.mono ?_; rintro e w1 ⟨rfl, rfl⟩)
  go_ret2
  exact ⟨rfl, rfl⟩

theorem of_long {a : Option Addr} {n cap : Nat} (q z : Int) (w : World) (q0 : 1 ≤ q) (q1 : q ≤ 65536) (z0 : 1 ≤ z) (z1 : z ≤ 4294967295) (hl : q < n) (_ : (n : Int) ≤ 9223372036854775807) : Calls Try.prog 21 #[.int .i64 q, .int .u32 z, .slice a n cap] w fun e w' => e = .returned (.tuple #[.pointer none, .int .i64 8]) ∧ K w w' := by
  have hn := new_rn q z w q0 q1 z0 z1
  go_enter Try.func21, Try.ntmps21
  go_wp2_with fail
  refine hn.mono ?_
  rintro e w1 ⟨rfl, h1⟩
  have hk := h1.k
  clear hn h1
  go_wp2
  go_ret2
  exact ⟨rfl, hk⟩

/-- A slot's three values, off the source's cells. -/
theorem Src.at {a : Option Addr} {b off n cap i : Nat} {s : Sl} (h : Src w a b off n cap L) (hs : L[i]? = some s) : w.cell? ⟨b, off + i * 3, none⟩ = some (.bool s.o) ∧ w.cell? ⟨b, off + i * 3 + 1, none⟩ = some (.int .u32 s.g) ∧ w.cell? ⟨b, off + i * 3 + 2, none⟩ = some (.int .i64 s.a) := by
  obtain ⟨h0, h1, h2⟩ := row_at hs
  refine ⟨h.cell _ _ h0, ?_, ?_⟩
  · have := h.cell _ _ h1
    rw [← Nat.add_assoc] at this
    exact this
  · have := h.cell _ _ h2
    rw [← Nat.add_assoc] at this
    exact this

/-- What Of tells of slots that are not too many. -/
def OfPost (w : World) (q z : Int) (L : List Sl) (e : Ending) (w' : World) : Prop :=
  (okL q z L = false ∧ e = .returned (.tuple #[.pointer none, .int .i64 8]) ∧ K w w') ∨ (okL q z L = true ∧ ∃ v, e = .returned (.tuple #[tp w.heap.size, .int .i64 0]) ∧ Tab w' w.heap.size w.heap.size q z v L ∧ K w w')

set_option maxHeartbeats 1000000 in
theorem of_in {a : Option Addr} {b off n cap : Nat} (q z : Int) (h : Src w a b off n cap L) (q0 : 1 ≤ q) (q1 : q ≤ 65536) (z0 : 1 ≤ z) (z1 : z ≤ 4294967295) (hl : n ≤ q) (hL : ∀ s ∈ L, 0 ≤ s.g ∧ s.a ≤ 9223372036854775807) : Calls Try.prog 21 #[.int .i64 q, .int .u32 z, .slice a n cap] w (OfPost w q z L) := by
  have hn := new_rn q z w q0 q1 z0 z1
  have HS : Aside _ := h
  have HL : Aside (L.length = n) := h.len
  have HOK : Aside _ := hL
  clear h hL
  go_enter Try.func21, Try.ntmps21
  go_wp2_with fail
  refine hn.mono ?_
  rintro e w1 ⟨rfl, h1⟩
  have hbt : w.heap.size = w.heap.size := rfl
  clear hn
  go_wp2
  go_loopg [27] n (fun gh t wx => ∃ i : Nat, i + gh = n ∧ t = .int .i64 i ∧ Aside (∀ j s, j < i → L[j]? = some s → mb z s = true) ∧ Rn w wx w.heap.size q z (.slice none 0 0) [])
  case atStart => exact ⟨0, by omega, rfl, fun j s hj => by omega, h1⟩
  case round =>
    obtain ⟨i, hig, rfl, HI, hr⟩ := hrel
    clear h1 hbt
    by_cases hlt : i < n
    · obtain ⟨s, hs⟩ : ∃ s, L[i]? = some s := ⟨_, List.getElem?_eq_getElem (by rw [HL.out]; exact hlt)⟩
      have hix := HS.out.ix i hlt
      obtain ⟨d0, d1, d2⟩ := (HS.out.keep hr.k).at hs
      have hk2 : K wr (wr.alloc (.cells #[.bool s.o, .int .u32 s.g, .int .i64 s.a] 62)) := (K.refl _).alloc _
      have hr2 := hr.keep hk2
      have hm := mayBe_any hr2.tb s (HOK.out s (List.mem_of_getElem? hs)).1
      have HSS : Aside _ := hs
      have HR2 : Aside _ := hr2
      clear hs hk2 hr2 hr
      go_wp2_with fail
      refine hm.mono ?_
      rintro e w2 ⟨rfl, hk3⟩
      have hr3 := HR2.out.keep hk3
      by_cases hb : mb z s = true
      · rw [hb]
        have HB : Aside _ := hb
        clear hm hk3 hb
        go_wp2
        go_roundg (n - (i + 1))
        case measure => omega
        case rel =>
          refine ⟨i + 1, by omega, by go_num, fun j t hj ht => ?_, hr3⟩
          by_cases e : j = i
          · subst e
            obtain rfl : s = t := Option.some.inj (HSS.out.symm.trans ht)
            exact HB.out
          · exact HI.out j t (by omega) ht
      · have hb2 : mb z s = false := by simpa using hb
        rw [hb2]
        have HB : Aside (okL q z L = false) := by
          show okL q z L = false
          cases e : okL q z L with
          | false => rfl
          | true =>
            simp only [okL, Bool.and_eq_true, List.all_eq_true] at e
            exact absurd (e.2 s (List.mem_of_getElem? HSS.out)) hb
        have hk := hr3.k
        clear hm hk3 hb hb2 hr3
        go_wp2
        go_ret2
        exact .inl ⟨HB.out, rfl, hk⟩
    · have hok : okL q z L = true := by
        simp only [okL, Bool.and_eq_true, decide_eq_true_eq, List.all_eq_true]
        refine ⟨by rw [HL.out]; exact hl, fun s hs => ?_⟩
        obtain ⟨j, hj⟩ := List.getElem?_of_mem hs
        exact HI.out j s (by have := (List.getElem?_eq_some_iff.1 hj).1; rw [HL.out] at this; omega) hj
      have hwf := okL_wf hok q0 q1 z0 z1 (fun s hs => (HOK.out s hs).2)
      have HWF : Aside _ := hwf
      have HK : Aside _ := hok
      have hc := clone_any (HS.out.keep hr.k) (by omega)
      have HR : Aside _ := hr
      clear hok hwf hr
      go_wp2_with fail
      refine hc.mono ?_
      rintro e w2 ⟨v2, rfl, hown, hk2⟩
      have hr2 := HR.out.keep hk2
      have hd := hr2.tb.hd
      have c2 := hr2.tb.c2
      have f2 := hr2.tb.fz 2
      have hlt2 := hr2.tb.lt
      have hT : Tab (w2.setCell ⟨w.heap.size, 2, none⟩ v2) w.heap.size w.heap.size q z v2 L := by
        have k4 : Kept (fun k => k = w.heap.size) w2 (w2.setCell ⟨w.heap.size, 2, none⟩ v2) := (Kept.refl _ _).setCell _ (.inl rfl)
        have hsz := HR.out.tb.lt
        refine ⟨?_, ?_, fun e => ?_, HWF.out, Nat.le_refl _⟩
        · simp only [World.setCell]
          rw [Array.getElem?_modify, if_pos rfl, hd]
          rfl
        · rw [HL.out]
          refine ⟨hown.1, ?_⟩
          rcases (ownsRow_kept hown k4 (fun g hg e => by
            have := (own_lt hown hg).1
            omega)).2 with h2 | ⟨g, c, cur, hv, hb, rest⟩
          · exact .inl h2
          · exact .inr ⟨g, c, cur, hv, by omega, rest⟩
        · have := (own_lt hown e.symm).1
          omega
      have hK : K w (w2.setCell ⟨w.heap.size, 2, none⟩ v2) := hr2.k.setCell v2 (Nat.le_refl _)
      obtain ⟨a2, c2', hv2⟩ : ∃ a cap, v2 = .slice a n cap := by
        rcases hown.2 with ⟨hv, h0⟩ | ⟨g, c, cur, hv, _⟩
        · exact ⟨none, 0, by rw [hv, h0]⟩
        · exact ⟨_, _, hv⟩
      subst hv2
      have HT : Aside _ := hT
      have HKK : Aside _ := hK
      clear hc hr2 hT hK hown hd hk2
      go_wp2
      go_ret2
      exact .inr ⟨HK.out, _, rfl, HT.out, HKK.out⟩

end Hd
end Go.Proofs.Ytfokpiapaacagaa
