/-
  loftref06: the reference's records in memory; Find, Get.
-/
import Derived.Test.YtlmfojkhfipdnaaGreatDoorP1
import Derived.Test.YtlmfojkhfipdnaaGreatDoorU1
import Derived.Test.YtlmfojkhfipdnaaGreatDoorX2
import Derived.Test.YtlmfojkhfipdnaaGreatDoorQ2
import Derived.Deep.AppendSrc
namespace Go.Proofs.YtlmfojkhfipdnaaGreatDoor
open Go.RowKit Go.Maps
attribute [local go_sem ↓] Go.wp_at_zero Go.wp_at_succ
namespace Rs
open Hp (Kept K No)
variable {w w' : World} {B g cap : Nat} {a : Option Addr}

/-- A record: its handle, the slice of its words as it lies in memory, the words. -/
structure Rc where
  h : Int
  v : Value
  ws : List Int
def recL (r : Rc) : List Value := [.int .u64 r.h, r.v]
def recVals (R : List Rc) : List Value := R.flatMap recL
theorem rec_len (R : List Rc) : (recVals R).length = R.length * 2 := by
  induction R with
  | nil => rfl
  | cons r R ih =>
    have : recVals (r :: R) = recL r ++ recVals R := rfl
    rw [this, List.length_append, ih, List.length_cons]
    simp [recL]
    omega
theorem rec_at : ∀ {R : List Rc} {i : Nat} {r : Rc}, R[i]? = some r → (recVals R)[i * 2]? = some (.int .u64 r.h) ∧ (recVals R)[i * 2 + 1]? = some r.v
  | [], _, _, h => by simp at h
  | x :: R, 0, r, h => by
    simp at h
    subst h
    exact ⟨rfl, rfl⟩
  | x :: R, i + 1, r, h => by
    have := rec_at (R := R) (i := i) (r := r) (by simpa using h)
    have e : recVals (x :: R) = .int .u64 x.h :: x.v :: recVals R := rfl
    rw [e, show (i + 1) * 2 = i * 2 + 1 + 1 by omega, show i * 2 + 1 + 1 + 1 = (i * 2 + 1) + 1 + 1 by omega]
    simpa using this

theorem run_ixr (g len cap i : Nat) (hi : i < len) (w' : World) : (Instr.indexAt 35 (.slice (some ⟨g, 0, none⟩) len cap) (.int .i64 (i : Int))).run Tryz.prog w' = .ok (.pointer (some ⟨g, i * 2, none⟩)) w' := by
  have hel : Tryz.prog.elem 35 = 108 := by kernel_rfl
  have hsz : (sizeOf 108).run Tryz.prog w' = .ok 2 w' := by kernel_rfl
  have hu : Tryz.prog.underlying 35 = some (.slice (Tryz.prog.elem 35)) := by kernel_rfl
  rw [run_indexAt_slice w' 35 _ len cap .i64 i hu, if_pos (by omega), hel, hsz]
  simp only [Result.andThen_ok, Int.toNat_natCast]
  rw [Go.WideShapes.add_plain, Nat.zero_add]

/-- The row of records, its slices of words among it. -/
structure Row (w : World) (g : Nat) (a : Option Addr) (cap : Nat) (R : List Rc) : Prop where
  ix : ∀ i : Nat, i < R.length → ∀ w', (Instr.indexAt 35 (.slice a R.length cap) (.int .i64 (i : Int))).run Tryz.prog w' = .ok (.pointer (some ⟨g, i * 2, none⟩)) w'
  c0 : ∀ (i : Nat) (r : Rc), R[i]? = some r → w.cell? ⟨g, i * 2, none⟩ = some (.int .u64 r.h)
  c1 : ∀ (i : Nat) (r : Rc), R[i]? = some r → w.cell? ⟨g, i * 2 + 1, none⟩ = some r.v
  ws : ∀ (i : Nat) (r : Rc), R[i]? = some r → ∃ ad b c, r.v = .slice ad r.ws.length c ∧ Tx.Src w ad b 0 c r.ws
theorem Row.keep {R : List Rc} (h : Row w g a cap R) (k : K w w') : Row w' g a cap R :=
  ⟨h.ix, fun i r hr => k.cell (h.c0 i r hr), fun i r hr => k.cell (h.c1 i r hr), fun i r hr => by
    obtain ⟨ad, b, c, e, s⟩ := h.ws i r hr
    exact ⟨ad, b, c, e, s.keep k⟩⟩

/-- The place of a record. -/
def fdR (R : List Rc) (x : Int) : Int := match R.findIdx? (fun r => r.h == x) with | some i => i | none => -1
theorem fdR_some {R : List Rc} {x : Int} {i : Nat} {r : Rc} (hr : R[i]? = some r) (e : r.h = x) (hn : ∀ (j : Nat) t, j < i → R[j]? = some t → t.h ≠ x) : fdR R x = i := by
  have hl := (List.getElem?_eq_some_iff.1 hr).1
  have : R.findIdx? (fun r => r.h == x) = some i := by
    rw [List.findIdx?_eq_some_iff_getElem]
    refine ⟨hl, ?_, fun j hj => ?_⟩
    · rw [(List.getElem?_eq_some_iff.1 hr).2, e]
      simp
    · have := hn j _ hj (List.getElem?_eq_getElem (by omega))
      simpa using this
  unfold fdR
  rw [this]
theorem fdR_none {R : List Rc} {x : Int} (hn : ∀ (j : Nat) t, R[j]? = some t → t.h ≠ x) : fdR R x = -1 := by
  have : R.findIdx? (fun r => r.h == x) = none := by
    rw [List.findIdx?_eq_none_iff]
    intro r hr
    obtain ⟨j, hj, e⟩ := List.mem_iff_getElem.1 hr
    have := hn j r (by rw [List.getElem?_eq_getElem hj, e])
    simpa using this
  unfold fdR
  rw [this]

variable {R : List Rc} {x0 x1 x2 x3 x4 : Value}
abbrev stV (x0 x1 x2 x3 x4 : Value) (a : Option Addr) (n cap : Nat) : Array Value := #[x0, x1, x2, x3, x4, .slice a n cap]

set_option maxHeartbeats 2000000 in
theorem rFind_any (hr : Row w g a cap R) (hl : R.length ≤ 65536) (x : Int) : Calls Tryz.prog 44 #[.agg (stV x0 x1 x2 x3 x4 a R.length cap), .int .u64 x] w fun e w' => e = .returned (.int .i64 (fdR R x)) ∧ K w w' := by
  have hk0 : K w (w.alloc (.cells (stV x0 x1 x2 x3 x4 a R.length cap) 37)) := (K.refl _).alloc _
  have HR : Aside _ := hr.keep hk0
  clear hr
  go_enter Tryz.func44, Tryz.ntmps44
  go_wp2
  go_loopg [5] R.length (fun gh t wx => ∃ i : Nat, i + gh = R.length ∧ t = .int .i64 i ∧ Aside (∀ (j : Nat) (s : Rc), j < i → R[j]? = some s → s.h ≠ x) ∧ w.alloc (.cells (stV x0 x1 x2 x3 x4 a R.length cap) 37) = wx)
  case atStart => exact ⟨0, by omega, rfl, fun j s hj => by omega, rfl⟩
  case round =>
    obtain ⟨i, hig, rfl, HI, rfl⟩ := hrel
    by_cases hlt : i < R.length
    · obtain ⟨s, hs⟩ : ∃ s, R[i]? = some s := ⟨_, List.getElem?_eq_getElem hlt⟩
      have hix := HR.out.ix i hlt
      have d0 := HR.out.c0 i s hs
      have HS : Aside _ := hs
      clear hs
      by_cases hn : s.h = x
      · have hd : (s.h == x) = true := by simpa using hn
        have E : Hid (fdR R x = i) := fdR_some HS.out hn HI.out
        clear hn
        go_wp2
        go_ret
        exact ⟨by rw [E.out]; rfl, hk0⟩
      · have hd : (s.h == x) = false := by simpa using hn
        have HNE : Aside _ := hn
        clear hn
        go_wp2
        go_roundg (R.length - (i + 1))
        case measure => omega
        case rel =>
          refine ⟨i + 1, by omega, by go_num, fun j t hj ht => ?_, rfl⟩
          by_cases e : j = i
          · subst e
            obtain rfl : s = t := Option.some.inj (HS.out.symm.trans ht)
            exact HNE.out
          · exact HI.out j t (by omega) ht
    · have E : Hid (fdR R x = -1) := fdR_none fun j t ht => HI.out j t (by have := (List.getElem?_eq_some_iff.1 ht).1; omega) ht
      go_wp2
      go_ret
      exact ⟨by rw [E.out]; rfl, hk0⟩

/-- What Get answers. -/
def gtR (R : List Rc) (x k : Int) : Int × Int := match R.findIdx? (fun r => r.h == x) with
  | none => (0, 7)
  | some i => if 0 ≤ k ∧ k < ((R.getD i ⟨0, .bool false, []⟩).ws.length : Int) then ((R.getD i ⟨0, .bool false, []⟩).ws.getD k.toNat 0, 0) else (0, 2)
theorem fdR_cases (R : List Rc) (x : Int) : (R.findIdx? (fun r => r.h == x) = none ∧ fdR R x = -1) ∨ ∃ i r, R.findIdx? (fun r => r.h == x) = some i ∧ fdR R x = (i : Int) ∧ R[i]? = some r ∧ r.h = x := by
  cases h : R.findIdx? (fun r => r.h == x) with
  | none => exact .inl ⟨rfl, by unfold fdR; rw [h]⟩
  | some i =>
    obtain ⟨hl, h1, _⟩ := List.findIdx?_eq_some_iff_getElem.1 h
    exact .inr ⟨i, R[i], rfl, by unfold fdR; rw [h], List.getElem?_eq_getElem hl, by simpa using h1⟩

set_option maxHeartbeats 2000000 in
theorem rGet_any (hr : Row w g a cap R) (hl : R.length ≤ 65536) (x k : Int) : Calls Tryz.prog 57 #[.agg (stV x0 x1 x2 x3 x4 a R.length cap), .int .u64 x, .int .i64 k] w fun e w' => e = .returned (.tuple #[.int .u64 (gtR R x k).1, .int .i64 (gtR R x k).2]) ∧ K w w' := by
  have hk0 : K w (w.alloc (.cells (stV x0 x1 x2 x3 x4 a R.length cap) 37)) := (K.refl _).alloc _
  have cf : ∀ w1, K w w1 → Calls Tryz.prog 44 #[.agg (stV x0 x1 x2 x3 x4 a R.length cap), .int .u64 x] w1 fun e w' => e = .returned (.int .i64 (fdR R x)) ∧ K w1 w' := fun w1 k => rFind_any (hr.keep k) hl x
  have CF : Aside _ := cf
  have HR : Aside _ := hr
  clear hr cf
  rcases fdR_cases R x with ⟨h1, h2⟩ | ⟨i, r, h1, h2, h3, h4⟩
  · have E : Hid (gtR R x k = (0, 7)) := by show gtR R x k = _; unfold gtR; rw [h1]
    have cf := CF.out _ hk0
    rw [h2] at cf
    clear h1 h2
    go_enter Tryz.func57, Tryz.ntmps57
    go_wp2_with (go_at_call 44; refine cf.mono ?_; rintro e w2 ⟨rfl, k2⟩)
    go_ret2
    exact ⟨by rw [E.out]; rfl, hk0.trans k2⟩
  · have hi := (List.getElem?_eq_some_iff.1 h3).1
    have e3 : R.getD i ⟨0, .bool false, []⟩ = r := by rw [List.getD_eq_getElem?_getD, h3]; rfl
    have cf := CF.out _ hk0
    rw [h2] at cf
    have bx : (w.alloc (.cells (stV x0 x1 x2 x3 x4 a R.length cap) 37)).heap[w.heap.size]? = some (.cells (stV x0 x1 x2 x3 x4 a R.length cap) 37) := World.alloc_heap_new _ _
    obtain ⟨ad, b, c, ev, sv⟩ := HR.out.ws i r h3
    have c0 := HR.out.c0 i r h3
    have c1 := HR.out.c1 i r h3
    have hix := HR.out.ix i hi
    have SV : Aside _ := sv
    have BX : Aside (∀ w2, K (w.alloc (.cells (stV x0 x1 x2 x3 x4 a R.length cap) 37)) w2 → w2.cell? ⟨w.heap.size, 5, none⟩ = some (.slice a R.length cap)) := fun w2 k2 => by
      have := Hp.K.block k2 bx
      simp [World.cell?, this]
    by_cases hk : 0 ≤ k ∧ k < (r.ws.length : Int)
    · obtain ⟨k1, k2⟩ := hk
      obtain ⟨kn, rfl⟩ : ∃ kn : Nat, k = (kn : Int) := ⟨k.toNat, by omega⟩
      have E : Hid (gtR R x (kn : Int) = (r.ws.getD kn 0, 0)) := by
        show gtR R x (kn : Int) = _
        unfold gtR
        rw [h1]
        simp only [e3]
        rw [if_pos ⟨by omega, by omega⟩, Int.toNat_natCast]
      have hwx := SV.out.ix kn (by omega)
      have hwc := SV.out.at (i := kn) (by omega)
      rw [Nat.zero_add] at hwc
      rw [ev] at c1
      clear h1 h2 h3 h4 e3 bx sv ev
      generalize r.ws.length = wl at *
      generalize r.ws.getD kn 0 = y at *
      go_enter Tryz.func57, Tryz.ntmps57
      go_wp2_with fail
      refine cf.mono ?_
      rintro e w2 ⟨rfl, kk⟩
      have b5 := BX.out w2 kk
      have d1 := Hp.K.cell (Hp.K.trans hk0 kk) c1
      have d2 := Hp.K.cell (Hp.K.trans hk0 kk) hwc
      have KF : Aside _ := Hp.K.trans hk0 kk
      clear cf kk c0 c1 hwc BX CF
      go_wp2_with fail
      go_ret2
      exact ⟨by rw [E.out]; rfl, KF.out⟩
    · have E : Hid (gtR R x k = (0, 2)) := by
        show gtR R x k = _
        unfold gtR
        rw [h1]
        simp only [e3]
        rw [if_neg hk]
      rw [ev] at c1
      clear h1 h2 h3 h4 e3 bx sv ev
      generalize r.ws.length = wl at *
      by_cases hk0' : k < 0
      · go_enter Tryz.func57, Tryz.ntmps57
        go_wp2_with fail
        refine cf.mono ?_
        rintro e w2 ⟨rfl, kk⟩
        have KF : Aside _ := Hp.K.trans hk0 kk
        clear cf kk c0 c1 BX CF hk
        go_wp2_with fail
        go_ret2
        exact ⟨by rw [E.out]; rfl, KF.out⟩
      · have hge : 0 ≤ k := by omega
        have hgt : (wl : Int) ≤ k := by omega
        go_enter Tryz.func57, Tryz.ntmps57
        go_wp2_with fail
        refine cf.mono ?_
        rintro e w2 ⟨rfl, kk⟩
        have b5 := BX.out w2 kk
        have d1 := Hp.K.cell (Hp.K.trans hk0 kk) c1
        have KF : Aside _ := Hp.K.trans hk0 kk
        clear cf kk c0 c1 BX CF hk
        go_wp2_with fail
        go_ret2
        exact ⟨by rw [E.out]; rfl, KF.out⟩

end Rs
end Go.Proofs.YtlmfojkhfipdnaaGreatDoor

/-
  loftref06: the reference's store at a block; behind a call on its heap, on its table.
-/
namespace Go.Proofs.YtlmfojkhfipdnaaGreatDoor
open Go.RowKit Go.Maps
namespace Rs
open Hp (Kept K No)
open Hd (ownsRow_kept)
variable {u0 : World × Nat} {w w' : World} {br : Nat} {q m z : Int} {E E' : List Hp.Re} {R R' : List Hd.Sl} {C C' : List Rc}

/-- Words of a record, in a block of their own kind. -/
def Wd (w : World) (r : Rc) : Prop := ∃ ad b c, r.v = .slice ad r.ws.length c ∧ Tx.Src w ad b 0 c r.ws ∧ (0 < r.ws.length → ad = some ⟨b, 0, none⟩ ∧ ∃ cs, w.heap[b]? = some (.cells cs 41))
theorem Wd.kept {r : Rc} (h : Wd w r) {O : Nat → Prop} (k : Kept O w w') (hO : ∀ j cs, w.heap[j]? = some (.cells cs 41) → ¬ O j) : Wd w' r := by
  obtain ⟨ad, b, c, e, s, ht⟩ := h
  refine ⟨ad, b, c, e, ⟨s.ix, fun i x hx => ?_, s.us, s.max⟩, fun h0 => ?_⟩
  · have hi := (List.getElem?_eq_some_iff.1 hx).1
    obtain ⟨_, cs, hb⟩ := ht (by omega)
    exact k.cell (s.cell i x hx) (hO _ _ hb)
  · obtain ⟨e0, cs, hb⟩ := ht h0
    exact ⟨e0, cs, k.block hb (hO _ _ hb)⟩

/-- Where a row lies: a block of its kind. -/
theorem own_kind {B n sz : Nat} {t : TypeId} {v : Value} {xs : List Value} (h : w.ownsRow B t sz v n xs) {j : Nat} (hj : some j = v.ownBlock) : ∃ cs, w.heap[j]? = some (.cells cs t) := by
  rcases h.2 with ⟨e, _⟩ | ⟨g, cap, cur, e, _, hb, _⟩
  · rw [e] at hj
    cases hj
  · rw [e] at hj
    have : j = g := Option.some.inj hj
    subst this
    exact ⟨_, hb⟩
theorem own_kept {B n sz : Nat} {t : TypeId} {v : Value} {xs : List Value} (h : w.ownsRow B t sz v n xs) {O : Nat → Prop} (k : Kept O w w') (hO : ∀ j cs, w.heap[j]? = some (.cells cs t) → ¬ O j) : w'.ownsRow B t sz v n xs := by
  obtain ⟨h1, h2⟩ := h
  refine ⟨h1, ?_⟩
  rcases h2 with h2 | ⟨g, cap, cur, e, hb, hg, rest⟩
  · exact .inl h2
  · exact .inr ⟨g, cap, cur, e, hb, k.block hg (hO _ _ hg), rest⟩

theorem kind_ne {j : Nat} {cs ds : Array Value} {t u : TypeId} (h : w.heap[j]? = some (.cells cs t)) (h2 : w.heap[j]? = some (.cells ds u)) : t = u := by
  rw [h] at h2
  injection h2 with h2
  injection h2

/-- What has turned since u0: structs of the reference's store, and slots, alone, from a block on. -/
def Tk (B : Nat) (w : World) (j : Nat) : Prop := B ≤ j ∧ ∃ cs t, w.heap[j]? = some (.cells cs t) ∧ (t = 37 ∨ t = 181)
def Tn (u : World × Nat) (w : World) : Prop := Kept (Tk u.2 u.1) u.1 w
theorem Tn.refl (w : World) (B : Nat) : Tn (w, B) w := Kept.refl _ _
theorem Tn.then (f : Tn u0 w) {O : Nat → Prop} (k : Kept O w w') (h : ∀ j, O j → u0.1.heap.size ≤ j ∨ Tk u0.2 w j) : Tn u0 w' :=
  ⟨k.os.trans f.os, k.tape.trans f.tape, k.output.trans f.output, Nat.le_trans f.size k.size, fun j hj hn => (k.same j (Nat.lt_of_lt_of_le hj f.size) (fun ho => by
    rcases h j ho with h1 | ⟨h0, cs, t, h1, h2⟩
    · omega
    · exact hn ⟨h0, cs, t, by rw [← f.same j hj hn]; exact h1, h2⟩)).trans (f.same j hj hn)⟩
theorem Tn.keep (f : Tn u0 w) (k : K w w') : Tn u0 w' := f.then k (fun _ h => h.elim)
theorem Tn.at (f : Tn u0 w) (k : Kept (fun j => j = br) w w') {cs : Array Value} (hb : w.heap[br]? = some (.cells cs 37)) (lo : u0.2 ≤ br) : Tn u0 w' := f.then k (fun j h => .inr ⟨by subst h; exact lo, cs, _, by subst h; exact hb, .inl rfl⟩)

/-- The reference's store: its heap's entries, its table's slots, its records. -/
structure Sr (u0 : World × Nat) (w : World) (br : Nat) (q m z : Int) (E : List Hp.Re) (R : List Hd.Sl) (C : List Rc) : Prop where
  ex : ∃ a1 c1 v2 a3 c3, Hp.Rf ⟨.int .i64 m, .int .u32 z, v2, .slice a3 C.length c3⟩ w br q a1 c1 E ∧ Hd.Rf ⟨.int .i64 q, .slice a1 E.length c1, .slice a3 C.length c3⟩ w u0.2 br m z v2 R ∧ w.ownsRow 0 108 2 (.slice a3 C.length c3) C.length (recVals C)
  ws : ∀ (i : Nat) r, C[i]? = some r → Wd w r
  eo : Hp.Eo E
  few : C.length ≤ 65536
  fr : Tn u0 w

/-- Behind a call on the heap. -/
theorem Sr.heap {a1 a3 : Option Addr} {c1 c3 : Nat} {v2 : Value} (h1 : Hp.Rf ⟨.int .i64 m, .int .u32 z, v2, .slice a3 C.length c3⟩ w br q a1 c1 E) (h2 : Hd.Rf ⟨.int .i64 q, .slice a1 E.length c1, .slice a3 C.length c3⟩ w u0.2 br m z v2 R) (h3 : w.ownsRow 0 108 2 (.slice a3 C.length c3) C.length (recVals C)) (hw : ∀ (i : Nat) r, C[i]? = some r → Wd w r) (few : C.length ≤ 65536) (fr : Tn u0 w)
    (p : Hp.RPost ⟨.int .i64 m, .int .u32 z, v2, .slice a3 C.length c3⟩ w br q E' w') (eo : Hp.Eo E') : Sr u0 w' br q m z E' R C := by
  obtain ⟨a', cap', rf, st⟩ := p
  have off : ∀ (t : TypeId), t ≠ 37 → ∀ j cs, w.heap[j]? = some (.cells cs t) → ¬ (j = br) := fun t ht j cs hj e => by
    subst e
    exact ht (kind_ne hj h1.s0)
  exact ⟨⟨a', cap', v2, a3, c3, rf, ⟨rf.s0, own_kept h2.row st (off _ (by decide)), h2.ap, h2.wf, h2.lo⟩, own_kept h3 st (off _ (by decide))⟩, fun i r hr => (hw i r hr).kept st (off _ (by decide)), eo, few, fr.at st h1.s0 h2.lo⟩

/-- Behind a call on the table. -/
theorem Sr.table {a1 a3 : Option Addr} {c1 c3 : Nat} {v2 : Value} (h1 : Hp.Rf ⟨.int .i64 m, .int .u32 z, v2, .slice a3 C.length c3⟩ w br q a1 c1 E) (h2 : Hd.Rf ⟨.int .i64 q, .slice a1 E.length c1, .slice a3 C.length c3⟩ w u0.2 br m z v2 R) (h3 : w.ownsRow 0 108 2 (.slice a3 C.length c3) C.length (recVals C)) (hw : ∀ (i : Nat) r, C[i]? = some r → Wd w r) (few : C.length ≤ 65536) (fr : Tn u0 w)
    (p : Hd.RfPost ⟨.int .i64 q, .slice a1 E.length c1, .slice a3 C.length c3⟩ w u0.2 br m z v2 R' w') (eo : Hp.Eo E) : Sr u0 w' br q m z E R' C := by
  obtain ⟨v', rf, st, _⟩ := p
  have off : ∀ (t : TypeId), t ≠ 37 → t ≠ 181 → ∀ j cs, w.heap[j]? = some (.cells cs t) → ¬ Hd.foot br v2 j := fun t ht hs j cs hj e => by
    rcases e with rfl | e
    · exact ht (kind_ne hj h1.s0)
    · obtain ⟨ds, hd⟩ := own_kind h2.row e
      exact hs (kind_ne hj hd)
  exact ⟨⟨a1, c1, v', a3, c3, ⟨rf.hd, own_kept h1.row st (off _ (by decide) (by decide))⟩, rf, own_kept h3 st (off _ (by decide) (by decide))⟩, fun i r hr => (hw i r hr).kept st (off _ (by decide) (by decide)), eo, few, fr.then st (fun j hj => .inr (by
    refine ⟨(h2.foot_lt hj).1, ?_⟩
    rcases hj with rfl | e
    · exact ⟨_, _, h1.s0, .inl rfl⟩
    · obtain ⟨ds, hd⟩ := own_kind h2.row e
      exact ⟨_, _, hd, .inr rfl⟩))⟩

theorem Sr.keep (h : Sr u0 w br q m z E R C) (k : K w w') : Sr u0 w' br q m z E R C := by
  obtain ⟨a1, c1, v2, a3, c3, h1, h2, h3⟩ := h.ex
  exact ⟨⟨a1, c1, v2, a3, c3, h1.keep k, h2.keep k, own_kept h3 k (fun _ _ _ z => z)⟩, fun i r hr => (h.ws i r hr).kept k (fun _ _ _ z => z), h.eo, h.few, h.fr.keep k⟩

/-- The records' row, read. -/
theorem row_of {a3 : Option Addr} {c3 : Nat} (h3 : w.ownsRow 0 108 2 (.slice a3 C.length c3) C.length (recVals C)) (hw : ∀ (i : Nat) r, C[i]? = some r → Wd w r) : ∃ g, Row w g a3 c3 C ∧ (a3 = some ⟨g, 0, none⟩ ∨ (a3 = none ∧ C.length = 0 ∧ c3 = 0)) := by
  have ws : ∀ (i : Nat) r, C[i]? = some r → ∃ ad b c, r.v = .slice ad r.ws.length c ∧ Tx.Src w ad b 0 c r.ws := fun i r hr => by
    obtain ⟨ad, b, c, e, s, _⟩ := hw i r hr
    exact ⟨ad, b, c, e, s⟩
  rcases h3.2 with ⟨e, h0⟩ | ⟨g, cap, cur, e, _, hb, h1, h2, h4, h5⟩
  · injection e with e1 e2 e3
    have hC : C = [] := List.eq_nil_of_length_eq_zero h0
    subst hC
    exact ⟨0, ⟨fun i hi => by simp at hi, fun i r hr => by simp at hr, fun i r hr => by simp at hr, fun i r hr => by simp at hr⟩, .inr ⟨e1, h0, e3⟩⟩
  · injection e with e1 e2 e3
    subst e1
    have cell : ∀ (j : Nat) (u : Value), (recVals C)[j]? = some u → w.cell? ⟨g, j, none⟩ = some u := fun j u hu => by
      have hj := (List.getElem?_eq_some_iff.1 hu).1
      rw [rec_len] at hj
      rw [← h5, List.getElem?_take, if_pos hj] at hu
      simp only [World.cell?, hb]
      rw [if_neg (by simp), ← Array.getElem?_toList]
      exact hu
    exact ⟨g, ⟨fun i hi w' => run_ixr g _ _ i hi w', fun i r hr => cell _ _ (rec_at hr).1, fun i r hr => cell _ _ (rec_at hr).2, ws⟩, .inl rfl⟩

end Rs
end Go.Proofs.YtlmfojkhfipdnaaGreatDoor

/-
  loftref06: Slide.
-/
namespace Go.Proofs.YtlmfojkhfipdnaaGreatDoor
open Go.RowKit Go.Maps
attribute [local go_sem ↓] Go.wp_at_zero Go.wp_at_succ
namespace Rs
open Hp (Kept K No slideL entsR)
open Hd (atL moveL)
variable {u0 : World × Nat} {w w' : World} {br : Nat} {q m z : Int} {E E' : List Hp.Re} {R R' : List Hd.Sl} {C C' : List Rc}

abbrev rp (b : Nat) : Value := .pointer (some ⟨b, 0, none⟩)

theorem six {x0 x1 x2 x3 x4 x5 : Value} {t : TypeId} (h : w.heap[br]? = some (.cells #[x0, x1, x2, x3, x4, x5] t)) : w.cell? ⟨br, 0, none⟩ = some x0 ∧ w.cell? ⟨br, 1, none⟩ = some x1 ∧ w.cell? ⟨br, 2, none⟩ = some x2 ∧ w.cell? ⟨br, 3, none⟩ = some x3 ∧ w.cell? ⟨br, 4, none⟩ = some x4 ∧ w.cell? ⟨br, 5, none⟩ = some x5 :=
  ⟨by simp [World.cell?, h], by simp [World.cell?, h], by simp [World.cell?, h], by simp [World.cell?, h], by simp [World.cell?, h], by simp [World.cell?, h]⟩

set_option maxRecDepth 100000 in
set_option maxHeartbeats 2000000 in
theorem rSlide_none (h : Sr u0 w br q m z E R C) (x : Int) (hf : fdR C x = -1) : Calls Tryz.prog 25 #[rp br, .int .u64 x] w fun e w' => e = .returned (.tuple #[.bool false, .int .i64 7]) ∧ Sr u0 w' br q m z E R C := by
  have HS : Aside _ := h
  obtain ⟨a1, c1, v2, a3, c3, h1, h2, h3⟩ := h.ex
  obtain ⟨g, hr, _⟩ := row_of h3 h.ws
  have cf := rFind_any (x0 := .int .i64 q) (x1 := .slice a1 E.length c1) (x2 := .int .i64 m) (x3 := .int .u32 z) (x4 := v2) hr h.few x
  rw [hf] at cf
  obtain ⟨d0, d1, d2, d3, d4, d5⟩ := six h1.s0
  clear h h1 h2 h3 hr hf
  go_enter Tryz.func25, Tryz.ntmps25
  go_wp2_with fail
  refine cf.mono ?_
  rintro e w1 ⟨rfl, k1⟩
  have HK : Aside _ := HS.out.keep k1
  clear cf k1 d0 d1 d2 d3 d4 d5 HS
  go_wp2_with fail
  go_ret2
  exact ⟨rfl, HK.out⟩

set_option maxRecDepth 100000 in
set_option maxHeartbeats 4000000 in
theorem rSlide_some (h : Sr u0 w br q m z E R C) (x : Int) {i : Nat} (hf : fdR C x = (i : Int)) {a b er : Int} (ha : atL R x = (a, er)) (heo : ∀ E', entsR E' = (slideL (entsR E) a).2.2 → Hp.Eo E') (hb : (slideL (entsR E) a).1 = b) (hb1 : b ≤ 9223372036854775807) :
    Calls Tryz.prog 25 #[rp br, .int .u64 x] w fun e w' => e = .returned (.tuple #[.bool (b != a), .int .i64 0]) ∧ ∃ E', entsR E' = (slideL (entsR E) a).2.2 ∧ Sr u0 w' br q m z E' (moveL R x b).2 C := by
  have HS : Aside _ := h
  obtain ⟨a1, c1, v2, a3, c3, h1, h2, h3⟩ := h.ex
  obtain ⟨g, hr, _⟩ := row_of h3 h.ws
  obtain ⟨g2, ad2, cap2, hv2, hrr, _⟩ := h2.src
  have cf := rFind_any (x0 := .int .i64 q) (x1 := .slice a1 E.length c1) (x2 := .int .i64 m) (x3 := .int .u32 z) (x4 := v2) hr h.few x
  rw [hf] at cf
  obtain ⟨d0, d1, d2, d3, d4, d5⟩ := six h1.s0
  have hlt : ¬ ((i : Int) < 0) := by omega
  have hdl : decide ((i : Int) < 0) = false := decide_eq_false hlt
  have DD : Aside (∀ w1, K w w1 → w1.cell? ⟨br, 2, none⟩ = some (.int .i64 m) ∧ w1.cell? ⟨br, 3, none⟩ = some (.int .u32 z) ∧ w1.cell? ⟨br, 4, none⟩ = some (.slice ad2 R.length cap2)) := fun w1 k => ⟨k.cell d2, k.cell d3, by rw [← hv2]; exact k.cell d4⟩
  have cat : Aside (∀ w1, K w w1 → Calls Tryz.prog 60 #[.agg #[.int .i64 m, .int .u32 z, .slice ad2 R.length cap2], .int .u64 x] w1 fun e w' => e = .returned (.tuple #[.int .i64 a, .int .i64 er]) ∧ K w1 w') := fun w1 k => by
    have := Hd.rAt_any (q := m) (z := z) (hrr.keep k) h2.wf x
    rw [ha] at this
    exact this
  have csl : Aside (∀ w1, K w w1 → Calls Tryz.prog 61 #[.pointer (some ⟨br, 0, none⟩), .int .i64 a] w1 fun e w' => e = .returned (.tuple #[.int .i64 b, .int .i64 (slideL (entsR E) a).2.1]) ∧ Aside (∃ E', entsR E' = (slideL (entsR E) a).2.2 ∧ Sr u0 w' br q m z E' R C)) := fun w1 k => by
    have hs := HS.out.keep k
    have := Hp.rSlide_call (h1.keep k) HS.out.eo a
    rw [hb] at this
    refine this.mono ?_
    rintro e w2 ⟨he, E', hE, hp⟩
    exact ⟨he, E', hE, Sr.heap (h1.keep k) (h2.keep k) (own_kept h3 k (fun _ _ _ z => z)) hs.ws hs.few hs.fr hp (heo E' hE)⟩
  have cmv : Aside (∀ w1 E', Sr u0 w1 br q m z E' R C → Calls Tryz.prog 62 #[.pointer (some ⟨br, 2, none⟩), .int .u64 x, .int .i64 b] w1 fun e w' => (∃ y, e = .returned (.int .i64 y)) ∧ Aside (Sr u0 w' br q m z E' (moveL R x b).2 C)) := fun w1 E' s => by
    obtain ⟨a1', c1', v2', a3', c3', h1', h2', h3'⟩ := s.ex
    refine (Hd.rMove_any h2' x b hb1).mono ?_
    rintro e w2 ⟨he, hp⟩
    exact ⟨⟨_, he⟩, Sr.table h1' h2' h3' s.ws s.few s.fr hp s.eo⟩
  rw [hv2] at cf
  rw [hv2] at d4
  have hbr0 := h1.lt
  clear h h1 h2 h3 hr hf hrr hlt hv2 HS ha hb heo
  generalize (slideL (entsR E) a).2.1 = e2 at *
  go_enter Tryz.func25, Tryz.ntmps25
  go_wp2_with fail
  refine cf.mono ?_
  rintro e w1 ⟨rfl, k1⟩
  have K1 : Aside _ := k1
  obtain ⟨f2, f3, f4⟩ := DD.out w1 k1
  have ct := cat.out w1 k1
  clear cf k1 d0 d1 d2 d3 d4 d5 cat DD
  go_wp2_with fail
  refine ct.mono ?_
  rintro e w2 ⟨rfl, k2⟩
  have cs := csl.out w2 (Hp.K.trans K1.out k2)
  clear ct k2 f2 f3 f4 csl K1
  go_wp2_with fail
  refine cs.mono ?_
  rintro e w3 ⟨rfl, HE⟩
  obtain ⟨E', hE, s3⟩ := HE.out
  have cm := cmv.out w3 E' s3
  have HE2 : Aside _ := hE
  clear cs HE s3 cmv hE
  go_wp2_with fail
  refine cm.mono ?_
  rintro e w4 ⟨⟨y, rfl⟩, S4⟩
  clear cm
  go_wp2_with fail
  go_ret2
  exact ⟨rfl, E', HE2.out, S4.out⟩

end Rs
end Go.Proofs.YtlmfojkhfipdnaaGreatDoor

/-
  loftref06: the records' row cut, appended to, stored anew.
-/
namespace Go.Proofs.YtlmfojkhfipdnaaGreatDoor
open Go.RowKit Go.Maps
namespace Rs
open Hp (Kept K No)
variable {u0 : World × Nat} {w w' : World} {br : Nat} {q m z : Int} {E E' : List Hp.Re} {R R' : List Hd.Sl} {C C' : List Rc} {a : Option Addr} {cap : Nat}

theorem rec_app (A B : List Rc) : recVals (A ++ B) = recVals A ++ recVals B := by simp [recVals]
theorem rec_take (E : List Rc) (k : Nat) (hk : k ≤ E.length) : (recVals E).take (k * 2) = recVals (E.take k) := by
  have e : recVals E = recVals (E.take k) ++ recVals (E.drop k) := by rw [← rec_app, List.take_append_drop]
  have l : (recVals (E.take k)).length = k * 2 := by rw [rec_len, List.length_take, Nat.min_eq_left hk]
  rw [e, ← l]
  exact List.take_left
theorem rec_drop (E : List Rc) (k : Nat) (hk : k ≤ E.length) : (recVals E).drop (k * 2) = recVals (E.drop k) := by
  have e : recVals E = recVals (E.take k) ++ recVals (E.drop k) := by rw [← rec_app, List.take_append_drop]
  have l : (recVals (E.take k)).length = k * 2 := by rw [rec_len, List.length_take, Nat.min_eq_left hk]
  rw [e, ← l]
  exact List.drop_left
theorem rec_one : ∀ (C : List Rc), (∀ r ∈ C, r.v.oneCell' = true) → ∀ u ∈ recVals C, u.oneCell' = true
  | [], _, _, h => by cases h
  | e :: E, hw, u, h => by
    rcases List.mem_append.1 (show u ∈ recL e ++ recVals E from h) with h | h
    · simp only [recL, List.mem_cons, List.not_mem_nil, or_false] at h
      rcases h with rfl | rfl
      · rfl
      · exact hw e (by simp)
    · exact rec_one E (fun r hr => hw r (by simp [hr])) u h
theorem Wd.one {r : Rc} (h : Wd w r) : r.v.oneCell' = true := by
  obtain ⟨ad, b, c, e, _⟩ := h
  rw [e]
  rfl

/-- The row's cells. -/
theorem row_cells (h3 : w.ownsRow 0 108 2 (.slice a C.length cap) C.length (recVals C)) : ∃ g, (∀ (j : Nat) (u : Value), (recVals C)[j]? = some u → w.cell? ⟨g, j, none⟩ = some u) ∧ (a = some ⟨g, 0, none⟩ ∨ (a = none ∧ C.length = 0 ∧ cap = 0)) ∧ C.length ≤ cap := by
  rcases h3.2 with ⟨e, h0⟩ | ⟨g, cap', cur, e, _, hb, h1, h2, h4, h5⟩
  · injection e with e1 e2 e3
    have hC : C = [] := List.eq_nil_of_length_eq_zero h0
    subst hC
    exact ⟨0, fun j u hu => by simp [recVals] at hu, .inr ⟨e1, h0, e3⟩, by simp⟩
  · injection e with e1 e2 e3
    subst e1 e3
    exact ⟨g, fun j u hu => by
      have hj := (List.getElem?_eq_some_iff.1 hu).1
      rw [rec_len] at hj
      rw [← h5, List.getElem?_take, if_pos hj] at hu
      simp only [World.cell?, hb]
      rw [if_neg (by simp), ← Array.getElem?_toList]
      exact hu, .inl rfl, by omega⟩

theorem run_cut_lo (a : Option Addr) (g len cap k : Nat) (ha : a = some ⟨g, 0, none⟩ ∨ (a = none ∧ len = 0 ∧ cap = 0)) (h1 : k ≤ len) (h2 : len ≤ cap) (w : World) : (Instr.slice 35 (.slice a len cap) none (some (.int .i64 (k : Int))) none).run Tryz.prog w = .ok (.slice a k cap) w := by
  have hel : Tryz.prog.elem 35 = 108 := by kernel_rfl
  have hsz : (sizeOf 108).run Tryz.prog w = .ok 2 w := by kernel_rfl
  have hu : Tryz.prog.underlying 35 = some (.slice (Tryz.prog.elem 35)) := by kernel_rfl
  rw [run_slice_h (P := Tryz.prog) w 35 a len cap hu .i64 k (by omega) (by omega), hel, hsz]
  simp only [Result.andThen_ok, sliced, Int.toNat_natCast, Nat.zero_mul, Nat.sub_zero]
  rcases ha with rfl | ⟨rfl, _, rfl⟩
  · split <;> simp [Addr.add]
  · simp

/-- The records from k on are there behind L[k:]. -/
theorem run_cut_hi (a : Option Addr) (g len cap k : Nat) (ha : a = some ⟨g, 0, none⟩ ∨ (a = none ∧ len = 0 ∧ cap = 0)) (h1 : k ≤ len) (h2 : len ≤ cap) :
    ∃ oa, (∀ w, (Instr.slice 35 (.slice a len cap) (some (.int .i64 (k : Int))) none none).run Tryz.prog w = .ok (.slice oa (len - k) (cap - k)) w) ∧ ((oa = none ∧ len = k) ∨ oa = some ⟨g, k * 2, none⟩ ∨ (len = k ∧ ∃ x, oa = some x)) := by
  have hel : Tryz.prog.elem 35 = 108 := by kernel_rfl
  have hsz : ∀ w, (sizeOf 108).run Tryz.prog w = .ok 2 w := fun w => by kernel_rfl
  have hu : Tryz.prog.underlying 35 = some (.slice (Tryz.prog.elem 35)) := by kernel_rfl
  refine ⟨if cap = k then a else a.map (fun x => x.add (k * 2)), fun w => ?_, ?_⟩
  · rw [run_slice_l (P := Tryz.prog) w 35 a len cap hu .i64 k (by omega) (by omega), hel, hsz]
    simp only [Result.andThen_ok, sliced, Int.toNat_natCast]
  · rcases ha with rfl | ⟨rfl, rfl, rfl⟩
    · by_cases e : cap = k
      · rw [if_pos e]
        exact Or.inr (Or.inr ⟨by omega, _, rfl⟩)
      · rw [if_neg e]
        refine Or.inr (Or.inl ?_)
        simp only [Option.map_some]
        rw [Go.WideShapes.add_plain, Nat.zero_add]
    · refine Or.inl ⟨?_, by omega⟩
      split <;> rfl

/-- What is appended: no record of a nil slice, or the cells behind an address. -/
def SrcR (w : World) (oa : Option Addr) (m : Nat) (news : List Value) : Prop := (oa = none ∧ m = 0 ∧ news = []) ∨ ∃ ad, oa = some ad ∧ ∀ j u, news[j]? = some u → w.cell? (ad.add j) = some u
theorem SrcR.keep {oa : Option Addr} {m : Nat} {news : List Value} (h : SrcR w oa m news) (k : K w w') : SrcR w' oa m news := by
  rcases h with h | ⟨ad, h1, h2⟩
  · exact .inl h
  · exact .inr ⟨ad, h1, fun j u hu => k.cell (h2 j u hu)⟩

theorem src_lo {g : Nat} (h : ∀ (j : Nat) (u : Value), (recVals C)[j]? = some u → w.cell? ⟨g, j, none⟩ = some u) (ha : a = some ⟨g, 0, none⟩ ∨ (a = none ∧ C.length = 0 ∧ cap = 0)) (k : Nat) (hk : k ≤ C.length) : SrcR w a k (recVals (C.take k)) := by
  rcases ha with ha | ⟨ha, h0, _⟩
  · refine Or.inr ⟨_, ha, fun j u hu => ?_⟩
    rw [Go.WideShapes.add_plain, Nat.zero_add]
    have hj := (List.getElem?_eq_some_iff.1 hu).1
    rw [← rec_take C k hk] at hu hj
    rw [List.getElem?_take_of_lt (by have := List.length_take_le (k * 2) (recVals C); omega)] at hu
    exact h j u hu
  · obtain rfl : k = 0 := by omega
    exact Or.inl ⟨ha, rfl, rfl⟩

theorem src_hi {g : Nat} (h : ∀ (j : Nat) (u : Value), (recVals C)[j]? = some u → w.cell? ⟨g, j, none⟩ = some u) (k : Nat) (hk : k ≤ C.length) {oa : Option Addr} (ho : (oa = none ∧ C.length = k) ∨ oa = some ⟨g, k * 2, none⟩ ∨ (C.length = k ∧ ∃ x, oa = some x)) : SrcR w oa (C.length - k) (recVals (C.drop k)) := by
  have hnil : C.length = k → recVals (C.drop k) = [] := fun e => by rw [List.drop_eq_nil_of_le (by omega)]; rfl
  rcases ho with ⟨rfl, e⟩ | rfl | ⟨e, x, rfl⟩
  · exact Or.inl ⟨rfl, by omega, hnil e⟩
  · refine Or.inr ⟨_, rfl, fun j u hu => ?_⟩
    rw [Go.WideShapes.add_plain]
    rw [← rec_drop C k hk, List.getElem?_drop] at hu
    exact h _ u hu
  · refine Or.inr ⟨x, rfl, fun j u hu => ?_⟩
    rw [hnil e] at hu
    simp at hu

theorem info_refrec : ∃ i0, Tryz.prog.info? 108 = some i0 ∧ i0.size = 2 ∧ i0.bytes = 32 ∧ ∃ z, i0.zero = some z ∧ z.cells.size = 2 := by
  have hi : (Tryz.prog.info? 108).map (fun i => (i.zero.map (fun z => z.cells.size), i.size, i.bytes)) = some (some 2, 2, 32) := by kernel_rfl
  obtain ⟨i0, h1, h2⟩ := Option.map_eq_some_iff.1 hi
  simp only [Prod.mk.injEq] at h2
  obtain ⟨h3, h4, h5⟩ := h2
  obtain ⟨z, h6, h7⟩ := Option.map_eq_some_iff.1 h3
  exact ⟨i0, h1, h4, h5, z, h6, h7⟩

theorem run_append_nil (g n cap c : Nat) (hn : n ≤ cap) (ty : TypeId) (w : World) : (Builtin.append_ #[35, 35] ty #[.slice (some ⟨g, 0, none⟩) n cap, .slice none 0 c]).run Tryz.prog w = .ok (.slice (some ⟨g, 0, none⟩) n cap) w := by
  obtain ⟨i0, hi, hs, _, _⟩ := info_refrec
  have := run_append_room_src (P := Tryz.prog) w 35 35 ty 108 i0 Tryz.underlying35 hi g 0 n cap (.slice none 0 c) 0 [] (Src.ofNil w Tryz.underlying35 c) (by omega) (fun j hj => by simp at hj) (fun j hj => by simp at hj)
  simpa [World.setCells] using this

theorem wpList_append_rec {ops : Array Oper} {rest : List Oper} {o : Oper} {ac : Act} {Q : Exit → Act → World → Prop} (w : World) (hgd : o.guard = none) (s x : Operand)
    (ho : o.op = .call { callee := .builtin .append, args := #[s, x], argTypes := #[35, 35] })
    (base : Nat) (v : Value) (n : Nat) (xs : List Value) (hs : ac.eval s = v) (hown : w.ownsRow base 108 2 v n xs) (hv : v.ownBlock.isSome = true)
    (oa : Option Addr) (m c : Nat) (news : List Value) (hx : ac.eval x = .slice oa m c) (hl : news.length = m * 2) (hsrc : SrcR w oa m news) (h1 : ∀ u ∈ news, u.oneCell' = true) (hb : n + m ≤ 100000) (hbase : base ≤ w.heap.size)
    (h : ∀ v' w', w'.ownsRow base 108 2 v' (n + m) (xs ++ news) → w.grownBy w' v.ownBlock → (v'.ownBlock = v.ownBlock ∨ v'.ownBlock = some w.heap.size) → wpList Tryz.prog ops Q rest (ac.put o.dst v') w') :
    wpList Tryz.prog ops Q (o :: rest) ac w := by
  obtain ⟨i0, hi, hsz, hby, z, hz, hzs⟩ := info_refrec
  rcases hsrc with ⟨rfl, rfl, rfl⟩ | ⟨ad, rfl, hc⟩
  · refine wpList_plain hgd fun K hK => ?_
    rcases hown.2 with ⟨rfl, _⟩ | ⟨g, cap, cur, hvv, r1, r2, r3, r4⟩
    · cases hv
    · have hrun := run_append_nil g n cap c r3 o.type w
      rw [← hvv] at hrun
      unfold Oper.wp execOp
      simp only [ho, resolve, invoke, builtin, Sem.run_bind, Sem.run_pure, Result.andThen_ok, List.map_toArray, List.map_cons, List.map_nil, hs, hx, hrun]
      refine hK _ _ (h v w ?_ ⟨rfl, rfl, rfl, Nat.le_refl _, fun _ _ _ => rfl⟩ (Or.inl rfl))
      simpa using hown
  · exact wpList_append_own_at w hgd s x 35 ho base 108 i0 z 2 32 Tryz.underlying35 hi hz hsz hby hzs (by decide) v n xs hs hown ad m c news hx hl hc h1 (by unfold maxLen; omega) (by omega) hbase (fun v' w' r1 r2 _ r4 => h v' w' r1 r2 r4)

theorem row_formR {base n : Nat} {v : Value} {xs : List Value} (h : w.ownsRow base 108 2 v n xs) : ∃ a cap, v = .slice a n cap := by
  rcases h.2 with ⟨hv, h0⟩ | ⟨g, c, cur, hv, _⟩
  · exact ⟨none, 0, by rw [hv, h0]⟩
  · exact ⟨_, _, hv⟩

/-- The records are stored anew. -/
theorem Sr.recs {w1 : World} {v : Value} {base : Nat} (h : Sr u0 w br q m z E R C) (k : K w w1) (hrow : w1.ownsRow base 108 2 v C'.length (recVals C')) (hne : ∀ j, v.ownBlock = some j → w.heap.size ≤ j) (hw : ∀ (i : Nat) r, C'[i]? = some r → Wd w1 r) (few : C'.length ≤ 65536) :
    Sr u0 (w1.setCell ⟨br, 5, none⟩ v) br q m z E R C' := by
  obtain ⟨a1, c1, v2, a3, c3, h1, h2, h3⟩ := h.ex
  obtain ⟨a', cap', rfl⟩ := row_formR hrow
  have hlt := h1.lt
  have hbr : w1.heap[br]? = some (.cells #[.int .i64 q, .slice a1 E.length c1, .int .i64 m, .int .u32 z, v2, .slice a3 C.length c3] 37) := k.block h1.s0
  have hs0 : (w1.setCell ⟨br, 5, none⟩ (.slice a' C'.length cap')).heap[br]? = some (.cells #[.int .i64 q, .slice a1 E.length c1, .int .i64 m, .int .u32 z, v2, .slice a' C'.length cap'] 37) := by
    rw [heap_setCell_same w1 br 5 _ _ _ hbr]
    rfl
  have st : Kept (fun j => j = br) w1 (w1.setCell ⟨br, 5, none⟩ (.slice a' C'.length cap')) := Kept.setCell (Kept.mono (K.refl w1) (fun _ _ hk => hk.elim)) _ (.inl rfl)
  have off : ∀ (t : TypeId), t ≠ 37 → ∀ j cs, w1.heap[j]? = some (.cells cs t) → ¬ (j = br) := fun t ht j cs hj e => by
    subst e
    exact ht (kind_ne hj hbr)
  refine ⟨⟨a1, c1, v2, a', cap', ⟨hs0, own_kept (own_kept h1.row k (fun _ _ _ z => z)) st (off _ (by decide))⟩, ⟨hs0, own_kept (own_kept h2.row k (fun _ _ _ z => z)) st (off _ (by decide)), h2.ap, h2.wf, h2.lo⟩, ?_⟩, fun i r hr => (hw i r hr).kept st (off _ (by decide)), h.eo, few, (h.fr.keep k).at st hbr h2.lo⟩
  have := own_kept hrow st (off _ (by decide))
  exact ⟨this.1, this.2.imp id fun ⟨g, c, cur, h1, _, r⟩ => ⟨g, c, cur, h1, Nat.zero_le _, r⟩⟩

end Rs
end Go.Proofs.YtlmfojkhfipdnaaGreatDoor

/-
  loftref06: Drop.
-/
namespace Go.Proofs.YtlmfojkhfipdnaaGreatDoor
open Go.RowKit Go.Maps
attribute [local go_sem ↓] Go.wp_at_zero Go.wp_at_succ
namespace Rs
open Hp (Kept K No freeL entsR K.grownR)
open Hd (atL closeR)
variable {u0 : World × Nat} {w w' : World} {br : Nat} {q m z : Int} {E E' : List Hp.Re} {R R' : List Hd.Sl} {C C' : List Rc}

def Wrapd (p : Prop) : Prop := p
theorem wrapd {p : Prop} (h : Wrapd p) : p := h

set_option maxRecDepth 100000 in
set_option maxHeartbeats 2000000 in
theorem rDrop_none (h : Sr u0 w br q m z E R C) (x : Int) (hf : fdR C x = -1) : Calls Tryz.prog 47 #[rp br, .int .u64 x] w fun e w' => e = .returned (.int .i64 7) ∧ Sr u0 w' br q m z E R C := by
  have HS : Aside _ := h
  obtain ⟨a1, c1, v2, a3, c3, h1, h2, h3⟩ := h.ex
  obtain ⟨g, hr, _⟩ := row_of h3 h.ws
  have cf := rFind_any (x0 := .int .i64 q) (x1 := .slice a1 E.length c1) (x2 := .int .i64 m) (x3 := .int .u32 z) (x4 := v2) hr h.few x
  rw [hf] at cf
  obtain ⟨d0, d1, d2, d3, d4, d5⟩ := six h1.s0
  clear h h1 h2 h3 hr hf
  go_enter Tryz.func47, Tryz.ntmps47
  go_wp2_with fail
  refine cf.mono ?_
  rintro e w1 ⟨rfl, k1⟩
  have HK : Aside _ := HS.out.keep k1
  clear cf k1 d0 d1 d2 d3 d4 d5 HS
  go_wp2_with fail
  go_ret
  exact ⟨rfl, HK.out⟩

set_option maxRecDepth 100000 in
set_option maxHeartbeats 4000000 in
theorem rDrop_some (h : Sr u0 w br q m z E R C) (x : Int) {i : Nat} (hf : fdR C x = (i : Int)) (hi : i < C.length) {a er : Int} (ha : atL R x = (a, er)) (heo : ∀ E', entsR E' = (freeL (entsR E) a).2 → Hp.Eo E') :
    Calls Tryz.prog 47 #[rp br, .int .u64 x] w fun e w' => e = .returned (.int .i64 0) ∧ ∃ E', entsR E' = (freeL (entsR E) a).2 ∧ Sr u0 w' br q m z E' (closeR R x).2 (C.take i ++ C.drop (i + 1)) := by
  have HS : Aside _ := h
  obtain ⟨a1, c1, v2, a3, c3, h1, h2, h3⟩ := h.ex
  obtain ⟨g, hr, _⟩ := row_of h3 h.ws
  obtain ⟨g2, ad2, cap2, hv2, hrr, _⟩ := h2.src
  have cf := rFind_any (x0 := .int .i64 q) (x1 := .slice a1 E.length c1) (x2 := .int .i64 m) (x3 := .int .u32 z) (x4 := v2) hr h.few x
  rw [hf] at cf
  obtain ⟨d0, d1, d2, d3, d4, d5⟩ := six h1.s0
  have hdl : decide ((i : Int) < 0) = false := decide_eq_false (by omega)
  have DD : Aside (∀ w1, K w w1 → w1.cell? ⟨br, 2, none⟩ = some (.int .i64 m) ∧ w1.cell? ⟨br, 3, none⟩ = some (.int .u32 z) ∧ w1.cell? ⟨br, 4, none⟩ = some (.slice ad2 R.length cap2)) := fun w1 k => ⟨k.cell d2, k.cell d3, by rw [← hv2]; exact k.cell d4⟩
  have cat : Aside (∀ w1, K w w1 → Calls Tryz.prog 60 #[.agg #[.int .i64 m, .int .u32 z, .slice ad2 R.length cap2], .int .u64 x] w1 fun e w' => e = .returned (.tuple #[.int .i64 a, .int .i64 er]) ∧ K w1 w') := fun w1 k => by
    have := Hd.rAt_any (q := m) (z := z) (hrr.keep k) h2.wf x
    rw [ha] at this
    exact this
  have csl : Aside (∀ w1, K w w1 → Calls Tryz.prog 88 #[.pointer (some ⟨br, 0, none⟩), .int .i64 a] w1 fun e w' => (∃ y, e = .returned (.int .i64 y)) ∧ Aside (∃ E', entsR E' = (freeL (entsR E) a).2 ∧ Sr u0 w' br q m z E' R C)) := fun w1 k => by
    have hs := HS.out.keep k
    refine (Hp.rFree_call (h1.keep k) HS.out.eo a).mono ?_
    rintro e w2 ⟨he, E', hE, hp⟩
    exact ⟨⟨_, he⟩, E', hE, Sr.heap (h1.keep k) (h2.keep k) (own_kept h3 k (fun _ _ _ z => z)) hs.ws hs.few hs.fr hp (heo E' hE)⟩
  have cmv : Aside (∀ w1 E', Sr u0 w1 br q m z E' R C → Calls Tryz.prog 89 #[.pointer (some ⟨br, 2, none⟩), .int .u64 x] w1 fun e w' => (∃ y, e = .returned (.int .i64 y)) ∧ Aside (Sr u0 w' br q m z E' (closeR R x).2 C)) := fun w1 E' s => by
    obtain ⟨a1', c1', v2', a3', c3', h1', h2', h3'⟩ := s.ex
    refine (Hd.rClose_any h2' x).mono ?_
    rintro e w2 ⟨he, hp⟩
    exact ⟨⟨_, he⟩, Sr.table h1' h2' h3' s.ws s.few s.fr hp s.eo⟩
  rw [hv2] at cf
  rw [hv2] at d4
  have hbr0 := h1.lt
  have HI : Aside _ := hi
  clear h h1 h2 h3 hr hf hrr hv2 HS ha heo hi
  go_enter Tryz.func47, Tryz.ntmps47
  go_wp2_with fail
  refine cf.mono ?_
  rintro e w1 ⟨rfl, k1⟩
  have K1 : Aside _ := k1
  obtain ⟨f2, f3, f4⟩ := DD.out w1 k1
  have ct := cat.out w1 k1
  clear cf k1 d0 d1 d2 d3 d4 d5 cat DD
  go_wp2_with fail
  refine ct.mono ?_
  rintro e w2 ⟨rfl, k2⟩
  have cs := csl.out w2 (Hp.K.trans K1.out k2)
  clear ct k2 f2 f3 f4 csl K1
  go_wp2_with fail
  refine cs.mono ?_
  rintro e w3 ⟨⟨y3, rfl⟩, HE⟩
  obtain ⟨E', hE, s3⟩ := HE.out
  have cm := cmv.out w3 E' s3
  have HE2 : Aside _ := hE
  clear cs HE s3 cmv hE
  go_wp2_with fail
  refine cm.mono ?_
  rintro e w4 ⟨⟨y, rfl⟩, S4⟩
  clear cm
  obtain ⟨a1', c1', v2', a3', c3', h1', h2', h3'⟩ := S4.out.ex
  obtain ⟨e0, e1, e2, e3, e4, e5⟩ := six h1'.s0
  obtain ⟨g', hcell, hform, hcap⟩ := row_cells h3'
  have few := S4.out.few
  have hbr4 := h1'.lt
  have hib : i < 65536 := by have := HI.out; omega
  have hcl := run_cut_lo a3' g' C.length c3' i hform (by have := HI.out; omega) hcap
  obtain ⟨oa, hch, hoa⟩ := run_cut_hi a3' g' C.length c3' (i + 1) hform (by have := HI.out; omega) hcap
  have ee : ((i + 1 : Nat) : Int) = (i : Int) + 1 := by omega
  rw [ee] at hch
  have kz : K w4 (w4.alloc (.cells #[] 108)) := (K.refl w4).alloc _
  have HSRC : Aside (SrcR (w4.alloc (.cells #[] 108)) a3' i (recVals (C.take i))) := SrcR.keep (src_lo hcell hform i (by have := HI.out; omega)) kz
  have HL0 : Aside ((recVals (C.take i)).length = i * 2) := by show _ = _; rw [rec_len, List.length_take, Nat.min_eq_left (by have := HI.out; omega)]
  have HL2 : Aside ((recVals (C.drop (i + 1))).length = (C.length - (i + 1)) * 2) := by show _ = _; rw [rec_len, List.length_drop]
  have HS2 : Aside (∀ wx, K w4 wx → SrcR wx oa (C.length - (i + 1)) (recVals (C.drop (i + 1)))) := fun wx kx => SrcR.keep (src_hi hcell (i + 1) (by have := HI.out; omega) hoa) kx
  have RZ : Aside ((w4.alloc (.cells #[] 108)).ownsRow w4.heap.size 108 2 (.slice (some ⟨w4.heap.size, 0, none⟩) 0 0) 0 []) := World.ownsRow_lit (base := w4.heap.size) (e := 108) (size := 2) w4 #[] 0 (Nat.le_refl _) (by simp [maxLen]) rfl
  have KZ : Aside _ := kz
  have O0 : Aside (∀ u ∈ recVals (C.take i), u.oneCell' = true) := rec_one _ (fun r hr => by
    obtain ⟨j, hj, e⟩ := List.mem_iff_getElem.1 (List.mem_of_mem_take hr)
    exact (S4.out.ws j r (by rw [List.getElem?_eq_getElem hj, e])).one)
  have O2 : Aside (∀ u ∈ recVals (C.drop (i + 1)), u.oneCell' = true) := rec_one _ (fun r hr => by
    obtain ⟨j, hj, e⟩ := List.mem_iff_getElem.1 (List.mem_of_mem_drop hr)
    exact (S4.out.ws j r (by rw [List.getElem?_eq_getElem hj, e])).one)
  have FEW : Aside _ := few
  have CAP : Aside _ := hcap
  have E5 : Aside _ := e5
  clear h1' h2' h3' hcell hform hoa kz few hcap ee hbr0
  go_wp2_with (first
    | (at_builtin; refine wpList_append_rec _ rfl _ _ rfl w4.heap.size _ 0 [] rfl RZ.out rfl a3' i c3' (recVals (C.take i)) rfl HL0.out HSRC.out O0.out (by have := HI.out; have := FEW.out; omega) (by simp) ?_; intro v1 w5 hown1 hgrow1 hloc1; rw [Nat.zero_add, List.nil_append] at hown1; have k5 : K w4 w5 := K.grownR KZ.out hgrow1 (fun j hj => by cases hj; exact Nat.le_refl _); have hv1 : v1.ownBlock.isSome = true := (by rcases hloc1 with e | e <;> (rw [e]; rfl)); have g5 := k5.cell e5; have hsz5 : w4.heap.size ≤ w5.heap.size := Kept.size (w := w4) (w' := w5) k5; have O1 : Aside _ := hown1; have K5 : Aside _ := k5; obtain ⟨a5, cap5, hv5⟩ := row_formR hown1; subst hv5; clear hown1 hgrow1 hloc1 RZ HSRC e0 e1 e2 e3 e4 e5 k5)
    | (at_builtin; apply wrapd))
  unfold Wrapd
  refine wpList_append_rec _ rfl _ _ rfl w4.heap.size _ i _ rfl O1.out hv1 oa (C.length - (i + 1)) (c3' - (i + 1)) (recVals (C.drop (i + 1))) rfl HL2.out (HS2.out _ K5.out) O2.out (by have := HI.out; have := FEW.out; omega) hsz5 ?_
  intro v6 w6 hown2 hgrow2 hloc2
  obtain ⟨a6, cap6, hv6⟩ := row_formR hown2
  have k6 : K w4 w6 := K.grownR K5.out hgrow2 (fun j hj => (World.ownsRow.lt O1.out j hj.symm).1)
  have hne2 : ∀ kk, v6.ownBlock = some kk → w4.heap.size ≤ kk := fun kk hkk => by
    rcases hloc2 with e | e
    · rw [e] at hkk
      exact (World.ownsRow.lt O1.out kk hkk).1
    · rw [e] at hkk
      have := Option.some.inj hkk
      omega
  have HLE : (C.take i ++ C.drop (i + 1)).length = i + (C.length - (i + 1)) := by
    rw [List.length_append, List.length_take, List.length_drop, Nat.min_eq_left (by have := HI.out; omega)]
  have hown3 : w6.ownsRow w4.heap.size 108 2 v6 (C.take i ++ C.drop (i + 1)).length (recVals (C.take i ++ C.drop (i + 1))) := by
    rw [HLE, rec_app]
    exact hown2
  have SF : Aside _ := Sr.recs S4.out k6 hown3 hne2 (fun j r hr => (show Wd w4 r from by
    obtain hm := List.mem_of_getElem? hr
    have hm2 : r ∈ C := by
      rcases List.mem_append.1 hm with h | h
      · exact List.mem_of_mem_take h
      · exact List.mem_of_mem_drop h
    obtain ⟨j2, hj2, e⟩ := List.mem_iff_getElem.1 hm2
    exact S4.out.ws j2 r (by rw [List.getElem?_eq_getElem hj2, e])).kept k6 (fun _ _ _ z => z)) (by rw [HLE]; have := FEW.out; have := HI.out; omega)
  have HFZ : w6.frozen? ⟨br, 5, none⟩ = false := by
    obtain ⟨_, _, _, _, _, hh, _⟩ := (S4.out.keep k6).ex
    simp [World.frozen?, hh.s0]
  have g6 := K.cell k6 E5.out
  subst hv6
  clear hown2 hgrow2 hloc2 hown3 hne2 k6 O1 hv1 HL2 HS2 O2
  go_wp2
  go_ret
  exact ⟨rfl, E', HE2.out, SF.out⟩

end Rs
end Go.Proofs.YtlmfojkhfipdnaaGreatDoor
