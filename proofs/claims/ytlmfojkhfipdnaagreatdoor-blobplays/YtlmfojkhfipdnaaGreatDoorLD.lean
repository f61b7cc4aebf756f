/-
  loftref09: Get, Drop, Put on the reference's store.
-/
import Derived.Test.YtlmfojkhfipdnaaGreatDoorR7
import Derived.Test.YtlmfojkhfipdnaaGreatDoorX4
import Derived.Test.YtlmfojkhfipdnaaGreatDoorLB
namespace Go.Proofs.YtlmfojkhfipdnaaGreatDoor
open Go.RowKit Go.Maps
attribute [local go_sem ↓] Go.wp_at_zero Go.wp_at_succ
namespace Bb
open Hp (Kept K No allocL entsR)
open Hd (U64 findL openL closeR atL cls)
open Go.Proofs.YtlmfojkhfipdnaaGreatDoor.Rs (Row Rc fdR fdR_cases gtR gtR_of stV rFind_any Sr rp Tn newR Rl)
open Go.Proofs.YtlmfojkhfipdnaaGreatDoor.Tx (Is ofT wds bs)
variable {u0 : World × Nat} {w w' w2 V : World} {br B : Nat} {q m z x : Int} {E E' : List Hp.Re} {T R R' : List Hd.Sl} {W : Int → Int} {C C' : List Rc}

theorem Sr.rebase (s : Sr (w2, B) V br q m z E R C) (f : Tn (w, B) w2) : Sr (w, B) V br q m z E R C := ⟨s.ex, s.ws, s.eo, s.few, f.then s.fr (fun _ h => .inr h)⟩

/-- The struct as it is handed by value. -/
theorem Sr.val (h : Sr u0 w br q m z E R C) : ∃ x0 x1 x2 x3 x4 a3 c3, w.heap[br]? = some (.cells (stV x0 x1 x2 x3 x4 a3 C.length c3) 37) ∧ ∃ g, Row w g a3 c3 C := by
  obtain ⟨a1, c1, v2, a3, c3, h1, h2, h3⟩ := h.ex
  obtain ⟨g, hr, _⟩ := Rs.row_of h3 h.ws
  exact ⟨_, _, _, _, _, a3, c3, h1.s0, g, hr⟩

/-- What Get answers, of a store. -/
inductive Gb (C : List Rc) (x : Int) : List UInt8 → Int → Prop
  | stale : fdR C x = -1 → Gb C x [] 7
  | text (i : Nat) (r : Rc) : fdR C x = (i : Int) → C[i]? = some r → r.ws.length ≤ 100000 → Gb C x (if Is r.ws then ofT r.ws else []) (if Is r.ws then 0 else 8)
theorem gb_of (h : Rl T W R C) {L : List Hp.Pg} (r : So.Rec L W T) (x : Int) : Gb C x (gtS T W x) (gtE T W x) := by
  cases hf : findL T x with
  | none =>
    have e1 : gtS T W x = [] := by simp [gtS, hf]
    have e2 : gtE T W x = 7 := by simp [gtE, hf]
    rw [e1, e2]
    exact .stale (h.find_none hf)
  | some i =>
    obtain ⟨j, c, hj, hc, hfd, ho⟩ := h.find_some hf
    obtain ⟨i2, s, hi, hs, so, hw⟩ := Nd.ho_slot ho
    obtain ⟨_, n0, n1, _⟩ := r.nm i2 s hs so
    have hlen : (c.ws.length : Int) = W (s.a + 1) := by rw [← hw, Nd.wdA_len]; omega
    unfold gtS gtE
    rw [ho.2]
    simp only [ho.1, true_and, if_true]
    exact .text j c hfd hj (by omega)

set_option maxRecDepth 100000 in
set_option maxHeartbeats 1000000 in
theorem rGet_gb {t : List UInt8} {er : Int} (h : Gb C x t er) {g cap : Nat} {a : Option Addr} {x0 x1 x2 x3 x4 : Value} (hr : Row w g a cap C) (hl : C.length ≤ 65536) : Calls Tryz.prog 17 #[.agg #[x0, x1, x2, x3, x4, .slice a C.length cap], .int .u64 x] w fun e w' => e = .returned (.tuple #[.string ⟨t.toArray⟩, .int .i64 er]) ∧ K w w' := by
  have hk0 : K w (w.alloc (.cells (stV x0 x1 x2 x3 x4 a C.length cap) 37)) := (K.refl _).alloc _
  have cf := rFind_any (x0 := x0) (x1 := x1) (x2 := x2) (x3 := x3) (x4 := x4) (hr.keep hk0) hl x
  have bx : (w.alloc (.cells (stV x0 x1 x2 x3 x4 a C.length cap) 37)).heap[w.heap.size]? = some (.cells (stV x0 x1 x2 x3 x4 a C.length cap) 37) := World.alloc_heap_new _ _
  have BX : Aside (∀ w2, K (w.alloc (.cells (stV x0 x1 x2 x3 x4 a C.length cap) 37)) w2 → w2.cell? ⟨w.heap.size, 5, none⟩ = some (.slice a C.length cap)) := fun w2 k2 => by
    have := Hp.K.block k2 bx
    simp [World.cell?, this]
  have HR : Aside _ := hr
  cases h with
  | stale h1 =>
    rw [h1] at cf
    clear h1 hr bx BX
    go_enter Tryz.func17, Tryz.ntmps17
    go_wp2_with (go_at_call 44; refine cf.mono ?_; rintro e w2 ⟨rfl, k2⟩)
    go_ret2
    exact ⟨rfl, hk0.trans k2⟩
  | text i r h1 h2 h3 =>
    rw [h1] at cf
    have hi := (List.getElem?_eq_some_iff.1 h2).1
    obtain ⟨ad, b, c, ev, sv⟩ := hr.ws i r h2
    have c1 := hr.c1 i r h2
    have hix := hr.ix i hi
    rw [ev] at c1
    have hd : decide ((i : Int) < 0) = false := decide_eq_false (by omega)
    have CO : Aside (∀ V, K w V → Calls Tryz.prog 45 #[.slice ad r.ws.length c] V fun e w' => e = .returned (.tuple #[.string ⟨(if Is r.ws then ofT r.ws else []).toArray⟩, .int .i64 (if Is r.ws then 0 else 8)]) ∧ K V w') := fun V k => by
      refine (Tx.rOf_any (sv.keep k) h3 rfl).mono ?_
      rintro e w' ⟨⟨t, v, rfl, hd⟩, k'⟩
      rcases hd.out with ⟨hi, rfl, rfl⟩ | ⟨hi, rfl, rfl⟩
      · exact ⟨by rw [if_pos hi, if_pos hi], k'⟩
      · exact ⟨by rw [if_neg hi, if_neg hi], k'⟩
    generalize (if Is r.ws then ofT r.ws else []) = t at *
    generalize (if Is r.ws then (0 : Int) else 8) = er at *
    clear h1 h2 h3 hr sv ev bx HR
    generalize r.ws.length = wl at *
    go_enter Tryz.func17, Tryz.ntmps17
    go_wp2_with fail
    refine cf.mono ?_
    rintro e w2 ⟨rfl, kk⟩
    have b5 := BX.out w2 kk
    have d1 := Hp.K.cell (Hp.K.trans hk0 kk) c1
    have co := CO.out _ (Hp.K.trans hk0 kk)
    have KF : Aside _ := Hp.K.trans hk0 kk
    clear cf kk c1 BX CO
    go_wp2_with fail
    refine co.mono ?_
    rintro e w3 ⟨rfl, k3⟩
    have K3 : Aside _ := Hp.K.trans KF.out k3
    clear co k3 b5 d1
    go_wp2_with fail
    go_ret2
    exact ⟨rfl, K3.out⟩

set_option maxRecDepth 100000 in
set_option maxHeartbeats 1000000 in
theorem rDrop_no (h : Sr u0 w br q m z E R C) {t : List UInt8} {er : Int} (hg : Gb C x t er) (he : er ≠ 0) : Calls Tryz.prog 19 #[rp br, .int .u64 x] w fun e w' => e = .returned (.int .i64 er) ∧ Sr u0 w' br q m z E R C := by
  obtain ⟨x0, x1, x2, x3, x4, a3, c3, hb, g, hr⟩ := Sr.val h
  obtain ⟨d0, d1, d2, d3, d4, d5⟩ := Rs.six hb
  have cg := rGet_gb hg (x0 := x0) (x1 := x1) (x2 := x2) (x3 := x3) (x4 := x4) hr h.few
  have hne : (er != 0) = true := by simpa using he
  have HS : Aside _ := h
  clear h hg hr hb he
  go_enter Tryz.func19, Tryz.ntmps19
  go_wp2_with fail
  refine cg.mono ?_
  rintro e w1 ⟨rfl, k1⟩
  have HK : Aside _ := HS.out.keep k1
  clear cg k1 HS d0 d1 d2 d3 d4 d5
  go_wp2_with fail
  go_ret
  exact ⟨rfl, HK.out⟩

set_option maxRecDepth 100000 in
set_option maxHeartbeats 1000000 in
theorem rDrop_ok (h : Sr u0 w br q m z E R C) {t : List UInt8} (hg : Gb C x t 0) {er : Int} {P : World → Prop} (hd : ∀ V, Sr u0 V br q m z E R C → Calls Tryz.prog 47 #[rp br, .int .u64 x] V fun e w' => e = .returned (.int .i64 er) ∧ Aside (P w')) : Calls Tryz.prog 19 #[rp br, .int .u64 x] w fun e w' => e = .returned (.int .i64 er) ∧ Aside (P w') := by
  obtain ⟨x0, x1, x2, x3, x4, a3, c3, hb, g, hr⟩ := Sr.val h
  obtain ⟨d0, d1, d2, d3, d4, d5⟩ := Rs.six hb
  have cg := rGet_gb hg (x0 := x0) (x1 := x1) (x2 := x2) (x3 := x3) (x4 := x4) hr h.few
  have HD : Aside _ := hd
  have HS : Aside _ := h
  clear h hg hr hb hd
  go_enter Tryz.func19, Tryz.ntmps19
  go_wp2_with fail
  refine cg.mono ?_
  rintro e w1 ⟨rfl, k1⟩
  have cd := HD.out _ (HS.out.keep k1)
  clear cg k1 HS d0 d1 d2 d3 d4 d5 HD
  go_wp2_with fail
  refine cd.mono ?_
  rintro e w2 ⟨rfl, hp⟩
  go_wp2_with fail
  go_ret
  exact ⟨rfl, hp⟩

/-- The first k words are new ones. -/
def mx (new old : List Int) (k : Nat) : List Int := new.take k ++ old.drop k
theorem mx_len {new old : List Int} {n k : Nat} (hn : new.length = n) (ho : old.length = n) (hk : k ≤ n) : (mx new old k).length = n := by
  unfold mx
  rw [List.length_append, List.length_take, List.length_drop]
  omega
theorem mx_set {new old : List Int} {n k : Nat} (hn : new.length = n) (ho : old.length = n) (hk : k < n) {y : Int} (hy : new[k]? = some y) : (mx new old k).set k y = mx new old (k + 1) := by
  unfold mx
  obtain ⟨h1, h2⟩ := List.getElem?_eq_some_iff.1 hy
  have e1 : (new.take k).length = k := by rw [List.length_take]; omega
  rw [List.take_succ_eq_append_getElem h1, h2, List.set_append_right _ _ (by omega), e1, Nat.sub_self, List.drop_eq_getElem_cons (by omega : k < old.length), List.set_cons_zero, List.append_assoc]
  rfl

theorem fdR_last {v : Value} {ws : List Int} (hx : ∀ c ∈ C, c.h ≠ x) : fdR (C ++ [⟨x, v, ws⟩]) x = (C.length : Int) := Rs.fdR_some (r := ⟨x, v, ws⟩) (by simp) rfl fun j t hj ht => by
  rw [List.getElem?_append_left hj] at ht
  exact hx t (List.mem_of_getElem? ht)

/-- The first k words are put. -/
structure Lr (w2 V : World) (B br : Nat) (q m z : Int) (L' : List Hp.Pg) (R : List Hd.Sl) (C : List Rc) (x : Int) (ws : List Int) (n₀ g cap k : Nat) : Prop where
  ex : ∃ E' v', entsR E' = L' ∧ Sr (w2, B) V br q m z E' R (C ++ [⟨x, v', mx ws (List.replicate ws.length 0) k⟩])
  row : Tx.Row w2 n₀ g cap ws
theorem Lr.cell {L' : List Hp.Pg} {ws : List Int} {n₀ g cap k : Nat} (h : Lr w2 V B br q m z L' R C x ws n₀ g cap k) {y : Int} (hy : ws[k]? = some y) : V.cell? ⟨g, k, none⟩ = some (.int .u64 y) := by
  obtain ⟨E', v', _, s⟩ := h.ex
  have r : Tx.Row V n₀ g cap ws := Rs.own_kept h.row s.fr (fun j cs hb hf => by
    obtain ⟨_, ds, t, hc, ht⟩ := hf
    obtain rfl := Rs.kind_ne hb hc
    revert ht
    rintro (e | e) <;> exact absurd e (by decide))
  exact r.cell hy
theorem Lr.put {L' : List Hp.Pg} {ws : List Int} {n₀ g cap k : Nat} (h : Lr w2 V B br q m z L' R C x ws n₀ g cap k) (hx : ∀ c ∈ C, c.h ≠ x) (hl : ws.length ≤ 3998) {y : Int} (hy : ws[k]? = some y) (yr : 0 ≤ y ∧ y ≤ 18446744073709551615) :
    Calls Tryz.prog 23 #[rp br, .int .u64 x, .int .i64 (k : Int), .int .u64 y] V fun e w' => e = .returned (.int .i64 0) ∧ Aside (Lr w2 w' B br q m z L' R C x ws n₀ g cap (k + 1)) := by
  obtain ⟨E', v', hE, s⟩ := h.ex
  have hk : k < ws.length := (List.getElem?_eq_some_iff.1 hy).1
  have hml : (mx ws (List.replicate ws.length 0) k).length = ws.length := mx_len rfl (by simp) (by omega)
  have hf2 := fdR_last (v := v') (ws := mx ws (List.replicate ws.length 0) k) hx
  have hi2 : (C ++ [(⟨x, v', mx ws (List.replicate ws.length 0) k⟩ : Rc)])[C.length]? = some ⟨x, v', mx ws (List.replicate ws.length 0) k⟩ := by simp
  refine (Rs.rPut_ok s x y hf2 hi2 (gtR_of hf2 hi2 (by rw [hml]; exact hk)) (by rw [hml]; exact hk) yr (by rw [hml]; omega)).mono ?_
  rintro e w3 ⟨rfl, v2, s2⟩
  refine ⟨rfl, ⟨E', v2, hE, ?_⟩, h.row⟩
  have e2 : (C ++ [(⟨x, v', mx ws (List.replicate ws.length 0) k⟩ : Rc)]).set C.length ⟨x, v2, (mx ws (List.replicate ws.length 0) k).set k y⟩ = C ++ [⟨x, v2, mx ws (List.replicate ws.length 0) (k + 1)⟩] := by
    rw [mx_set rfl (by simp) hk hy]
    simp
  rw [← e2]
  exact s2

end Bb
end Go.Proofs.YtlmfojkhfipdnaaGreatDoor

/-
  loftref09: Put; each call on a blob, on the store, then on its reference.
-/
namespace Go.Proofs.YtlmfojkhfipdnaaGreatDoor
open Go.RowKit Go.Maps
attribute [local go_sem ↓] Go.wp_at_zero Go.wp_at_succ
namespace Bb
open Hp (Pg Wl Kept K No allocL freeL dropL findB entsR)
open Hd (U64 findL openL closeR atL cls)
open Go.Proofs.YtlmfojkhfipdnaaGreatDoor.So (Ad Sb Sw Stp Rn Rec sp lN)
open Go.Proofs.YtlmfojkhfipdnaaGreatDoor.Rs (Row Rc fdR fdR_cases gtR gtR_of stV rFind_any Sr rp Tn newR Rl Pm Pr Pl Kd Nx)
open Go.Proofs.YtlmfojkhfipdnaaGreatDoor.Tx (Is ofT wds bs)
variable {u0 : World × Nat} {w w' w0 w1 w2 V : World} {A : Ad} {br B n : Nat} {q m z a x : Int} {E E' : List Hp.Re} {T T' R R' : List Hd.Sl} {W W' : Int → Int} {C C' : List Rc} {ws : List Int}

set_option maxRecDepth 100000 in
theorem rPut_long (t : ByteArray) (ht : 1000 < t.size) (w : World) : Calls Tryz.prog 16 #[rp br, .string t] w fun e w' => e = .returned (.tuple #[.int .u64 0, .int .i64 4]) ∧ K w w' := by
  have cw := Tx.rlong_no t ht w
  go_enter Tryz.func16, Tryz.ntmps16
  go_wp2_with fail
  refine cw.mono ?_
  rintro e w1 ⟨rfl, k1⟩
  go_wp2_with fail
  go_ret2
  exact ⟨rfl, k1⟩

set_option maxRecDepth 100000 in
set_option maxHeartbeats 1000000 in
theorem rPut_none (t : ByteArray) (ht : t.size ≤ 1000) {er : Int} (he : er ≠ 0) {Q : World → Prop} (hmk : ∀ V, K w V → Calls Tryz.prog 21 #[rp br, .int .i64 ((wds (bs t)).length : Int)] V fun e w' => e = .returned (.tuple #[.int .u64 0, .int .i64 er]) ∧ Aside (Q w')) :
    Calls Tryz.prog 16 #[rp br, .string t] w fun e w' => e = .returned (.tuple #[.int .u64 0, .int .i64 er]) ∧ Aside (Q w') := by
  have cw := Tx.rWords_ok t ht w
  have HM : Aside _ := hmk
  have hne : (er == 0) = false := by simpa using he
  generalize wds (bs t) = ws at *
  clear hmk he
  go_enter Tryz.func16, Tryz.ntmps16
  go_wp2_with fail
  refine cw.mono ?_
  rintro e w1 ⟨g, cap, rfl, _, k1⟩
  have cm := HM.out _ k1
  clear cw
  go_wp2_with fail
  refine cm.mono ?_
  rintro e w2 ⟨rfl, hh⟩
  clear cm HM
  go_wp2_with fail
  go_loopw [10] (fun t wr => t = .int .i64 0 ∧ wr = w2) (fun _ _ => 0)
  case atStart => exact ⟨rfl, rfl⟩
  case round =>
    obtain ⟨rfl, rfl⟩ := hrel
    by_cases h0 : 0 < ws.length
    · go_wp2
      go_ret2
      exact ⟨rfl, hh⟩
    · have h1 : ws.length = 0 := by omega
      rw [h1]
      go_wp2
      go_ret2
      exact ⟨rfl, hh⟩

set_option maxRecDepth 100000 in
set_option maxHeartbeats 2000000 in
theorem rPut_text (t : ByteArray) (ht : t.size ≤ 1000) {L' : List Pg} (hmk : ∀ V, K w V → Calls Tryz.prog 21 #[rp br, .int .i64 ((wds (bs t)).length : Int)] V fun e w' => e = .returned (.tuple #[.int .u64 x, .int .i64 0]) ∧ ∃ E' v9, entsR E' = L' ∧ Sr (V, B) w' br q m z E' R' (C ++ [newR x v9 (wds (bs t)).length])) (hx : ∀ c ∈ C, c.h ≠ x) :
    Calls Tryz.prog 16 #[rp br, .string t] w fun e w' => e = .returned (.tuple #[.int .u64 x, .int .i64 0]) ∧ Aside (∃ E' v9, entsR E' = L' ∧ Sr (w, B) w' br q m z E' R' (C ++ [⟨x, v9, wds (bs t)⟩])) := by
  have cw := Tx.rWords_ok t ht w
  have hl : (wds (bs t)).length ≤ 126 := by
    have := Tx.wds_len (bs t)
    have := Tx.bs_len t
    omega
  have HU : Aside (∀ y ∈ wds (bs t), 0 ≤ y ∧ y ≤ 18446744073709551615) := fun y hy => by
    have := Tx.wds_us (l := bs t) (by rw [Tx.bs_len]; exact ht) y hy
    exact ⟨this.1, this.2⟩
  have HM : Aside _ := hmk
  generalize wds (bs t) = ws at *
  have HX : Aside _ := hx
  clear hmk hx
  go_enter Tryz.func16, Tryz.ntmps16
  go_wp2_with fail
  refine cw.mono ?_
  rintro e w1 ⟨g, cap, rfl, ROW, k1⟩
  have cm := HM.out _ k1
  have K1 : Aside _ := k1
  clear cw k1
  go_wp2_with fail
  refine cm.mono ?_
  rintro e w2 ⟨rfl, hh⟩
  have L0 : Aside (Lr w1 w2 B br q m z L' R' C x ws w.heap.size g cap 0) := by
    obtain ⟨E', v9, hE, s⟩ := hh
    exact ⟨⟨E', v9, hE, s⟩, ROW.out⟩
  have FIN : Aside (∀ V, Lr w1 V B br q m z L' R' C x ws w.heap.size g cap ws.length → ∃ E' v9, entsR E' = L' ∧ Sr (w, B) V br q m z E' R' (C ++ [⟨x, v9, ws⟩])) := fun V l => by
    obtain ⟨E', v', hE, s⟩ := l.ex
    have e : mx ws (List.replicate ws.length 0) ws.length = ws := by simp [mx]
    rw [e] at s
    exact ⟨E', v', hE, Sr.rebase s ((Tn.refl w B).keep K1.out)⟩
  have PT : Aside (∀ V k y, Lr w1 V B br q m z L' R' C x ws w.heap.size g cap k → ws[k]? = some y → Calls Tryz.prog 23 #[rp br, .int .u64 x, .int .i64 (k : Int), .int .u64 y] V fun e w' => e = .returned (.int .i64 0) ∧ Aside (Lr w1 w' B br q m z L' R' C x ws w.heap.size g cap (k + 1))) := fun V k y l hy => l.put HX.out (by omega) hy (HU.out y (List.mem_of_getElem? hy))
  clear cm HM hh ROW K1 HX HU
  go_wp2_with fail
  go_loopg [10] ws.length (fun gh t wr => ∃ k : Nat, k + gh = ws.length ∧ t = .int .i64 k ∧ Aside (Lr w1 wr B br q m z L' R' C x ws w.heap.size g cap k))
  case atStart => exact ⟨0, by omega, rfl, L0⟩
  case round =>
    obtain ⟨k, hk, rfl, LK⟩ := hrel
    clear L0
    by_cases hlt : k < ws.length
    · obtain ⟨y, hy⟩ : ∃ y, ws[k]? = some y := ⟨_, List.getElem?_eq_getElem hlt⟩
      have ix := fun w' => Tx.ixW0 g ws.length cap k hlt w'
      have hc := LK.out.cell hy
      have cp := PT.out wr k y LK.out hy
      clear hy
      go_wp2_with fail
      refine cp.mono ?_
      rintro e w5 ⟨rfl, p5⟩
      clear cp hc
      go_wp2_with fail
      go_roundg (ws.length - (k + 1))
      case measure => omega
      case rel => exact ⟨k + 1, by omega, by go_num, p5⟩
    · obtain rfl : k = ws.length := by omega
      have hfin : Aside _ := FIN.out wr LK.out
      clear LK
      go_wp2_with fail
      go_ret2
      exact ⟨rfl, hfin⟩

theorem rl_add (h : Rl T W R C) (a0 : 0 ≤ a) (hl : T.length ≤ 65536) (e : openL m z T a = (x, 0, T')) (ho : Ho T' W' x ws) (old : ∀ y ys, Ho T W y ys → y ≠ x ∧ Ho T' W' y ys) (v : Value) : ∃ R', openL m z R a = (x, 0, R') ∧ Rl T' W' R' (C ++ [⟨x, v, ws⟩]) := by
  have ec := Hd.openL_cls (q := m) (z := z) (R := R) a
  rw [h.t, e] at ec
  obtain ⟨e1, e2, e3⟩ : x = (openL m z R a).1 ∧ 0 = (openL m z R a).2.1 ∧ T' = cls (openL m z R a).2.2 := by
    simpa only [Prod.mk.injEq] using ec
  obtain ⟨_, _, _, hoff, _⟩ := find_make a0 hl e
  refine ⟨(openL m z R a).2.2, by rw [e1]; exact Prod.ext rfl (Prod.ext e2.symm rfl), e3.symm, fun c hc => ?_, ?_, fun y hy => ?_⟩
  · rcases List.mem_append.1 hc with hc | hc
    · exact (old _ _ (h.r c hc)).2
    · obtain rfl := List.mem_singleton.1 hc
      exact ho
  · refine List.pairwise_append.2 ⟨h.nd, List.pairwise_singleton _ _, fun c hc d hd => ?_⟩
    obtain rfl := List.mem_singleton.1 hd
    exact (old _ _ (h.r c hc)).1
  · by_cases e2 : y = x
    · subst e2
      exact ⟨_, List.mem_append_right _ (List.mem_singleton.2 rfl), rfl⟩
    · rw [hoff y e2] at hy
      obtain ⟨c, hc, e3⟩ := h.a y hy
      exact ⟨c, List.mem_append_left _ hc, e3⟩

/-- The reference's Get, of the struct by value. -/
abbrev Gt (br : Nat) (x : Int) (t : ByteArray) (er : Int) (V : World) : Prop := ∃ x0 x1 x2 x3 x4 x5, V.heap[br]? = some (.cells #[x0, x1, x2, x3, x4, x5] 37) ∧ ∀ V', K V V' → Calls Tryz.prog 17 #[.agg #[x0, x1, x2, x3, x4, x5], .int .u64 x] V' fun e w' => e = .returned (.tuple #[.string t, .int .i64 er]) ∧ K V' w'

theorem Pl.bget (h : Pl w0 w A br n) {x : Int} (hx : U64 x) :
    Calls Tryz.prog 11 #[sp A.st, .int .u64 x] w fun e w1 => ∃ t er, e = .returned (.tuple #[.string t, .int .i64 er]) ∧ K w w1 ∧ Aside (∀ V, K w1 V → Gt br x t er V) := by
  obtain ⟨pg, W, L, v, T, E, R, C, P, hl⟩ := h
  have hg := gb_of P.rl P.m.rn.s.r x
  refine (get_any P.m.rn.s hx).mono ?_
  rintro e w1 ⟨rfl, k1⟩
  refine ⟨_, _, rfl, k1, fun V k2 => ?_⟩
  have s := P.m.sr.keep (k1.trans k2)
  obtain ⟨x0, x1, x2, x3, x4, a3, c3, hb, g, hr⟩ := Sr.val s
  exact ⟨x0, x1, x2, x3, x4, _, hb, fun V' k' => rGet_gb hg (hr.keep k') s.few⟩

theorem Pl.bdrop (h : Pl w0 w A br n) (z0 : 0 < w0.heap.size) {x : Int} (hx : U64 x) :
    Calls Tryz.prog 18 #[sp A.st, .int .u64 x] w fun e w1 => ∃ er, e = .returned (.int .i64 er) ∧ Aside (K w0 w1 ∧ Kd w w1 ∧ Nx 19 #[rp br, .int .u64 x] (.int .i64 er) w0 A br n w1) := by
  obtain ⟨pg, W, L, v, T, E, R, C, P, hl⟩ := h
  have he := P.e
  have hg := gb_of P.rl P.m.rn.s.r x
  by_cases hne : gtE T W x = 0
  · have hsome : (findL T x).isSome = true := by
      by_cases h : (findL T x).isSome = true
      · exact h
      · unfold gtE at hne
        rw [if_neg h] at hne
        omega
    obtain ⟨i, hf⟩ := Option.isSome_iff_exists.1 hsome
    obtain ⟨s, hs, so, _⟩ := Hd.findL_some hf
    obtain ⟨⟨p, k⟩, hfb⟩ := P.m.rn.s.b.wl.find_iff.1 (P.m.rn.s.r.nm i s hs so).2.2.2.bl
    refine (drop_ok P.m.rn hx hne hf hs hfb).mono ?_
    rintro e w1 ⟨rfl, pg', W', rn, hsb, st⟩
    obtain ⟨P1, kd1⟩ := P.m.store rn st
    refine ⟨0, rfl, P1.rn.k, kd1, fun V k2 => ?_⟩
    obtain ⟨j, c2, hj, hfd2, hat, rl2⟩ := P.rl.drop P.m.rn.s.r P.m.rn.s.b.tl hf hs hfb hsb
    have hfr : (freeL L s.a).2 = dropL L p k := by unfold freeL; rw [hfb]
    have hp := (Hp.findB_some hfb).1
    have PV := P1.keep k2
    rw [hne] at hg
    refine rDrop_ok PV.sr hg (fun V' s' => ?_)
    refine (Rs.rDrop_some s' x hfd2 (List.getElem?_eq_some_iff.1 hj).1 hat (fun E' hE => ?_)).mono ?_
    · rw [he, hfr] at hE
      exact Hp.eo_of rn.s.b.wl (Hp.nb_drop P.nb hp k) (P1.full P.q4) hE
    · rintro e w2 ⟨rfl, E', hE, s2⟩
      rw [he, hfr] at hE
      obtain ⟨P2, kd2⟩ := PV.ref z0 s2
      exact ⟨rfl, kd2, _, _, _, _, _, _, _, _, ⟨P2, hE, Hp.nb_drop P.nb hp k, rl2, P.q4⟩, by simp; omega⟩
  · refine (drop_no P.m.rn.s hx (by simpa using hne)).mono ?_
    rintro e w1 ⟨rfl, k⟩
    have P1 := P.keep k
    refine ⟨_, rfl, P1.m.rn.k, Kd.ofK k, fun V k2 => ?_⟩
    refine (rDrop_no (P1.m.keep k2).sr hg hne).mono ?_
    rintro e w2 ⟨rfl, s2⟩
    obtain ⟨P2, kd2⟩ := (P1.m.keep k2).ref z0 s2
    exact ⟨rfl, kd2, _, _, _, _, _, _, _, _, ⟨P2, he, P.nb, P.rl, P.q4⟩, hl⟩

theorem Pl.bput (h : Pl w0 w A br n) (z0 : 0 < w0.heap.size) (hn : n < 65536) (t : ByteArray) :
    Calls Tryz.prog 9 #[sp A.st, .string t] w fun e w1 => ∃ y er, e = .returned (.tuple #[.int .u64 y, .int .i64 er]) ∧ Aside (U64 y ∧ K w0 w1 ∧ Kd w w1 ∧ Nx 16 #[rp br, .string t] (.tuple #[.int .u64 y, .int .i64 er]) w0 A br (n + 1) w1) := by
  by_cases ht : t.size ≤ 1000
  case neg =>
    have ht2 : 1000 < t.size := by omega
    obtain ⟨pg, W, L, v, T, E, R, C, P, hl⟩ := h
    refine (put_long P.m.rn.s t ht2).mono ?_
    rintro e w1 ⟨rfl, k⟩
    have P1 := P.keep k
    refine ⟨0, 4, rfl, ⟨by decide, by decide⟩, P1.m.rn.k, Kd.ofK k, fun V k2 => ?_⟩
    refine (rPut_long t ht2 V).mono ?_
    rintro e w2 ⟨rfl, k3⟩
    exact ⟨rfl, Kd.ofK k3, _, _, _, _, _, _, _, _, (P1.keep k2).keep k3, by omega⟩
  obtain ⟨pg, W, L, v, T, E, R, C, P, hl⟩ := h
  have hw1 : (wds (bs t)).length ≤ 126 := by
    have := Tx.wds_len (bs t)
    have := Tx.bs_len t
    omega
  have hC := P.alloc (2 + ((wds (bs t)).length : Int))
  have he := P.e
  refine (put_short P.m.rn.s P.m.rn.k.size t ht).mono ?_
  rintro e w1 (⟨a, L', y, T', ea, eo, rfl, pg', W', v', sw, sm, ho, st⟩ | ⟨er, her, hc, rfl, pg', W', v', sw, sm, st⟩)
  · have ea2 : allocL A.q (entsR E) (((wds (bs t)).length : Int) + 2) = (a, 0, L') := by rw [he, Int.add_comm]; exact ea
    have a0 : 0 ≤ a ∧ a ≤ 67108864 := by
      obtain ⟨_, hR⟩ := So.allocRm P.m.rn.s.b.wl (x := 2 + ((wds (bs t)).length : Int)) ⟨by omega, by omega⟩ ea
      have := sw.b.at ((hR _ _).2 (.inl ⟨rfl, rfl⟩))
      omega
    have hy := (So.nm_word a0.1 P.m.rn.s.b.tl sw.b.tb.wf eo).2
    have hold := fun y' ys (h : Ho T W y' ys) => Ho.make P.m.rn.s.r sm a0.1 P.m.rn.s.b.tl eo h
    obtain ⟨P1, kd1⟩ := P.m.store ⟨sw, P.m.rn.kst st⟩ st
    refine ⟨y, 0, rfl, hy, P1.rn.k, kd1, fun V k => ?_⟩
    have PV := P1.keep k
    obtain ⟨R', hoR, _⟩ := rl_add P.rl a0.1 P.m.rn.s.b.tl eo ho hold (.bool false)
    rw [ea] at hC
    refine (rPut_text t ht (fun V' k' => Rs.rMake_ok (PV.sr.keep k').again (wds (bs t)).length (by omega) ea2 hC (by omega) hoR (by omega)) (fun c hc => (hold _ _ (P.rl.r c hc)).1)).mono ?_
    rintro e w2 ⟨rfl, h2⟩
    obtain ⟨E', v9, hE, s2⟩ := h2.out
    obtain ⟨P2, kd2⟩ := PV.ref z0 s2
    obtain ⟨R2, hoR2, rl2⟩ := rl_add P.rl a0.1 P.m.rn.s.b.tl eo ho hold v9
    rw [hoR] at hoR2
    simp only [Prod.mk.injEq] at hoR2
    obtain ⟨_, _, rfl⟩ := hoR2
    have nb := Hp.nb_alloc P.m.rn.s.b.wl P.nb P.q4 (2 + ((wds (bs t)).length : Int))
    rw [ea] at nb
    exact ⟨rfl, kd2, _, _, _, _, _, _, _, _, ⟨P2, hE, nb, rl2, P.q4⟩, by simp; omega⟩
  · obtain ⟨P1, kd1⟩ := P.m.store ⟨sw, P.m.rn.kst st⟩ st
    have hne : er ≠ 0 := by simpa using her
    refine ⟨0, er, rfl, ⟨by decide, by decide⟩, P1.rn.k, kd1, fun V k => ?_⟩
    have PV := P1.keep k
    have rl1 := P.rl.same P.m.rn.s.r sm
    refine rPut_none t ht hne (fun V' k' => ?_)
    have s' := (PV.sr.keep k').again
    have back : ∀ {w2 : World} {E2 : List Hp.Re}, entsR E2 = L → Sr (V', w0.heap.size) w2 br A.q A.m A.z E2 R C → Aside (Kd V w2 ∧ Pl w0 w2 A br (n + 1)) := fun hE s2 => by
      obtain ⟨P2, kd2⟩ := (PV.keep k').ref z0 s2
      exact ⟨(Kd.ofK k').trans kd2, _, _, _, _, _, _, _, _, ⟨P2, hE, P.nb, rl1, P.q4⟩, by omega⟩
    rcases hc with ⟨a, ea, _⟩ | ⟨rfl, hf, a, L', ea⟩
    · have ea2 : allocL A.q (entsR E) (((wds (bs t)).length : Int) + 2) = (a, er, L) := by rw [he, Int.add_comm]; exact ea
      rw [ea] at hC
      refine (Rs.rMake_noroom s' ((wds (bs t)).length : Int) (by omega) (by omega) ea2 hne hC).mono ?_
      rintro e w2 ⟨rfl, E', hE, s2⟩
      exact ⟨rfl, back hE s2⟩
    · have ea2 : allocL A.q (entsR E) (((wds (bs t)).length : Int) + 2) = (a, 0, L') := by rw [he, Int.add_comm]; exact ea
      rw [ea] at hC
      have a0 : 0 ≤ a ∧ a ≤ 67108864 := by
        obtain ⟨_, hR⟩ := So.allocRm P.m.rn.s.b.wl (x := 2 + ((wds (bs t)).length : Int)) ⟨by omega, by omega⟩ ea
        have wl2 := Rs.alloc_wl (q := A.q) P.m.rn.s.b.wl (2 + ((wds (bs t)).length : Int))
        have nb2 := Hp.nb_alloc P.m.rn.s.b.wl P.nb P.q4 (2 + ((wds (bs t)).length : Int))
        rw [ea] at wl2 nb2
        obtain ⟨p, hp, k, hk, hpa, _⟩ := (hR a _).2 (.inl ⟨rfl, rfl⟩)
        have h1 := Hp.place_in (wl2.ent p hp) (Hp.slot_ok hk)
        have h2 := wl2.n0 p hp
        have h3 := nb2 p hp
        have h4 := (wl2.ent p hp).span
        unfold Hp.addrI at hpa
        omega
      obtain ⟨y, hoR⟩ := rl1.full a0.1 hf
      refine (Rs.rMake_full s' ((wds (bs t)).length : Int) (by omega) (by omega) ea2 hC (by omega) hoR (by decide)).mono ?_
      rintro e w2 ⟨rfl, s2⟩
      exact ⟨rfl, back he s2⟩

end Bb
end Go.Proofs.YtlmfojkhfipdnaaGreatDoor
