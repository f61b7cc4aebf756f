/-
  The walk of package store's takeBack.
-/
import Derived.Test.YtbbjfebdihepnaaGreatDoorE5
namespace Go.Proofs.YtbbjfebdihepnaaGreatDoor
open Go.RowKit Go.Maps
attribute [local go_sem ↓] Go.wp_at_zero Go.wp_at_succ
namespace So
open Hp (Kept K No Pg BlR Bl Wl SameBut dropL findB)
variable {w w' : World} {B : Nat} {A : Ad} {pg : List (Int × Nat)} {W V : Int → Int} {L : List Pg} {v : Value} {T : List Hd.Sl}

theorem layW_idem (W V : Int → Int) (N : Int) : layW (layW W V N 64) V N 64 = layW W V N 64 := funext fun a => by
  unfold layW
  by_cases h : 64 * N ≤ a ∧ a < 64 * N + (64 : Nat)
  · rw [if_pos h, if_pos h]
  · rw [if_neg h, if_neg h]
/-- What takeBack leaves, of those pages. -/
def tbW (W V : Int → Int) (ks : List Int) (N : Int) : Int → Int := if N ∈ ks then layW W V N 64 else W
theorem tbW_nil (W V : Int → Int) (N : Int) : tbW W V [] N = W := by unfold tbW; rw [if_neg (by simp)]
theorem tbW_no {W V : Int → Int} {ks : List Int} {N M : Int} (h : M ≠ N) : tbW W V (ks ++ [M]) N = tbW W V ks N := by
  unfold tbW
  have : N ∈ ks ++ [M] ↔ N ∈ ks := by
    rw [List.mem_append, List.mem_singleton]
    exact ⟨fun h2 => h2.elim (fun x => x) (fun x => absurd x.symm h), .inl⟩
  simp only [this]
theorem tbW_yes (W V : Int → Int) (ks : List Int) (N : Int) : layW (tbW W V ks N) V N 64 = tbW W V (ks ++ [N]) N := by
  have e : tbW W V (ks ++ [N]) N = layW W V N 64 := by unfold tbW; rw [if_pos (by simp)]
  rw [e]
  unfold tbW
  split
  · exact layW_idem _ _ _
  · rfl

theorem run_ixP (g n cap i : Nat) (hi : i < n) (w' : World) : (Instr.indexAt 100 (.slice (some ⟨g, 0, none⟩) n cap) (.int .i64 (i : Int))).run Tryz.prog w' = .ok (.pointer (some ⟨g, i * 65, none⟩)) w' := by
  have hel : Tryz.prog.elem 100 = 184 := by kernel_rfl
  have hsz : (sizeOf 184).run Tryz.prog w' = .ok 65 w' := by kernel_rfl
  have hu : Tryz.prog.underlying 100 = some (.slice (Tryz.prog.elem 100)) := by kernel_rfl
  rw [run_indexAt_slice w' 100 _ n cap .i64 i hu, if_pos (by omega), hel, hsz]
  simp only [Result.andThen_ok, Int.toNat_natCast]
  rw [Go.WideShapes.add_plain, Nat.zero_add]

/-- A row of pages of one's own. -/
theorem rowP {n₀ : Nat} {u : Value} {ks : List Int} (h : w.ownsRow n₀ 184 65 u ks.length (flat V ks)) : ∃ g a cap, u = .slice a ks.length cap ∧ (0 < ks.length → a = some ⟨g, 0, none⟩ ∧ some g = u.ownBlock ∧ g < w.heap.size) ∧ ∀ (i : Nat) N, ks[i]? = some N → w.rangeAt g (i * 65) (pArr V N).toList := by
  rcases h.2 with ⟨h1, h0⟩ | ⟨g, cap, cur, h1, _, hbk, h2, h3, h4, h5⟩
  · have : ks = [] := List.eq_nil_of_length_eq_zero h0
    subst this
    exact ⟨0, none, 0, by rw [h1]; rfl, fun h => by simp at h, fun i N hi => by simp at hi⟩
  · refine ⟨g, some ⟨g, 0, none⟩, cap, h1, fun _ => ⟨rfl, by rw [h1]; rfl, (Array.getElem?_eq_some_iff.1 hbk).1⟩, fun i N hi j y hy => ?_⟩
    have hj : j < 65 := by
      have := (List.getElem?_eq_some_iff.1 hy).1
      rw [pArr_len] at this
      exact this
    have hil := (List.getElem?_eq_some_iff.1 hi).1
    have hg := flat_get V ks i N j hi hj
    rw [← h5, List.getElem?_take, if_pos (by omega)] at hg
    simp only [World.cell?, hbk]
    rw [if_neg (by simp), ← Array.getElem?_toList, hg]
    simpa using hy

set_option maxRecDepth 100000 in
set_option maxHeartbeats 2000000 in
theorem takeBack_any (h : Sb w B A pg W L v T) (hB : B ≤ w.heap.size) {a r : Int} (hb : BlR L a r) {p : Pg} {k : Int} (hf : findB L a = some (p, k)) {u : Value} {n₀ : Nat} {ks : List Int} (hrow : w.ownsRow n₀ 184 65 u ks.length (flat V ks)) (hoff : ∀ g, some g = u.ownBlock → ¬ foot A pg v g) (hkl : ks.length ≤ 4096) (hV : ∀ a, Sl.WordOk (V a))
    (hlay : ∀ pg' W', Hp.Lay pg' W' (dropL L p k) → a / 64 ∈ ks → (Sl.blk pg' (a / 64)).isSome = true ∧ Hp.Lay pg' (layW W' V (a / 64) 64) (dropL L p k)) :
    Calls Tryz.prog 87 #[sp A.st, .int .i64 a, u] w fun e w' => e = .returned (.tuple #[]) ∧ ∃ pg' W', Sb w' B A pg' (tbW W' V ks (a / 64)) (dropL L p k) v T ∧ SameBut L p k W W' ∧ Stp A pg pg' v v w w' := by
  have fr := h.free hB hb hf
  have c1 := h.c1
  have hat := h.at hb
  have a0 := hat.1
  have a1 : a ≤ 67108863 := by omega
  obtain ⟨g, ad, cap, rfl, hg, hrg⟩ := rowP hrow
  have HRG : Aside _ := hrg
  have HG : Aside _ := hg
  have HO : Aside _ := hoff
  have HL : Aside _ := hlay
  clear hrow hrg hoff hlay hg hat hf hb
  generalize hn : ks.length = n at *
  have HN : Aside _ := hn
  clear hn
  go_enter Tryz.func87, Tryz.ntmps87
  go_wp2_with fail
  refine fr.mono ?_
  rintro e w1 ⟨rfl, pg1, W1, b1, sb1, t1⟩
  have SB1 : Aside _ := sb1
  have hB1 := Nat.le_trans hB t1.k.size
  clear fr c1 h sb1
  go_wp2
  go_loopg [16] n (fun gh t wx => ∃ i : Nat, i + gh = n ∧ t = .int .i64 i ∧ Sb wx B A pg1 (tbW W1 V (ks.take i) (a / 64)) (dropL L p k) v T ∧ Stp A pg1 pg1 v v w1 wx)
  case atStart => exact ⟨0, by omega, rfl, by rw [List.take_zero, tbW_nil]; exact b1, Stp.refl _ _ _ _⟩
  case round =>
    obtain ⟨i, hig, rfl, bx, tx⟩ := hrel
    by_cases hlt : i < n
    · obtain ⟨N, hNi⟩ : ∃ N, ks[i]? = some N := ⟨_, List.getElem?_eq_getElem (by rw [HN.out]; exact hlt)⟩
      obtain ⟨rfl, hgo, hgl⟩ := HG.out (by omega)
      have hgf : ¬ foot A pg v g := HO.out g hgo
      have hgf1 : ¬ foot A pg1 v g := t1.off hgl hgf
      have RG : Aside (wr.rangeAt g (i * 65) (pArr V N).toList) := fun j y hy => tx.cell (t1.cell (HRG.out i N hNi j y hy) hgf) hgf1
      have hix := run_ixP g n cap i hlt
      have etk : ks.take (i + 1) = ks.take i ++ [N] := by rw [List.take_add_one, hNi]; rfl
      obtain ⟨w2, hw2⟩ : ∃ w2, w2 = wr.alloc (.cells (pArr V N) 184) := ⟨_, rfl⟩
      have hb2 : w2.heap[wr.heap.size]? = some (.cells (pArr V N) 184) := by rw [hw2]; exact World.alloc_heap_new _ _
      have k2 : K wr w2 := by rw [hw2]; exact (K.refl wr).alloc _
      have d0 : w2.cell? ⟨wr.heap.size, 0, none⟩ = some (.int .i64 N) := by
        simp only [World.cell?, hb2]
        rw [if_neg (by simp)]
        exact pArr_zero _ _
      have hst := run_storeCells_new (P := Tryz.prog) wr 184 (pArr (fun _ => 0) 0) (pArr V N) (size_apage _ _) (by rw [pArr_size, pArr_size]) (pArr_all _ _)
      have hsz := pArr_size V N
      have hp0 : (pArr V N)[0]'(by rw [pArr_size]; omega) = .int .i64 N := by
        have := pArr_zero V N
        rw [Array.getElem?_eq_getElem (by rw [pArr_size]; omega)] at this
        exact Option.some.inj this
      have ETK : Aside _ := etk
      have HNI : Aside _ := hNi
      clear etk hNi
      by_cases hpp : N = a / 64
      · subst hpp
        have hmem : a / 64 ∈ ks := List.mem_of_getElem? HNI.out
        have b2 := bx.keep k2
        have c0 := b2.c0
        obtain ⟨hbl, hly⟩ := HL.out pg1 _ bx.hp.ly hmem
        have HLY : Aside _ := hly
        have bd := b2.keep (K.refl w2).drew
        have la := lay_any bd.hp.hw.ar hbl (by omega) (by omega) hV
        have rg2 : w2.rangeAt wr.heap.size 0 (pArr V (a / 64)).toList := range_block hb2
        have nfP : ¬ foot A pg1 v wr.heap.size := fun hf => by have := bx.flt hf; omega
        have hBx : B ≤ w2.drew.heap.size := Nat.le_trans hB1 (Nat.le_trans tx.k.size k2.size)
        have la2 : Calls Tryz.prog 105 #[.pointer (some ⟨A.bs, 0, none⟩), .agg (pArr V (a / 64))] w2.drew fun e w' => e = .returned (.tuple #[]) ∧ Aside (Sb w' B A pg1 (tbW W1 V (ks.take (i + 1)) (a / 64)) (dropL L p k) v T ∧ Stp A pg1 pg1 v v w1 w') ∧ w'.cell? ⟨A.st, 0, none⟩ = some (.pointer (some ⟨A.bs, 0, none⟩)) ∧ w'.rangeAt wr.heap.size 0 (pArr V (a / 64)).toList := by
          refine la.mono ?_
          rintro e w3 ⟨rfl, a3, s3⟩
          rw [tbW_yes, ← ETK.out] at a3
          have ly3 := HLY.out
          rw [tbW_yes, ← ETK.out] at ly3
          have b3 := bd.heap hBx ⟨bd.hp.hw.step a3 s3, ly3⟩ s3
          have t3 := (tx.thenK (k2.drew)).trans (Stp.heap (v := v) s3)
          exact ⟨rfl, ⟨b3, t3⟩, b3.c0, fun j y hy => (Stp.heap (v := v) s3).cell (((K.refl w2).drew).cell (rg2 j y hy)) nfP⟩
        have HB2 : Aside (w2.heap[wr.heap.size]? = some (.cells (pArr V (a / 64)) 184)) := hb2
        clear la hly bd b2 hbl hb2 bx
        go_wp2_with (first
          | ((with_reducible refine wpList_load_ap g (i * 65) V (a / 64) ?_ ?_ ?_); (· exact RG.out); (· rfl))
          | (with_reducible refine wpList_alloc_ap ?_))
        rw [← hw2]
        clear hst hsz hp0 hw2
        generalize wr.heap.size = P at *
        have hHeld : (fun w' : World => w'.cell? ⟨A.st, 0, none⟩ = some (.pointer (some ⟨A.bs, 0, none⟩)) ∧ w'.rangeAt P 0 (pArr V (a / 64)).toList) w2.drew := ⟨((K.refl w2).drew).cell c0, fun j y hy => ((K.refl w2).drew).cell (rg2 j y hy)⟩
        refine wp_region_held_drew (S := fun w' : World => w'.cell? ⟨A.st, 0, none⟩ = some (.pointer (some ⟨A.bs, 0, none⟩)) ∧ w'.rangeAt P 0 (pArr V (a / 64)).toList) (by kernel_rfl) hHeld (fun _ => ?_)
        refine wpAnyH_take (i := 0) (oi := { dst := some 25, op := Op.move (Operand.tmp 0), type := 26, pos := "store.go:198", after := #[], guard := none }) (v := ?_) rfl (by kernel_rfl) (by kernel_rfl) (by kernel_rfl) (fun _ _ _ h => h) (Or.inl ⟨by rfl, ?_⟩) (by assumption) ?_
        rotate_left
        · intro w' hSw
          first | (go_simp; with_reducible rfl) | (go_simp; done)
        try simp only [Act.put, List.setIfInBounds_toArray, List.set_cons_zero, List.set_cons_succ]
        refine wpAnyH_take (i := 1) (oi := { dst := some 26, op := Op.nilCheck (Operand.tmp 25), type := 0, pos := "store.go:198", after := #[{ on := 0, ground := Ground.data }], guard := none }) (v := ?_) rfl (by kernel_rfl) (by kernel_rfl) (by kernel_rfl) (fun _ _ _ h => h) (Or.inl ⟨by rfl, ?_⟩) (by assumption) ?_
        rotate_left
        · intro w' hSw
          first | (go_simp; with_reducible rfl) | (go_simp; done)
        try simp only [Act.put, List.setIfInBounds_toArray, List.set_cons_zero, List.set_cons_succ]
        refine wpAnyH_take (i := 2) (oi := { dst := some 27, op := Op.fieldAddr 90 (Operand.tmp 26) 0, type := 0, pos := "store.go:198", after := #[{ on := 1, ground := Ground.data }], guard := none }) (v := ?_) rfl (by kernel_rfl) (by kernel_rfl) (by kernel_rfl) (fun _ _ _ h => h) (Or.inl ⟨by rfl, ?_⟩) (by assumption) ?_
        rotate_left
        · intro w' hSw
          first | (go_simp; with_reducible rfl) | (go_simp; done)
        try simp only [Act.put, List.setIfInBounds_toArray, List.set_cons_zero, List.set_cons_succ]
        refine wpAnyH_take (i := 3) (oi := { dst := some 28, op := Op.load 86 (Operand.tmp 27), type := 86, pos := "store.go:198", after := #[{ on := 2, ground := Ground.data }], guard := none }) (v := ?_) rfl (by kernel_rfl) (by kernel_rfl) (by kernel_rfl) (fun _ _ _ h => h) (Or.inl ⟨by rfl, ?_⟩) (by assumption) ?_
        rotate_left
        · intro w' hSw
          obtain ⟨h1, h2⟩ := hSw
          first | (go_simp; with_reducible rfl) | (go_simp; done)
        try simp only [Act.put, List.setIfInBounds_toArray, List.set_cons_zero, List.set_cons_succ]
        refine wpAnyH_take (i := 4) (oi := { dst := some 29, op := Op.load 184 (Operand.tmp 7), type := 184, pos := "store.go:198", after := #[], guard := none }) (v := .agg (pArr V (a / 64))) rfl (by kernel_rfl) (by kernel_rfl) (by kernel_rfl) (fun _ _ _ h => h) (Or.inl ⟨by rfl, ?_⟩) (by assumption) ?_
        · intro w' hSw
          have hl := load_ap hSw.2
          simp only [execOp, Sem.run_bind]
          simp only [Act.eval]
          simp [hl, Result.andThen]
        try simp only [Act.put, List.setIfInBounds_toArray, List.set_cons_zero, List.set_cons_succ]
        refine wpAnyH_ready (rs := [5]) (by kernel_rfl) (by simp) ?_
        refine AllReadyH.cons (o := { dst := some 30, op := Op.call { callee := Callee.value (Operand.func 105), args := #[Operand.tmp 28, Operand.tmp 29], argTypes := #[86, 184] }, type := 0, pos := "store.go:198", after := #[{ on := 3, ground := Ground.data }, { on := 4, ground := Ground.data }], guard := none }) rfl (fun K hK => ?_) AllReadyH.nil
        go_simp
        refine la2.mono ?_
        rintro e w3 ⟨rfl, HP, y0, y1⟩
        go_wp2_with fail
        refine hK.out _ _ ⟨y0, y1⟩ (fun _ => ?_)
        clear hK K
        try simp only [Act.put, List.setIfInBounds_toArray, List.set_cons_zero, List.set_cons_succ]
        refine wpAnyH_done (by kernel_rfl) ?_ _
        obtain ⟨b3, t3⟩ := HP.out
        have B3 : Aside _ := b3
        clear la2 HP b3 y0 y1 rg2 HB2 hHeld
        go_wp2
        go_roundg (n - (i + 1))
        case measure => omega
        case rel => exact ⟨i + 1, by omega, by go_num, B3.out, t3⟩
      · have hpe : (N == a / 64) = false := by simp [hpp]
        have HPP : Aside _ := hpp
        clear hpp
        go_wp2_with (first
          | ((with_reducible refine wpList_load_ap g (i * 65) V N ?_ ?_ ?_); (· exact RG.out); (· rfl))
          | (with_reducible refine wpList_alloc_ap ?_))
        go_roundg (n - (i + 1))
        case measure => omega
        case rel => exact ⟨i + 1, by omega, by go_num, by rw [ETK.out, tbW_no HPP.out]; exact bx.keep ((K.refl wr).alloc _), tx.thenK ((K.refl wr).alloc _)⟩
    · obtain rfl : i = n := by omega
      rw [List.take_of_length_le (by rw [HN.out]; omega)] at bx
      have BX : Aside _ := bx
      clear bx
      go_wp2
      go_end0
      exact ⟨rfl, pg1, W1, BX.out, SB1.out, t1.trans tx⟩

end So
end Go.Proofs.YtbbjfebdihepnaaGreatDoor

/-
  Alloc and Free of what it told are nothing. No Go text is named here.
-/
namespace Go.Proofs.YtbbjfebdihepnaaGreatDoor
namespace So
open Hp (Pg BlR Bl Wl Same SameBut allocL dropL findB roomI updL insL delL withT)
variable {L L' : List Pg} {W W' W0 W1 W2 : Int → Int} {q : Int}

theorem U_ext {a b : Int} (ha : Bt.U a) (hb : Bt.U b) (h : ∀ k, Bt.N k → Bt.hasI a k = Bt.hasI b k) : a = b := by
  have ha' : 0 ≤ a ∧ a ≤ 18446744073709551615 := ha
  have hb' : 0 ≤ b ∧ b ≤ 18446744073709551615 := hb
  have e : a.toNat = b.toNat := by
    apply Nat.eq_of_testBit_eq
    intro j
    by_cases hj : j < 64
    · have hk : Bt.N (j : Int) := ⟨by omega, by omega⟩
      have := h j hk
      rw [Bt.hasI_N hk, Bt.hasI_N hk] at this
      simpa using this
    · have hp : 18446744073709551616 ≤ 2 ^ j := by
        have : 2 ^ 64 ≤ 2 ^ j := Nat.pow_le_pow_right (by omega) (by omega)
        simpa using this
      rw [Nat.testBit_lt_two_pow (by omega), Nat.testBit_lt_two_pow (by omega)]
  omega
theorem clr_set {t s : Int} (hu : Bt.U t) (hs : Bt.N s) (hf : Bt.hasI t s = false) : Bt.clrI (Bt.setI t s) s = t := by
  refine U_ext (Bt.clrI_U (Bt.setI_U hu hs)) hu fun k hk => ?_
  rw [Hp.has_clr hs hk, Hp.has_set hs hk]
  by_cases e : k = s
  · subst e
    simp [hf]
  · simp [e]

theorem upd_upd (l : Wl L) {p p1 : Pg} (hp : p ∈ L) (hn : p1.n = p.n) : updL (updL L p.n p1) p.n p = L := by
  unfold updL
  rw [List.map_map]
  have : ∀ r ∈ L, ((fun r => if r.n = p.n then p else r) ∘ fun r => if r.n = p.n then p1 else r) r = r := fun r hr => by
    simp only [Function.comp_apply]
    by_cases e : r.n = p.n
    · rw [if_pos e, if_pos hn]
      exact (l.inj hr hp e).symm
    · rw [if_neg e, if_neg e]
  exact (List.map_congr_left this).trans (List.map_id _)
theorem del_ins {p : Pg} (h : ∀ r ∈ L, r.n ≠ p.n) : delL (insL p L) p.n = L := by
  have hd : ∀ {M : List Pg}, (∀ r ∈ M, r.n ≠ p.n) → delL M p.n = M := fun hM => by
    unfold delL
    rw [List.filter_eq_self]
    intro r hr
    simp [hM r hr]
  induction L with
  | nil => simp [insL, delL]
  | cons r L ih =>
    have h1 : r.n ≠ p.n := h r (by simp)
    have h2 : ∀ x ∈ L, x.n ≠ p.n := fun x hx => h x (by simp [hx])
    unfold insL
    split
    · have : delL (p :: r :: L) p.n = delL (r :: L) p.n := by simp [delL]
      rw [this, hd h]
    · have : delL (r :: insL p L) p.n = r :: delL (insL p L) p.n := by simp [delL, h1]
      rw [this, ih h2]

theorem fit_off (l : Wl L) {m : Int} (hm : 1 ≤ m) : ∀ r ∈ L, r.n ≠ Hp.fit m 0 L := fun r hr e => by
  obtain ⟨_, h2, _⟩ := Hp.fit_spec hm L 0 l.srt (fun p hp => (l.ent p hp).span.1) l.n0
  have := (l.ent r hr).span
  exact h2 (Hp.fit m 0 L) (by omega) (by omega) ⟨r, hr, by omega, by omega⟩

/-- What Alloc told is found, and freed it leaves the entries as they were. -/
theorem undo (l : Wl L) (l' : Wl L') {x a : Int} (hx : 1 ≤ x ∧ x ≤ 4000) (e : allocL q L x = (a, 0, L')) : ∃ p k, findB L' a = some (p, k) ∧ dropL L' p k = L := by
  unfold allocL at e
  rw [if_pos hx] at e
  cases hs : Cl.smaI x with
  | true =>
    rw [hs] at e
    simp only [if_true] at e
    obtain ⟨c0, c1, c2⟩ := Hp.cls_in hx hs
    cases hf : Hp.freeB L (Cl.clsI x) with
    | some ps =>
      obtain ⟨p, s⟩ := ps
      rw [hf] at e
      obtain ⟨hp, h1, hc, s0, s1, hh⟩ := Hp.freeB_some hf
      rw [← hc] at s1
      simp only [Prod.mk.injEq] at e
      obtain ⟨rfl, _, rfl⟩ := e
      obtain ⟨_, _, ht, hu, _⟩ := (l.ent p hp).small h1
      have hN := Hp.N_of s0 s1 (Hp.slo_le p.cls).2
      have hm : withT p (Bt.setI p.taken s) ∈ updL L p.n (withT p (Bt.setI p.taken s)) := (l.upd_mem hp).2 (.inl rfl)
      have hsl : s ∈ Hp.slotsOf (withT p (Bt.setI p.taken s)) := (Hp.mem_slots_set h1 s0 s1).2 (.inl rfl)
      have ea : Hp.addrI (withT p (Bt.setI p.taken s)) s = Hp.addrI p s := rfl
      have hfd := l'.find hm hsl
      rw [ea] at hfd
      refine ⟨_, _, hfd, ?_⟩
      have ec : Bt.clrI (withT p (Bt.setI p.taken s)).taken s = p.taken := clr_set hu hN hh
      have k1 : ¬ (withT p (Bt.setI p.taken s)).kind = 2 := by
        show ¬ p.kind = 2
        omega
      unfold dropL
      rw [if_neg k1, ec, if_neg ht]
      have ew : withT (withT p (Bt.setI p.taken s)) p.taken = p := rfl
      rw [ew]
      exact upd_upd l hp rfl
    | none =>
      rw [hf] at e
      simp only [] at e
      split at e
      · simp only [Prod.mk.injEq] at e
        obtain ⟨rfl, _, rfl⟩ := e
        have hm : Hp.smallPg (Hp.fit 1 0 L) (Cl.clsI x) ∈ insL (Hp.smallPg (Hp.fit 1 0 L) (Cl.clsI x)) L := Hp.mem_insL.2 (.inl rfl)
        refine ⟨_, _, l'.find hm ((Hp.slots_smallPg c0 c1 0).2 rfl), ?_⟩
        unfold dropL
        rw [if_neg (show ¬ (Hp.smallPg (Hp.fit 1 0 L) (Cl.clsI x)).kind = 2 from (by decide : ¬ (1 : Int) = 2)), if_pos (show Bt.clrI (Hp.smallPg (Hp.fit 1 0 L) (Cl.clsI x)).taken 0 = 0 from (by decide : Bt.clrI 1 0 = 0))]
        exact del_ins (fit_off l (by omega))
      · simp at e
  | false =>
    rw [hs] at e
    have hpg : Cl.pagI x = (x + 65) / 64 := if_pos hx
    simp only [Bool.false_eq_true, if_false] at e
    split at e
    · simp only [Prod.mk.injEq] at e
      obtain ⟨rfl, _, rfl⟩ := e
      have hm : Hp.largePg (Hp.fit (Cl.pagI x) 0 L) x ∈ insL (Hp.largePg (Hp.fit (Cl.pagI x) 0 L) x) L := Hp.mem_insL.2 (.inl rfl)
      have hsl : (0 : Int) ∈ Hp.slotsOf (Hp.largePg (Hp.fit (Cl.pagI x) 0 L) x) := by
        rw [Hp.mem_slots]
        simp [Hp.largePg]
      refine ⟨_, _, l'.find hm hsl, ?_⟩
      unfold dropL
      rw [if_pos (show (Hp.largePg (Hp.fit (Cl.pagI x) 0 L) x).kind = 2 from rfl)]
      exact del_ins (fit_off l (by omega))
    · simp at e

/-- A page's words, as they were, leave the heads. -/
theorem lay_back {pg pg' : List (Int × Nat)} (h : Hp.Lay pg W0 L) (N : Int) (hN : N ∈ nums pg) (h' : Hp.Lay pg' W' L) : (Sl.blk pg' N).isSome = true ∧ Hp.Lay pg' (layW W' W0 N 64) L := by
  refine ⟨(h'.cov N).2 ((h.cov N).1 (Hp.mem_keys.1 hN)), h'.ent, fun p hp => ?_, fun p hp => ?_, h'.srt, h'.cov⟩
  · unfold layW
    split
    · exact h.m p hp
    · exact h'.m p hp
  · unfold layW
    split
    · exact h.h p hp
    · exact h'.h p hp

theorem same_back {x a : Int} (l : Wl L) (hx : 1 ≤ x ∧ x ≤ 4000) (e : allocL q L x = (a, 0, L')) (hs : Same L W0 W1) {p : Pg} {k : Int} (hf : findB L' a = some (p, k)) (hb : SameBut L' p k W1 W2) (ks : List Int) (N : Int) : Same L W0 (tbW W2 W0 ks N) := fun r hr s hsl i i0 i1 => by
  have hR := allocRm l hx e
  have hB : BlR L' (Hp.addrI r s) (roomI r) := (hR.2 _ _).2 (.inr ⟨r, hr, s, hsl, rfl, rfl⟩)
  have hne : Hp.addrI r s ≠ a := fun e2 => hR.1 (e2 ▸ ⟨r, hr, s, hsl, rfl⟩)
  have h2 := (SameBut.at hf hb hB hne i0 i1).trans (hs r hr s hsl i i0 i1)
  unfold tbW
  split
  · unfold layW
    split
    · rfl
    · exact h2
  · exact h2

end So
end Go.Proofs.YtbbjfebdihepnaaGreatDoor
