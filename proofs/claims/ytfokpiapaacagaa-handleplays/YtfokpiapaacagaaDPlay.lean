/-
  The table and the reference side by side, and the row of handles that were told; play.
-/
import Derived.Test.YtfokpiapaacagaaDRefO
import Derived.Test.YtfokpiapaacagaaDNth
import Derived.Test.YtfokpiapaacagaaDDoor
import Derived.Deep.RegionHeld3
namespace Go.Proofs.Ytfokpiapaacagaa
open Go.RowKit Go.Maps
namespace Hd
open Hp (Kept K No)
variable {w0 w w' : World} {bt br : Nat} {q z : Int} {vt vr vt' vr' v1 v' : Value} {Lt Lt' R R' : List Sl} {Hs Hs' : List Int}

structure Mx (w0 w : World) (bt : Nat) (vt : Value) (br : Nat) (vr : Value) (q z : Int) (Lt R : List Sl) (v1 : Value) (Hs : List Int) : Prop where
  t : Tab w w0.heap.size bt q z vt Lt
  r : Rf w w0.heap.size br q z vr R
  rh : w.ownsRow w0.heap.size 39 1 v1 Hs.length (Hs.map encU)
  k : K w0 w
  tr : ∀ g, foot bt vt g → ¬ foot br vr g
  t1 : ∀ g, some g = v1.ownBlock → ¬ foot bt vt g
  r1 : ∀ g, some g = v1.ownBlock → ¬ foot br vr g

theorem Mx.keep (h : Mx w0 w bt vt br vr q z Lt R v1 Hs) (k : K w w') : Mx w0 w' bt vt br vr q z Lt R v1 Hs :=
  ⟨h.t.keep k, h.r.keep k, ownsRow_kept (O := No) h.rh k (fun _ _ x => x), h.k.trans k, h.tr, h.t1, h.r1⟩
theorem Mx.stepT (h : Mx w0 w bt vt br vr q z Lt R v1 Hs) (t : Tab w' w0.heap.size bt q z vt' Lt') (k : Kept (foot bt vt) w w') (hf : ∀ k, foot bt vt' k → foot bt vt k ∨ w.heap.size ≤ k) : Mx w0 w' bt vt' br vr q z Lt' R v1 Hs := by
  refine ⟨t, h.r.kept k (fun g hu ht => h.tr g ht hu), ownsRow_kept h.rh k h.t1, K.thenFoot h.k h.t k, fun g hg hu => ?_, fun g hg hx => ?_, h.r1⟩
  · rcases hf g hg with h1 | h1
    · exact h.tr g h1 hu
    · have := (h.r.foot_lt hu).2
      omega
  · rcases hf g hx with h1 | h1
    · exact h.t1 g hg h1
    · have := (own_lt h.rh hg).2
      omega
theorem Mx.stepR (h : Mx w0 w bt vt br vr q z Lt R v1 Hs) (t : Rf w' w0.heap.size br q z vr' R') (k : Kept (foot br vr) w w') (hf : ∀ k, foot br vr' k → foot br vr k ∨ w.heap.size ≤ k) : Mx w0 w' bt vt br vr' q z Lt R' v1 Hs := by
  refine ⟨h.t.kept k (fun g ht hu => h.tr g ht hu), t, ownsRow_kept h.rh k h.r1, ?_, fun g hg hu => ?_, h.t1, fun g hg hx => ?_⟩
  · exact ⟨k.os.trans h.k.os, k.tape.trans h.k.tape, k.output.trans h.k.output, Nat.le_trans h.k.size k.size, fun j hj hn => (k.same j (Nat.lt_of_lt_of_le hj h.k.size) (fun hx => by have := (h.r.foot_lt hx).1; omega)).trans (h.k.same j hj hn)⟩
  · rcases hf g hu with h1 | h1
    · exact h.tr g hg h1
    · have := (h.t.foot_lt hg).2
      omega
  · rcases hf g hx with h1 | h1
    · exact h.r1 g hg h1
    · have := (own_lt h.rh hg).2
      omega
/-- A new row. -/
theorem Mx.row (h : Mx w0 w bt vt br vr q z Lt R v1 Hs) (k : K w w') {n : Nat} (hn : Hs'.length = n) (hown : w'.ownsRow w.heap.size 39 1 v' n (Hs'.map encU)) : Mx w0 w' bt vt br vr q z Lt R v' Hs' := by
  have h2 := h.keep k
  have hB : w0.heap.size ≤ w.heap.size := h.k.size
  subst hn
  refine ⟨h2.t, h2.r, ⟨hown.1, ?_⟩, h2.k, h2.tr, fun g hg hx => ?_, fun g hg hx => ?_⟩
  · rcases hown.2 with h3 | ⟨g, cap, cur, e, hb, rest⟩
    · exact .inl h3
    · exact .inr ⟨g, cap, cur, e, Nat.le_trans hB hb, rest⟩
  · have h3 := (own_lt hown hg).1
    have h4 := (h.t.foot_lt hx).2
    omega
  · have h3 := (own_lt hown hg).1
    have h4 := (h.r.foot_lt hx).2
    omega

/-- A block beside all of these. -/
def By (w : World) (nb : Nat) (ob : Obj) (bt : Nat) (vt : Value) (br : Nat) (vr : Value) : Prop := w.heap[nb]? = some ob ∧ ¬ foot bt vt nb ∧ ¬ foot br vr nb
theorem By.new (h : Mx w0 w bt vt br vr q z Lt R v1 Hs) (ob : Obj) : By (w.alloc ob) w.heap.size ob bt vt br vr :=
  ⟨(MapKept.heap_alloc w _).1, fun hf => by have := (h.t.foot_lt hf).2; omega, fun hf => by have := (h.r.foot_lt hf).2; omega⟩
theorem By.keep {nb : Nat} {ob : Obj} (h : By w nb ob bt vt br vr) (k : K w w') : By w' nb ob bt vt br vr := ⟨k.block h.1, h.2⟩

theorem Mx.openT (h : Mx w0 w bt vt br vr q z Lt R v1 Hs) (a x er : Int) (L' : List Sl) (a1 : a ≤ 9223372036854775807) (e : openL q z Lt a = (x, er, L')) : Calls Try.prog 17 #[tp bt, .int .i64 a] w fun e w' => e = .returned (.tuple #[.int .u64 x, .int .i64 er]) ∧ ∃ vt', Mx w0 w' bt vt' br vr q z L' R v1 Hs ∧ ∀ nb ob, By w nb ob bt vt br vr → w'.heap[nb]? = some ob := by
  have := open_any h.t a a1
  rw [e] at this
  refine this.mono ?_
  rintro e w1 ⟨rfl, v', t, k, hf⟩
  exact ⟨rfl, v', h.stepT t k hf, fun nb ob hb => k.block hb.1 hb.2.1⟩
theorem Mx.openR (h : Mx w0 w bt vt br vr q z Lt R v1 Hs) (a x er : Int) (R' : List Sl) (a1 : a ≤ 9223372036854775807) (e : openL q z R a = (x, er, R')) : Calls Try.prog 24 #[tp br, .int .i64 a] w fun e w' => e = .returned (.tuple #[.int .u64 x, .int .i64 er]) ∧ ∃ vr', Mx w0 w' bt vt br vr' q z Lt R' v1 Hs := by
  have := rOpen_any h.r a a1
  rw [e] at this
  refine this.mono ?_
  rintro e w1 ⟨rfl, v', t, k, hf⟩
  exact ⟨rfl, v', h.stepR t k hf⟩
theorem Mx.closeT (h : Mx w0 w bt vt br vr q z Lt R v1 Hs) (x er : Int) (L' : List Sl) (hx : U64 x) (e : closeL Lt x = (er, L')) : Calls Try.prog 20 #[tp bt, .int .u64 x] w fun e w' => e = .returned (.int .i64 er) ∧ Mx w0 w' bt vt br vr q z L' R v1 Hs := by
  have := close_any h.t x hx
  rw [e] at this
  refine this.mono ?_
  rintro e w1 ⟨rfl, t, k⟩
  exact ⟨rfl, h.stepT t k (fun _ hk => .inl hk)⟩
theorem Mx.closeR (h : Mx w0 w bt vt br vr q z Lt R v1 Hs) (x er : Int) (R' : List Sl) (e : closeR R x = (er, R')) : Calls Try.prog 27 #[tp br, .int .u64 x] w fun e w' => e = .returned (.int .i64 er) ∧ ∃ vr', Mx w0 w' bt vt br vr' q z Lt R' v1 Hs := by
  have := rClose_any h.r x
  rw [e] at this
  refine this.mono ?_
  rintro e w1 ⟨rfl, v', t, k, hf⟩
  exact ⟨rfl, v', h.stepR t k hf⟩
theorem Mx.moveT (h : Mx w0 w bt vt br vr q z Lt R v1 Hs) (x a er : Int) (L' : List Sl) (hx : U64 x) (a1 : a ≤ 9223372036854775807) (e : moveL Lt x a = (er, L')) : Calls Try.prog 19 #[tp bt, .int .u64 x, .int .i64 a] w fun e w' => e = .returned (.int .i64 er) ∧ Mx w0 w' bt vt br vr q z L' R v1 Hs ∧ ∀ nb ob, By w nb ob bt vt br vr → By w' nb ob bt vt br vr := by
  have := move_any h.t x a hx a1
  rw [e] at this
  refine this.mono ?_
  rintro e w1 ⟨rfl, t, k⟩
  exact ⟨rfl, h.stepT t k (fun _ hk => .inl hk), fun nb ob hb => ⟨k.block hb.1 hb.2.1, hb.2⟩⟩
theorem Mx.moveR (h : Mx w0 w bt vt br vr q z Lt R v1 Hs) (x a er : Int) (R' : List Sl) (a1 : a ≤ 9223372036854775807) (e : moveL R x a = (er, R')) : Calls Try.prog 26 #[tp br, .int .u64 x, .int .i64 a] w fun e w' => e = .returned (.int .i64 er) ∧ ∃ vr', Mx w0 w' bt vt br vr' q z Lt R' v1 Hs ∧ ∀ nb ob, By w nb ob bt vt br vr → By w' nb ob bt vt br vr' := by
  have := rMove_any h.r x a a1
  rw [e] at this
  refine this.mono ?_
  rintro e w1 ⟨rfl, v', t, k, hf⟩
  exact ⟨rfl, v', h.stepR t k hf, fun nb ob hb => ⟨k.block hb.1 hb.2.2, hb.2.1, fun hx => by
    rcases hf nb hx with h1 | h1
    · exact hb.2.2 h1
    · have := (Array.getElem?_eq_some_iff.1 hb.1).1
      omega⟩⟩

theorem run_append_nilh (g n cap c : Nat) (hn : n ≤ cap) (ty : TypeId) (w : World) : (Builtin.append_ #[34, 34] ty #[.slice (some ⟨g, 0, none⟩) n cap, .slice none 0 c]).run Try.prog w = .ok (.slice (some ⟨g, 0, none⟩) n cap) w := by
  obtain ⟨i0, hi, hs, _, _⟩ := info_handle
  have := run_append_room_src (P := Try.prog) w 34 34 ty 39 i0 Try.underlying34 hi g 0 n cap (.slice none 0 c) 0 [] (_root_.Go.Src.ofNil w Try.underlying34 c) (by omega) (fun j hj => by simp at hj) (fun j hj => by simp at hj)
  simpa [World.setCells] using this

theorem wpList_append_handles {ops : Array Oper} {rest : List Oper} {o : Oper} {ac : Act} {Q : Exit → Act → World → Prop} (w : World) (hgd : o.guard = none) (s x : Operand)
    (ho : o.op = .call { callee := .builtin .append, args := #[s, x], argTypes := #[34, 34] })
    (base : Nat) (v : Value) (n : Nat) (xs : List Value) (hs : ac.eval s = v) (hown : w.ownsRow base 39 1 v n xs) (hv : v.ownBlock.isSome = true)
    (oa : Option Addr) (m c : Nat) (news : List Value) (hx : ac.eval x = .slice oa m c) (hl : news.length = m * 1) (hsrc : SrcRow w oa m news) (h1 : ∀ u ∈ news, u.oneCell' = true) (hb : n + m ≤ 100000) (hbase : base ≤ w.heap.size)
    (h : ∀ v' w', w'.ownsRow base 39 1 v' (n + m) (xs ++ news) → w.grownBy w' v.ownBlock → (v'.ownBlock = v.ownBlock ∨ v'.ownBlock = some w.heap.size) → wpList Try.prog ops Q rest (ac.put o.dst v') w') :
    wpList Try.prog ops Q (o :: rest) ac w := by
  obtain ⟨i0, hi, hsz, hby, z, hz, hzs⟩ := info_handle
  rcases hsrc with ⟨rfl, rfl, rfl⟩ | ⟨ad, rfl, hc⟩
  · refine wpList_plain hgd fun K hK => ?_
    rcases hown.2 with ⟨rfl, _⟩ | ⟨g, cap, cur, hvv, r1, r2, r3, r4⟩
    · cases hv
    · have hrun := run_append_nilh g n cap c r3 o.type w
      rw [← hvv] at hrun
      unfold Oper.wp execOp
      simp only [ho, resolve, invoke, builtin, Sem.run_bind, Sem.run_pure, Result.andThen_ok, List.map_toArray, List.map_cons, List.map_nil, hs, hx, hrun]
      refine hK _ _ (h v w ?_ ⟨rfl, rfl, rfl, Nat.le_refl _, fun _ _ _ => rfl⟩ (Or.inl rfl))
      simpa using hown
  · exact wpList_append_own_at w hgd s x 34 ho base 39 i0 z 1 8 Try.underlying34 hi hz hsz hby hzs (by decide) v n xs hs hown ad m c news hx hl hc h1 (by unfold maxLen; omega) (by omega) hbase (fun v' w' r1 r2 _ r4 => h v' w' r1 r2 r4)

/-- What play leaves. -/
def PlayPost (w0 : World) (bt br : Nat) (q z : Int) (n : Nat) (e : Ending) (w' : World) : Prop :=
  ∃ (aa : Option Addr) (n' cc : Nat) (vt vr : Value) (R : List Sl) (Hs : List Int), e = .returned (.tuple #[.slice aa n' cc, .bool true]) ∧ Mx w0 w' bt vt br vr q z (cls R) R (.slice aa n' cc) Hs ∧ Hs.length = n' ∧ n' ≤ n + 1 ∧ ∀ y ∈ Hs, U64 y

set_option maxRecDepth 100000 in
set_option maxHeartbeats 2000000 in
theorem play_any {aa : Option Addr} {n cc : Nat} (h : Mx w0 w bt vt br vr q z (cls R) R (.slice aa n cc) Hs) (hN : Hs.length = n) (hU : ∀ y ∈ Hs, U64 y) (hn : n ≤ 200) (d x a hh : Int) (ho : OpOk ⟨d, x, a, hh⟩) :
    Calls Try.prog 12 #[tp bt, tp br, .slice aa n cc, .agg #[.int .i64 d, .int .i64 x, .int .i64 a, .int .u64 hh]] w (PlayPost w0 bt br q z n) := by
  obtain ⟨ih, hih, hsh, hbh, zh, hzh, hzsh⟩ := info_handle
  have HH : Aside (Try.prog.info? 39 = some ih ∧ ih.size = 1 ∧ ih.bytes = 8 ∧ ih.zero = some zh ∧ zh.cells.size = 1) := ⟨hih, hsh, hbh, hzh, hzsh⟩
  have hby := By.new h (.cells #[.int .i64 d, .int .i64 x, .int .i64 a, .int .u64 hh] 41)
  have hk0 : K w (w.alloc (.cells #[.int .i64 d, .int .i64 x, .int .i64 a, .int .u64 hh] 41)) := (K.refl _).alloc _
  have hm := h.keep hk0
  have a63 : a ≤ 9223372036854775807 := ho.a.2
  have x64 : -9223372036854775808 ≤ x := ho.n.1
  have x63 : x ≤ 9223372036854775807 := ho.n.2
  have HHU : Aside (U64 hh) := ho.h
  have HN : Aside (Hs.length = n) := hN
  have HU : Aside _ := hU
  have hrow := hm.rh
  rw [hN] at hrow
  have cn := nth_any hrow hN (by omega) x x64 x63
  have hu := nthH_u64 hU x
  generalize nthH Hs x = y at cn hu
  have HY : Aside (U64 y) := hu
  clear hih hsh hbh hzh hzsh h ho hN hU hrow hu hk0
  go_enter Try.func12, Try.ntmps12
  go_wp2_with fail
  refine cn.mono ?_
  rintro e w1 ⟨rfl, rfl⟩
  generalize w.alloc (.cells #[.int .i64 d, .int .i64 x, .int .i64 a, .int .u64 hh] 41) = W at *
  generalize w.heap.size = nb at *
  have b0 : W.cell? ⟨nb, 0, none⟩ = some (.int .i64 d) := by simp [World.cell?, hby.1]
  have b2 : W.cell? ⟨nb, 2, none⟩ = some (.int .i64 a) := by simp [World.cell?, hby.1]
  have b3 : W.cell? ⟨nb, 3, none⟩ = some (.int .u64 hh) := by simp [World.cell?, hby.1]
  have HM : Aside _ := hm
  have HB : Aside _ := hby
  clear cn hm hby
  by_cases hd1 : d = 1
  · subst hd1
    as_aux_lemma =>
      obtain ⟨p, er, R1, hop⟩ : ∃ p er R1, openL q z R a = (p, er, R1) := ⟨_, _, _, rfl⟩
      have hopT : openL q z (cls R) a = (p, er, cls R1) := by rw [openL_cls, hop]
      have hp := openL_u64 HM.out.t.wf a
      rw [hopT] at hp
      have HP : Aside (U64 p) := hp
      have co := HM.out.openT a p er (cls R1) a63 hopT
      have HOP : Aside _ := hop
      clear hop hopT hp
      go_wp2_with fail
      refine co.mono ?_
      rintro e w2 ⟨rfl, vt2, h2, hb2⟩
      have hbb := hb2 _ _ HB.out
      have f2 : w2.cell? ⟨nb, 2, none⟩ = some (.int .i64 a) := by simp [World.cell?, hbb]
      have cr := h2.openR a p er R1 a63 HOP.out
      clear co h2 hb2 hbb HM HB HOP b0 b2 b3
      go_wp2_with fail
      refine cr.mono ?_
      rintro e w3 ⟨rfl, vr3, h3⟩
      clear cr f2
      by_cases her : er = 0
      · subst her
        have hrow := h3.rh
        rw [HN.out] at hrow
        have hsrc : ∀ o, SrcRow (w3.alloc o) aa n (Hs.map encU) := fun o => by
          rcases hrow.2 with ⟨hv, h0⟩ | ⟨g, c, cur, hv, _, hg, _, _, _, ht⟩
          · cases hv
            have : Hs = [] := List.eq_nil_of_length_eq_zero HN.out
            subst this
            exact .inl ⟨rfl, rfl, rfl⟩
          · cases hv
            refine .inr ⟨_, rfl, fun j u hu => ?_⟩
            rw [Go.WideShapes.add_plain, Nat.zero_add]
            refine ((K.refl w3).alloc o).cell ?_
            have hj := (List.getElem?_eq_some_iff.1 hu).1
            rw [List.length_map, HN.out] at hj
            rw [← ht, List.getElem?_take, if_pos (by omega)] at hu
            simp only [World.cell?, hg]
            rw [if_neg (by simp), ← Array.getElem?_toList]
            exact hu
        have HSRC : Aside _ := hsrc
        have HL : Aside ((Hs.map encU).length = n) := by show _ = _; rw [List.length_map]; exact HN.out
        have HONE : Aside (∀ u ∈ Hs.map encU, u.oneCell' = true) := fun u hu => by
          obtain ⟨y, _, rfl⟩ := List.mem_map.1 hu
          rfl
        have H3 : Aside _ := h3
        clear hsrc hrow h3
        go_wp2_with (first
          | (have _t := HONE
             at_builtin
             refine wpList_append_handles _ rfl _ _ rfl w3.heap.size _ 0 [] rfl (World.ownsRow_made w3 #[] 0 (Nat.le_refl _) (by unfold maxLen; omega) rfl) rfl aa n cc (Hs.map encU) rfl (by rw [HL.out, Nat.mul_one]) (HSRC.out _) HONE.out (by omega) (by simp) ?_
             intro v4 w4 hown hgrow hat
             rw [Nat.zero_add, List.nil_append] at hown
             have k4 : K w3 w4 := K.thenGrown (K.refl w3) hgrow (made_lo w3)
             obtain ⟨g4, c4, hv4⟩ := own_some hown (by rcases hat with e | e <;> rw [e] <;> rfl)
             subst hv4
             have hsz4 := Kept.size k4
             clear hgrow hat HONE)
          | (have _t := k4
             at_builtin
             refine wpList_append_handles _ rfl _ _ rfl w3.heap.size _ n (Hs.map encU) rfl (hown.alloc _) rfl (some ⟨w4.heap.size, 0, none⟩) 1 1 [encU p] rfl rfl (.inr ⟨_, rfl, src_one w4 #[.int .u64 p] 39⟩) (one_u p) (by omega) (by simp; omega) ?_
             intro v5 w5 hown5 hgrow5 hat5
             have k5 : K w3 w5 := K.thenGrown k4 hgrow5 (fun j hj => (own_lt hown hj).1)
             obtain ⟨g5, c5, hv5⟩ := own_some hown5 (by rcases hat5 with e | e <;> rw [e] <;> rfl)
             subst hv5
             clear k4 hown hgrow5 hat5))
        go_ret2
        refine ⟨_, _, _, vt2, vr3, R1, Hs ++ [p], rfl, H3.out.row k5 (n := n + 1) (by rw [List.length_append, HN.out]; rfl) (by rw [List.map_append]; exact hown5), by rw [List.length_append, HN.out]; rfl, by omega, fun u hu => ?_⟩
        rcases List.mem_append.1 hu with h | h
        · exact HU.out u h
        · obtain rfl : u = p := by simpa using h
          exact HP.out
      · have her : (er == 0) = false := by simpa using her
        have H3 : Aside _ := h3
        clear h3
        go_wp2
        go_ret2
        exact ⟨_, _, _, vt2, vr3, R1, Hs, by simp, H3.out, HN.out, by omega, HU.out⟩
  · have hd1 : (d == 1) = false := by simpa using hd1
    by_cases hd2 : d = 2
    · subst hd2
      clear hd1
      obtain ⟨g, ra, rc, hv, hr, _⟩ := rowR_form HM.out.r.row
      obtain ⟨p, er, hat⟩ : ∃ p er, atL R y = (p, er) := ⟨_, _, rfl⟩
      have ca := at_any HM.out.t y HY.out
      rw [atL_cls, hat] at ca
      have HAT : Aside _ := hat
      have HR : Aside _ := hr
      have HV : Aside _ := hv
      clear hat hr hv
      go_wp2_with fail
      refine ca.mono ?_
      rintro e w2 ⟨rfl, k2⟩
      have hm2 := HM.out.keep k2
      have cr := rAt_any (HR.out.keep k2) hm2.r.wf y
      rw [HAT.out] at cr
      have c0 := hm2.r.c0
      have c1 := hm2.r.c1
      have c2 := hm2.r.c2
      rw [HV.out] at c2
      have HM2 : Aside _ := hm2
      clear ca hm2 k2 b0 b2 b3 HM HB HAT
      go_wp2_with fail
      refine cr.mono ?_
      rintro e w3 ⟨rfl, k3⟩
      have H3 : Aside _ := HM2.out.keep k3
      clear cr k3 c0 c1 c2 HM2
      go_wp2
      go_ret2
      exact ⟨_, _, _, vt, vr, R, Hs, by simp, H3.out, HN.out, by omega, HU.out⟩
    have hd2 : (d == 2) = false := by simpa using hd2
    by_cases hd5 : d = 5
    · subst hd5
      clear hd1 hd2
      obtain ⟨g, ra, rc, hv, hr, _⟩ := rowR_form HM.out.r.row
      obtain ⟨p, er, hat⟩ : ∃ p er, atL R hh = (p, er) := ⟨_, _, rfl⟩
      have ca := at_any HM.out.t hh HHU.out
      rw [atL_cls, hat] at ca
      have HAT : Aside _ := hat
      have HR : Aside _ := hr
      have HV : Aside _ := hv
      clear hat hr hv
      go_wp2_with fail
      refine ca.mono ?_
      rintro e w2 ⟨rfl, k2⟩
      have hm2 := HM.out.keep k2
      have cr := rAt_any (HR.out.keep k2) hm2.r.wf hh
      rw [HAT.out] at cr
      have c0 := hm2.r.c0
      have c1 := hm2.r.c1
      have c2 := hm2.r.c2
      rw [HV.out] at c2
      have HM2 : Aside _ := hm2
      clear ca hm2 k2 b0 b2 b3 HM HB HAT
      go_wp2_with fail
      refine cr.mono ?_
      rintro e w3 ⟨rfl, k3⟩
      have H3 : Aside _ := HM2.out.keep k3
      clear cr k3 c0 c1 c2 HM2
      go_wp2
      go_ret2
      exact ⟨_, _, _, vt, vr, R, Hs, by simp, H3.out, HN.out, by omega, HU.out⟩
    have hd5 : (d == 5) = false := by simpa using hd5
    by_cases hd3 : d = 3
    · subst hd3
      clear hd1 hd2 hd5
      as_aux_lemma =>
        obtain ⟨er, R1, hmv⟩ : ∃ er R1, moveL R y a = (er, R1) := ⟨_, _, rfl⟩
        have hmT : moveL (cls R) y a = (er, cls R1) := by rw [moveL_cls, hmv]
        have cell2 : ∀ (w3 : World) (vr3 : Value), By w3 nb (.cells #[.int .i64 3, .int .i64 x, .int .i64 a, .int .u64 hh] 41) bt vt br vr3 → w3.cell? ⟨nb, 2, none⟩ = some (.int .i64 a) := fun w3 vr3 hb => by simp [World.cell?, hb.1]
        have T1 : ∀ (w' : World) (vr' : Value) (R' : List Sl), (Mx w0 w' bt vt br vr' q z (cls R) R' (.slice aa n cc) Hs ∧ By w' nb (.cells #[.int .i64 3, .int .i64 x, .int .i64 a, .int .u64 hh] 41) bt vt br vr') → Calls Try.prog 19 #[tp bt, .int .u64 y, .int .i64 a] w' fun e w3 => e = .returned (.int .i64 er) ∧ (Mx w0 w3 bt vt br vr' q z (cls R1) R' (.slice aa n cc) Hs ∧ By w3 nb (.cells #[.int .i64 3, .int .i64 x, .int .i64 a, .int .u64 hh] 41) bt vt br vr') ∧ w3.cell? ⟨nb, 2, none⟩ = some (.int .i64 a) := fun w' vr' R' hs => by
          refine (hs.1.moveT y a er (cls R1) HY.out a63 hmT).mono ?_
          rintro e w3 ⟨rfl, h3, hb3⟩
          exact ⟨rfl, ⟨h3, hb3 _ _ hs.2⟩, cell2 _ _ (hb3 _ _ hs.2)⟩
        have U1 : ∀ (w' : World) (L' : List Sl), (Mx w0 w' bt vt br vr q z L' R (.slice aa n cc) Hs ∧ By w' nb (.cells #[.int .i64 3, .int .i64 x, .int .i64 a, .int .u64 hh] 41) bt vt br vr) → Calls Try.prog 26 #[tp br, .int .u64 y, .int .i64 a] w' fun e w3 => e = .returned (.int .i64 er) ∧ (∃ vr', Mx w0 w3 bt vt br vr' q z L' R1 (.slice aa n cc) Hs ∧ By w3 nb (.cells #[.int .i64 3, .int .i64 x, .int .i64 a, .int .u64 hh] 41) bt vt br vr') ∧ w3.cell? ⟨nb, 2, none⟩ = some (.int .i64 a) := fun w' L' hs => by
          refine (hs.1.moveR y a er R1 a63 hmv).mono ?_
          rintro e w3 ⟨rfl, vr', h3, hb3⟩
          exact ⟨rfl, ⟨vr', h3, hb3 _ _ hs.2⟩, cell2 _ _ (hb3 _ _ hs.2)⟩
        have HD : Aside (Mx w0 W.drew bt vt br vr q z (cls R) R (.slice aa n cc) Hs ∧ By W.drew nb (.cells #[.int .i64 3, .int .i64 x, .int .i64 a, .int .u64 hh] 41) bt vt br vr) := ⟨HM.out.keep (K.refl W).drew, By.keep HB.out (K.refl W).drew⟩
        clear hmv hmT cell2 HM HB b3
        go_wp2
        go_region_held3 (fun w' => w'.cell? ⟨nb, 2, none⟩ = some (.int .i64 a)) (first | exact HC | go_keep) (first
          | (go_at_call 19; have _t := HU1; obtain ⟨vr7, hu7⟩ := HU1; refine (T1 _ vr7 R1 ?_).mono ?_; exact hu7; rintro e w6 ⟨rfl, HF0, HC⟩; have HF : ∃ vr', Mx w0 w6 bt vt br vr' q z (cls R1) R1 (.slice aa n cc) Hs := ⟨_, HF0.1⟩)
          | (go_at_call 26; have _t := HT1; refine (U1 _ (cls R1) ?_).mono ?_; exact HT1; rintro e w6 ⟨rfl, HF0, HC⟩; have HF : ∃ vr', Mx w0 w6 bt vt br vr' q z (cls R1) R1 (.slice aa n cc) Hs := by obtain ⟨vr', h', _⟩ := HF0; exact ⟨vr', h'⟩)
          | (go_at_call 19; refine (T1 _ vr R ?_).mono ?_; exact HD.out; rintro e w7 ⟨rfl, HT1, HC⟩)
          | (go_at_call 26; refine (U1 _ (cls R) ?_).mono ?_; exact HD.out; rintro e w7 ⟨rfl, HU1, HC⟩))
        all_goals
          obtain ⟨vr8, h8⟩ := HF
          have H8 : Aside _ := h8
          clear h8
          go_wp2
          go_ret2
          exact ⟨_, _, _, vt, vr8, R1, Hs, by simp, H8.out, HN.out, by omega, HU.out⟩
    have hd3 : (d == 3) = false := by simpa using hd3
    by_cases hd4 : d = 4
    · subst hd4
      clear hd1 hd2 hd5 hd3
      obtain ⟨er, R1, hcl⟩ : ∃ er R1, closeR R y = (er, R1) := ⟨_, _, rfl⟩
      have hcT : closeL (cls R) y = (er, cls R1) := by rw [closeL_cls, hcl]
      have co := HM.out.closeT y er (cls R1) HY.out hcT
      have HCL : Aside _ := hcl
      clear hcl hcT HM HB b2 b3
      go_wp2_with fail
      refine co.mono ?_
      rintro e w2 ⟨rfl, h2⟩
      have cr := h2.closeR y er R1 HCL.out
      clear co h2 HCL
      go_wp2_with fail
      refine cr.mono ?_
      rintro e w3 ⟨rfl, vr3, h3⟩
      have H3 : Aside _ := h3
      clear cr h3
      go_wp2
      go_ret2
      exact ⟨_, _, _, vt, vr3, R1, Hs, by simp, H3.out, HN.out, by omega, HU.out⟩
    have hd4 : (d == 4) = false := by simpa using hd4
    clear b2 b3
    go_wp2
    go_ret2
    exact ⟨_, _, _, vt, vr, R, Hs, by simp, HM.out, HN.out, by omega, HU.out⟩

end Hd
end Go.Proofs.Ytfokpiapaacagaa
