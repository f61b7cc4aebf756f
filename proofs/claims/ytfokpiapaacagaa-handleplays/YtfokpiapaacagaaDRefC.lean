/-
  The reference's functions that turn its table: New, Move, Close.
-/
import Derived.Test.YtfokpiapaacagaaDRefW
import Derived.Deep.AppendSrc
import Derived.Handy
namespace Go.Proofs.Ytfokpiapaacagaa
open Go.RowKit Go.Maps
namespace Hd
open Hp (Kept K No)
variable {w w' : World} {B br : Nat} {q z : Int} {v : Value} {R R' : List Sl}

theorem rNew_ok (q z : Int) (w : World) (q0 : 1 ≤ q) (q1 : q ≤ 65536) (z0 : 1 ≤ z) (z1 : z ≤ 4294967295) : Calls Try.prog 11 #[.int .i64 q, .int .u32 z] w fun e w' => e = .returned (.tuple #[.agg #[.int .i64 q, .int .u32 z, .slice none 0 0], .int .i64 0]) ∧ K w w' := by
  have hz : (z == 0) = false := by simp; omega
  go_enter Try.func11, Try.ntmps11
  go_wp2
  go_returns
  exact ⟨rfl, (K.refl _).alloc _⟩

theorem rNew_no (q z : Int) (w : World) (h : badNew q z) (z0 : 0 ≤ z) : Calls Try.prog 11 #[.int .i64 q, .int .u32 z] w fun e w' => e = .returned (.tuple #[.agg #[.int .i64 0, .int .u32 0, .slice none 0 0], .int .i64 2]) ∧ K w w' := by
  by_cases h1 : q < 1
  · clear h
    go_enter Try.func11, Try.ntmps11
    go_wp2
    go_returns
    exact ⟨rfl, (K.refl _).alloc _⟩
  by_cases h2 : 65536 < q
  · clear h
    go_enter Try.func11, Try.ntmps11
    go_wp2
    go_returns
    exact ⟨rfl, (K.refl _).alloc _⟩
  have h3 : z = 0 := by unfold badNew at h; omega
  subst h3
  clear h
  go_enter Try.func11, Try.ntmps11
  go_wp2
  go_returns
  exact ⟨rfl, (K.refl _).alloc _⟩

theorem info_refslot : ∃ i0, Try.prog.info? 73 = some i0 ∧ i0.size = 3 ∧ i0.bytes = 16 ∧ ∃ z, i0.zero = some z ∧ z.cells.size = 3 := by
  have hi : (Try.prog.info? 73).map (fun i => (i.zero.map (fun z => z.cells.size), i.size, i.bytes)) = some (some 3, 3, 16) := by kernel_rfl
  obtain ⟨i0, h1, h2⟩ := Option.map_eq_some_iff.1 hi
  simp only [Prod.mk.injEq] at h2
  obtain ⟨h3, h4, h5⟩ := h2
  obtain ⟨z, h6, h7⟩ := Option.map_eq_some_iff.1 h3
  exact ⟨i0, h1, h4, h5, z, h6, h7⟩

/-- What is appended: no slot of a nil slice, or the cells behind an address. -/
def SrcRow (w : World) (oa : Option Addr) (m : Nat) (news : List Value) : Prop := (oa = none ∧ m = 0 ∧ news = []) ∨ ∃ ad, oa = some ad ∧ ∀ j u, news[j]? = some u → w.cell? (ad.add j) = some u

theorem run_append_nil (g n cap c : Nat) (hn : n ≤ cap) (ty : TypeId) (w : World) : (Builtin.append_ #[29, 29] ty #[.slice (some ⟨g, 0, none⟩) n cap, .slice none 0 c]).run Try.prog w = .ok (.slice (some ⟨g, 0, none⟩) n cap) w := by
  obtain ⟨i0, hi, hs, _, _⟩ := info_refslot
  have := run_append_room_src (P := Try.prog) w 29 29 ty 73 i0 Try.underlying29 hi g 0 n cap (.slice none 0 c) 0 [] (_root_.Go.Src.ofNil w Try.underlying29 c) (by omega) (fun j hj => by simp at hj) (fun j hj => by simp at hj)
  simpa [World.setCells] using this

theorem wpList_append_refs {ops : Array Oper} {rest : List Oper} {o : Oper} {ac : Act} {Q : Exit → Act → World → Prop} (w : World) (hgd : o.guard = none) (s x : Operand)
    (ho : o.op = .call { callee := .builtin .append, args := #[s, x], argTypes := #[29, 29] })
    (base : Nat) (v : Value) (n : Nat) (xs : List Value) (hs : ac.eval s = v) (hown : w.ownsRow base 73 3 v n xs) (hv : v.ownBlock.isSome = true)
    (oa : Option Addr) (m c : Nat) (news : List Value) (hx : ac.eval x = .slice oa m c) (hl : news.length = m * 3) (hsrc : SrcRow w oa m news) (h1 : ∀ u ∈ news, u.oneCell' = true) (hb : n + m ≤ 100000) (hbase : base ≤ w.heap.size)
    (h : ∀ v' w', w'.ownsRow base 73 3 v' (n + m) (xs ++ news) → w.grownBy w' v.ownBlock → (v'.ownBlock = v.ownBlock ∨ v'.ownBlock = some w.heap.size) → wpList Try.prog ops Q rest (ac.put o.dst v') w') :
    wpList Try.prog ops Q (o :: rest) ac w := by
  obtain ⟨i0, hi, hsz, hby, z, hz, hzs⟩ := info_refslot
  rcases hsrc with ⟨rfl, rfl, rfl⟩ | ⟨ad, rfl, hc⟩
  · refine wpList_plain hgd fun K hK => ?_
    rcases hown.2 with ⟨rfl, _⟩ | ⟨g, cap, cur, hvv, r1, r2, r3, r4⟩
    · cases hv
    · have hrun := run_append_nil g n cap c r3 o.type w
      rw [← hvv] at hrun
      unfold Oper.wp execOp
      simp only [ho, resolve, invoke, builtin, Sem.run_bind, Sem.run_pure, Result.andThen_ok, List.map_toArray, List.map_cons, List.map_nil, hs, hx, hrun]
      refine hK _ _ (h v w ?_ ⟨rfl, rfl, rfl, Nat.le_refl _, fun _ _ _ => rfl⟩ (Or.inl rfl))
      simpa using hown
  · exact wpList_append_own_at w hgd s x 29 ho base 73 i0 z 3 16 Try.underlying29 hi hz hsz hby hzs (by decide) v n xs hs hown ad m c news hx hl hc h1 (by unfold maxLen; omega) (by omega) hbase (fun v' w' r1 r2 _ r4 => h v' w' r1 r2 r4)

theorem Rf.src (h : Rf w B br q z v R) : ∃ g a cap, v = .slice a R.length cap ∧ RowR w g a cap R ∧ ∀ o, SrcRow (w.alloc o) a R.length (rowVals R) := by
  obtain ⟨g, a, cap, hv, hr, hf, _, hc, _⟩ := rowR_form h.row
  refine ⟨g, a, cap, hv, hr, fun o => ?_⟩
  rcases hf with rfl | ⟨rfl, rfl, rfl⟩
  · exact .inr ⟨_, rfl, fun j u hu => by
      rw [Go.WideShapes.add_plain, Nat.zero_add]
      exact ((K.refl w).alloc o).cell (hc j u hu)⟩
  · exact .inl ⟨rfl, rfl, rfl⟩

/-- Behind the copy of the row, and its store. -/
theorem Rf.copy {w3 : World} {g n cap : Nat} (h : Rf w B br q z v R) (k : K w w3) (hown : w3.ownsRow w.heap.size 73 3 (.slice (some ⟨g, 0, none⟩) n cap) R.length (rowVals R)) :
    n = R.length ∧ g ≠ br ∧ w.heap.size ≤ g ∧ Rf (w3.setCell ⟨br, 2, none⟩ (.slice (some ⟨g, 0, none⟩) n cap)) B br q z (.slice (some ⟨g, 0, none⟩) n cap) R ∧ Kept (fun j => j = br) w (w3.setCell ⟨br, 2, none⟩ (.slice (some ⟨g, 0, none⟩) n cap)) := by
  have hlt := h.lt
  have hg : w.heap.size ≤ g := (own_lt hown rfl).1
  have hd3 := k.block h.hd
  have k4 : Kept (fun j => j = br) w3 (w3.setCell ⟨br, 2, none⟩ (.slice (some ⟨g, 0, none⟩) n cap)) := (Kept.refl _ _).setCell _ (.inl rfl)
  have hB : B ≤ w.heap.size := by have := h.lo; omega
  refine ⟨?_, by omega, hg, ⟨?_, ?_, fun e => ?_, h.wf, h.lo⟩, (k.kept _).trans k4⟩
  · rcases hown.2 with ⟨e, _⟩ | ⟨_, _, _, e, _⟩
    · cases e
    · cases e; rfl
  · simp only [World.setCell]
    rw [Array.getElem?_modify, if_pos rfl, hd3]
    rfl
  · have := ownsRow_kept hown k4 (fun j hj e => by
      have : j = g := Option.some.inj hj
      omega)
    refine ⟨this.1, ?_⟩
    rcases this.2 with h2 | ⟨g', c, cur, e, hb, rest⟩
    · exact .inl h2
    · exact .inr ⟨g', c, cur, e, by omega, rest⟩
  · have : g = br := Option.some.inj e
    omega

/-- A slot's cells are turned. -/
theorem Rf.turn {g n cap : Nat} (h : Rf w B br q z (.slice (some ⟨g, 0, none⟩) n cap) R) (k : Kept (fun j => j = g) w w') (hl : R'.length = R.length) (hrow : w'.ownsRow B 73 3 (.slice (some ⟨g, 0, none⟩) n cap) R.length (rowVals R')) (wf : Wf q z (cls R')) : Rf w' B br q z (.slice (some ⟨g, 0, none⟩) n cap) R' :=
  ⟨k.block h.hd (fun e => h.ap (by rw [e]; rfl)), by rw [hl]; exact hrow, h.ap, wf, h.lo⟩
theorem Rf.lenv {g n cap : Nat} (h : Rf w B br q z (.slice (some ⟨g, 0, none⟩) n cap) R) : n = R.length := by
  rcases h.row.2 with ⟨e, _⟩ | ⟨_, _, _, e, _⟩
  · cases e
  · cases e; rfl
theorem Rf.setA {g n cap i : Nat} {s : Sl} {a : Int} (h : Rf w B br q z (.slice (some ⟨g, 0, none⟩) n cap) R) (hs : R[i]? = some s) (wf : Wf q z (cls (R.set i ⟨s.o, s.g, a⟩))) : Rf (w.setCell ⟨g, i * 3 + 2, none⟩ (.int .i64 a)) B br q z (.slice (some ⟨g, 0, none⟩) n cap) (R.set i ⟨s.o, s.g, a⟩) := by
  have hn := h.lenv
  subst hn
  have hi := (List.getElem?_eq_some_iff.1 hs).1
  refine h.turn ((Kept.refl _ _).setCell _ (.inl rfl)) (by rw [List.length_set]) ?_ wf
  rw [← row_set hi ⟨s.o, s.g, a⟩]
  obtain ⟨e0, e1, _⟩ := row_at hs
  rw [set_self e0, set_self e1]
  exact own_set h.row
theorem Rf.setO {g n cap i : Nat} {s : Sl} {b : Bool} (h : Rf w B br q z (.slice (some ⟨g, 0, none⟩) n cap) R) (hs : R[i]? = some s) (wf : Wf q z (cls (R.set i ⟨b, s.g, s.a⟩))) : Rf (w.setCell ⟨g, i * 3, none⟩ (.bool b)) B br q z (.slice (some ⟨g, 0, none⟩) n cap) (R.set i ⟨b, s.g, s.a⟩) := by
  have hn := h.lenv
  subst hn
  have hi := (List.getElem?_eq_some_iff.1 hs).1
  refine h.turn ((Kept.refl _ _).setCell _ (.inl rfl)) (by rw [List.length_set]) ?_ wf
  rw [← row_set hi ⟨b, s.g, s.a⟩]
  obtain ⟨e0, e1, e2⟩ := row_at hs
  have f1 : ((rowVals R).set (i * 3) (.bool b))[i * 3 + 1]? = some (.int .u32 s.g) := by rw [List.getElem?_set_ne (by omega)]; exact e1
  rw [set_self f1]
  have f2 : ((rowVals R).set (i * 3) (.bool b))[i * 3 + 2]? = some (.int .i64 s.a) := by rw [List.getElem?_set_ne (by omega)]; exact e2
  rw [set_self f2]
  exact own_set h.row
theorem Rf.set3 {g n cap i : Nat} {s : Sl} (h : Rf w B br q z (.slice (some ⟨g, 0, none⟩) n cap) R) (hi : i < R.length) (wf : Wf q z (cls (R.set i s))) : Rf (Hd.set3 w g i s) B br q z (.slice (some ⟨g, 0, none⟩) n cap) (R.set i s) := by
  have hn := h.lenv
  subst hn
  have k1 : Kept (fun k => k = g) w (w.setCell ⟨g, i * 3, none⟩ (.bool s.o)) := (Kept.refl _ _).setCell _ (.inl rfl)
  have k2 : Kept (fun k => k = g) w ((w.setCell ⟨g, i * 3, none⟩ (.bool s.o)).setCell ⟨g, i * 3 + 1, none⟩ (.int .u32 s.g)) := k1.setCell _ (.inl rfl)
  have kk : Kept (fun k => k = g) w (Hd.set3 w g i s) := k2.setCell (p := ⟨g, i * 3 + 2, none⟩) (.int .i64 s.a) (.inl rfl)
  refine h.turn kk (by rw [List.length_set]) ?_ wf
  rw [← row_set hi s]
  exact own_set (own_set (own_set h.row))

/-- What a call on the reference leaves. -/
def RfPost (w : World) (B br : Nat) (q z : Int) (v : Value) (R' : List Sl) (w' : World) : Prop :=
  ∃ v', Rf w' B br q z v' R' ∧ Kept (foot br v) w w' ∧ ∀ k, foot br v' k → foot br v k ∨ w.heap.size ≤ k
theorem RfPost.same (h : Rf w B br q z v R) (k : K w w') : RfPost w B br q z v R w' := ⟨v, h.keep k, k.kept _, fun _ hk => .inl hk⟩
/-- Behind a copy and a turn of the new row. -/
theorem RfPost.of {w1 w4 w5 : World} {g n cap : Nat} (k1 : K w w1) (k4 : Kept (fun j => j = br) w1 w4) (k5 : Kept (fun j => j = g) w4 w5) (hg : w1.heap.size ≤ g) (h : Rf w5 B br q z (.slice (some ⟨g, 0, none⟩) n cap) R') : RfPost w B br q z v R' w5 := by
  refine ⟨_, h, ?_, fun k hk => ?_⟩
  · refine ⟨((k5.os.trans k4.os).trans k1.os), ((k5.tape.trans k4.tape).trans k1.tape), ((k5.output.trans k4.output).trans k1.output), Nat.le_trans (Nat.le_trans (Kept.size k1) k4.size) k5.size, fun k hk hn => ?_⟩
    have h1 : k < w1.heap.size := Nat.lt_of_lt_of_le hk (Kept.size k1)
    rw [k5.same k (Nat.lt_of_lt_of_le h1 k4.size) (fun e => by omega), k4.same k h1 (fun e => hn (.inl e)), Kept.same k1 k hk (fun x => x)]
  · rcases hk with rfl | hk
    · exact .inl (.inl rfl)
    · have : k = g := Option.some.inj hk
      have := Kept.size k1
      exact .inr (by omega)

theorem made_lo (w : World) : ∀ j, some j = (Value.slice (some ⟨w.heap.size, 0, none⟩) 0 0).ownBlock → w.heap.size ≤ j := fun j hj => by
  have : j = w.heap.size := Option.some.inj hj
  omega

theorem wf_moveR (h : Wf q z (cls R)) {x a : Int} (a1 : a ≤ 9223372036854775807) : Wf q z (cls (moveL R x a).2) := by
  have := moveL_wf h (x := x) a1
  rw [moveL_cls] at this
  exact this
theorem wf_closeR (h : Wf q z (cls R)) {x : Int} : Wf q z (cls (closeR R x).2) := by
  have := closeL_wf h (x := x)
  rw [closeL_cls] at this
  exact this
theorem wf_openR (h : Wf q z (cls R)) {a : Int} (a1 : a ≤ 9223372036854775807) : Wf q z (cls (openL q z R a).2.2) := by
  have := openL_wf h a1
  rw [openL_cls] at this
  exact this

set_option maxHeartbeats 1000000 in
theorem rMove_any (h : Rf w B br q z v R) (x a : Int) (a1 : a ≤ 9223372036854775807) : Calls Try.prog 26 #[tp br, .int .u64 x, .int .i64 a] w fun e w' => e = .returned (.int .i64 (moveL R x a).1) ∧ RfPost w B br q z v (moveL R x a).2 w' := by
  by_cases a0 : a < 0
  · have E : Hid (moveL R x a = (2, R)) := moveL_neg a0
    have P : Hid (RfPost w B br q z v R w) := .same h (K.refl _)
    clear h
    go_enter Try.func26, Try.ntmps26
    go_wp2
    go_ret
    exact ⟨by rw [E.out]; rfl, by rw [E.out]; exact P.out⟩
  obtain ⟨g, ad, cap, rfl, hr, hsrc⟩ := h.src
  have c0 := h.c0
  have c1 := h.c1
  have c2 := h.c2
  have hf := rFind_any hr h.wf x
  have hl := h.len
  obtain ⟨hl1, hl2⟩ := hl
  have HT : Aside _ := h
  have A0 : Hid (0 ≤ a) := by show 0 ≤ a; omega
  clear h hr hsrc
  go_enter Try.func26, Try.ntmps26
  go_wp2_with fail
  refine hf.mono ?_
  rintro e w1 ⟨rfl, hk⟩
  have hT := HT.out.keep hk
  clear hf c0 c1 c2
  cases e : findL R x with
  | none =>
    have E : Hid (moveL R x a = (7, R)) := moveL_none A0.out e
    have P : Hid (RfPost w B br q z (.slice ad R.length cap) R w1) := .same HT.out hk
    have hfd : fdI R x = -1 := by simp [fdI, e]
    rw [hfd]
    clear e hfd hT
    go_wp2
    go_ret
    exact ⟨by rw [E.out]; rfl, by rw [E.out]; exact P.out⟩
  | some i =>
    obtain ⟨s, hs, ho, -⟩ := findL_some e
    have E : Hid (moveL R x a = (0, R.set i ⟨s.o, s.g, a⟩)) := by rw [ho]; exact moveL_some A0.out e hs
    have hwf := wf_moveR HT.out.wf (x := x) a1
    rw [E.out] at hwf
    have hfd : fdI R x = i := by simp [fdI, e]
    have hlt := (List.getElem?_eq_some_iff.1 hs).1
    rw [hfd]
    obtain ⟨g', ad', cap', hv', hr', hsrc'⟩ := hT.src
    cases hv'
    have c2 := hT.c2
    have hbr := hT.lt
    have HSRC : Aside _ := hsrc'
    have HS : Aside _ := hs
    have HWF : Aside _ := hwf
    have HT1 : Aside _ := hT
    clear e hfd hs hwf hT hr' hsrc' ho
    go_wp2_with (at_builtin
                 refine wpList_append_refs _ rfl _ _ rfl w1.heap.size _ 0 [] rfl (World.ownsRow_made w1 #[] 0 (Nat.le_refl _) (by unfold maxLen; omega) rfl) rfl ad R.length cap (rowVals R) rfl (row_len R) (HSRC.out _) (row_one R) (by omega) (by simp) ?_
                 intro v3 w3 hown hgrow hat
                 rw [Nat.zero_add, List.nil_append] at hown
                 have k3 : K w1 w3 := K.thenGrown (K.refl w1) hgrow (made_lo w1)
                 obtain ⟨g3, cap3, hv3⟩ : ∃ g cap, v3 = .slice (some ⟨g, 0, none⟩) R.length cap := by
                   rcases hown.2 with ⟨_, e⟩ | ⟨g, cap, _, e, _⟩
                   · omega
                   · exact ⟨g, cap, e⟩
                 subst hv3
                 obtain ⟨_, hne, hge, hR4, k4⟩ := HT1.out.copy k3 hown
                 have hd3 := k3.block HT1.out.hd
                 have e2 : w3.cell? ⟨br, 2, none⟩ = some (.slice ad R.length cap) := by simp [World.cell?, hd3]
                 have q2 : w3.frozen? ⟨br, 2, none⟩ = false := by simp [World.frozen?, hd3]
                 obtain ⟨g9, a9, c9, hv9, hr9, hf9, _, _, hz9⟩ := rowR_form hown
                 cases hv9
                 rcases hf9 with he9 | ⟨he9, _⟩ <;> cases he9
                 have hix := run_ixr g3 R.length cap3 i hlt
                 have d2 := hr9.c2 i s HS.out
                 have z2 := hz9 (by omega) (i * 3 + 2)
                 have hR5 := hR4.setA (a := a) HS.out HWF.out
                 have P : Hid (RfPost w B br q z (.slice ad R.length cap) (R.set i ⟨s.o, s.g, a⟩) _) := RfPost.of hk k4 ((Kept.refl _ _).setCell _ (.inl rfl)) hge hR5
                 clear hown hgrow hat hR4 hR5 k4 hr9 hz9 hd3 k3)
    go_ret
    exact ⟨by rw [E.out]; rfl, by rw [E.out]; exact P.out⟩

set_option maxHeartbeats 1000000 in
theorem rClose_any (h : Rf w B br q z v R) (x : Int) : Calls Try.prog 27 #[tp br, .int .u64 x] w fun e w' => e = .returned (.int .i64 (closeR R x).1) ∧ RfPost w B br q z v (closeR R x).2 w' := by
  obtain ⟨g, ad, cap, rfl, hr, hsrc⟩ := h.src
  have c0 := h.c0
  have c1 := h.c1
  have c2 := h.c2
  have hf := rFind_any hr h.wf x
  have hl := h.len
  obtain ⟨hl1, hl2⟩ := hl
  have HT : Aside _ := h
  clear h hr hsrc
  go_enter Try.func27, Try.ntmps27
  go_wp2_with fail
  refine hf.mono ?_
  rintro e w1 ⟨rfl, hk⟩
  have hT := HT.out.keep hk
  clear hf c0 c1 c2
  cases e : findL R x with
  | none =>
    have E : Hid (closeR R x = (7, R)) := closeR_none e
    have P : Hid (RfPost w B br q z (.slice ad R.length cap) R w1) := .same HT.out hk
    have hfd : fdI R x = -1 := by simp [fdI, e]
    rw [hfd]
    clear e hfd hT
    go_wp2
    go_ret
    exact ⟨by rw [E.out]; rfl, by rw [E.out]; exact P.out⟩
  | some i =>
    obtain ⟨s, hs, ho, -⟩ := findL_some e
    have E : Hid (closeR R x = (0, R.set i ⟨false, s.g, s.a⟩)) := closeR_some e hs
    have hwf := wf_closeR HT.out.wf (x := x)
    rw [E.out] at hwf
    have hfd : fdI R x = i := by simp [fdI, e]
    have hlt := (List.getElem?_eq_some_iff.1 hs).1
    rw [hfd]
    obtain ⟨g', ad', cap', hv', hr', hsrc'⟩ := hT.src
    cases hv'
    have c2 := hT.c2
    have hbr := hT.lt
    have HSRC : Aside _ := hsrc'
    have HS : Aside _ := hs
    have HWF : Aside _ := hwf
    have HT1 : Aside _ := hT
    clear e hfd hs hwf hT hr' hsrc' ho
    go_wp2_with (at_builtin
                 refine wpList_append_refs _ rfl _ _ rfl w1.heap.size _ 0 [] rfl (World.ownsRow_made w1 #[] 0 (Nat.le_refl _) (by unfold maxLen; omega) rfl) rfl ad R.length cap (rowVals R) rfl (row_len R) (HSRC.out _) (row_one R) (by omega) (by simp) ?_
                 intro v3 w3 hown hgrow hat
                 rw [Nat.zero_add, List.nil_append] at hown
                 have k3 : K w1 w3 := K.thenGrown (K.refl w1) hgrow (made_lo w1)
                 obtain ⟨g3, cap3, hv3⟩ : ∃ g cap, v3 = .slice (some ⟨g, 0, none⟩) R.length cap := by
                   rcases hown.2 with ⟨_, e⟩ | ⟨g, cap, _, e, _⟩
                   · omega
                   · exact ⟨g, cap, e⟩
                 subst hv3
                 obtain ⟨_, hne, hge, hR4, k4⟩ := HT1.out.copy k3 hown
                 have hd3 := k3.block HT1.out.hd
                 have e2 : w3.cell? ⟨br, 2, none⟩ = some (.slice ad R.length cap) := by simp [World.cell?, hd3]
                 have q2 : w3.frozen? ⟨br, 2, none⟩ = false := by simp [World.frozen?, hd3]
                 obtain ⟨g9, a9, c9, hv9, hr9, hf9, _, _, hz9⟩ := rowR_form hown
                 cases hv9
                 rcases hf9 with he9 | ⟨he9, _⟩ <;> cases he9
                 have hix := run_ixr g3 R.length cap3 i hlt
                 have d2 := hr9.c0 i s HS.out
                 have z2 := hz9 (by omega) (i * 3)
                 have hR5 := hR4.setO (b := false) HS.out HWF.out
                 have P : Hid (RfPost w B br q z (.slice ad R.length cap) (R.set i ⟨false, s.g, s.a⟩) _) := RfPost.of hk k4 ((Kept.refl _ _).setCell _ (.inl rfl)) hge hR5
                 clear hown hgrow hat hR4 hR5 k4 hr9 hz9 hd3 k3)
    go_ret
    exact ⟨by rw [E.out]; rfl, by rw [E.out]; exact P.out⟩

end Hd
end Go.Proofs.Ytfokpiapaacagaa
