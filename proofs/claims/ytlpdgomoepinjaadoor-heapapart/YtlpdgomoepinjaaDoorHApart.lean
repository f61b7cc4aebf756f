/-
  The walk of HeapApart.
-/
import Derived.Test.YtlpdgomoepinjaaDoorHApartR
import Derived.Deep.RegionLaw
import Derived.Deep.DeepCutAuto
namespace Go.Proofs.YtlpdgomoepinjaaDoor
open Go.RowKit
attribute [local go_sem ↓] Go.wp_at_zero Go.wp_at_succ
namespace Hp
variable {w0 w w' : World} {bh bs bm : Nat} {q : Int} {pg pg' : List (Int × Nat)} {W W' : Int → Int} {L L' : List Pg} {T A B : List It} {t : It} {v : Value}

theorem own_slice {b n k : Nat} {t : TypeId} {ys : List Value} (h : w.ownsRow b t k v n ys) : ∃ ad cap, v = .slice ad n cap := by
  rcases h.2 with ⟨rfl, rfl⟩ | ⟨g, cap, _, rfl, _⟩
  · exact ⟨_, _, rfl⟩
  · exact ⟨_, _, rfl⟩
theorem Ra.lim (h : Ra w0 w bh bs bm q pg W L T) {a : Int} (hb : Bl L a) : 0 ≤ a ∧ a ≤ 70000000 := by
  obtain ⟨p, hp, s, hs, rfl⟩ := hb
  have h1 := h.rn.st.range hp
  have h2 := addr_page (h.wl.ent p hp) hs
  have h3 := (h.wl.ent p hp).span
  exact ⟨by omega, by omega⟩
theorem cells_new3 (w : World) (x y z : Value) (t : TypeId) : ∀ j u, [x, y, z][j]? = some u → (w.alloc (.cells #[x, y, z] t)).cell? ((⟨w.heap.size, 0, none⟩ : Addr).add j) = some u := by
  intro j u hj
  match j, hj with
  | 0, hj => simp at hj; subst hj; simp [Addr.add]
  | 1, hj => simp at hj; subst hj; simp [Addr.add]
  | 2, hj => simp at hj; subst hj; simp [Addr.add]
theorem own_thaw {b n m g i cap : Nat} {ty : TypeId} {xs : List Value} (h : w.ownsRow b ty m (.slice (some ⟨g, 0, none⟩) n cap) n xs) : w.frozen? ⟨g, i, none⟩ = false := by
  rcases h.2 with ⟨e, _⟩ | ⟨g2, cap2, cur, e, hb, hg, _⟩
  · cases e
  · cases e
    simp [World.frozen?, hg]
theorem rem_cases (x : Int) {N : Nat} (h : 0 < N) : (∃ n : Nat, n < N ∧ x.tmod N = n) ∨ ∃ (r : Int) (n : Nat), n < N ∧ r < 0 ∧ x.tmod N = r ∧ r + N = n := by
  have h1 : x.tmod N < N := Int.tmod_lt_of_pos x (by omega)
  by_cases h0 : 0 ≤ x.tmod N
  · exact .inl ⟨(x.tmod N).toNat, by omega, by omega⟩
  · have h2 : -(N : Int) < x.tmod N := by
      have := Int.lt_tmod_of_pos x (b := (N : Int)) (by omega)
      exact this
    exact .inr ⟨x.tmod N, (x.tmod N + N).toNat, by omega, by omega, rfl, by omega⟩
theorem cut_at {T : List It} {n : Nat} (h : T[n]? = some t) : T = T.take n ++ t :: T.drop (n + 1) := by
  obtain ⟨hn, e⟩ := List.getElem?_eq_some_iff.1 h
  rw [← e, ← List.drop_eq_getElem_cons hn, List.take_append_drop]
/-- append onto a row of one's own, as one step of a region that draws. -/
theorem step_append_own {P : Program} {ops : Array Oper} {o : Oper} {a : Act} {w : World} {K : Act → World → Prop} {Q : Exit → Act → World → Prop} {E : Prop}
    (hg : o.guard = none) (s x : Operand) (t : TypeId) (hop : o.op = Op.call { callee := Callee.builtin Builtin.append, args := #[s, x], argTypes := #[t, t] })
    (base : Nat) (e : TypeId) (i : TypeInfo) (z : Value) (size bytes : Nat) (ht : P.underlying t = some (.slice e)) (hi : P.info? e = some i) (hz : i.zero = some z)
    (hsize : i.size = size) (hby : i.bytes = bytes) (hzs : z.cells.size = size) (hsz : 0 < size)
    (v : Value) (n : Nat) (xs : List Value) (hs : a.eval s = v) (hown : w.ownsRow base e size v n xs)
    (ad : Addr) (m c : Nat) (news : List Value) (hx : a.eval x = .slice (some ad) m c) (hl : news.length = m * size) (hnews : ∀ j u, news[j]? = some u → w.cell? (ad.add j) = some u) (h1 : ∀ u ∈ news, u.oneCell' = true)
    (h63 : n + m ≤ maxLen) (hbytes : (n + m) * bytes ≤ 140737488355328) (hbase : base ≤ w.heap.size)
    (hK : ∀ v' w', w'.ownsRow base e size v' (n + m) (xs ++ news) → w.grownBy w' v.ownBlock → (v'.ownBlock = v.ownBlock ∨ v'.ownBlock = some w.heap.size) → K (a.put o.dst v') w') :
    if Region.wanted o (yielded ops a.tmps) = true then Oper.wp P o a w K Q else E := by
  have hw : Region.wanted o (yielded ops a.tmps) = true := by simp [Region.wanted, hg]
  rw [if_pos hw]
  obtain ⟨v', w', hr, h2, h3, _, h5⟩ := run_append_own_at (P := P) w base t o.type e i z size bytes ht hi hz hsize hby hzs hsz v n xs hown ad m c news hl hnews h1 h63 hbytes hbase
  unfold Oper.wp
  simp [execOp, hop, resolve, invoke, builtin, hs, hx, hr, Result.andThen]
  exact hK v' w' h2 h3 h5
theorem made_row (w : World) {ty : TypeId} : ∀ wx : World, wx.heap = (w.alloc (.cells #[] ty)).heap → wx.ownsRow w.heap.size ty 3 (.slice (some ⟨w.heap.size, 0, none⟩) 0 0) 0 [] := fun wx h => by
  have h1 := World.ownsRow_made (base := w.heap.size) (e := ty) (size := 3) w #[] 0 (Nat.le_refl _) (by unfold maxLen; omega) rfl
  unfold World.ownsRow at h1 ⊢
  rw [h]
  exact h1
theorem own_same {B n c : Nat} : ∀ k, (Value.slice (some ⟨B, 0, none⟩) n c).ownBlock = some k → B ≤ k := fun k hk => by
  cases hk
  exact Nat.le_refl _
theorem grow_made {w5 wx w6 : World} {row : Option Nat} (hg : wx.grownBy w6 row) (hb : Below w5.heap.size w5 wx) (hr : ∀ k, row = some k → w5.heap.size ≤ k) : Below w5.heap.size w5 w6 := hb.grown hg hb.size hr
theorem made_below (w : World) {ty : TypeId} : ∀ wx : World, wx.heap = (w.alloc (.cells #[] ty)).heap → wx.os = w.os → wx.tape = w.tape → wx.output = w.output → Below w.heap.size w wx := fun wx h h1 h2 h3 =>
  ⟨h1, h2, h3, by rw [h]; simp, fun k hk => by rw [h]; exact Below.heap_alloc w _ k hk⟩

/-- The variable o of a round: a block of its own. -/
structure Oo (w : World) (bs bm : Nat) (pg : List (Int × Nat)) (B : Nat) (d x : Int) : Prop where
  ob : w.heap[B]? = some (.cells #[.int .i64 d, .int .i64 x] 30)
  ap : ¬ Sl.foot bs bm pg B
theorem Oo.step {B : Nat} {d x : Int} (h : Oo w bs bm pg B d x) (t : Sl.Step bs bm pg pg' w w') : Oo w' bs bm pg' B d x := by
  have hlt := (Array.getElem?_eq_some_iff.1 h.ob).1
  refine ⟨(t.kept B hlt h.ap).trans h.ob, fun hf => ?_⟩
  rcases t.inn B hf with h2 | h2
  · exact h.ap h2
  · omega
theorem Oo.cell {B : Nat} {d x : Int} (h : Oo w bs bm pg B d x) : w.cell? ⟨B, 1, none⟩ = some (.int .i64 x) := by
  simp only [World.cell?, h.ob]
  rfl
theorem Oo.new (h : Ra w0 w bh bs bm q pg W L T) (d x : Int) : Oo (w.alloc (.cells #[.int .i64 d, .int .i64 x] 30)) bs bm pg w.heap.size d x :=
  ⟨World.alloc_heap_new _ _, fun hf => by have := h.rn.st.hw.ar.foot_lt hf; omega⟩

theorem word_small {x : Int} (h0 : 0 ≤ x) (h1 : x ≤ 1000) : Sl.WordOk x := by
  have e1 : IntKind.u64.min = 0 := rfl
  have e2 : IntKind.u64.max = 18446744073709551615 := rfl
  unfold Sl.WordOk
  simp [Lit.wf]
  omega
theorem Ra.limN (h : Ra w0 w bh bs bm q pg W L T) (ht : t ∈ T) : t.n ≤ 4000 := by
  obtain ⟨r, ⟨p, hp, s, hs, _, rfl⟩, h2, _⟩ := h.ks.ok t ht
  have := place_in (h.wl.ent p hp) (slot_ok hs)
  omega

theorem alloc_bad3 {x : Int} (hx : ¬ (1 ≤ x ∧ x ≤ 4000)) (q : Int) (L : List Pg) : allocL q L x = (0, 2, L) := if_neg hx

set_option maxRecDepth 100000 in
set_option maxHeartbeats 12000000 in
theorem apart_main (a0 : Option Addr) (b off len cap : Nat) (z : Nat → Opv) (q : Int) (w : World) (hT : Bt.Tab w) (hS : Script w a0 b off len cap z) (hlen : len ≤ 60) (hq : 0 ≤ q) (hq2 : q ≤ 4000) :
    Calls Tryd.prog 3 #[.int .i64 q, .slice a0 len cap] w fun e w' => e = .returned (.bool true) ∧ K w w' := by
  have md := made_ok q w hT (by omega) (by omega)
  have HS : Aside (Script w a0 b off len cap z) := hS
  have HP : Aside (0 < w.heap.size) := lt0 hT
  have hi : (Tryd.prog.info? 39).map (fun i => (i.zero, i.size, i.bytes)) = some (some (.agg #[.int .i64 0, .int .i64 0, .int .u64 0]), 3, 24) := by kernel_rfl
  obtain ⟨i0, hi1, hz0, hz1, hz2⟩ := info_parts hi
  have HI : Aside (Tryd.prog.info? 39 = some i0 ∧ i0.zero = some (.agg #[.int .i64 0, .int .i64 0, .int .u64 0]) ∧ i0.size = 3 ∧ i0.bytes = 24) := ⟨hi1, hz0, hz1, hz2⟩
  clear hS hi hi1 hz0 hz1 hz2
  go_enter Tryd.func3, Tryd.ntmps3
  go_wp2_with fail
  refine md.mono ?_
  rintro e w3 ⟨bh, bs, bm, rfl, r3, _⟩
  have R0 := Ra.first r3
  clear md r3
  go_wp2
  go_loopg [8, 9] len (fun gh t6 t7 wx => ∃ i : Nat, i + gh = len ∧ t7 = .int .i64 i ∧ ∃ pg W L T, Ra w wx bh bs bm q pg W L T ∧ Rk w wx bh bs bm pg T t6 ∧ T.length ≤ i)
  case atStart => exact ⟨0, by omega, rfl, [], _, [], [], R0, Rk.nil, by simp⟩
  case round =>
    obtain ⟨i, hig, rfl, pg, W, L, T, r, rk, hTi⟩ := hrel
    clear R0
    by_cases hlt : i < len
    · have hix0 := HS.out.ix i hlt
      have CELL0 : Aside (∀ wx, K w wx → OpAt wx b (off + i * 2) (z i)) := fun wx k => (HS.out.cell i hlt).keep k
      obtain ⟨c0, c1⟩ := CELL0.out _ r.rn.k
      have hn64 := (HS.out.ok i).n
      generalize z i = o at *
      obtain ⟨d, x⟩ := o
      have c0 : wr.cell? ⟨b, off + i * 2, none⟩ = some (.int .i64 d) := c0
      have c1 : wr.cell? ⟨b, off + i * 2 + 1, none⟩ = some (.int .i64 x) := c1
      have hn64 : In64 x := hn64
      obtain ⟨hx0, hx1⟩ := hn64
      clear CELL0
      obtain ⟨ad, cp, hv⟩ := rk.form
      obtain ⟨N, hN⟩ : ∃ N, Aside (T.length = N) := ⟨_, rfl⟩
      rw [hN.out] at hv hTi
      subst hv
      have ko : K wr (wr.alloc (.cells #[.int .i64 d, .int .i64 x] 30)) := (K.refl wr).alloc _
      have bx := Oo.new r d x
      have r := r.keep ko
      have rk := rk.keep ko
      clear ko
      go_upto_if 55 with fail
      go_cut [8] (fun s8 wx => ∃ pg W L T1, Ra w wx bh bs bm q pg W L T1 ∧ Rk w wx bh bs bm pg T1 s8 ∧ T1.length ≤ i + 1)
      case rest =>
        obtain ⟨pgc, Wc, Lc, T1, r7, rk7, hl7⟩ := hcut
        clear r rk bx c0 c1 hix0 hN
        as_aux_lemma =>
          obtain ⟨ad, cp, hv⟩ := rk7.form
          obtain ⟨N, hN⟩ : ∃ N, Aside (T1.length = N) := ⟨_, rfl⟩
          rw [hN.out] at hv hl7
          subst hv
          have HT : Aside (N ≤ i + 1) := hl7
          have hN60 : N ≤ 61 := by omega
          have r := r7
          have rk := rk7
          clear r7 rk7 hl7

          have hlv : (liveL Lc).length = N := by rw [r.ks.len r.wl]; exact hN.out
          have HLV : Aside ((liveL Lc).length = N) := hlv
          have au := audit_ok r.rn.st
          clear hlv
          go_wp2_with fail
          refine au.mono ?_
          rintro e wd ⟨rfl, kd⟩
          have rd := r.keep kd
          have rkd := rk.keep kd
          have cl := live_any rd.rn.st (by rw [HLV.out]; omega)
          rw [HLV.out] at cl
          clear au r rk kd
          go_wp2_with fail
          refine cl.mono ?_
          rintro e we ⟨v6, rfl, hv6, k6⟩
          obtain ⟨ad6, cp6, rfl⟩ := own_slice hv6
          have RE : Aside _ := rd.keep k6
          have RKE : Aside _ := rkd.keep k6
          clear hv6 cl rd rkd k6
          go_wp2
          go_loopg [19] N (fun gh t17 wx => ∃ j : Nat, j + gh = N ∧ t17 = .int .i64 j ∧ K we wx)
          case atStart => exact ⟨0, by omega, rfl, K.refl _⟩
          case round =>
            obtain ⟨j, hjg, rfl, kj⟩ := hrel
            by_cases hjN : j < N
            · obtain ⟨tt, htt⟩ : ∃ tt, T1[j]? = some tt := ⟨_, List.getElem?_eq_getElem (by rw [hN.out]; exact hjN)⟩
              have hmem : tt ∈ T1 := List.mem_of_getElem? htt
              obtain ⟨g, cap2, e2, _⟩ := RKE.out.get htt
              rw [hN.out] at e2
              cases e2
              have HMEM : Aside _ := hmem
              have HTT : Aside _ := htt
              obtain ⟨ha0, ha1⟩ := RE.out.lim (RE.out.at hmem).1
              have hn4 := RE.out.limN hmem
              have hix := run_ixk g N cp j hjN
              have CELL : Aside (∀ wx, K we wx → wx.cell? ⟨g, j * 3, none⟩ = some (.int .i64 tt.a) ∧ wx.cell? ⟨g, j * 3 + 1, none⟩ = some (.int .i64 tt.n) ∧ wx.cell? ⟨g, j * 3 + 2, none⟩ = some (.int .u64 tt.x)) := fun wx k => by
                obtain ⟨g2, cap2, e2, c1, c2, c3⟩ := (RKE.out.keep k).get HTT.out
                cases e2
                exact ⟨c1, c2, c3⟩
              have READ : Aside (∀ wx, K we wx → ∀ k : Nat, (k : Int) < tt.n → Calls Tryd.prog 7 #[.pointer (some ⟨bs, 0, none⟩), .int .i64 (tt.a + k)] wx fun e w' => e = .returned (.tuple #[.int .u64 tt.x, .int .i64 0]) ∧ wx = w') := fun wx k j hj => (RE.out.keep k).read HMEM.out (by omega) hj
              clear hmem htt
              generalize tt.a = ta at *
              generalize tt.n = tn at *
              generalize tt.x = tx at *
              go_wp2
              go_loopg [20] tn.toNat (fun gh t18 wx => ∃ k : Nat, k + gh = tn.toNat ∧ t18 = .int .i64 k ∧ K we wx)
              case atStart => exact ⟨0, by omega, rfl, kj⟩
              case round =>
                obtain ⟨k, hkg, rfl, kk⟩ := hrel
                obtain ⟨c1, c2, c3⟩ := CELL.out _ kk
                by_cases hkn : (k : Int) < tn
                · have cr := READ.out _ kk k hkn
                  have hk1 : (k : Int) ≤ 4000 := by omega
                  go_wp2_with fail
                  refine cr.mono ?_
                  rintro e wf ⟨rfl, rfl⟩
                  clear cr
                  go_wp2
                  go_roundg (tn.toNat - (k + 1))
                  case measure => omega
                  case rel => exact ⟨k + 1, by omega, by go_num, by first | exact kk | exact kk.drew | exact kk.drew.drew⟩
                · go_wp2
                  go_roundg (N - (j + 1))
                  case measure => omega
                  case rel => exact ⟨j + 1, by omega, by go_num, by first | exact kk | exact kk.drew⟩
            · go_wp2
              go_roundg (len - (i + 1))
              case measure => omega
              case rel => exact ⟨i + 1, by omega, by go_num, pgc, Wc, Lc, T1, RE.out.keep kj, RKE.out.keep kj, by rw [hN.out]; exact HT.out⟩
      case first =>
        by_cases hd1 : d = 1
        · subst hd1
          obtain ⟨a, er, L1, hal⟩ : ∃ a er L1, allocL q L x = (a, er, L1) := ⟨_, _, _, rfl⟩
          by_cases her : er = 0
          · subst her
            have hx : 1 ≤ x ∧ x ≤ 4000 := by
              by_cases h : 1 ≤ x ∧ x ≤ 4000
              · exact h
              · rw [alloc_bad3 h] at hal
                cases hal
            have ca := r.allocYes x a hx hal
            obtain ⟨m, rfl⟩ : ∃ m : Nat, x = (m : Int) := ⟨x.toNat, by omega⟩
            have hm1 : 1 ≤ m := by omega
            have hm2 : m ≤ 4000 := by omega
            clear hx hal hx0 hx1
            go_wp2_with fail
            refine ca.mono ?_
            rintro e w4 ⟨rfl, pg4, W4, r4, t4⟩
            obtain ⟨ha0, ha1⟩ := r4.lim (r4.at (t := ⟨a, m, 0⟩) (by simp)).1
            have F4 := r4.fill ((i : Int) + 1)
            have rk4 := rk.step t4
            have b4 := bx.step t4
            have hb4 := b4.cell
            clear ca r rk c0 c1 t4 r4 bx
            generalize wr.heap.size = B at *
            go_wp2
            go_loopg [13] m (fun gh t11 wx => ∃ j : Nat, j + gh = m ∧ t11 = .int .i64 j ∧ ∃ W, Fill w wx bh bs bm q pg4 W L1 T a m ((i : Int) + 1) j ∧ Rk w wx bh bs bm pg4 T (.slice ad N cp) ∧ Oo wx bs bm pg4 B 1 m)
            case atStart => exact ⟨0, by omega, rfl, W4, F4, rk4, b4⟩
            case round =>
              obtain ⟨j, hjg, rfl, W5, F5, rk5, b5⟩ := hrel
              clear F4 rk4 b4 hb4
              have hb5 := b5.cell
              by_cases hjm : j < m
              · have cr := F5.readZ (by omega) (by omega)
                have cw := F5.write (by omega) (by omega) (word_small (by omega) (by omega))
                have hj4 : (j : Int) < 4000 := by omega
                go_wp2_with fail
                refine cr.mono ?_
                rintro e w6 ⟨rfl, rfl⟩
                clear cr
                go_wp2_with fail
                refine cw.mono ?_
                rintro e w7 ⟨rfl, W7, F7, t7⟩
                have rk7 := rk5.step t7
                have b7 := b5.step t7
                clear cw F5 rk5 b5 hb5
                go_wp2
                go_roundg (m - (j + 1))
                case measure => omega
                case rel => exact ⟨j + 1, by omega, by go_num, W7, F7, rk7, b7⟩
              · obtain rfl : j = m := by omega
                have r6 := F5.done
                have hsz := r6.rn.k.size
                have hrow := rk5.row
                obtain ⟨hi1, hz0, hz1, hz2⟩ := HI.out
                have hNT := hN.out
                clear F5 b5
                go_wp2_with (at_builtin; refine wpList_append_own_at _ rfl _ _ 28 rfl w.heap.size 39 i0 _ 3 24 Tryd.underlying28 hi1 hz0 hz1 hz2 rfl (by decide) _ _ _ rfl (hrow.alloc _) ⟨wr.heap.size, 0, none⟩ 1 1 (itVals ⟨a, j, (i : Int) + 1⟩) rfl rfl (cells_new3 _ _ _ _ _) (kept_one [⟨a, j, (i : Int) + 1⟩]) (by unfold maxLen; omega) (by omega) (by simp; omega) ?_; intro v' w6 hown' hgrow hnil hat)
                obtain ⟨r7, rk7⟩ := Rk.app rk5 r6 HP.out hown' hgrow hat
                have hl7 : (T ++ [(⟨a, j, (i : Int) + 1⟩ : It)]).length ≤ i + 1 := by simp; omega
                clear r6 rk5 hown' hgrow hnil hat hrow hi1 hz0 hz1 hz2 hNT hsz
                generalize T ++ [(⟨a, j, (i : Int) + 1⟩ : It)] = T1 at r7 rk7 hl7
                go_wp2
                go_meet
                case rel => exact ⟨pg4, W5, L1, T1, r7, rk7, hl7⟩
          · have ca := r.allocNo x a er hal her
            have her : (er != 0) = true := by simpa using her
            clear hal
            go_wp2_with fail
            refine ca.mono ?_
            rintro e w4 ⟨rfl, pg4, W4, r4, t4⟩
            have rk4 := rk.step t4
            clear ca r rk c0 c1 t4 bx
            go_wp2
            go_roundg (len - (i + 1))
            case measure => omega
            case rel => exact ⟨i + 1, by omega, by go_num, pg4, W4, L, T, r4, rk4, by rw [hN.out]; omega⟩
        · have hd1 : (d == 1) = false := by simpa using hd1
          clear bx
          by_cases hT0 : N = 0
          · have hN0 : (N : Int) ≤ 0 := by omega
            have hl7 : T.length ≤ i + 1 := by rw [hN.out]; omega
            clear hT0
            go_wp2
            go_meet
            case rel => exact ⟨pg, W, L, T, r, rk, hl7⟩
          · have hNp : 0 < N := by omega
            clear hT0
            go_upto_if 115 with fail
            go_cut [16] (fun s16 wx => ∃ n : Nat, n < N ∧ s16 = .int .i64 n ∧ wx = wr.alloc (.cells #[.int .i64 d, .int .i64 x] 30))
            case rest =>
              obtain ⟨n, hn, rfl, rfl⟩ := hcut
              obtain ⟨tt, hget⟩ : ∃ tt, T[n]? = some tt := ⟨_, List.getElem?_eq_getElem (by rw [hN.out]; exact hn)⟩
              have eT := cut_at hget
              have HGET : Aside _ := hget
              obtain ⟨ha0, ha1⟩ := r.lim (r.at (List.mem_of_getElem? hget)).1
              obtain ⟨g, cap2, e2, hca, _⟩ := rk.get hget
              rw [hN.out] at e2
              cases e2
              have hixn := run_ixk g N cp n hn
              obtain ⟨ta, HTA⟩ : ∃ ta, Aside (tt.a = ta) := ⟨_, rfl⟩
              rw [HTA.out] at hca ha0 ha1
              clear hget
              by_cases hd2 : d = 2
              · subst hd2
                clear hd1
                have cf := r.free eT
                rw [HTA.out] at cf
                go_wp2_with fail
                refine cf.mono ?_
                rintro e w5 ⟨rfl, pgc, Wc, Lc, r5, t5⟩
                have rk5 := rk.step t5
                have hcap := rk5.cap.2
                rw [hN.out] at hcap
                have hlo := run_cut_loK g N cp n (by omega) hcap
                obtain ⟨n1, HN1⟩ : ∃ n1, Aside (n + 1 = n1) := ⟨_, rfl⟩
                have hn1 : n1 ≤ N := by have := HN1.out; omega
                have hw1 : IntKind.i64.wrap ((n : Int) + 1) = (n1 : Int) := by rw [IntWalk.i64_in _ (by omega), ← HN1.out]; rfl
                obtain ⟨ad2, hA2, hoa⟩ : ∃ ad2 : Addr, (if cp = n1 then some (⟨g, 0, none⟩ : Addr) else some ⟨g, n1 * 3, none⟩) = some ad2 ∧ (ad2 = ⟨g, n1 * 3, none⟩ ∨ N = n1) := by
                  by_cases e : cp = n1
                  · exact ⟨⟨g, 0, none⟩, if_pos e, .inr (by omega)⟩
                  · exact ⟨⟨g, n1 * 3, none⟩, if_neg e, .inl rfl⟩
                have hr5 : Aside (Ra w w5 bh bs bm q pgc Wc Lc (T.take n ++ T.drop n1)) := by rw [← HN1.out]; exact r5
                clear r5
                have r5 := hr5.out
                clear hr5
                have SRC1 : Aside (∀ wx, K w5 wx → ∀ j u, (keptVals (T.take n))[j]? = some u → wx.cell? ((⟨g, 0, none⟩ : Addr).add j) = some u) := fun wx k => (rk5.keep k).srcLo n (by rw [hN.out]; have := HN1.out; omega)
                have SRC2 : Aside (∀ wx, K w5 wx → ∀ j u, (keptVals (T.drop n1))[j]? = some u → wx.cell? (ad2.add j) = some u) := fun wx k => (rk5.keep k).srcHi n1 (by rw [hN.out]; have := HN1.out; omega) (by rw [hN.out]; exact hoa)
                have HL1 : Aside ((keptVals (T.take n)).length = n * 3) := by show _ = _; rw [kept_len, List.length_take, hN.out, Nat.min_eq_left (by omega)]
                have HL2 : Aside ((keptVals (T.drop n1)).length = (N - n1) * 3) := by show _ = _; rw [kept_len, List.length_drop, hN.out]
                have HO1 : Aside (∀ u ∈ keptVals (T.take n), u.oneCell' = true) := kept_one _
                have HO2 : Aside (∀ u ∈ keptVals (T.drop n1), u.oneCell' = true) := kept_one _
                have HX : Aside (keptVals (T.take n) ++ keptVals (T.drop n1) = keptVals (T.take n ++ T.drop n1)) := (kept_app _ _).symm
                have HLT : Aside ((T.take n ++ T.drop n1).length = N - 1) := by show _ = _; rw [List.length_append, List.length_take, List.length_drop, hN.out]; have := HN1.out; omega
                obtain ⟨hi1, hz0, hz1, hz2⟩ := HI.out
                have HSZ : Aside (w.heap.size ≤ w5.heap.size) := r5.rn.k.size
                clear cf r rk hca hoa t5 eT rk5 c0 c1
                generalize keptVals (T.take n) = X1 at *
                generalize keptVals (T.drop n1) = X2 at *
                generalize T.take n ++ T.drop n1 = T1 at *
                have tok1 : True := trivial
                have MB : Aside _ := made_below w5 (ty := 39)
                have MR : Aside _ := made_row w5 (ty := 39)
                have Z1 : Aside (0 + n ≤ maxLen ∧ (0 + n) * 24 ≤ 140737488355328 ∧ 0 + n + (N - n1) ≤ maxLen ∧ (0 + n + (N - n1)) * 24 ≤ 140737488355328) := by
                  show _ ∧ _
                  unfold maxLen
                  have := HN1.out
                  omega
                go_wp2
                go_region_law (first
                  | (have _t := tok1; refine step_append_own rfl _ _ 28 rfl w5.heap.size 39 i0 _ 3 24 Tryd.underlying28 hi1 hz0 hz1 hz2 rfl (Nat.succ_pos 2) (.slice (some ⟨w5.heap.size, 0, none⟩) 0 0) 0 [] ?hs (MR.out _ rfl) ⟨g, 0, none⟩ n cp X1 ?hx HL1.out (SRC1.out _ (K.of_below (MB.out _ rfl rfl rfl rfl))) HO1.out Z1.out.1 Z1.out.2.1 (MB.out _ rfl rfl rfl rfl).size ?_; (case hs => simp [Act.eval]); (case hx => simp [Act.eval]); intro v1 w6 hown1 hgrow1 hat1; clear tok1 _t; have hb6 := grow_made hgrow1 (MB.out _ rfl rfl rfl rfl) own_same)
                  | (refine step_append_own rfl _ _ 28 rfl w5.heap.size 39 i0 _ 3 24 Tryd.underlying28 hi1 hz0 hz1 hz2 rfl (Nat.succ_pos 2) v1 _ _ ?hs hown1 ad2 (N - n1) (cp - n1) X2 ?hx HL2.out (SRC2.out _ (K.of_below hb6)) HO2.out Z1.out.2.2.1 Z1.out.2.2.2 hb6.size ?_; (case hs => simp [Act.eval]); (case hx => simp [Act.eval]); intro v2 w7 hown2 hgrow2 hat2))
                have hb7 : Below w5.heap.size w5 w7 := hb6.grown hgrow2 hb6.size (fun k hk => (hown1.lt k hk).1)
                have r7 := r5.keep (K.of_below hb7)
                have hl7 : T1.length ≤ i + 1 := by rw [HLT.out]; omega
                have rk7 : Rk w w7 bh bs bm pgc T1 v2 := Rk.fresh r5 HSZ.out (n := 0 + n + (N - n1)) (by rw [HLT.out]; have := HN1.out; omega) (by rw [← HX.out]; exact hown2)
                clear hb6 hb7 hown1 hown2 hgrow1 hgrow2 hat1 hat2 r5 MB MR Z1 hi1 hz0 hz1 hz2 hN hlo hw1 hA2 hn1 HN1 HL1 HL2 SRC1 SRC2 HO1 HO2 HX HLT
                go_wp2
                go_meet
                case rel => exact ⟨pgc, Wc, Lc, T1, r7, rk7, hl7⟩
              · have hd2 : (d == 2) = false := by simpa using hd2
                as_aux_lemma =>
                  have cs := r.slide eT
                  rw [HTA.out] at cs
                  go_wp2_with fail
                  refine cs.mono ?_
                  rintro e w5 ⟨b5, rfl, hle, pgc, Wc, Lc, r5, t5⟩
                  have rk5 := rk.step t5
                  have hca5 : w5.cell? ⟨g, n * 3, none⟩ = some (.int .i64 ta) := by
                    obtain ⟨g2, cap2, e2, c1, _⟩ := rk5.get HGET.out
                    cases e2
                    rw [c1, HTA.out]
                  have HEN : Aside ((keptVals T).set (n * 3) (.int .i64 b5) = keptVals (T.take n ++ { tt with a := b5 } :: T.drop (n + 1))) := by
                    show _ = _
                    have h1 := kept_set (T.take n) (T.drop (n + 1)) tt b5
                    rw [← eT, List.length_take, hN.out, Nat.min_eq_left (by omega)] at h1
                    exact h1
                  have HLT : Aside ((T.take n ++ { tt with a := b5 } :: T.drop (n + 1)).length = N) := by show _ = _; rw [List.length_append, List.length_cons, List.length_take, List.length_drop, hN.out]; omega
                  have SRC1 : Aside (∀ wx, K w5 wx → ∀ j u, (keptVals T)[j]? = some u → wx.cell? ((⟨g, 0, none⟩ : Addr).add j) = some u) := fun wx k => by
                    have h1 := (rk5.keep k).srcLo T.length (Nat.le_refl _)
                    rw [List.take_of_length_le (Nat.le_refl _)] at h1
                    exact h1
                  have HL1 : Aside ((keptVals T).length = N * 3) := by show _ = _; rw [kept_len, hN.out]
                  have HO1 : Aside (∀ u ∈ keptVals T, u.oneCell' = true) := kept_one _
                  obtain ⟨hi1, hz0, hz1, hz2⟩ := HI.out
                  have HSZ : Aside (w.heap.size ≤ w5.heap.size) := r5.rn.k.size
                  clear cs r rk hca t5 eT rk5 c0 c1
                  generalize keptVals T = X1 at *
                  generalize T.take n ++ { tt with a := b5 } :: T.drop (n + 1) = T1 at *
                  have MB : Aside _ := made_below w5 (ty := 39)
                  have MR : Aside _ := made_row w5 (ty := 39)
                  have Z1 : Aside (0 + N ≤ maxLen ∧ (0 + N) * 24 ≤ 140737488355328) := by
                    show _ ∧ _
                    unfold maxLen
                    omega
                  go_wp2_with (at_builtin; refine wpList_append_own_at _ rfl _ _ 28 rfl w5.heap.size 39 i0 _ 3 24 Tryd.underlying28 hi1 hz0 hz1 hz2 rfl (Nat.succ_pos 2) _ 0 [] rfl (MR.out _ rfl) ⟨g, 0, none⟩ N cp X1 rfl HL1.out (SRC1.out _ ((K.refl w5).alloc _)) HO1.out Z1.out.1 Z1.out.2 (MB.out _ rfl rfl rfl rfl).size ?_; intro v1 w6 hown1 hgrow1 hnil1 hat1; have hb6 := grow_made hgrow1 (MB.out _ rfl rfl rfl rfl) own_same; obtain ⟨g1, cap1, hv1, hix1, hfz1, hown3⟩ := own_new hNp hown1 hn; clear hown1; subst hv1; obtain ⟨u1, hcl1⟩ := own_cell hown3 hn)
                  have hg1 := (hown3.lt g1 rfl).1
                  have hown2 := own_set (i := n * 3) (u := .int .i64 b5) hown3
                  rw [HEN.out] at hown2
                  have hb7 := hb6.setCell (p := ⟨g1, n * 3, none⟩) hg1 (.int .i64 b5)
                  have r7 := r5.keep (K.of_below hb7)
                  have hl7 : T1.length ≤ i + 1 := by rw [HLT.out]; omega
                  have rk7 := Rk.fresh r5 HSZ.out HLT.out.symm hown2
                  clear hb6 hb7 hown3 hown2 hgrow1 hnil1 hat1 r5 hi1 hz0 hz1 hz2 hN HL1 SRC1 HO1 HEN hfz1 hix1 hcl1 hg1 MB MR Z1
                  generalize w6.setCell ⟨g1, n * 3, none⟩ (.int .i64 b5) = wc at *
                  go_wp2
                  go_meet
                  case rel => exact ⟨pgc, Wc, Lc, T1, r7, rk7, hl7⟩
            case first =>
              rcases rem_cases x hNp with ⟨n, hn, hrem⟩ | ⟨rr, n, hn, hr0, hrem, hrn⟩
              · go_wp2
                go_meet
                case rel => exact ⟨n, hn, by first | rfl | rw [hrem], rfl⟩
              · go_wp2
                go_meet
                case rel => exact ⟨n, hn, by first | rfl | rw [hrn], rfl⟩
    · obtain rfl : i = len := by omega
      have aw := awake_any wr r.rn.st.hw.tab
      have kk := r.rn.k
      clear r rk hlt hig hTi
      go_wp2_with (go_at_call 4; refine aw.mono ?_; rintro e w8 ⟨rfl, k8⟩)
      go_ret
      exact ⟨rfl, kk.trans k8⟩

set_option maxRecDepth 100000 in
set_option maxHeartbeats 1000000 in
theorem apart_any (a0 : Option Addr) (b off len cap : Nat) (z : Nat → Opv) (q : Int) (w : World) (hT : Bt.Tab w) (hS : Script w a0 b off len cap z) (hmax : len ≤ maxLen) :
    Calls Tryd.prog 3 #[.int .i64 q, .slice a0 len cap] w fun e w' => e = .returned (.bool true) ∧ K w w' := by
  by_cases hb : 0 ≤ q ∧ q ≤ 4000 ∧ len ≤ 60
  · exact apart_main a0 b off len cap z q w hT hS hb.2.2 hb.1 hb.2.1
  · have aw := awake_any w hT
    have hm : (len : Int) ≤ 9223372036854775807 := by unfold maxLen at hmax; omega
    clear hS hmax
    by_cases h1 : q < 0
    · clear hb
      go_enter Tryd.func3, Tryd.ntmps3
      go_wp2_with (go_at_call 4; refine aw.mono ?_; rintro e w8 ⟨rfl, k8⟩)
      go_ret
      exact ⟨rfl, k8⟩
    · by_cases h2 : 4000 < q
      · clear hb
        go_enter Tryd.func3, Tryd.ntmps3
        go_wp2_with (go_at_call 4; refine aw.mono ?_; rintro e w8 ⟨rfl, k8⟩)
        go_ret
        exact ⟨rfl, k8⟩
      · have h3 : 60 < (len : Int) := by omega
        clear hb
        go_enter Tryd.func3, Tryd.ntmps3
        go_wp2_with (go_at_call 4; refine aw.mono ?_; rintro e w8 ⟨rfl, k8⟩)
        go_ret
        exact ⟨rfl, k8⟩

end Hp
end Go.Proofs.YtlpdgomoepinjaaDoor
