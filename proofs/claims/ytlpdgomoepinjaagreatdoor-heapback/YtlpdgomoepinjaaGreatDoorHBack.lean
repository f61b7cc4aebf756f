/-
  Proved below: blocks that are allocated and freed again leave no page.
-/
import Derived.Test.YtlpdgomoepinjaaGreatDoorHBlk
import Derived.Test.YtlpdgomoepinjaaGreatDoorSPages
namespace Go.Proofs.YtlpdgomoepinjaaGreatDoor
open Go.RowKit
attribute [local go_sem ↓] Go.wp_at_zero Go.wp_at_succ
namespace Hp
variable {w0 w w' : World} {bh bs bm : Nat} {q : Int} {pg pg' : List (Int × Nat)} {W W' : Int → Int} {L L' : List Pg} {v : Value} {xs : List Int}

/-- The blocks that are not freed yet; the one that is freed next. -/
def rem (t : Bool) (X : List Int) (i : Nat) : List Int := if t then X.take (X.length - i) else X.drop i
def kth (t : Bool) (n i : Nat) : Nat := if t then n - 1 - i else i

theorem rem_step {X : List Int} (hn : X.Nodup) (t : Bool) {i : Nat} (hi : i < X.length) : ∃ a, X[kth t X.length i]? = some a ∧ a ∈ rem t X i ∧ ∀ b, b ∈ rem t X (i + 1) ↔ b ≠ a ∧ b ∈ rem t X i := by
  cases t with
  | false =>
    refine ⟨X[i], by simp [kth, hi], ?_, fun b => ?_⟩
    · simp only [rem, Bool.false_eq_true, if_false]
      rw [List.drop_eq_getElem_cons hi]
      exact List.mem_cons_self
    · simp only [rem, Bool.false_eq_true, if_false]
      have h1 : (X.drop i).Nodup := hn.sublist (List.drop_sublist _ _)
      rw [List.drop_eq_getElem_cons hi] at h1 ⊢
      have h2 := (List.nodup_cons.1 h1).1
      constructor
      · exact fun hb => ⟨fun e => h2 (e ▸ hb), List.mem_cons_of_mem _ hb⟩
      · rintro ⟨hb, h3⟩
        rcases List.mem_cons.1 h3 with h | h
        · exact absurd h hb
        · exact h
  | true =>
    have hk : X.length - 1 - i < X.length := by omega
    have e1 : X.take (X.length - i) = X.take (X.length - (i + 1)) ++ [X[X.length - 1 - i]] := by
      rw [show X.length - i = (X.length - 1 - i) + 1 by omega, show X.length - (i + 1) = X.length - 1 - i by omega, List.take_succ_eq_append_getElem hk]
    refine ⟨X[X.length - 1 - i], by simp [kth, hk], ?_, fun b => ?_⟩
    · simp only [rem, if_true]
      rw [e1]
      simp
    · simp only [rem, if_true]
      have h1 : (X.take (X.length - i)).Nodup := hn.sublist (List.take_sublist _ _)
      rw [e1] at h1 ⊢
      have h2 := (List.nodup_append.1 h1).2.2
      constructor
      · exact fun hb => ⟨h2 b hb _ (by simp), List.mem_append_left _ hb⟩
      · rintro ⟨hb, h3⟩
        rcases List.mem_append.1 h3 with h | h
        · exact h
        · exact absurd (by simpa using h) hb

structure B1 (w wx : World) (bh bs bm : Nat) (pg : List (Int × Nat)) (W : Int → Int) (L : List Pg) (v : Value) (X : List Int) (i : Nat) : Prop where
  rr : Rr w wx bh bs bm 262144 pg W L v X
  bl : ∀ b, b ∈ X ↔ Bl L b
  nd : X.Nodup
  gr : granted L ≤ 63 * i
  le : X.length ≤ i

theorem Rr.get {g n cap : Nat} (h : Rr w0 w bh bs bm q pg W L (.slice (some ⟨g, 0, none⟩) n cap) xs) {i : Nat} {a : Int} (ha : xs[i]? = some a) : w.cell? ⟨g, i, none⟩ = some (.int .i64 a) := by
  obtain ⟨hi, e⟩ := List.getElem?_eq_some_iff.1 ha
  obtain ⟨g2, cap2, e2, hc⟩ := h.at hi
  cases e2
  rw [hc, e]
theorem alloc_bad2 {x : Int} (hx : ¬ (1 ≤ x ∧ x ≤ 4000)) (q : Int) (L : List Pg) : allocL q L x = (0, 2, L) := if_neg hx
theorem own_slice {b n k : Nat} {t : TypeId} {ys : List Value} (h : w.ownsRow b t k v n ys) : ∃ ad cap, v = .slice ad n cap := by
  rcases h.2 with ⟨rfl, rfl⟩ | ⟨g, cap, _, rfl, _⟩
  · exact ⟨_, _, rfl⟩
  · exact ⟨_, _, rfl⟩
theorem Rr.wl (h : Rr w0 w bh bs bm q pg W L v xs) : Wl L := h.rn.st.wl
theorem Rr.in64 (h : Rr w0 w bh bs bm q pg W L v xs) {a : Int} (hb : Bl L a) : In64 a := by
  obtain ⟨p, hp, s, hs, rfl⟩ := hb
  have h1 := h.rn.st.range hp
  have h2 := addr_page (h.wl.ent p hp) hs
  have h3 := (h.wl.ent p hp).span
  exact ⟨by omega, by omega⟩

set_option maxRecDepth 100000 in
set_option maxHeartbeats 2000000 in
theorem back_main (a0 : Option Addr) (b off len cap : Nat) (z : Nat → Int) (t : Bool) (w : World) (hT : Bt.Tab w) (hN : Sl.Nums w a0 b off len cap z) (hlen : len ≤ 40) :
    Calls Tryz.prog 6 #[.slice a0 len cap, .bool t] w fun e w' => e = .returned (.bool true) ∧ K w w' := by
  have md := made_ok 262144 w hT (by omega) (by omega)
  have HN : Aside (Sl.Nums w a0 b off len cap z) := hN
  have hi : (Tryz.prog.info? 3).map (fun i => (i.zero, i.size, i.bytes)) = some (some (.int .i64 0), 1, 8) := by kernel_rfl
  obtain ⟨i0, hi1, hz0, hz1, hz2⟩ := info_parts hi
  have HI : Aside (Tryz.prog.info? 3 = some i0 ∧ i0.zero = some (.int .i64 0) ∧ i0.size = 1 ∧ i0.bytes = 8) := ⟨hi1, hz0, hz1, hz2⟩
  clear hN hi hi1 hz0 hz1 hz2
  go_enter Tryz.func6, Tryz.ntmps6
  go_wp2_with fail
  refine md.mono ?_
  rintro e w3 ⟨bh, bs, bm, rfl, r3, _⟩
  have R0 := Rr.first r3 (lt0 hT)
  clear md r3
  go_wp2
  go_loopg [8, 9] len (fun gh t8 t9 wx => ∃ i : Nat, i + gh = len ∧ t9 = .int .i64 i ∧ ∃ pg W L X, B1 w wx bh bs bm pg W L t8 X i)
  case atStart => exact ⟨0, by omega, rfl, [], _, [], [], R0, fun b => ⟨fun h => (by cases h), fun ⟨p, hp, _⟩ => (by cases hp)⟩, List.nodup_nil, by decide, by simp⟩
  case round =>
    obtain ⟨i, hig, rfl, pg, W, L, X, hb1⟩ := hrel
    clear R0
    by_cases hlt : i < len
    · have hix := HN.out.ix i hlt
      have hbl := HN.out.lt (by omega)
      have hk := hb1.rr.rn.k
      have hc : wr.cell? ⟨b, off + i, none⟩ = some (.int .i64 (z i)) := hk.cell (HN.out.cell i hlt)
      have hwf := In64.of_wf (HN.out.wf i)
      by_cases hz : 1 ≤ z i ∧ z i ≤ 4000
      · obtain ⟨a, er, L1, hal⟩ : ∃ a er L1, allocL 262144 L (z i) = (a, er, L1) := ⟨_, _, _, rfl⟩
        have hg := hb1.gr
        obtain ⟨rfl, hnb, hbb, hgr, p, s, ⟨hp, hs, hpa⟩, hroom⟩ := hb1.rr.wl.alloc hz (by omega) hal
        have ca := hb1.rr.alloc _ _ _ _ hal
        have HB : Aside _ := hb1
        have HBB : Aside _ := hbb
        have HNB : Aside _ := hnb
        have HGR : Aside _ := hgr
        have HP : Aside (Wl L1 → roomL L1 a = (roomI p, 0)) := fun l => by
          unfold roomL
          rw [← hpa, l.find hp hs]
        have HC : Aside (w.cell? ⟨b, off + i, none⟩ = some (.int .i64 (z i))) := HN.out.cell i hlt
        clear hbb hnb hgr hp hs hpa hal hb1 hg
        obtain ⟨z1, z2⟩ := hz
        generalize z i = x at *
        generalize roomI p = rm at *
        obtain ⟨hi1, hz0, hz1, hz2⟩ := HI.out
        go_wp2_with fail
        refine ca.mono ?_
        rintro e w4 ⟨rfl, pg4, W4, r4⟩
        have hc4 := r4.rn.k.cell HC.out
        have cr := r4.room a (r4.in64 ((HBB.out a).2 (.inl rfl))) _ _ (HP.out r4.wl)
        clear ca hc hk
        go_wp2_with fail
        refine cr.mono ?_
        rintro e w5 ⟨rfl, r5⟩
        have hc5 := r5.rn.k.cell HC.out
        have hrow := r5.row
        have hsz := r5.rn.k.size
        have hle := HB.out.le
        clear cr hc4 r4
        go_wp2_with (at_builtin; refine wpList_append_own_at _ rfl _ _ 36 rfl w.heap.size 3 i0 (.int .i64 0) 1 8 Tryz.underlying36 hi1 hz0 hz1 hz2 rfl (by decide) _ _ _ rfl (hrow.alloc _) ⟨w5.heap.size, 0, none⟩ 1 1 [.int .i64 a] rfl rfl (cell_one_new _ _ _) (ints_oneCell .i64 [a]) (by unfold maxLen; omega) (by omega) (by simp; omega) ?_; intro v' w6 hown' hgrow hnil hat)
        go_roundg (len - (i + 1))
        case measure => omega
        case rel =>
          refine ⟨i + 1, by omega, by go_num, pg4, W4, L1, X ++ [a], r5.app hown' hgrow hat, fun c => ?_, ?_, ?_, ?_⟩
          · rw [HBB.out c, List.mem_append, HB.out.bl c]
            simp [or_comm]
          · refine List.nodup_append.2 ⟨HB.out.nd, by simp, fun c hc d hd e => ?_⟩
            obtain rfl : d = a := by simpa using hd
            subst e
            exact HNB.out ((HB.out.bl c).1 hc)
          · have h1 := HGR.out
            have h2 := HB.out.gr
            omega
          · simp
            omega
      · have ca := hb1.rr.alloc _ _ _ _ (alloc_bad2 hz 262144 L)
        have HC : Aside (w.cell? ⟨b, off + i, none⟩ = some (.int .i64 (z i))) := HN.out.cell i hlt
        have HB : Aside _ := hb1
        clear hb1
        generalize z i = x at *
        by_cases hx1 : 1 ≤ x
        · have hx2 : 4000 < x := by omega
          clear hz
          go_wp2_with fail
          refine ca.mono ?_
          rintro e w4 ⟨rfl, pg4, W4, r4⟩
          have hc4 := r4.rn.k.cell HC.out
          clear ca hc hk
          go_wp2
          go_roundg (len - (i + 1))
          case measure => omega
          case rel => exact ⟨i + 1, by omega, by go_num, pg4, W4, L, X, r4, HB.out.bl, HB.out.nd, by have := HB.out.gr; omega, by have := HB.out.le; omega⟩
        · clear hz
          go_wp2_with fail
          refine ca.mono ?_
          rintro e w4 ⟨rfl, pg4, W4, r4⟩
          have hc4 := r4.rn.k.cell HC.out
          clear ca hc hk
          go_wp2
          go_roundg (len - (i + 1))
          case measure => omega
          case rel => exact ⟨i + 1, by omega, by go_num, pg4, W4, L, X, r4, HB.out.bl, HB.out.nd, by have := HB.out.gr; omega, by have := HB.out.le; omega⟩
    · obtain rfl : i = len := by omega
      clear hig hlt
      obtain ⟨rr, bl, nd, _, le⟩ := hb1
      obtain ⟨ad, cp, rfl⟩ := own_slice rr.row
      have HBL : Aside (∀ c, c ∈ rem t X 0 ↔ Bl L c) := fun c => by
        rw [← bl c]
        cases t <;> simp [rem]
      have ND : Aside X.Nodup := nd
      have hXl : X.length ≤ 40 := by omega
      clear bl nd le
      obtain ⟨n, hn⟩ : ∃ n, Aside (X.length = n) := ⟨_, rfl⟩
      rw [hn.out] at hXl rr ⊢
      go_wp2
      go_loopg [14] n (fun gh t14 wx => ∃ j : Nat, j + gh = n ∧ t14 = .int .i64 j ∧ ∃ pg W L, Rr w wx bh bs bm 262144 pg W L (.slice ad n cp) X ∧ ∀ c, c ∈ rem t X j ↔ Bl L c)
      case atStart => exact ⟨0, by omega, rfl, _, _, _, rr, HBL.out⟩
      case round =>
        obtain ⟨j, hjg, rfl, pg, W, L, rr, hbl⟩ := hrel
        by_cases hlt : j < n
        · obtain ⟨a, ha, hmem, hrem⟩ := rem_step ND.out t (i := j) (by have := hn.out; omega)
          have hb := (hbl a).1 hmem
          have hin := rr.in64 hb
          obtain ⟨⟨p, s⟩, hf⟩ := rr.wl.find_iff.1 hb
          have cf := rr.free a hin p s _ hf rfl
          have HFR : Aside (∀ c, Bl (dropL L p s) c ↔ c ≠ a ∧ Bl L c) := rr.wl.free hf
          have HRM : Aside (∀ c, c ∈ rem t X (j + 1) ↔ Bl (dropL L p s) c) := fun c => by rw [hrem c, HFR.out c, hbl c]
          have HHA : Aside _ := ha
          obtain ⟨g, cap2, e2, hz⟩ := rr.at (i := kth t X.length j) (List.getElem?_eq_some_iff.1 ha).1
          clear hz
          rw [hn.out] at e2
          cases e2
          have hc := rr.get ha
          rw [hn.out] at hc
          clear ha hmem hrem hb hf hbl rr
          generalize dropL L p s = L1 at *
          cases t with
          | false =>
            have hc' : wr.cell? ⟨g, j, none⟩ = some (.int .i64 a) := hc
            clear hc
            go_wp2_with fail
            refine cf.mono ?_
            rintro e w5 ⟨rfl, pg5, W5, r5⟩
            have hc5 : w5.cell? ⟨g, j, none⟩ = some (.int .i64 a) := by have := r5.get HHA.out; rw [hn.out] at this; exact this
            have cg := r5.freeNone a hin (r5.wl.none fun h => ((HFR.out a).1 h).1 rfl)
            clear cf hc'
            go_wp2_with fail
            refine cg.mono ?_
            rintro e w6 ⟨rfl, r6⟩
            clear cg r5 hc5
            go_wp2
            go_roundg (n - (j + 1))
            case measure => omega
            case rel => exact ⟨j + 1, by omega, by go_num, pg5, W5, L1, r6, HRM.out⟩
          | true =>
            obtain ⟨k, hk⟩ : ∃ k : Nat, k = n - 1 - j := ⟨_, rfl⟩
            have hc' : wr.cell? ⟨g, k, none⟩ = some (.int .i64 a) := by rw [hk]; exact hc
            have hkn : k < n := by omega
            have hkI : (n : Int) - 1 - (j : Int) = (k : Int) := by omega
            have HK : Aside (k = n - 1 - j) := hk
            clear hc hk
            go_wp2_with fail
            refine cf.mono ?_
            rintro e w5 ⟨rfl, pg5, W5, r5⟩
            have hc5 : w5.cell? ⟨g, k, none⟩ = some (.int .i64 a) := by have := r5.get HHA.out; rw [hn.out] at this; rw [HK.out]; exact this
            have cg := r5.freeNone a hin (r5.wl.none fun h => ((HFR.out a).1 h).1 rfl)
            clear cf hc'
            go_wp2_with fail
            refine cg.mono ?_
            rintro e w6 ⟨rfl, r6⟩
            clear cg r5 hc5
            go_wp2
            go_roundg (n - (j + 1))
            case measure => omega
            case rel => exact ⟨j + 1, by omega, by go_num, pg5, W5, L1, r6, HRM.out⟩
        · have hj : j = n := by omega
          have hL : L = [] := rr.wl.empty fun a hb => by
            have h1 := (hbl a).2 hb
            rw [hj, ← hn.out] at h1
            cases t <;> simp [rem] at h1
          subst hL
          have hpg : pg.length = 0 := by
            have := rr.rn.st.len
            simp [granted] at this
            simp [this]
          have ps := Sl.pages_said wr bs bm 262144 pg W rr.rn.st.hw.ar
          rw [hpg] at ps
          clear hbl hpg
          go_wp2_with fail
          refine ps.mono ?_
          rintro e w5 ⟨a5, cap5, rfl, b5, _⟩
          have r5 := rr.keep (K.of_below b5)
          have cl := live_any r5.rn.st (by decide)
          clear ps b5 rr
          go_wp2_with fail
          refine cl.mono ?_
          rintro e w6 ⟨v6, rfl, hv6, k6⟩
          obtain ⟨ad6, cp6, rfl⟩ := own_slice hv6
          have r6 := r5.keep k6
          have aw := awake_any w6 r6.rn.st.hw.tab
          have kk := r6.rn.k
          clear hv6 cl r5 r6
          go_wp2_with (go_at_call 8; refine aw.mono ?_; rintro e w8 ⟨rfl, k8⟩)
          go_ret
          exact ⟨rfl, kk.trans k8⟩

theorem back_any (a0 : Option Addr) (b off len cap : Nat) (z : Nat → Int) (t : Bool) (w : World) (hT : Bt.Tab w) (hN : Sl.Nums w a0 b off len cap z) (hmax : len ≤ maxLen) :
    Calls Tryz.prog 6 #[.slice a0 len cap, .bool t] w fun e w' => e = .returned (.bool true) ∧ K w w' := by
  by_cases hlen : len ≤ 40
  · exact back_main a0 b off len cap z t w hT hN hlen
  · have aw := awake_any w hT
    have hm : (len : Int) ≤ 9223372036854775807 := by unfold maxLen at hmax; omega
    have hl : 40 < (len : Int) := by omega
    clear hN hmax hlen
    go_enter Tryz.func6, Tryz.ntmps6
    go_wp2_with (go_at_call 8; refine aw.mono ?_; rintro e w8 ⟨rfl, k8⟩)
    go_ret
    exact ⟨rfl, k8⟩

end Hp
end Go.Proofs.YtlpdgomoepinjaaGreatDoor
