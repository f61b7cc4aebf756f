/-
  The walk of the stage's theorem: nodes beside changes and runs of the compactor.
-/
import Derived.Test.YtlalmdckdejggaaGreatDoorWNBackF
import Derived.Deep.RegionHeld3
namespace Go.Proofs.YtlalmdckdejggaaGreatDoor
open Go.RowKit Go.Maps
attribute [local go_sem ↓] Go.wp_at_zero Go.wp_at_succ
namespace Nd
open Hp (Kept K No granted)
open Hd (U64)
open Co (cp)
open Go.Proofs.YtlalmdckdejggaaGreatDoor.So (Ad Rn Stp sp Hr Bx)

theorem K.grownN {w a b : World} {row : Option Nat} (h : K w a) (hg : a.grownBy b row) (hr : ∀ g, some g = row → w.heap.size ≤ g) : K w b :=
  ⟨hg.os.trans (Kept.os (w := w) (w' := a) h), hg.tape.trans (Kept.tape (w := w) (w' := a) h), hg.output.trans (Kept.output (w := w) (w' := a) h), Nat.le_trans (Kept.size (w := w) (w' := a) h) hg.size, fun j hj hn => by
    have hjw := Nat.lt_of_lt_of_le hj (Kept.size (w := w) (w' := a) h)
    rw [hg.block j hjw (fun e => by have := hr j e; omega)]
    exact Kept.same (w := w) (w' := a) h j hj hn⟩

/-- The place that a number is, counted round. -/
theorem round_at (x : Int) {n : Nat} (h0 : 0 < n) (h1 : n ≤ 1000) : ∃ k : Nat, k < n ∧ (wrap64 (x.tmod (n : Int) + (n : Int))).tmod (n : Int) = (k : Int) := by
  have hn : (0 : Int) < n := by omega
  have a1 : x.tmod n < n := Int.tmod_lt_of_pos _ hn
  have a2 : -(n : Int) < x.tmod n := Int.lt_tmod_of_pos _ hn
  have e : wrap64 (x.tmod n + n) = x.tmod n + n := by unfold wrap64; omega
  rw [e]
  have b1 : (x.tmod n + n).tmod n < n := Int.tmod_lt_of_pos _ hn
  have b2 : 0 ≤ (x.tmod n + n).tmod n := Int.tmod_nonneg _ (by omega)
  exact ⟨((x.tmod n + n).tmod n).toNat, by omega, by omega⟩

/-- The nodes that came in, as a list. -/
def zl (zz : Nat → Nv) (n : Nat) : List Nv := (List.range n).map zz
theorem zl_len (zz : Nat → Nv) (n : Nat) : (zl zz n).length = n := by simp [zl]
theorem zl_at (zz : Nat → Nv) {n i : Nat} (h : i < n) : (zl zz n)[i]? = some (zz i) := by simp [zl, h]
theorem nodeVals_app (a b : List Nv) : nodeVals (a ++ b) = nodeVals a ++ nodeVals b := by simp [nodeVals]

/-- The cells of the nodes that came in. -/
theorem src_nodes {w : World} {a : Option Addr} {b off len cap : Nat} {zz : Nat → Nv} (h : Nodes w a b off len cap zz) (ha : 0 < len ∨ a = none ∨ ∃ ad, a = some ad) : SrcN w a len (nodeVals (zl zz len)) := by
  by_cases h0 : len = 0
  · subst h0
    cases a with
    | none => exact .inl ⟨rfl, rfl, rfl⟩
    | some ad => exact .inr ⟨ad, rfl, fun j u hu => by simp [zl, nodeVals] at hu⟩
  · refine .inr ⟨_, h.ad (by omega), fun j u hu => ?_⟩
    rw [Go.WideShapes.add_plain]
    have hj := (List.getElem?_eq_some_iff.1 hu).1
    rw [nodeVals_len, zl_len] at hj
    obtain ⟨c0, c1, c2, c3, c4, c5⟩ := h.cell (j / 6) (by omega)
    obtain ⟨n0, n1, n2, n3, n4, n5⟩ := nodeVals_at (zl_at zz (n := len) (i := j / 6) (by omega))
    have hm : j % 6 = 0 ∨ j % 6 = 1 ∨ j % 6 = 2 ∨ j % 6 = 3 ∨ j % 6 = 4 ∨ j % 6 = 5 := by omega
    rcases hm with e | e | e | e | e | e
    · rw [show j = j / 6 * 6 by omega] at hu ⊢
      rw [n0] at hu
      rw [← Option.some.inj hu]
      exact c0
    · rw [show j = j / 6 * 6 + 1 by omega] at hu ⊢
      rw [n1] at hu
      rw [← Option.some.inj hu, ← Nat.add_assoc]
      exact c1
    · rw [show j = j / 6 * 6 + 2 by omega] at hu ⊢
      rw [n2] at hu
      rw [← Option.some.inj hu, ← Nat.add_assoc]
      exact c2
    · rw [show j = j / 6 * 6 + 3 by omega] at hu ⊢
      rw [n3] at hu
      rw [← Option.some.inj hu, ← Nat.add_assoc]
      exact c3
    · rw [show j = j / 6 * 6 + 4 by omega] at hu ⊢
      rw [n4] at hu
      rw [← Option.some.inj hu, ← Nat.add_assoc]
      exact c4
    · rw [show j = j / 6 * 6 + 5 by omega] at hu ⊢
      rw [n5] at hu
      rw [← Option.some.inj hu, ← Nat.add_assoc]
      exact c5

theorem run_ixN (g n cap i : Nat) (hi : i < n) (w' : World) : (Instr.indexAt 59 (.slice (some ⟨g, 0, none⟩) n cap) (.int .i64 (i : Int))).run Tryz.prog w' = .ok (.pointer (some ⟨g, i * 6, none⟩)) w' := by
  have := So.run_ixg (t := 59) (e := 47) (m := 6) (by kernel_rfl) (by kernel_rfl) (fun w => by kernel_rfl) g 0 n cap i hi w'
  rwa [Nat.zero_add] at this

set_option maxRecDepth 100000 in
set_option maxHeartbeats 8000000 in
theorem back_main (a0 : Option Addr) (b off len cap : Nat) (zz : Nat → Nv) (a1 : Option Addr) (b1 off1 len1 cap1 : Nat) (oo : Nat → Opn) (st : Int) (w : World) (hT : Bt.Tab w) (hS : Nodes w a0 b off len cap zz) (hD : Script w a1 b1 off1 len1 cap1 oo) (hlen : len ≤ 60) (hlen1 : len1 ≤ 60) (s0 : 0 ≤ st) (s1 : st ≤ 200) :
    Calls Tryz.prog 5 #[.slice a0 len cap, .slice a1 len1 cap1, .int .i64 st] w fun e w' => e = .returned (.bool true) ∧ K w w' := by
  have cn := Rn.new 4000 100 4294967295 w hT (by decide) (by decide) (by decide) (by decide) (by decide) (by decide)
  have hz0 : Aside (0 < w.heap.size) := Hp.lt0 hT
  have ca : Aside (∀ w1, K w w1 → Calls Tryz.prog 8 #[] w1 fun e w' => e = .returned (.bool true) ∧ K w w') := fun w1 k => (awake_any w1 (hT.keep ⟨k.below⟩)).mono fun e w2 h => ⟨h.1, k.trans h.2⟩
  obtain ⟨ih, hih, hsh, hbh, zh, hzh, hzsh⟩ := Hd.info_handle
  have HH : Aside (Tryz.prog.info? 45 = some ih ∧ ih.size = 1 ∧ ih.bytes = 8 ∧ ih.zero = some zh ∧ zh.cells.size = 1) := ⟨hih, hsh, hbh, hzh, hzsh⟩
  have HS : Aside _ := hS
  have HD : Aside _ := hD
  have SRC : Aside (∀ V, K w V → SrcN V a0 len (nodeVals (zl zz len))) := fun V k => src_nodes (hS.keep k) (by cases a0 with | none => exact .inr (.inl rfl) | some ad => exact .inr (.inr ⟨ad, rfl⟩))
  have hd1 : decide ((60 : Int) < (len : Int)) = false := decide_eq_false (by omega)
  have hd2 : decide ((60 : Int) < (len1 : Int)) = false := decide_eq_false (by omega)
  have hd3 : decide (st < (0 : Int)) = false := decide_eq_false (by omega)
  have hd4 : decide ((200 : Int) < st) = false := decide_eq_false (by omega)
  clear hS hD hih hsh hbh hzh hzsh hT
  go_enter Tryz.func5, Tryz.ntmps5
  go_wp2_with fail
  refine cn.mono ?_
  rintro e w1 ⟨A, v, rfl, HR, k1⟩
  have HA : Aside (A.q = 4000 ∧ A.m = 100) := ⟨HR.out.2.1, HR.out.2.2.1⟩
  have rn1 := HR.out.1
  have cc := Co.new_ok rn1.s
  have RN : Aside _ := rn1
  clear cn HR k1 rn1
  go_wp2_with fail
  refine cc.mono ?_
  rintro e w2 ⟨c, rfl, hc1, hc2, k2⟩
  have RN2 : Aside (Rn w w2 A [] (fun _ => 0) [] v [] ∧ Bx A [] v w2 c 108 (sp A.st)) := ⟨RN.out.keep k2, hc2, fun hf => by have := RN.out.s.b.flt hf; omega⟩
  clear cc RN hc1 hc2 k2
  have ksrc := SRC.out (w2.alloc (.cells #[] 47)) (RN2.out.1.k.alloc _)
  have hsz2 : w.heap.size ≤ w2.heap.size := RN2.out.1.k.size
  have own0 : (w2.alloc (.cells #[] 47)).ownsRow w.heap.size 47 6 (.slice (some ⟨w2.heap.size, 0, none⟩) 0 0) 0 [] := World.ownsRow_lit (base := w.heap.size) (e := 47) (size := 6) w2 #[] 0 hsz2 (by simp [maxLen]) rfl
  go_wp2_with (
    at_builtin
    refine wpList_append_nodes _ rfl _ _ rfl w.heap.size _ 0 [] rfl own0 rfl a0 len cap (nodeVals (zl zz len)) rfl (by rw [nodeVals_len, zl_len]) ksrc (nodeVals_one _) (by omega) (by simp; omega) ?_
    intro v4 w4 hown hgrow hat
    rw [Nat.zero_add, List.nil_append] at hown
    obtain ⟨gw, cw, hv4⟩ : ∃ gw cw, v4 = .slice (some ⟨gw, 0, none⟩) len cw := by
      rcases hown.2 with ⟨e, _⟩ | ⟨g, cp, cur, e, _⟩
      · rw [e] at hat
        rcases hat with h | h <;> cases h
      · exact ⟨g, cp, e⟩
    subst hv4
    have k4 : K w2 w4 := K.grownN ((K.refl w2).alloc _) hgrow (fun g hg => by
      have : g = w2.heap.size := Option.some.inj hg
      omega)
    have S0 : Aside (Pt w w4 A c (.slice none 0 0) (.slice (some ⟨gw, 0, none⟩) len cw) [] (zl zz len) 0) := by
      have hown2 := hown
      rw [← zl_len zz len] at hown2
      refine ⟨⟨_, _, _, _, RN2.out.1.keep k4, ⟨World.ownsRow_nil _ _ _ _, fun b h => by cases h⟩, RN2.out.2.keep k4, rfl, rfl, ⟨fun k x h => by simp at h, fun k x n h => by simp at h, fun j k x h => by simp at h⟩⟩, ?_, rfl, fun h => by cases h⟩
      rw [zl_len]
      exact hown
    clear hown hgrow hat k4)
  clear ksrc hsz2 own0 SRC RN2
  go_loopg [11, 13] len (fun gh t11 t13 wx => ∃ (i : Nat) (a2 : Option Addr) (c2 : Nat) (hs : List Int), i + gh = len ∧ t13 = .int .i64 i ∧ t11 = .slice a2 i c2 ∧ Aside (Pt w wx A c (.slice a2 i c2) (.slice (some ⟨gw, 0, none⟩) len cw) hs (zl zz len) i))
  case atStart => exact ⟨0, none, 0, [], by omega, rfl, rfl, S0⟩
  case round =>
    obtain ⟨i, a2, c2, hs, hig, rfl, rfl, HO⟩ := hrel
    clear S0
    by_cases hlt : i < len
    · have hix := HS.out.ix i hlt
      obtain ⟨d0, d1, d2, d3, d4, d5⟩ := (HS.out.keep HO.out.k).cell i hlt
      have cp1 := HO.out.make HA.out.1 HA.out.2 (by omega) (zl_at zz hlt) (HS.out.ok i)
      go_wp2_with fail
      refine cp1.mono ?_
      rintro e w3 ⟨x, rfl, HX⟩
      obtain ⟨hrow, hsz, kx⟩ := HX.out.row
      clear cp1 kx d0 d1 d2 d3 d4 d5
      go_wp2_with (at_builtin
                   refine wpList_append_own_at _ rfl _ _ 40 rfl w.heap.size 45 ih zh 1 8 Tryz.underlying40 HH.out.1 HH.out.2.2.2.1 HH.out.2.1 HH.out.2.2.1 HH.out.2.2.2.2 (by decide) _ i _ rfl (hrow.alloc _) ⟨w3.heap.size, 0, none⟩ 1 1 [Hd.encU x] rfl rfl (Hd.src_one w3 #[.int .u64 x] 45) (Hd.one_u _) (by unfold maxLen; omega) (by omega) (by simp; omega) ?_
                   intro v4 w4 hown hgrow _ hat
                   have h4 : Aside _ := HX.out.app hz0.out hown hgrow hat
                   obtain ⟨a4, c4, hv4⟩ := Hd.own_form hown
                   subst hv4
                   clear hown hgrow hat hrow)
      go_roundg (len - (i + 1))
      case measure => omega
      case rel => exact ⟨i + 1, _, c4, hs ++ [x], by omega, by go_num, rfl, h4⟩
    · obtain rfl : i = len := by omega
      have B0 : Aside _ := HO.out.done (zl_len zz i) hlen
      clear HO HA
      have hi60 := hlen
      go_wp2_with fail
      go_loopg [16] len1 (fun gh t wx => ∃ (j : Nat) (zs : List Nv), j + gh = len1 ∧ t = .int .i64 j ∧ Aside (Bk w wx A c (.slice a2 i c2) (.slice (some ⟨gw, 0, none⟩) i cw) hs zs i))
      case atStart => exact ⟨0, _, by omega, rfl, B0⟩
      case round =>
        obtain ⟨j, zs, hj, rfl, HB⟩ := hrel
        clear B0
        by_cases hlt1 : j < len1
        · by_cases hi0 : 0 < i
          · have hixd := HD.out.ix j hlt1
            obtain ⟨o0, o1, o2, o3, o4, o5, o6, o7, o8⟩ := (HD.out.keep HB.out.k).cell j hlt1
            have OK := HD.out.ok j
            obtain ⟨o, ho⟩ : ∃ o, o = oo j := ⟨_, rfl⟩
            rw [← ho] at o0 o1 o2 o3 o4 o5 o6 o7 o8 OK
            have OKA : Aside _ := OK
            have hn1 : -9223372036854775808 ≤ o.n := OK.n.1
            have hn2 : o.n ≤ 9223372036854775807 := OK.n.2
            clear OK
            obtain ⟨k, hki, hkk⟩ := round_at o.n hi0 (by omega)
            obtain ⟨x, hx⟩ : ∃ x, hs[k]? = some x := ⟨_, List.getElem?_eq_getElem (by rw [HB.out.lh]; exact hki)⟩
            obtain ⟨pg3, W3, L3, v3, T3, rn3, hr3, _⟩ := HB.out.ex
            have hrl := hr3.rl
            rw [HB.out.lh] at hrl
            obtain ⟨gh, ah, ch, hvh, hah, hch⟩ := So.row1 hrl
            have hah2 := hah (by omega)
            subst hah2
            obtain ⟨rfl, rfl⟩ : a2 = some ⟨gh, 0, none⟩ ∧ c2 = ch := by injection hvh with h1 h2 h3; exact ⟨h1, h3⟩
            have hcx := hch k (Hd.encU x) (by rw [List.getElem?_map, hx]; rfl)
            have ixh := fun w' => So.run_ixF gh i c2 k hki w'
            have ixw := fun w' => run_ixN gw i cw k hki w'
            have cp1 : Aside (∀ V, K wr V → Calls Tryz.prog 15 #[sp A.st, .int .u64 x, o.x.v] V fun e w' => e = .returned (.int .i64 0) ∧ (w'.cell? ⟨gh, k, none⟩ = some (.int .u64 x) ∧ w'.cell? ⟨b1, off1 + j * 9 + 3, none⟩ = some (.int .u64 o.x.a) ∧ w'.cell? ⟨b1, off1 + j * 9 + 4, none⟩ = some (.int .u64 o.x.b) ∧ w'.cell? ⟨b1, off1 + j * 9 + 5, none⟩ = some (.int .u64 o.x.c) ∧ w'.cell? ⟨b1, off1 + j * 9 + 6, none⟩ = some (.int .u64 o.x.d) ∧ w'.cell? ⟨b1, off1 + j * 9 + 7, none⟩ = some (.int .u64 o.x.e) ∧ w'.cell? ⟨b1, off1 + j * 9 + 8, none⟩ = some (.int .u64 o.x.f)) ∧ Aside (K w w' ∧ w'.ownsRow w.heap.size 47 6 (.slice (some ⟨gw, 0, none⟩) i cw) i (nodeVals zs) ∧ ∃ pg W L v T, Rn w w' A pg W L v T ∧ Hr w w' A pg v (.slice (some ⟨gh, 0, none⟩) i c2) hs ∧ Bx A pg v w' c 108 (sp A.st) ∧ granted L ≤ ((i + 5) / 6 : Nat) ∧ Bn T W hs (zs.set k o.x))) := fun V q => by
              refine ((HB.out.keep q).put hx OKA.out.x).mono ?_
              rintro e w' ⟨rfl, hh⟩
              obtain ⟨kw, hw1, pg, W, L, v, T, rn, hr, rest⟩ := hh.out
              obtain ⟨p0, p1, p2, p3, p4, p5, p6, p7, p8⟩ := ho ▸ (HD.out.keep kw).cell j hlt1
              refine ⟨rfl, ⟨?_, p3, p4, p5, p6, p7, p8⟩, kw, hw1, pg, W, L, v, T, rn, hr, rest⟩
              exact row_cell (by have h := hr.rl; rw [HB.out.lh] at h; exact h) (by rw [List.getElem?_map, hx]; rfl)
            clear hvh hah hch hrl rn3 hr3 hx ho
            have C1 := cp1.out _ (Hp.K.drew (K.refl wr))
            go_wp2_with fail
            go_region_held3 (fun V => V.cell? ⟨gh, k, none⟩ = some (.int .u64 x) ∧ V.cell? ⟨b1, off1 + j * 9 + 3, none⟩ = some (.int .u64 o.x.a) ∧ V.cell? ⟨b1, off1 + j * 9 + 4, none⟩ = some (.int .u64 o.x.b) ∧ V.cell? ⟨b1, off1 + j * 9 + 5, none⟩ = some (.int .u64 o.x.c) ∧ V.cell? ⟨b1, off1 + j * 9 + 6, none⟩ = some (.int .u64 o.x.d) ∧ V.cell? ⟨b1, off1 + j * 9 + 7, none⟩ = some (.int .u64 o.x.e) ∧ V.cell? ⟨b1, off1 + j * 9 + 8, none⟩ = some (.int .u64 o.x.f))
              (first | exact ⟨hcx, o3, o4, o5, o6, o7, o8⟩ | exact y1)
              (first | (go_at_call 15; refine C1.mono ?_; rintro e w6 ⟨rfl, y1, HX⟩))
            obtain ⟨z0, z3, z4, z5, z6, z7, z8⟩ := y1
            obtain ⟨kw6, hrow6, hex6⟩ := HX.out
            go_wp2_with (with_reducible refine wrapN ?_)
            unfold Wrapd
            refine wpList_store_mid rfl 47 (.tmp 125) (.tmp 124) rfl gw (k * 6) #[.int .u64 o.x.a, .int .u64 o.x.b, .int .u64 o.x.c, .int .u64 o.x.d, .int .u64 o.x.e, .int .u64 o.x.f] rfl rfl (row_there hrow6 (by rw [HB.out.lz]; exact hki)) (by kernel_rfl) (by simp [Value.oneCell']) ?_
            have BN : Aside (Bk w (w6.setCells gw (k * 6) [encU o.x.a, encU o.x.b, encU o.x.c, encU o.x.d, encU o.x.e, encU o.x.f]) A c (.slice (some ⟨gh, 0, none⟩) i c2) (.slice (some ⟨gw, 0, none⟩) i cw) hs (zs.set k o.x) i) := Bk.note HB.out.lh HB.out.lz hki hz0.out ⟨hrow6, hex6⟩
            obtain ⟨w7, hw7⟩ : ∃ w7, w7 = w6.setCells gw (k * 6) [encU o.x.a, encU o.x.b, encU o.x.c, encU o.x.d, encU o.x.e, encU o.x.f] := ⟨_, rfl⟩
            rw [← hw7] at BN
            rw [show w6.setCells gw (k * 6) (#[Value.int .u64 o.x.a, Value.int .u64 o.x.b, Value.int .u64 o.x.c, Value.int .u64 o.x.d, Value.int .u64 o.x.e, Value.int .u64 o.x.f] : Array Value).toList = w7 from hw7.symm]
            clear hw7 HX kw6 hrow6 hex6 z0 z3 z4 z5 z6 z7 z8 HB C1 cp1 hcx OKA o0 o1 o2 o3 o4 o5 o6 o7 o8 hn1 hn2 hkk
            by_cases hj2 : j % 2 = 0
            · have hjt : (((j : Int).tmod 2) == 0) = true := by rw [Int.tmod_eq_emod_of_nonneg (by omega)]; simp; omega
              have hje : (((j : Int) % 2) == 0) = true := by simp; omega
              have cr := BN.out.run (bu := 1) (by omega) (by omega)
              clear BN
              go_wp2_with fail
              refine cr.mono ?_
              rintro e w8 ⟨⟨r1, r2, r3, rfl⟩, B8⟩
              clear cr hjt hje
              go_wp2_with fail
              go_roundg (len1 - (j + 1))
              case measure => omega
              case rel => exact ⟨j + 1, zs.set k o.x, by omega, by go_num, B8⟩
            · have hjt : (((j : Int).tmod 2) == 0) = false := by rw [Int.tmod_eq_emod_of_nonneg (by omega)]; simp; omega
              have hje : (((j : Int) % 2) == 0) = false := by simp; omega
              go_wp2_with fail
              clear hjt hje
              go_roundg (len1 - (j + 1))
              case measure => omega
              case rel => exact ⟨j + 1, zs.set k o.x, by omega, by go_num, BN⟩
          · have hd0 : decide ((0 : Int) < (i : Int)) = false := decide_eq_false (by omega)
            have cr := HB.out.run s0 (bu := st) (by omega)
            clear HB
            go_wp2_with fail
            refine cr.mono ?_
            rintro e w7 ⟨⟨r1, r2, r3, rfl⟩, HB⟩
            have K7 : Aside (K w7 w7) := K.refl w7
            clear cr
            go_wp2_with fail
            go_loopg [18] i (fun gh t wx => ∃ (k : Nat), k + gh = i ∧ t = .int .i64 k ∧ Aside (K w7 wx))
            case atStart => exact ⟨0, by omega, rfl, K7⟩
            case round =>
              obtain ⟨k, hkg, rfl, HK⟩ := hrel
              clear K7
              by_cases hlt2 : k < i
              · exfalso
                omega
              · obtain rfl : k = i := by omega
                have cw8 := (HB.out.keep HK.out).words
                have k07 := HB.out.k.trans HK.out
                clear HB HK
                go_wp2_with fail
                refine cw8.mono ?_
                rintro e w8 ⟨⟨g, rfl, g0, g1⟩, k8⟩
                have cx := ca.out _ (k07.trans k8)
                have hg : 64 * g ≤ 64 * (1 + (k : Int) / 6) := by omega
                have hdg : decide (64 * g ≤ 64 * (1 + (k : Int) / 6)) = true := decide_eq_true hg
                clear cw8
                go_wp2_with fail
                refine cx.mono ?_
                rintro e w9 ⟨rfl, k9⟩
                go_wp2_with fail
                go_ret
                exact ⟨rfl, k9⟩
        · have cr := HB.out.run s0 (bu := st) (by omega)
          clear HB
          go_wp2_with fail
          refine cr.mono ?_
          rintro e w7 ⟨⟨r1, r2, r3, rfl⟩, HB⟩
          have K7 : Aside (K w7 w7) := K.refl w7
          clear cr
          go_wp2_with fail
          go_loopg [18] i (fun gh t wx => ∃ (k : Nat), k + gh = i ∧ t = .int .i64 k ∧ Aside (K w7 wx))
          case atStart => exact ⟨0, by omega, rfl, K7⟩
          case round =>
            obtain ⟨k, hkg, rfl, HK⟩ := hrel
            clear K7
            by_cases hlt2 : k < i
            · have HBK := HB.out.keep HK.out
              obtain ⟨x, hx⟩ : ∃ x, hs[k]? = some x := ⟨_, List.getElem?_eq_getElem (by rw [HBK.lh]; exact hlt2)⟩
              obtain ⟨z, hz⟩ : ∃ z, zs[k]? = some z := ⟨_, List.getElem?_eq_getElem (by rw [HBK.lz]; exact hlt2)⟩
              obtain ⟨pg3, W3, L3, v3, T3, rn3, hr3, _⟩ := HBK.ex
              have hrl := hr3.rl
              rw [HBK.lh] at hrl
              obtain ⟨gh, ah, ch, hvh, hah, hch⟩ := So.row1 hrl
              have hah2 := hah (by omega)
              subst hah2
              obtain ⟨rfl, rfl⟩ : a2 = some ⟨gh, 0, none⟩ ∧ c2 = ch := by injection hvh with h1 h2 h3; exact ⟨h1, h3⟩
              have hcx := hch k (Hd.encU x) (by rw [List.getElem?_map, hx]; rfl)
              have ixh := fun w' => So.run_ixF gh i c2 k hlt2 w'
              have ixw := fun w' => run_ixN gw i cw k hlt2 w'
              have cg : Calls Tryz.prog 14 #[sp A.st, .int .u64 x] wr fun e w' => e = .returned (.tuple #[.agg #[.int .u64 z.a, .int .u64 z.b, .int .u64 z.c, .int .u64 z.d, .int .u64 z.e, .int .u64 z.f], .int .i64 0]) ∧ K wr w' := HBK.get hx hz
              have ZC : Aside (∀ V, K w7 V → ((V.cell? ⟨gw, k * 6, none⟩ = some (.int .u64 z.a) ∧ V.cell? ⟨gw, k * 6 + 1, none⟩ = some (.int .u64 z.b) ∧ V.cell? ⟨gw, k * 6 + 2, none⟩ = some (.int .u64 z.c) ∧ V.cell? ⟨gw, k * 6 + 3, none⟩ = some (.int .u64 z.d) ∧ V.cell? ⟨gw, k * 6 + 4, none⟩ = some (.int .u64 z.e) ∧ V.cell? ⟨gw, k * 6 + 5, none⟩ = some (.int .u64 z.f)) ∧ gw < V.heap.size)) := fun V q => by
                have hr := (HB.out.keep q).rw
                obtain ⟨n0, n1, n2, n3, n4, n5⟩ := nodeVals_at hz
                obtain ⟨cs, hcs⟩ := own_kind hr (j := gw) rfl
                exact ⟨⟨row_cell hr n0, row_cell hr n1, row_cell hr n2, row_cell hr n3, row_cell hr n4, row_cell hr n5⟩, (Array.getElem?_eq_some_iff.1 hcs).1⟩
              clear hvh hah hch hrl rn3 hr3 hx hz HBK
              go_wp2_with fail
              refine cg.mono ?_
              rintro e w8 ⟨rfl, k8⟩
              have KN : Aside (K w7 (w8.alloc (.cells #[.int .u64 z.a, .int .u64 z.b, .int .u64 z.c, .int .u64 z.d, .int .u64 z.e, .int .u64 z.f] 47))) := (Hp.K.trans HK.out k8).alloc _
              obtain ⟨⟨q0, q1, q2, q3, q4, q5⟩, ql⟩ := ZC.out w8 (Hp.K.trans HK.out k8)
              clear cg HK k8 ZC hcx
              go_wp2_with fail
              go_region
              have KD : Aside (K w7 (w8.alloc (.cells #[.int .u64 z.a, .int .u64 z.b, .int .u64 z.c, .int .u64 z.d, .int .u64 z.e, .int .u64 z.f] 47)).drew) := Hp.K.drew KN.out
              clear KN
              go_wp2_with fail
              go_roundg (i - (k + 1))
              case measure => omega
              case rel => exact ⟨k + 1, by omega, by go_num, KD⟩
            · obtain rfl : k = i := by omega
              have cw8 := (HB.out.keep HK.out).words
              have k07 := HB.out.k.trans HK.out
              clear HB HK
              go_wp2_with fail
              refine cw8.mono ?_
              rintro e w8 ⟨⟨g, rfl, g0, g1⟩, k8⟩
              have cx := ca.out _ (k07.trans k8)
              have hg : 64 * g ≤ 64 * (1 + (k : Int) / 6) := by omega
              have hdg : decide (64 * g ≤ 64 * (1 + (k : Int) / 6)) = true := decide_eq_true hg
              clear cw8
              go_wp2_with fail
              refine cx.mono ?_
              rintro e w9 ⟨rfl, k9⟩
              go_wp2_with fail
              go_ret
              exact ⟨rfl, k9⟩

end Nd
end Go.Proofs.YtlalmdckdejggaaGreatDoor
