/-
  The reference's spot: the least free slot of a class.
-/
import Derived.Test.YtkjjobafbcdmoaaGreatDoorR1
import Derived.Test.YtkjjobafbcdmoaaGreatDoorH6
namespace Go.Proofs.YtkjjobafbcdmoaaGreatDoor
open Go.RowKit Go.Maps
namespace Hp
variable {w w' : World} {B br : Nat} {q : Int} {v : Value} {E : List Re}

theorem freeB_at {E : List Re} {c : Int} : ∀ {i : Nat} {p : Pg} {j s : Int}, E[i]? = some (p, j) → freeOf c p = some (p, s) → (∀ (i' : Nat) (e : Re), i' < i → E[i']? = some e → freeOf c e.1 = none) → freeB (entsR E) c = some (p, s) := by
  induction E with
  | nil => intro i p j s h; simp at h
  | cons e E ih =>
    intro i p j s h hf hn
    unfold freeB entsR
    rw [List.map_cons, List.findSome?_cons]
    cases i with
    | zero =>
      obtain rfl : e = (p, j) := by simpa using h
      rw [show freeOf c (p, j).1 = some (p, s) from hf]
    | succ i =>
      rw [hn 0 e (by omega) rfl]
      exact ih (i := i) (by simpa using h) hf (fun i' e' hi he => hn (i' + 1) e' (by omega) (by simpa using he))
theorem freeB_no {c : Int} (hn : ∀ (i : Nat) (e : Re), E[i]? = some e → freeOf c e.1 = none) : freeB (entsR E) c = none := by
  unfold freeB
  rw [List.findSome?_eq_none_iff]
  intro p hp
  obtain ⟨e, he, rfl⟩ := List.mem_map.1 hp
  obtain ⟨i, hi⟩ := List.getElem?_of_mem he
  exact hn i e hi

theorem freeOf_other {c : Int} {p : Pg} (h : p.kind = 2 ∨ p.cls ≠ c) : freeOf c p = none := by
  unfold freeOf
  rw [if_neg]
  intro hx
  simp at hx
  rcases h with h | h <;> omega
theorem freeOf_full {c : Int} {p : Pg} (hp : Ent p) (h1 : p.kind = 1) (h : ∀ k : Nat, (k : Int) < Cl.sloI p.cls → Bt.hasI p.taken k = true) : freeOf c p = none := by
  obtain ⟨c0, c1, _⟩ := hp.small h1
  obtain ⟨_, _, s0, s1⟩ := sz_range c0 c1
  unfold freeOf
  split
  · rw [if_neg]
    intro hx
    rcases free_cases (t := p.taken) (n := Cl.sloI p.cls) (by omega) s1 with ⟨e, _⟩ | ⟨f0, f1, f2, _⟩
    · omega
    · have := h (Bt.freI p.taken (Cl.sloI p.cls)).toNat (by omega)
      rw [Int.toNat_of_nonneg f0, f2] at this
      cases this
  · rfl
theorem freeOf_at {p : Pg} (hp : Ent p) (h1 : p.kind = 1) {k : Nat} (hk : (k : Int) < Cl.sloI p.cls) (hf : Bt.hasI p.taken k = false) (h : ∀ k' : Nat, k' < k → Bt.hasI p.taken k' = true) : freeOf p.cls p = some (p, (k : Int)) := by
  obtain ⟨c0, c1, _⟩ := hp.small h1
  obtain ⟨_, _, s0, s1⟩ := sz_range c0 c1
  have e : Bt.freI p.taken (Cl.sloI p.cls) = k := by
    rcases free_cases (t := p.taken) (n := Cl.sloI p.cls) (by omega) s1 with ⟨_, g⟩ | ⟨f0, f1, f2, f3⟩
    · rw [g k (by omega) hk] at hf
      cases hf
    · rcases Int.lt_trichotomy (Bt.freI p.taken (Cl.sloI p.cls)) k with h3 | h3 | h3
      · have := h (Bt.freI p.taken (Cl.sloI p.cls)).toNat (by omega)
        rw [Int.toNat_of_nonneg f0, f2] at this
        cases this
      · exact h3
      · rw [f3 k (by omega) h3] at hf
        cases hf
  unfold freeOf
  rw [if_pos (by simp [h1]), e, if_pos (by omega)]

set_option maxRecDepth 100000 in
set_option maxHeartbeats 2000000 in
theorem rspot_any {g cap : Nat} {ad : Option Addr} (hr : RowE w g ad cap E) (hE : Eo E) (c : Int) : Calls Tryz.prog 54 #[.agg #[.int .i64 q, .slice ad E.length cap], .int .i64 c] w fun e w' => ((∃ (i k : Nat) (p : Pg) (j : Int), e = .returned (.tuple #[.int .i64 i, .int .i64 k]) ∧ E[i]? = some (p, j) ∧ freeB (entsR E) c = some (p, (k : Int))) ∨ (e = .returned (.tuple #[.int .i64 (-1), .int .i64 0]) ∧ freeB (entsR E) c = none)) ∧ K w w' := by
  have hk0 : K w (w.alloc (.cells #[.int .i64 q, .slice ad E.length cap] 46)) := (K.refl _).alloc _
  have hb : (w.alloc (.cells #[.int .i64 q, .slice ad E.length cap] 46)).heap[w.heap.size]? = some (.cells #[.int .i64 q, .slice ad E.length cap] 46) := (MapKept.heap_alloc w _).1
  have HR : Aside _ := hr.keep hk0
  have HE : Aside _ := hE
  have hl := hE.len
  clear hr hE
  go_enter Tryz.func54, Tryz.ntmps54
  go_wp2
  generalize w.alloc (.cells #[.int .i64 q, .slice ad E.length cap] 46) = W at *
  have BOX : Aside (∀ wx, K W wx → wx.cell? ⟨w.heap.size, 1, none⟩ = some (.slice ad E.length cap)) := fun wx k => by
    have := k.block hb
    simp [World.cell?, this]
  clear hb
  go_loopg [6] E.length (fun gh t6 wx => ∃ i : Nat, i + gh = E.length ∧ t6 = .int .i64 i ∧ Aside (∀ (i' : Nat) (e : Re), i' < i → E[i']? = some e → freeOf c e.1 = none) ∧ K W wx)
  case atStart => exact ⟨0, by omega, rfl, fun i' k h => by omega, K.refl _⟩
  case round =>
    obtain ⟨i, hig, rfl, HI, hk⟩ := hrel
    have b1 := BOX.out _ hk
    by_cases hlt : i < E.length
    · obtain ⟨⟨p, j⟩, he⟩ : ∃ e, E[i]? = some e := ⟨_, List.getElem?_eq_getElem hlt⟩
      have hix := HR.out.ix i hlt
      obtain ⟨hp, _⟩ := HE.out.at he
      have hp : Ent p := hp
      obtain ⟨_, _, e2, _, e4⟩ := (HR.out.keep hk).at he
      have d2 : wr.cell? ⟨g, i * 36 + 2, none⟩ = some (.int .i64 p.cls) := e2
      have d4 : wr.cell? ⟨g, i * 36 + 4, none⟩ = some (.bool (lgB p)) := e4
      clear e2 e4
      have HGE : Aside _ := he
      have HP : Aside _ := hp
      have STEP : Aside (freeOf c p = none → ∀ wx, K W wx → ∃ i' : Nat, i' + (E.length - (i + 1)) = E.length ∧ Value.int .i64 ((i : Int) + 1) = .int .i64 i' ∧ Aside (∀ (j : Nat) (e : Re), j < i' → E[j]? = some e → freeOf c e.1 = none) ∧ K W wx) := fun hx wx k => by
        refine ⟨i + 1, by omega, by simp, fun i' t hj ht => ?_, k⟩
        by_cases e2 : i' = i
        · subst e2
          obtain rfl : (p, j) = t := Option.some.inj (HGE.out.symm.trans ht)
          exact hx
        · exact HI.out i' t (by omega) ht
      clear he hp
      rcases Ent.kind HP.out with h1 | h2
      · have hlg : lgB p = false := by simp [lgB, h1]
        rw [hlg] at d4
        obtain ⟨cl, hcl⟩ : ∃ cl, p.cls = cl := ⟨_, rfl⟩
        rw [hcl] at d2
        have HCL : Aside (p.cls = cl) := hcl
        clear hcl
        by_cases hc : cl = c
        · subst hc
          have hcc : (cl != cl) = false := by simp
          have H1 : Aside _ := h1
          have hns : nslI p = Cl.sloI p.cls := by unfold nslI; rw [if_neg (by omega)]
          have HNS : Aside _ := hns
          obtain ⟨s0, s1⟩ := nsl_range HP.out
          clear h1 hlg hns
          go_wp2
          go_loopg [7] (nslI p).toNat (fun gh t7 wx => ∃ k : Nat, (k : Int) + gh = nslI p ∧ t7 = .int .i64 k ∧ Aside (∀ k' : Nat, k' < k → Bt.hasI p.taken k' = true) ∧ K W wx)
          case atStart => exact ⟨0, by omega, rfl, fun k h => by omega, hk⟩
          case round =>
            obtain ⟨k, hkg, rfl, HK, hk2⟩ := hrel
            clear hk b1 d2 d4
            have b1 := BOX.out _ hk2
            have HRG : Aside (wr.rangeAt g (i * 36) (reList (p, j))) := (HR.out.keep hk2).range HGE.out
            have csl := fun w => rslots_any p j HP.out w
            by_cases hkn : (k : Int) < nslI p
            · have hk31 : k < 31 := by omega
              have hixT := run_ixT g (i * 36 + 5) k hk31
              have htk : tkB p k = Bt.hasI p.taken k := by
                unfold tkB
                rw [if_neg (by have := H1.out; omega)]
              have HTK : Aside _ := htk
              clear htk
              cases hh : Bt.hasI p.taken (k : Int) with
              | true =>
                have HH : Aside _ := hh
                go_wp2_with (first
                  | ((with_reducible refine wpList_load_re g (i * 36) (p, j) ?_ ?_ ?_); (· exact HRG.out); (· rfl))
                  | (go_at_call 50; refine (csl _).mono ?_; rintro e w2 ⟨rfl, k2⟩; have hk3 := hk2.trans k2; have b2 := BOX.out _ hk3; have ht := (HR.out.keep hk3).tk HGE.out hk31; rw [show (p, j).1 = p from rfl, HTK.out, HH.out] at ht))
                go_roundg ((nslI p).toNat - (k + 1))
                case measure => omega
                case rel =>
                  refine ⟨k + 1, by omega, by go_num, fun k' h => ?_, hk3⟩
                  by_cases e : k' = k
                  · subst e; exact HH.out
                  · exact HK.out k' (by omega)
              | false =>
                have HH : Aside _ := hh
                have X : Aside (freeB (entsR E) cl = some (p, (k : Int))) := freeB_at HGE.out (by rw [← HCL.out]; exact freeOf_at HP.out H1.out (by rw [← HNS.out]; exact hkn) HH.out HK.out) HI.out
                go_wp2_with (first
                  | ((with_reducible refine wpList_load_re g (i * 36) (p, j) ?_ ?_ ?_); (· exact HRG.out); (· rfl))
                  | (go_at_call 50; refine (csl _).mono ?_; rintro e w2 ⟨rfl, k2⟩; have hk3 := hk2.trans k2; have b2 := BOX.out _ hk3; have ht := (HR.out.keep hk3).tk HGE.out hk31; rw [show (p, j).1 = p from rfl, HTK.out, HH.out] at ht))
                go_ret2
                exact ⟨.inl ⟨i, k, p, j, rfl, HGE.out, X.out⟩, hk0.trans hk3⟩
            · have X : Aside (freeOf cl p = none) := freeOf_full HP.out H1.out (fun k' h => HK.out k' (by rw [← HNS.out] at h; omega))
              go_wp2_with (first
                | ((with_reducible refine wpList_load_re g (i * 36) (p, j) ?_ ?_ ?_); (· exact HRG.out); (· rfl))
                | (go_at_call 50; refine (csl _).mono ?_; rintro e w2 ⟨rfl, k2⟩))
              go_roundg (E.length - (i + 1))
              case measure => omega
              case rel => exact STEP.out X.out _ (hk2.trans k2)
        · have hcc : (cl != c) = true := by simpa using hc
          have X : Aside (freeOf c p = none) := freeOf_other (.inr (by rw [HCL.out]; exact hc))
          clear h1 hlg hc
          go_wp2
          go_roundg (E.length - (i + 1))
          case measure => omega
          case rel => exact STEP.out X.out _ hk
      · have hlg : lgB p = true := by simp [lgB, h2]
        rw [hlg] at d4
        have X : Aside (freeOf c p = none) := freeOf_other (.inl h2)
        clear h2 hlg
        go_wp2
        go_roundg (E.length - (i + 1))
        case measure => omega
        case rel => exact STEP.out X.out _ hk
    · have X : Aside (freeB (entsR E) c = none) := freeB_no (fun i' e he => HI.out i' e (by have := (List.getElem?_eq_some_iff.1 he).1; omega) he)
      go_wp2
      go_ret2
      exact ⟨.inr ⟨rfl, X.out⟩, hk0.trans hk⟩

end Hp
end Go.Proofs.YtkjjobafbcdmoaaGreatDoor

/-
  The reference's Live.
-/
namespace Go.Proofs.YtkjjobafbcdmoaaGreatDoor
open Go.RowKit Go.Maps
namespace Hp
variable {w w' : World} {B br : Nat} {q : Int} {v : Value} {E : List Re}

def takenE (p : Pg) (n : Nat) : List Int := ((List.range n).filter fun k => tkB p k).map fun (k : Nat) => (k : Int)
theorem takenE_succ (p : Pg) (n : Nat) : takenE p (n + 1) = takenE p n ++ (if tkB p n = true then [(n : Int)] else []) := by
  unfold takenE
  rw [List.range_succ, List.filter_append, List.map_append]
  congr 1
  simp only [List.filter_cons, List.filter_nil]
  split <;> rfl
theorem takenE_len (p : Pg) (n : Nat) : (takenE p n).length ≤ n := by
  unfold takenE
  rw [List.length_map]
  have := List.length_filter_le (fun k => tkB p k) (List.range n)
  simpa using this
theorem takenE_all {p : Pg} (hp : Ent p) : takenE p (nslI p).toNat = slotsOf p := by
  rcases hp.kind with h1 | h2
  · unfold slotsOf nslI takenE takenTo
    rw [if_neg (by omega), if_neg (by omega), if_pos h1, List.filter_map]
    congr 1
    apply List.filter_congr
    intro k _
    unfold tkB
    rw [if_neg (by omega)]
    rfl
  · unfold slotsOf nslI
    rw [if_pos h2, if_pos h2]
    show takenE p 1 = [0]
    rw [takenE_succ]
    simp [takenE, tkB, h2, (hp.large h2).2.1]

theorem info_intR : ∃ i0, Tryz.prog.info? 3 = some i0 ∧ i0.size = 1 ∧ i0.bytes = 8 ∧ ∃ z, i0.zero = some z ∧ z.cells.size = 1 := by
  have hi : (Tryz.prog.info? 3).map (fun i => (i.zero.map (fun z => z.cells.size), i.size, i.bytes)) = some (some 1, 1, 8) := by kernel_rfl
  obtain ⟨i0, h1, h2⟩ := Option.map_eq_some_iff.1 hi
  simp only [Prod.mk.injEq] at h2
  obtain ⟨h3, h4, h5⟩ := h2
  obtain ⟨z, h6, h7⟩ := Option.map_eq_some_iff.1 h3
  exact ⟨i0, h1, h4, h5, z, h6, h7⟩
theorem src_oneR (w : World) (cells : Array Value) (ty : TypeId) : ∀ j u, cells.toList[j]? = some u → (w.alloc (.cells cells ty)).cell? ((⟨w.heap.size, 0, none⟩ : Addr).add j) = some u := fun j u hu => by
  rw [Go.WideShapes.add_plain, Nat.zero_add, World.cell?_alloc_new, ← Array.getElem?_toList]
  exact hu
theorem one_iR (x : Int) : ∀ u ∈ [encI x], u.oneCell' = true := fun u hu => by
  obtain rfl : u = encI x := by simpa using hu
  rfl
theorem ownsRow_keepR {A C : World} {n₀ k m : Nat} {t : TypeId} {v : Value} {xs : List Value} (h : A.ownsRow n₀ t m v k xs) (kk : K A C) : C.ownsRow n₀ t m v k xs := by
  obtain ⟨h1, h2⟩ := h
  refine ⟨h1, ?_⟩
  rcases h2 with h2 | ⟨g, cap, cur, rfl, hb, hg, rest⟩
  · exact .inl h2
  · exact .inr ⟨g, cap, cur, rfl, hb, kk.block hg, rest⟩

set_option maxRecDepth 100000 in
set_option maxHeartbeats 2000000 in
theorem rLive_any {g cap : Nat} {ad : Option Addr} (hr : RowE w g ad cap E) (hE : Eo E) : Calls Tryz.prog 31 #[.agg #[.int .i64 q, .slice ad E.length cap]] w fun e w' => ∃ v', e = .returned v' ∧ w'.ownsRow w.heap.size 3 1 v' (liveL (entsR E)).length ((liveL (entsR E)).map encI) ∧ K w w' := by
  have hk0 : K w (w.alloc (.cells #[.int .i64 q, .slice ad E.length cap] 46)) := (K.refl _).alloc _
  have hb : (w.alloc (.cells #[.int .i64 q, .slice ad E.length cap] 46)).heap[w.heap.size]? = some (.cells #[.int .i64 q, .slice ad E.length cap] 46) := (MapKept.heap_alloc w _).1
  have hWs : Aside ((w.alloc (.cells #[.int .i64 q, .slice ad E.length cap] 46)).heap.size = w.heap.size + 1) := by show _ = _; simp
  have HR : Aside _ := hr.keep hk0
  have HE : Aside _ := hE
  have hl := hE.len
  obtain ⟨i0, hi, hsz, hby, zz, hz, hzs⟩ := info_intR
  have HI0 : Aside (Tryz.prog.info? 3 = some i0 ∧ i0.size = 1 ∧ i0.bytes = 8 ∧ i0.zero = some zz ∧ zz.cells.size = 1) := ⟨hi, hsz, hby, hz, hzs⟩
  clear hr hE hi hsz hby hz hzs
  go_enter Tryz.func31, Tryz.ntmps31
  go_wp2
  generalize w.alloc (.cells #[.int .i64 q, .slice ad E.length cap] 46) = W at *
  have BOX : Aside (∀ wx, K W wx → wx.cell? ⟨w.heap.size, 1, none⟩ = some (.slice ad E.length cap)) := fun wx k => by
    have := k.block hb
    simp [World.cell?, this]
  clear hb
  go_loopg [3, 4] E.length (fun gh t3 t4 wx => ∃ (i n : Nat), i + gh = E.length ∧ t4 = .int .i64 i ∧ n ≤ 31 * i ∧ Aside (wx.ownsRow W.heap.size 3 1 t3 n ((liveL (entsR (E.take i))).map encI)) ∧ Aside (n = (liveL (entsR (E.take i))).length) ∧ K W wx)
  case atStart => exact ⟨0, 0, by omega, rfl, by omega, World.ownsRow_nil _ _ _ _, rfl, K.refl _⟩
  case round =>
    obtain ⟨i, n, hig, rfl, hni, HW, HN, hk⟩ := hrel
    have b1 := BOX.out _ hk
    by_cases hlt : i < E.length
    · obtain ⟨⟨p, j⟩, he⟩ : ∃ e, E[i]? = some e := ⟨_, List.getElem?_eq_getElem hlt⟩
      have hix := HR.out.ix i hlt
      obtain ⟨hp0, n00, n10, _, _⟩ := HE.out.at he
      have n0 : 0 ≤ p.n := n00
      have n1 : p.n ≤ 4096 := n10
      have hp : Ent p := hp0
      obtain ⟨s0, s1⟩ := nsl_range hp
      have HTS : Aside (entsR (E.take (i + 1)) = entsR (E.take i) ++ [p]) := by
        show _ = _
        obtain ⟨hi, h2⟩ := List.getElem?_eq_some_iff.1 he
        rw [List.take_succ_eq_append_getElem hi, h2]
        simp [entsR]
      have HGE : Aside _ := he
      have HP : Aside _ := hp
      have HLP : Aside (∀ xs : List Int, liveP p xs = xs.map fun s => addrI p s) := fun _ => rfl
      clear he hp hp0 n00 n10
      go_wp2
      go_loopg [3, 5] (nslI p).toNat (fun gh t3 t5 wx => ∃ (k m : Nat), (k : Int) + gh = nslI p ∧ t5 = .int .i64 k ∧ m ≤ n + k ∧ Aside (wx.ownsRow W.heap.size 3 1 t3 m ((liveL (entsR (E.take i)) ++ liveP p (takenE p k)).map encI)) ∧ Aside (m = n + (takenE p k).length) ∧ K W wx)
      case atStart => exact ⟨0, n, by omega, rfl, by omega, by have := HW.out; show wr.ownsRow _ _ _ _ _ _; simpa [takenE, liveP] using this, by show n = n + (takenE p 0).length; simp [takenE], hk⟩
      case round =>
        obtain ⟨k, m, hkg, rfl, hmk, HW2, HM, hk2⟩ := hrel
        clear hk b1
        have b1 := BOX.out _ hk2
        have HRG : Aside (wr.rangeAt g (i * 36) (reList (p, j))) := (HR.out.keep hk2).range HGE.out
        have csl := fun w => rslots_any p j HP.out w
        have hWr := Kept.size hk2
        by_cases hkn : (k : Int) < nslI p
        · have hk31 : k < 31 := by omega
          have hixT := run_ixT g (i * 36 + 5) k hk31
          have cpl := fun w => rPlace_any p j k HP.out n0 (by omega) hkn w
          cases htk : tkB p k with
          | false =>
            have HX : Aside (takenE p (k + 1) = takenE p k) := by
              show _ = _
              rw [takenE_succ, htk]
              simp
            go_wp2_with (first
              | ((with_reducible refine wpList_load_re g (i * 36) (p, j) ?_ ?_ ?_); (· exact HRG.out); (· rfl))
              | (go_at_call 50; refine (csl _).mono ?_; rintro e w2 ⟨rfl, k2⟩; have hk3 := hk2.trans k2; have b2 := BOX.out _ hk3; have ht := (HR.out.keep hk3).tk HGE.out hk31; rw [show (p, j).1 = p from rfl, htk] at ht))
            go_roundg ((nslI p).toNat - (k + 1))
            case measure => omega
            case rel => exact ⟨k + 1, m, by omega, by go_num, by omega, by rw [HX.out]; exact ownsRow_keepR HW2.out k2, by rw [HX.out]; exact HM, hk3⟩
          | true =>
            have HX : Aside (takenE p (k + 1) = takenE p k ++ [(k : Int)]) := by
              show _ = _
              rw [takenE_succ, htk]
              simp
            go_wp2_with (first
              | ((with_reducible refine wpList_load_re g (i * 36) (p, j) ?_ ?_ ?_); (· first | exact HRG2.out | exact HRG.out); (· rfl))
              | (go_at_call 50; refine (csl _).mono ?_; rintro e w2 ⟨rfl, k2⟩; have hk3 := hk2.trans k2; have b2 := BOX.out _ hk3; have ht := (HR.out.keep hk3).tk HGE.out hk31; rw [show (p, j).1 = p from rfl, htk] at ht; have HRG2 : Aside (w2.rangeAt g (i * 36) (reList (p, j))) := (HR.out.keep hk3).range HGE.out)
              | (go_at_call 51; refine (cpl _).mono ?_; rintro e w3 ⟨rfl, k3⟩; have hk4 := hk3.trans k3; have hrow := ownsRow_keepR HW2.out (k2.trans k3); have hsz3 := Kept.size hk4)
              | (at_builtin
                 refine wpList_append_own_at _ rfl _ _ 22 rfl W.heap.size 3 i0 zz 1 8 Tryz.underlying22 HI0.out.1 HI0.out.2.2.2.1 HI0.out.2.1 HI0.out.2.2.1 HI0.out.2.2.2.2 (by decide) _ m _ rfl (hrow.alloc _) ⟨w3.heap.size, 0, none⟩ 1 1 [encI (addrI p k)] rfl rfl (src_oneR w3 #[.int .i64 (addrI p k)] 3) (one_iR _) (by unfold maxLen; omega) (by omega) (by simp; omega) ?_
                 intro v5 w5 hown hgrow _ hat))
            have hk5 : K W w5 := by
              have hs5 := hgrow.size
              simp at hs5
              refine ⟨hgrow.os.trans (Kept.os (w := W) (w' := w3) hk4), hgrow.tape.trans (Kept.tape (w := W) (w' := w3) hk4), hgrow.output.trans (Kept.output (w := W) (w' := w3) hk4), by omega, fun x hx hn => ?_⟩
              have hx3 : x < w3.heap.size := by omega
              rw [hgrow.block x (by simp; omega) (fun e => by
                rcases hrow.2 with ⟨hv, _⟩ | ⟨g2, c2, cur, hv, hb2, _⟩
                · rw [hv] at e
                  cases e
                · rw [hv] at e
                  have : x = g2 := Option.some.inj e
                  omega), Below.heap_alloc w3 _ x hx3]
              exact Kept.same hk4 x hx hn
            go_roundg ((nslI p).toNat - (k + 1))
            case measure => omega
            case rel =>
              refine ⟨k + 1, m + 1, by omega, by go_num, by omega, ?_, ?_, hk5⟩
              · rw [HX.out, liveP_snoc, ← List.append_assoc, List.map_append]
                exact hown
              · rw [HX.out]
                show m + 1 = n + (takenE p k ++ [(k : Int)]).length
                rw [List.length_append, HM.out]
                rfl
        · have hke : k = (nslI p).toNat := by omega
          have HX : Aside (takenE p k = slotsOf p) := by
            show _ = _
            rw [hke]
            exact takenE_all HP.out
          clear hke
          go_wp2_with (first
            | ((with_reducible refine wpList_load_re g (i * 36) (p, j) ?_ ?_ ?_); (· exact HRG.out); (· rfl))
            | (go_at_call 50; refine (csl _).mono ?_; rintro e w2 ⟨rfl, k2⟩))
          go_roundg (E.length - (i + 1))
          case measure => omega
          case rel =>
            refine ⟨i + 1, m, by omega, by go_num, by omega, ?_, ?_, hk2.trans k2⟩
            · rw [HTS.out, liveL_snoc, ← HX.out]
              exact ownsRow_keepR HW2.out k2
            · rw [HTS.out, liveL_snoc, List.length_append, ← HN.out, ← HX.out, HM.out]
              simp [liveP, Aside]
    · go_wp2
      go_ret
      have e : E.take i = E := List.take_of_length_le (by omega)
      have h2 := HW.out
      rw [HN.out, e] at h2
      refine ⟨_, rfl, ⟨h2.1, ?_⟩, hk0.trans hk⟩
      rcases h2.2 with h3 | ⟨g, cap, cur, e, hb, rest⟩
      · exact .inl h3
      · exact .inr ⟨g, cap, cur, e, by have := hWs.out; omega, rest⟩

end Hp
end Go.Proofs.YtkjjobafbcdmoaaGreatDoor

/-
  The reference's Find, told of the entries; Room, Spare, Numbers.
-/
namespace Go.Proofs.YtkjjobafbcdmoaaGreatDoor
open Go.RowKit Go.Maps
namespace Hp
variable {w w' : World} {B br : Nat} {q : Int} {v : Value} {E : List Re}

theorem slot_of_tk {p : Pg} (hp : Ent p) {k : Nat} (hk : (k : Int) < nslI p) (ht : tkB p k = true) : (k : Int) ∈ slotsOf p := by
  rw [← takenE_all hp]
  exact List.mem_map.2 ⟨k, List.mem_filter.2 ⟨List.mem_range.2 (by omega), ht⟩, rfl⟩
theorem hit_find (hE : Eo E) {a : Int} {i k : Nat} (h : HitE E a i k) : ∃ e, E[i]? = some e ∧ (k : Int) < nslI e.1 ∧ tkB e.1 k = true ∧ findB (entsR E) a = some (e.1, (k : Int)) := by
  obtain ⟨e, he, hk, ht, ha⟩ := h
  have hm : e.1 ∈ entsR E := List.mem_map.2 ⟨e, List.mem_of_getElem? he, rfl⟩
  refine ⟨e, he, hk, ht, ?_⟩
  rw [← ha]
  exact hE.wl.find hm (slot_of_tk (hE.wl.ent _ hm) hk ht)
theorem nohit_find (hE : Eo E) {a : Int} (h : ∀ i k, ¬ HitE E a i k) : findB (entsR E) a = none := by
  cases hf : findB (entsR E) a with
  | none => rfl
  | some ps =>
    obtain ⟨p, s⟩ := ps
    obtain ⟨hp, hs, ha⟩ := findB_some hf
    obtain ⟨e, he, rfl⟩ := List.mem_map.1 hp
    obtain ⟨i, hi⟩ := List.getElem?_of_mem he
    rw [← takenE_all (hE.wl.ent _ hp)] at hs
    obtain ⟨k, hk, rfl⟩ := List.mem_map.1 hs
    obtain ⟨h1, h2⟩ := List.mem_filter.1 hk
    exact absurd ⟨e, hi, by have := List.mem_range.1 h1; omega, h2, ha⟩ (h i k)

set_option maxRecDepth 100000 in
set_option maxHeartbeats 1000000 in
theorem rRoom_any {g cap : Nat} {ad : Option Addr} (hr : RowE w g ad cap E) (hE : Eo E) (a : Int) : Calls Tryz.prog 35 #[.agg #[.int .i64 q, .slice ad E.length cap], .int .i64 a] w fun e w' => e = .returned (.tuple #[.int .i64 (roomL (entsR E) a).1, .int .i64 (roomL (entsR E) a).2]) ∧ K w w' := by
  have hk0 : K w (w.alloc (.cells #[.int .i64 q, .slice ad E.length cap] 46)) := (K.refl _).alloc _
  have hb : (w.alloc (.cells #[.int .i64 q, .slice ad E.length cap] 46)).heap[w.heap.size]? = some (.cells #[.int .i64 q, .slice ad E.length cap] 46) := (MapKept.heap_alloc w _).1
  have HR : Aside _ := hr.keep hk0
  have HE : Aside _ := hE
  have cf := rFind_any (q := q) (hr.keep hk0) hE a
  clear hr hE
  go_enter Tryz.func35, Tryz.ntmps35
  go_wp2_with fail
  generalize w.alloc (.cells #[.int .i64 q, .slice ad E.length cap] 46) = W at *
  refine cf.mono ?_
  rintro e w1 ⟨(⟨i, k, rfl, hh⟩ | ⟨rfl, hn⟩), k1⟩
  · obtain ⟨⟨p, j⟩, he, hk, ht, hf⟩ := hit_find HE.out hh
    have HRM : Hid (roomL (entsR E) a = (roomI p, 0)) := by
      show roomL (entsR E) a = _
      unfold roomL
      rw [hf]
    have hi : i < E.length := (List.getElem?_eq_some_iff.1 he).1
    have hix := HR.out.ix i hi
    obtain ⟨_, _, e2', e3', e4'⟩ := (HR.out.keep k1).at he
    obtain ⟨hp, _⟩ := HE.out.at he
    have hbx := k1.block hb
    have b1 : w1.cell? ⟨w.heap.size, 1, none⟩ = some (.slice ad E.length cap) := by simp [World.cell?, hbx]
    have HP : Aside (Ent p) := hp
    have d2 : w1.cell? ⟨g, i * 36 + 2, none⟩ = some (.int .i64 p.cls) := e2'
    have d3 : w1.cell? ⟨g, i * 36 + 3, none⟩ = some (.int .i64 (wdI p j)) := e3'
    have d4 : w1.cell? ⟨g, i * 36 + 4, none⟩ = some (.bool (lgB p)) := e4'
    clear hh hf he ht hk hbx hp hb cf e2' e3' e4'
    rcases HP.out.kind with h1 | h2
    · have hl : lgB p = false := by simp [lgB, h1]
      obtain ⟨c0, c1, _⟩ := HP.out.small h1
      have HRI : Hid (roomI p = Cl.sizI p.cls) := by
        show roomI p = _
        unfold roomI
        rw [if_neg (by omega)]
      rw [hl] at d4
      have cs := fun w => Cl.rSizes_ok w
      have hat : ∀ (W : World) (b : Nat), Cl.Row W b → W.cell? ⟨b, p.cls.toNat, none⟩ = some (.int .i64 (Cl.sizI p.cls)) := fun W b R => R.at p.cls (errC_in c0 c1)
      obtain ⟨c, hc⟩ : ∃ c : Nat, p.cls = (c : Int) := ⟨p.cls.toNat, by omega⟩
      have HC : Hid (Cl.sizI p.cls = Cl.sizI (c : Int)) := by show _ = _; rw [hc]
      rw [hc] at d2 hat
      simp only [Int.toNat_natCast] at hat
      have hixz := fun b w' => run_ixz b c (by omega) w'
      have HAT : Aside _ := hat
      have hcc : (c : Int) ≤ 7 := by omega
      clear hl h1 hc c0 c1 hat d3
      generalize hsz : Cl.sizI (c : Int) = sz at *
      clear hsz
      go_wp2
      go_region_with (go_at_call 61; refine (cs _).mono ?_; rintro e w2 ⟨b, rfl, k2, R2⟩; have g2 := HAT.out w2 b R2; have k3 := K.of_below k2.bel; have e1 := k3.cell (p := ⟨w.heap.size, 1, none⟩) b1; have e2 := k3.cell (p := ⟨g, i * 36 + 2, none⟩) d2)
      all_goals
        go_wp2
        go_ret2
        refine ⟨?_, ?_⟩
        · rw [HRM.out, HRI.out, HC.out]
          rfl
        · have k0 := hk0.trans k1
          first | exact k0.trans k3 | exact (k0.trans k3).drew | exact (k0.drew).trans k3 | exact (k0.drewN _).trans k3 | exact ((k0.drewN _).trans k3).drewN _
    · have hl : lgB p = true := by simp [lgB, h2]
      have hw : wdI p j = p.words := if_pos h2
      have HRI : Hid (roomI p = p.words) := by
        show roomI p = _
        unfold roomI
        rw [if_pos h2]
      rw [hl] at d4
      rw [hw] at d3
      clear hl h2 hw d2
      go_wp2
      go_ret2
      exact ⟨by rw [HRM.out, HRI.out]; rfl, hk0.trans k1⟩
  · have hf := nohit_find HE.out hn
    have HRM : Hid (roomL (entsR E) a = (0, 5)) := by
      show roomL (entsR E) a = _
      unfold roomL
      rw [hf]
    clear hf hn cf hb
    go_wp2
    go_ret2
    exact ⟨by rw [HRM.out]; rfl, hk0.trans k1⟩

def runP (p : Pg) (n : Nat) : List Int := (List.range n).map fun (i : Nat) => p.n + (i : Int)
theorem runP_succ (p : Pg) (n : Nat) : runP p (n + 1) = runP p n ++ [p.n + (n : Int)] := by
  unfold runP
  rw [List.range_succ, List.map_append]
  rfl
theorem runP_len (p : Pg) (n : Nat) : (runP p n).length = n := by simp [runP]
theorem pagesL_snoc (L : List Pg) (p : Pg) : pagesL (L ++ [p]) = pagesL L ++ runP p p.span.toNat := by simp [pagesL, runP]

end Hp
end Go.Proofs.YtkjjobafbcdmoaaGreatDoor
