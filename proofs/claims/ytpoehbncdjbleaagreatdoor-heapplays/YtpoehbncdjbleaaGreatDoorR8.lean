/-
  The reference's Spare.
-/
import Derived.Test.YtpoehbncdjbleaaGreatDoorR7
namespace Go.Proofs.YtpoehbncdjbleaaGreatDoor
open Go.RowKit Go.Maps
namespace Hp
variable {w w' : World} {br : Nat} {q : Int} {a : Option Addr} {cap : Nat} {E E' : List Re}

/-- The free slots among the first n. -/
def untE (p : Pg) (n : Nat) : Int := (((List.range n).countP fun k => !tkB p k : Nat) : Int)
theorem untE_succ (p : Pg) (n : Nat) : untE p (n + 1) = untE p n + (if tkB p n = true then 0 else 1) := by
  unfold untE
  rw [List.range_succ, List.countP_append]
  cases h : tkB p n <;> simp [h]
theorem untE_range (p : Pg) (n : Nat) : 0 ≤ untE p n ∧ untE p n ≤ n := by
  have := List.countP_le_length (p := fun k => !tkB p k) (l := List.range n)
  rw [List.length_range] at this
  unfold untE
  omega
theorem unt_cnt {p : Pg} (h1 : p.kind = 1) : ∀ n : Nat, n ≤ 31 → untE p n + (Bt.cnt p.taken.toNat n : Nat) = n
  | 0, _ => rfl
  | n + 1, h => by
    have ih := unt_cnt h1 n (by omega)
    rw [untE_succ]
    have ht : tkB p n = p.taken.toNat.testBit n := by
      rw [tkB_small h1, Bt.hasI_N ⟨by omega, by omega⟩]
      rfl
    unfold Bt.cnt
    rw [ht]
    cases p.taken.toNat.testBit n <;> simp <;> omega
theorem unt_all {p : Pg} (hp : Ent p) (h1 : p.kind = 1) : untE p (nslI p).toNat = spareP p.cls p := by
  obtain ⟨c0, c1, _⟩ := hp.small h1
  have hs := sz_range c0 c1
  have hn : nslI p = Cl.sloI p.cls := if_neg (by omega)
  have := unt_cnt h1 (Cl.sloI p.cls).toNat (by omega)
  unfold spareP
  rw [if_pos (by simp [h1]), hn]
  have hm : Bt.mN (Cl.sloI p.cls) = (Cl.sloI p.cls).toNat := by unfold Bt.mN; omega
  unfold Bt.cntI
  rw [hm]
  omega
theorem spare_other {p : Pg} {c : Int} (h : p.kind ≠ 1 ∨ p.cls ≠ c) : spareP c p = 0 := by
  unfold spareP
  rw [if_neg]
  simp only [Bool.and_eq_true, beq_iff_eq]
  rintro ⟨h1, h2⟩
  rcases h with h | h
  · exact h h1
  · exact h h2

set_option maxRecDepth 100000 in
set_option maxHeartbeats 4000000 in
theorem rSpare_any {g cap : Nat} {ad : Option Addr} (hr : RowE w g ad cap E) (hE : Eo E) (c : Int) : Calls Tryz.prog 14 #[.agg #[.int .i64 q, .slice ad E.length cap], .int .i64 c] w fun e w' => e = .returned (.int .i64 (spareL (entsR E) c)) ∧ K w w' := by
  have hk0 : K w (w.alloc (.cells #[.int .i64 q, .slice ad E.length cap] 30)) := (K.refl _).alloc _
  have hb : (w.alloc (.cells #[.int .i64 q, .slice ad E.length cap] 30)).heap[w.heap.size]? = some (.cells #[.int .i64 q, .slice ad E.length cap] 30) := (MapKept.heap_alloc w _).1
  have HR : Aside _ := hr.keep hk0
  have HE : Aside _ := hE
  have hl := hE.len
  clear hr hE
  go_enter Tryz.func14, Tryz.ntmps14
  go_wp2
  generalize w.alloc (.cells #[.int .i64 q, .slice ad E.length cap] 30) = W at *
  have BOX : Aside (∀ wx, K W wx → wx.cell? ⟨w.heap.size, 1, none⟩ = some (.slice ad E.length cap)) := fun wx k => by
    have := k.block hb
    simp [World.cell?, this]
  clear hb
  go_loopg [5, 6] E.length (fun gh t5 t6 wx => ∃ (i : Nat) (n : Int), i + gh = E.length ∧ t6 = .int .i64 i ∧ t5 = .int .i64 n ∧ 0 ≤ n ∧ n ≤ 31 * i ∧ Aside (n = spareL (entsR (E.take i)) c) ∧ K W wx)
  case atStart => exact ⟨0, 0, by omega, rfl, rfl, by omega, by omega, rfl, K.refl _⟩
  case round =>
    obtain ⟨i, n, hig, rfl, rfl, n0, n1, HN, hk⟩ := hrel
    have b1 := BOX.out _ hk
    by_cases hlt : i < E.length
    · obtain ⟨⟨p, j⟩, he⟩ : ∃ e, E[i]? = some e := ⟨_, List.getElem?_eq_getElem hlt⟩
      have hix := HR.out.ix i hlt
      obtain ⟨hp0, _, _, _, _⟩ := HE.out.at he
      have hp : Ent p := hp0
      have hns := nsl_range hp
      have HTS : Aside (entsR (E.take (i + 1)) = entsR (E.take i) ++ [p]) := by
        show _ = _
        obtain ⟨hi, h2⟩ := List.getElem?_eq_some_iff.1 he
        rw [List.take_succ_eq_append_getElem hi, h2]
        simp [entsR]
      have HRG : Aside (∀ wx, K W wx → wx.rangeAt g (i * 36) (reList (p, j))) := fun wx k => (HR.out.keep k).range he
      have DD : Aside (∀ wx, K W wx → wx.cell? ⟨g, i * 36 + 2, none⟩ = some (.int .i64 p.cls) ∧ wx.cell? ⟨g, i * 36 + 4, none⟩ = some (.bool (lgB p))) := fun wx k => ⟨((HR.out.keep k).at he).2.2.1, ((HR.out.keep k).at he).2.2.2.2⟩
      have DT : Aside (∀ wx, K W wx → ∀ k, k < 31 → wx.cell? ⟨g, i * 36 + 5 + k, none⟩ = some (.bool (tkB p k))) := fun wx kx k hk => (HR.out.keep kx).tk he hk
      have csl := fun w => rslots_any p j hp w
      have HP : Aside _ := hp
      clear he hp0 hp
      by_cases hoth : p.kind ≠ 1 ∨ p.cls ≠ c
      · have HS : Aside _ := spare_other hoth
        go_wp2
        go_loopg [5, 7] 1 (fun gh t5 t7 wx => gh = 1 ∧ t7 = .int .i64 0 ∧ t5 = .int .i64 n ∧ K W wx)
        case atStart => exact ⟨rfl, rfl, rfl, hk⟩
        case round =>
          obtain ⟨hg1, rfl, rfl, hk2⟩ := hrel
          clear hk b1
          have b1 := BOX.out _ hk2
          rcases Ent.kind (p := p) HP.out with h1 | h2
          · have hc : p.cls ≠ c := by
              rcases hoth with h | h
              · exact absurd h1 h
              · exact h
            have hlg : lgB p = false := by simp [lgB, h1]
            clear hoth h1
            go_wp2_with (first
              | ((with_reducible refine wpList_load_re g (i * 36) (p, j) ?_ ?_ ?_); (· exact HRG.out _ hk2); (· rfl))
              | (go_at_call 30; refine (csl _).mono ?_; rintro e w2 ⟨rfl, k2⟩; have hk3 := hk2.trans k2; have b2 := BOX.out _ hk3; obtain ⟨d2, d4⟩ := DD.out _ hk3; rw [hlg] at d4))
            go_roundg (E.length - (i + 1))
            case measure => omega
            case rel =>
              refine ⟨i + 1, n, by omega, by go_num, rfl, by omega, by omega, ?_, hk3⟩
              show _ = _
              rw [HTS.out, spareL_snoc, ← HN.out, HS.out, Int.add_zero]
          · have hlg : lgB p = true := by simp [lgB, h2]
            clear hoth h2
            go_wp2_with (first
              | ((with_reducible refine wpList_load_re g (i * 36) (p, j) ?_ ?_ ?_); (· exact HRG.out _ hk2); (· rfl))
              | (go_at_call 30; refine (csl _).mono ?_; rintro e w2 ⟨rfl, k2⟩; have hk3 := hk2.trans k2; have b2 := BOX.out _ hk3; obtain ⟨d2, d4⟩ := DD.out _ hk3; rw [hlg] at d4))
            go_roundg (E.length - (i + 1))
            case measure => omega
            case rel =>
              refine ⟨i + 1, n, by omega, by go_num, rfl, by omega, by omega, ?_, hk3⟩
              show _ = _
              rw [HTS.out, spareL_snoc, ← HN.out, HS.out, Int.add_zero]
      · obtain ⟨h1, hc⟩ : p.kind = 1 ∧ p.cls = c := by
          constructor
          · by_cases h : p.kind = 1
            · exact h
            · exact absurd (.inl h) hoth
          · by_cases h : p.cls = c
            · exact h
            · exact absurd (.inr h) hoth
        have HU : Aside _ := unt_all HP.out h1
        have hlg : lgB p = false := by simp [lgB, h1]
        clear hoth
        go_wp2
        go_loopg [5, 7] (nslI p).toNat (fun gh t5 t7 wx => ∃ k : Nat, (k : Int) + gh = nslI p ∧ t7 = .int .i64 k ∧ t5 = .int .i64 (n + untE p k) ∧ K W wx)
        case atStart => exact ⟨0, by omega, rfl, by show _ = Value.int .i64 (n + 0); rw [Int.add_zero], hk⟩
        case round =>
          obtain ⟨k, hkg, rfl, rfl, hk2⟩ := hrel
          clear hk b1
          have b1 := BOX.out _ hk2
          have hur := untE_range p k
          by_cases hkn : (k : Int) < nslI p
          · have hk31 : k < 31 := by omega
            have hixT := run_ixT g (i * 36 + 5) k hk31
            cases htk : tkB p k with
            | true =>
              go_wp2_with (first
                | ((with_reducible refine wpList_load_re g (i * 36) (p, j) ?_ ?_ ?_); (· exact HRG.out _ hk2); (· rfl))
                | (go_at_call 30; refine (csl _).mono ?_; rintro e w2 ⟨rfl, k2⟩; have hk3 := hk2.trans k2; have b2 := BOX.out _ hk3; have ht := DT.out _ hk3 k hk31; obtain ⟨d2, d4⟩ := DD.out _ hk3; rw [htk] at ht; rw [hlg] at d4; rw [hc] at d2))
              go_roundg ((nslI p).toNat - (k + 1))
              case measure => omega
              case rel => exact ⟨k + 1, by omega, by go_num, by rw [untE_succ, htk]; simp, hk3⟩
            | false =>
              go_wp2_with (first
                | ((with_reducible refine wpList_load_re g (i * 36) (p, j) ?_ ?_ ?_); (· exact HRG.out _ hk2); (· rfl))
                | (go_at_call 30; refine (csl _).mono ?_; rintro e w2 ⟨rfl, k2⟩; have hk3 := hk2.trans k2; have b2 := BOX.out _ hk3; have ht := DT.out _ hk3 k hk31; obtain ⟨d2, d4⟩ := DD.out _ hk3; rw [htk] at ht; rw [hlg] at d4; rw [hc] at d2))
              go_roundg ((nslI p).toNat - (k + 1))
              case measure => omega
              case rel => exact ⟨k + 1, by omega, by go_num, by rw [untE_succ, htk]; simp; go_num, hk3⟩
          · have HKE : Aside (k = (nslI p).toNat) := by show _ = _; omega
            go_wp2_with (first
              | ((with_reducible refine wpList_load_re g (i * 36) (p, j) ?_ ?_ ?_); (· exact HRG.out _ hk2); (· rfl))
              | (go_at_call 30; refine (csl _).mono ?_; rintro e w2 ⟨rfl, k2⟩; have hk3 := hk2.trans k2; have b2 := BOX.out _ hk3))
            go_roundg (E.length - (i + 1))
            case measure => omega
            case rel =>
              refine ⟨i + 1, n + untE p k, by omega, by go_num, rfl, by omega, by omega, ?_, hk3⟩
              show _ = _
              rw [HTS.out, spareL_snoc, ← HN.out, ← hc, ← HU.out, ← HKE.out]
    · go_wp2
      go_ret
      have e : E.take i = E := List.take_of_length_le (by omega)
      have h2 := HN.out
      rw [e] at h2
      exact ⟨by rw [← h2]; rfl, hk0.trans hk⟩

end Hp
end Go.Proofs.YtpoehbncdjbleaaGreatDoor

/-
  Same, and the law's nth, over numbers.
-/
namespace Go.Proofs.YtpoehbncdjbleaaGreatDoor
open Go.RowKit Go.Maps
namespace Hp
variable {w w' : World}

theorem run_ixn (g len cap i : Nat) (hi : i < len) (w' : World) : (Instr.indexAt 36 (.slice (some ⟨g, 0, none⟩) len cap) (.int .i64 (i : Int))).run Tryz.prog w' = .ok (.pointer (some ⟨g, i, none⟩)) w' := by
  have hel : Tryz.prog.elem 36 = 3 := by kernel_rfl
  have hsz : (sizeOf 3).run Tryz.prog w' = .ok 1 w' := by kernel_rfl
  have hu : Tryz.prog.underlying 36 = some (.slice (Tryz.prog.elem 36)) := by kernel_rfl
  rw [run_indexAt_slice w' 36 _ len cap .i64 i hu, if_pos (by omega), hel, hsz]
  simp only [Result.andThen_ok, Int.toNat_natCast, Nat.mul_one]
  rw [Go.WideShapes.add_plain, Nat.zero_add]

/-- A row's cell. -/
theorem own_atI {B n i : Nat} {ty : TypeId} {u x : Value} {xs : List Value} (h : w.ownsRow B ty 1 u n xs) (hx : xs[i]? = some x) : ∃ g cap, u = .slice (some ⟨g, 0, none⟩) n cap ∧ i < n ∧ w.cell? ⟨g, i, none⟩ = some x ∧ w.frozen? ⟨g, i, none⟩ = false ∧ B ≤ g ∧ g < w.heap.size := by
  have hl := h.1
  have hi := (List.getElem?_eq_some_iff.1 hx).1
  rcases h.2 with ⟨_, e⟩ | ⟨g, cap, cur, e, hb, hg, _, _, _, ht⟩
  · omega
  · refine ⟨g, cap, e, by omega, ?_, by simp [World.frozen?, hg], hb, (Array.getElem?_eq_some_iff.1 hg).1⟩
    rw [← ht, List.getElem?_take, if_pos (by omega)] at hx
    simp only [World.cell?, hg]
    rw [if_neg (by simp), ← Array.getElem?_toList]
    exact hx

set_option maxHeartbeats 1000000 in
theorem rSameI_any {xs : List Int} {n B1 B2 : Nat} {v1 v2 : Value} (h1 : w.ownsRow B1 3 1 v1 n (xs.map encI)) (h2 : w.ownsRow B2 3 1 v2 n (xs.map encI)) (hn : xs.length = n) (hl : n ≤ 65536) : Calls Tryz.prog 7 #[v1, v2] w fun e w' => e = .returned (.bool true) ∧ K w w' := by
  have f1 : ∃ a cap, v1 = .slice a n cap := by
    rcases h1.2 with ⟨hv, h0⟩ | ⟨g, c, cur, hv, _⟩
    · exact ⟨none, 0, by rw [hv, h0]⟩
    · exact ⟨_, _, hv⟩
  have f2 : ∃ a cap, v2 = .slice a n cap := by
    rcases h2.2 with ⟨hv, h0⟩ | ⟨g, c, cur, hv, _⟩
    · exact ⟨none, 0, by rw [hv, h0]⟩
    · exact ⟨_, _, hv⟩
  obtain ⟨a1, c1, rfl⟩ := f1
  obtain ⟨a2, c2, rfl⟩ := f2
  have key : ∀ (a : Option Addr) (B c : Nat), w.ownsRow B 3 1 (.slice a n c) n (xs.map encI) → ∀ (i : Nat) (x : Int), xs[i]? = some x → ∃ g, (∀ w', (Instr.indexAt 36 (.slice a n c) (.int .i64 (i : Int))).run Tryz.prog w' = .ok (.pointer (some ⟨g, i, none⟩)) w') ∧ w.cell? ⟨g, i, none⟩ = some (.int .i64 x) := fun a B c ho i x hx => by
    have hi := (List.getElem?_eq_some_iff.1 hx).1
    rcases ho.2 with ⟨hv, h0⟩ | ⟨g, cap, cur, hv, _, hg, _, _, _, ht⟩
    · omega
    · cases hv
      refine ⟨g, fun w' => ?_, ?_⟩
      · have hel : Tryz.prog.elem 36 = 3 := by kernel_rfl
        have hsz : (sizeOf 3).run Tryz.prog w' = .ok 1 w' := by kernel_rfl
        have hu : Tryz.prog.underlying 36 = some (.slice (Tryz.prog.elem 36)) := by kernel_rfl
        rw [run_indexAt_slice w' 36 _ n c .i64 i hu, if_pos (by omega), hel, hsz]
        simp only [Result.andThen_ok, Int.toNat_natCast, Nat.mul_one]
        rw [Go.WideShapes.add_plain, Nat.zero_add]
      · have hx2 : (xs.map encI)[i]? = some (encI x) := by simp [hx]
        rw [← ht, List.getElem?_take, if_pos (by omega)] at hx2
        simp only [World.cell?, hg]
        rw [if_neg (by simp), ← Array.getElem?_toList]
        exact hx2
  have K1 : Aside _ := key a1 B1 c1 h1
  have K2 : Aside _ := key a2 B2 c2 h2
  have HN : Aside _ := hn
  clear h1 h2 key hn
  go_enter Tryz.func7, Tryz.ntmps7
  go_wp2
  go_loopg [5] n (fun gh t wx => ∃ i : Nat, i + gh = n ∧ t = .int .i64 i ∧ K w wx)
  case atStart => exact ⟨0, by omega, rfl, K.refl _⟩
  case round =>
    obtain ⟨i, hig, rfl, hk⟩ := hrel
    by_cases hlt : i < n
    · obtain ⟨x, hx⟩ : ∃ x, xs[i]? = some x := ⟨_, List.getElem?_eq_getElem (by rw [HN.out]; exact hlt)⟩
      obtain ⟨g1, ix1, d1⟩ := K1.out i x hx
      obtain ⟨g2, ix2, d2⟩ := K2.out i x hx
      have e1 := hk.cell d1
      have e2 := hk.cell d2
      have hxx : (x != x) = false := by simp
      clear hx d1 d2
      go_wp2
      go_quiet (fail)
      go_wp2
      go_roundg (n - (i + 1))
      case measure => omega
      case rel => exact ⟨i + 1, by omega, by go_num, hk.drewN _⟩
    · go_wp2
      go_ret
      exact ⟨rfl, hk⟩

/-- The n-th of some, counted round; 0: there are none. -/
def nthI (Hs : List Int) (x : Int) : Int := if Hs.length = 0 then -1 else Hs.getD (x % (Hs.length : Int)).toNat 0

theorem nthI_nil (x : Int) : nthI [] x = -1 := rfl
theorem nthI_mem {Hs : List Int} {x : Int} (h : 0 < Hs.length) : nthI Hs x ∈ Hs := by
  have h1 : (x % (Hs.length : Int)).toNat < Hs.length := by
    have := Int.emod_lt_of_pos x (b := (Hs.length : Int)) (by omega)
    have := Int.emod_nonneg x (b := (Hs.length : Int)) (by omega)
    omega
  unfold nthI
  rw [if_neg (by omega), List.getD_eq_getElem?_getD, List.getElem?_eq_getElem h1]
  exact List.getElem_mem h1

theorem rem_casesI (x : Int) {N : Nat} (h : 0 < N) : (∃ k : Nat, k < N ∧ x.tmod N = k ∧ x % N = k) ∨ ∃ (r : Int) (k : Nat), k < N ∧ r < 0 ∧ -(N : Int) < r ∧ x.tmod N = r ∧ r + N = k ∧ x % N = k := by
  have h1 : x.tmod N < N := Int.tmod_lt_of_pos x (by omega)
  have h2 : -(N : Int) < x.tmod N := Int.lt_tmod_of_pos x (b := (N : Int)) (by omega)
  have h3 := Int.emod_lt_of_pos x (b := (N : Int)) (by omega)
  have h4 := Int.emod_nonneg x (b := (N : Int)) (by omega)
  have h5 : x = N * x.tdiv N + x.tmod N := (Int.mul_tdiv_add_tmod x N).symm
  have h6 : x = N * (x / N) + x % N := (Int.mul_ediv_add_emod x N).symm
  by_cases h0 : 0 ≤ x.tmod N
  · have e : x % N = x.tmod N := by
      conv => lhs; rw [h5]
      rw [Int.mul_add_emod_self_left]
      exact Int.emod_eq_of_lt h0 h1
    exact .inl ⟨(x.tmod N).toNat, by omega, by omega, by omega⟩
  · have e : x % N = x.tmod N + N := by
      conv => lhs; rw [h5]
      rw [Int.mul_add_emod_self_left, ← Int.add_emod_right]
      exact Int.emod_eq_of_lt (by omega) (by omega)
    exact .inr ⟨x.tmod N, (x.tmod N + N).toNat, by omega, by omega, h2, rfl, by omega, by omega⟩

theorem nthI_any {w : World} {B n : Nat} {v1 : Value} {Hs : List Int} (h : w.ownsRow B 3 1 v1 n (Hs.map encI)) (hn : Hs.length = n) (hl : n ≤ 100000) (x : Int) (_ : -9223372036854775808 ≤ x) (_ : x ≤ 9223372036854775807) : Calls Tryz.prog 20 #[v1, .int .i64 x] w fun e w' => e = .returned (.int .i64 (nthI Hs x)) ∧ w = w' := by
  by_cases h0 : n = 0
  · have hnil : Hs = [] := List.eq_nil_of_length_eq_zero (by omega)
    subst hnil
    subst h0
    have hv : v1 = .slice none 0 0 ∨ ∃ g cap, v1 = .slice (some ⟨g, 0, none⟩) 0 cap := by
      rcases h.2 with ⟨e, _⟩ | ⟨g, cap, _, e, _⟩
      · exact .inl e
      · exact .inr ⟨g, cap, e⟩
    have E : Hid (nthI [] x = -1) := nthI_nil x
    rcases hv with rfl | ⟨g, cap, rfl⟩
    · clear h hn
      go_enter Tryz.func20, Tryz.ntmps20
      go_wp2
      go_ret
      exact ⟨by rw [E.out]; rfl, rfl⟩
    · clear h hn
      go_enter Tryz.func20, Tryz.ntmps20
      go_wp2
      go_ret
      exact ⟨by rw [E.out]; rfl, rfl⟩
  · have hp : 0 < n := by omega
    have key : ∀ k : Nat, k < n → x % (n : Int) = k → ∃ g cap, v1 = .slice (some ⟨g, 0, none⟩) n cap ∧ w.cell? ⟨g, k, none⟩ = some (.int .i64 (nthI Hs x)) := fun k hk e => by
      have hx : Hs[k]? = some (nthI Hs x) := by
        unfold nthI
        rw [if_neg (by omega), hn, e, List.getD_eq_getElem?_getD, Int.toNat_natCast, List.getElem?_eq_getElem (by omega)]
        rfl
      obtain ⟨g, cap, h1, _, h3, _⟩ := own_atI h (i := k) (x := encI (nthI Hs x)) (by simp [hx])
      exact ⟨g, cap, h1, h3⟩
    rcases rem_casesI x hp with ⟨k, hk, hr, he⟩ | ⟨r, k, hk, hr0, hr1, hr, hrk, he⟩
    · obtain ⟨g, cap, rfl, c⟩ := key k hk he
      have ix := run_ixn g n cap k hk
      generalize nthI Hs x = y at *
      clear h key he h0 hn
      go_enter Tryz.func20, Tryz.ntmps20
      go_wp2
      go_ret
      exact ⟨rfl, rfl⟩
    · obtain ⟨g, cap, rfl, c⟩ := key k hk he
      have ix := run_ixn g n cap k hk
      generalize nthI Hs x = y at *
      clear h key he h0 hn
      go_enter Tryz.func20, Tryz.ntmps20
      go_wp2
      go_ret
      exact ⟨rfl, rfl⟩

end Hp
end Go.Proofs.YtpoehbncdjbleaaGreatDoor

/-
  What is so of the reference's entries behind each call: small numbers, few entries.
-/
namespace Go.Proofs.YtpoehbncdjbleaaGreatDoor
open Go.RowKit Go.Maps
namespace Hp
variable {L : List Pg} {E : List Re} {q : Int}

theorem fit_le {m : Int} (hm : 1 ≤ m) : ∀ (L : List Pg) (b : Int), (∀ p ∈ L, 1 ≤ p.span) → fit m b L ≤ b + L.length * (m - 1) + granted L
  | [], b, _ => by simp [fit, granted]
  | p :: L, b, hs => by
    have h1 := hs p (by simp)
    have ih := fit_le hm L (p.n + p.span) fun r hr => hs r (by simp [hr])
    have hg : granted (p :: L) = p.span + granted L := by simp [granted]
    have hg0 : 0 ≤ granted L := by
      have : ∀ L : List Pg, (∀ p ∈ L, 1 ≤ p.span) → 0 ≤ granted L := by
        intro L
        induction L with
        | nil => intro _; simp [granted]
        | cons x l ih =>
          intro h
          have h2 := h x (by simp)
          have h3 := ih fun r hr => h r (by simp [hr])
          have : granted (x :: l) = x.span + granted l := by simp [granted]
          omega
      exact this L fun r hr => hs r (by simp [hr])
    have hmul : 0 ≤ (L.length : Int) * (m - 1) := Int.mul_nonneg (by omega) (by omega)
    unfold fit
    rw [hg, List.length_cons]
    have e : ((L.length + 1 : Nat) : Int) * (m - 1) = L.length * (m - 1) + (m - 1) := by
      rw [Int.natCast_add, Int.add_mul]
      simp
    rw [e]
    split <;> omega

/-- Small numbers. -/
def Nb (L : List Pg) : Prop := ∀ r ∈ L, r.n ≤ 4096
theorem len_granted : ∀ {L : List Pg}, (∀ p ∈ L, 1 ≤ p.span) → (L.length : Int) ≤ granted L
  | [], _ => by simp [granted]
  | p :: L, h => by
    have h1 := h p (by simp)
    have ih := len_granted (L := L) fun r hr => h r (by simp [hr])
    have hg : granted (p :: L) = p.span + granted L := by simp [granted]
    rw [hg, List.length_cons]
    omega
theorem eo_of (hw : Wl L) (hn : Nb L) (hg : granted L * 64 ≤ 4000) (he : entsR E = L) : Eo E := by
  have hl := len_granted fun r hr => (hw.ent r hr).span.1
  have : (entsR E).length = E.length := by simp [entsR]
  rw [he] at this
  exact ⟨by rw [he]; exact hw, by omega, fun e hx => hn e.1 (by rw [← he]; exact List.mem_map.2 ⟨e, hx, rfl⟩)⟩
theorem nb_fit (hw : Wl L) {m : Int} (m0 : 1 ≤ m) (hg : (granted L + m) * 64 ≤ 4000) : fit m 0 L ≤ 4096 := by
  have hs : ∀ r ∈ L, 1 ≤ r.span := fun r hr => (hw.ent r hr).span.1
  have h1 := fit_le m0 L 0 hs
  have h2 := len_granted hs
  have h3 : (L.length : Int) * (m - 1) ≤ 62 * 62 := by
    have ha : (L.length : Int) ≤ 62 := by omega
    have hb : m - 1 ≤ 62 := by omega
    exact Int.mul_le_mul ha hb (by omega) (by omega)
  omega
theorem nb_alloc (hw : Wl L) (hn : Nb L) (hq : q ≤ 4000) (x : Int) : Nb (allocL q L x).2.2 := by
  unfold allocL
  split
  · rename_i hx
    split
    · rename_i hs
      split
      · rename_i p s hf
        intro r hr
        rcases mem_upd hr with rfl | ⟨h, _⟩
        · exact hn p (freeB_some hf).1
        · exact hn r h
      · split
        · rename_i hg
          intro r hr
          rcases mem_insL.1 hr with rfl | h
          · exact nb_fit hw (by omega) (by omega)
          · exact hn r h
        · exact hn
    · split
      · rename_i hg
        intro r hr
        rcases mem_insL.1 hr with rfl | h
        · exact nb_fit hw (pag_range hx.1 hx.2).1 (by omega)
        · exact hn r h
      · exact hn
  · exact hn
theorem nb_del (hn : Nb L) (n : Int) : Nb (delL L n) := fun r hr => hn r (mem_delL.1 hr).1
theorem nb_upd (hn : Nb L) {p p' : Pg} (hp : p ∈ L) (h : p'.n = p.n) : Nb (updL L p.n p') := fun r hr => by
  rcases mem_upd hr with rfl | ⟨h2, _⟩
  · rw [h]; exact hn p hp
  · exact hn r h2
theorem nb_drop (hn : Nb L) {p : Pg} (hp : p ∈ L) (s : Int) : Nb (dropL L p s) := by
  unfold dropL
  split
  · exact nb_del hn _
  · split
    · exact nb_del hn _
    · exact nb_upd hn hp rfl
theorem nb_free (hn : Nb L) (x : Int) : Nb (freeL L x).2 := by
  unfold freeL
  cases hf : findB L x with
  | none => exact hn
  | some ps => exact nb_drop hn (findB_some hf).1 _
theorem nb_slide (hE : Eo E) (hn : Nb (entsR E)) (x : Int) : Nb (slideL (entsR E) x).2.2 := by
  unfold slideL
  cases hf : findB (entsR E) x with
  | none => exact hn
  | some ps =>
    obtain ⟨p, s⟩ := ps
    have hm := (findB_some hf).1
    obtain ⟨e, he, hep⟩ := List.mem_map.1 hm
    obtain ⟨i, hi⟩ := List.getElem?_of_mem he
    simp only
    split
    · intro r hr
      rcases mem_insL.1 hr with rfl | h
      · have h1 := (hE.fitBut hi).2.1
        rw [hep] at h1
        have h2 := hn p hm
        show fit p.span 0 (delL (entsR E) p.n) ≤ 4096
        omega
      · exact nb_del hn _ r h
    · split
      · exact hn
      · rename_i p2 s2 hfb
        split
        · exact hn
        · have hm2 := (freeB_some hfb).1
          exact nb_drop (nb_upd (p' := withT p2 (Bt.setI p2.taken s2)) hn hm2 rfl) (mem_turn hm) _

end Hp
end Go.Proofs.YtpoehbncdjbleaaGreatDoor
