/-
  Same, and the law's nth, over numbers.
-/
import Derived.Test.YtkjjobafbcdmoaaGreatDoorR7
namespace Go.Proofs.YtkjjobafbcdmoaaGreatDoor
open Go.RowKit Go.Maps
namespace Hp
variable {w w' : World}

theorem run_ixn (g len cap i : Nat) (hi : i < len) (w' : World) : (Instr.indexAt 22 (.slice (some ⟨g, 0, none⟩) len cap) (.int .i64 (i : Int))).run Tryz.prog w' = .ok (.pointer (some ⟨g, i, none⟩)) w' := by
  have hel : Tryz.prog.elem 22 = 3 := by kernel_rfl
  have hsz : (sizeOf 3).run Tryz.prog w' = .ok 1 w' := by kernel_rfl
  have hu : Tryz.prog.underlying 22 = some (.slice (Tryz.prog.elem 22)) := by kernel_rfl
  rw [run_indexAt_slice w' 22 _ len cap .i64 i hu, if_pos (by omega), hel, hsz]
  simp only [Result.andThen_ok, Int.toNat_natCast, Nat.mul_one]
  rw [Go.WideShapes.add_plain, Nat.zero_add]

/-- A row's cell. -/
theorem own_atI {B n i : Nat} {ty : TypeId} {u x : Value} {xs : List Value} (h : w.ownsRow B ty 1 u n xs) (hx : xs[i]? = some x) : ∃ g cap, u = .slice (some ⟨g, 0, none⟩) n cap ∧ i < n ∧ w.cell? ⟨g, i, none⟩ = some x ∧ w.frozen? ⟨g, i, none⟩ = false ∧ B ≤ g ∧ g < w.heap.size := by
  have hl := h.1
  have hi := (List.getElem?_eq_some_iff.1 hx).1
  rcases h.2 with ⟨_, e⟩ | ⟨g, cap, cur, e, hb, hg, _, _, _, ht⟩
  · omega
  · refine ⟨g, cap, e, by omega, ?_, by simp [World.frozen?, hg], hb, (Array.getElem?_eq_some_iff.1 hg).1⟩
    rw [← ht, List.getElem?_take, if_pos (by omega)] at hx
    simp only [World.cell?, hg]
    rw [if_neg (by simp), ← Array.getElem?_toList]
    exact hx

set_option maxHeartbeats 1000000 in
theorem rSameI_any {xs : List Int} {n B1 B2 : Nat} {v1 v2 : Value} (h1 : w.ownsRow B1 3 1 v1 n (xs.map encI)) (h2 : w.ownsRow B2 3 1 v2 n (xs.map encI)) (hn : xs.length = n) (hl : n ≤ 65536) : Calls Tryz.prog 14 #[v1, v2] w fun e w' => e = .returned (.bool true) ∧ K w w' := by
  have f1 : ∃ a cap, v1 = .slice a n cap := by
    rcases h1.2 with ⟨hv, h0⟩ | ⟨g, c, cur, hv, _⟩
    · exact ⟨none, 0, by rw [hv, h0]⟩
    · exact ⟨_, _, hv⟩
  have f2 : ∃ a cap, v2 = .slice a n cap := by
    rcases h2.2 with ⟨hv, h0⟩ | ⟨g, c, cur, hv, _⟩
    · exact ⟨none, 0, by rw [hv, h0]⟩
    · exact ⟨_, _, hv⟩
  obtain ⟨a1, c1, rfl⟩ := f1
  obtain ⟨a2, c2, rfl⟩ := f2
  have key : ∀ (a : Option Addr) (B c : Nat), w.ownsRow B 3 1 (.slice a n c) n (xs.map encI) → ∀ (i : Nat) (x : Int), xs[i]? = some x → ∃ g, (∀ w', (Instr.indexAt 22 (.slice a n c) (.int .i64 (i : Int))).run Tryz.prog w' = .ok (.pointer (some ⟨g, i, none⟩)) w') ∧ w.cell? ⟨g, i, none⟩ = some (.int .i64 x) := fun a B c ho i x hx => by
    have hi := (List.getElem?_eq_some_iff.1 hx).1
    rcases ho.2 with ⟨hv, h0⟩ | ⟨g, cap, cur, hv, _, hg, _, _, _, ht⟩
    · omega
    · cases hv
      refine ⟨g, fun w' => ?_, ?_⟩
      · have hel : Tryz.prog.elem 22 = 3 := by kernel_rfl
        have hsz : (sizeOf 3).run Tryz.prog w' = .ok 1 w' := by kernel_rfl
        have hu : Tryz.prog.underlying 22 = some (.slice (Tryz.prog.elem 22)) := by kernel_rfl
        rw [run_indexAt_slice w' 22 _ n c .i64 i hu, if_pos (by omega), hel, hsz]
        simp only [Result.andThen_ok, Int.toNat_natCast, Nat.mul_one]
        rw [Go.WideShapes.add_plain, Nat.zero_add]
      · have hx2 : (xs.map encI)[i]? = some (encI x) := by simp [hx]
        rw [← ht, List.getElem?_take, if_pos (by omega)] at hx2
        simp only [World.cell?, hg]
        rw [if_neg (by simp), ← Array.getElem?_toList]
        exact hx2
  have K1 : Aside _ := key a1 B1 c1 h1
  have K2 : Aside _ := key a2 B2 c2 h2
  have HN : Aside _ := hn
  clear h1 h2 key hn
  go_enter Tryz.func14, Tryz.ntmps14
  go_wp2
  go_loopg [5] n (fun gh t wx => ∃ i : Nat, i + gh = n ∧ t = .int .i64 i ∧ K w wx)
  case atStart => exact ⟨0, by omega, rfl, K.refl _⟩
  case round =>
    obtain ⟨i, hig, rfl, hk⟩ := hrel
    by_cases hlt : i < n
    · obtain ⟨x, hx⟩ : ∃ x, xs[i]? = some x := ⟨_, List.getElem?_eq_getElem (by rw [HN.out]; exact hlt)⟩
      obtain ⟨g1, ix1, d1⟩ := K1.out i x hx
      obtain ⟨g2, ix2, d2⟩ := K2.out i x hx
      have e1 := hk.cell d1
      have e2 := hk.cell d2
      have hxx : (x != x) = false := by simp
      clear hx d1 d2
      go_wp2
      go_quiet (fail)
      go_wp2
      go_roundg (n - (i + 1))
      case measure => omega
      case rel => exact ⟨i + 1, by omega, by go_num, hk.drewN _⟩
    · go_wp2
      go_ret
      exact ⟨rfl, hk⟩

/-- The n-th of some, counted round; 0: there are none. -/
def nthI (Hs : List Int) (x : Int) : Int := if Hs.length = 0 then -1 else Hs.getD (x % (Hs.length : Int)).toNat 0

theorem nthI_nil (x : Int) : nthI [] x = -1 := rfl
theorem nthI_mem {Hs : List Int} {x : Int} (h : 0 < Hs.length) : nthI Hs x ∈ Hs := by
  have h1 : (x % (Hs.length : Int)).toNat < Hs.length := by
    have := Int.emod_lt_of_pos x (b := (Hs.length : Int)) (by omega)
    have := Int.emod_nonneg x (b := (Hs.length : Int)) (by omega)
    omega
  unfold nthI
  rw [if_neg (by omega), List.getD_eq_getElem?_getD, List.getElem?_eq_getElem h1]
  exact List.getElem_mem h1

theorem rem_casesI (x : Int) {N : Nat} (h : 0 < N) : (∃ k : Nat, k < N ∧ x.tmod N = k ∧ x % N = k) ∨ ∃ (r : Int) (k : Nat), k < N ∧ r < 0 ∧ -(N : Int) < r ∧ x.tmod N = r ∧ r + N = k ∧ x % N = k := by
  have h1 : x.tmod N < N := Int.tmod_lt_of_pos x (by omega)
  have h2 : -(N : Int) < x.tmod N := Int.lt_tmod_of_pos x (b := (N : Int)) (by omega)
  have h3 := Int.emod_lt_of_pos x (b := (N : Int)) (by omega)
  have h4 := Int.emod_nonneg x (b := (N : Int)) (by omega)
  have h5 : x = N * x.tdiv N + x.tmod N := (Int.mul_tdiv_add_tmod x N).symm
  have h6 : x = N * (x / N) + x % N := (Int.mul_ediv_add_emod x N).symm
  by_cases h0 : 0 ≤ x.tmod N
  · have e : x % N = x.tmod N := by
      conv => lhs; rw [h5]
      rw [Int.mul_add_emod_self_left]
      exact Int.emod_eq_of_lt h0 h1
    exact .inl ⟨(x.tmod N).toNat, by omega, by omega, by omega⟩
  · have e : x % N = x.tmod N + N := by
      conv => lhs; rw [h5]
      rw [Int.mul_add_emod_self_left, ← Int.add_emod_right]
      exact Int.emod_eq_of_lt (by omega) (by omega)
    exact .inr ⟨x.tmod N, (x.tmod N + N).toNat, by omega, by omega, h2, rfl, by omega, by omega⟩

theorem nthI_any {w : World} {B n : Nat} {v1 : Value} {Hs : List Int} (h : w.ownsRow B 3 1 v1 n (Hs.map encI)) (hn : Hs.length = n) (hl : n ≤ 100000) (x : Int) (_ : -9223372036854775808 ≤ x) (_ : x ≤ 9223372036854775807) : Calls Tryz.prog 30 #[v1, .int .i64 x] w fun e w' => e = .returned (.int .i64 (nthI Hs x)) ∧ w = w' := by
  by_cases h0 : n = 0
  · have hnil : Hs = [] := List.eq_nil_of_length_eq_zero (by omega)
    subst hnil
    subst h0
    have hv : v1 = .slice none 0 0 ∨ ∃ g cap, v1 = .slice (some ⟨g, 0, none⟩) 0 cap := by
      rcases h.2 with ⟨e, _⟩ | ⟨g, cap, _, e, _⟩
      · exact .inl e
      · exact .inr ⟨g, cap, e⟩
    have E : Hid (nthI [] x = -1) := nthI_nil x
    rcases hv with rfl | ⟨g, cap, rfl⟩
    · clear h hn
      go_enter Tryz.func30, Tryz.ntmps30
      go_wp2
      go_ret
      exact ⟨by rw [E.out]; rfl, rfl⟩
    · clear h hn
      go_enter Tryz.func30, Tryz.ntmps30
      go_wp2
      go_ret
      exact ⟨by rw [E.out]; rfl, rfl⟩
  · have hp : 0 < n := by omega
    have key : ∀ k : Nat, k < n → x % (n : Int) = k → ∃ g cap, v1 = .slice (some ⟨g, 0, none⟩) n cap ∧ w.cell? ⟨g, k, none⟩ = some (.int .i64 (nthI Hs x)) := fun k hk e => by
      have hx : Hs[k]? = some (nthI Hs x) := by
        unfold nthI
        rw [if_neg (by omega), hn, e, List.getD_eq_getElem?_getD, Int.toNat_natCast, List.getElem?_eq_getElem (by omega)]
        rfl
      obtain ⟨g, cap, h1, _, h3, _⟩ := own_atI h (i := k) (x := encI (nthI Hs x)) (by simp [hx])
      exact ⟨g, cap, h1, h3⟩
    rcases rem_casesI x hp with ⟨k, hk, hr, he⟩ | ⟨r, k, hk, hr0, hr1, hr, hrk, he⟩
    · obtain ⟨g, cap, rfl, c⟩ := key k hk he
      have ix := run_ixn g n cap k hk
      generalize nthI Hs x = y at *
      clear h key he h0 hn
      go_enter Tryz.func30, Tryz.ntmps30
      go_wp2
      go_ret
      exact ⟨rfl, rfl⟩
    · obtain ⟨g, cap, rfl, c⟩ := key k hk he
      have ix := run_ixn g n cap k hk
      generalize nthI Hs x = y at *
      clear h key he h0 hn
      go_enter Tryz.func30, Tryz.ntmps30
      go_wp2
      go_ret
      exact ⟨rfl, rfl⟩

end Hp
end Go.Proofs.YtkjjobafbcdmoaaGreatDoor

/-
  What is so of the reference's entries behind each call: small numbers, few entries.
-/
namespace Go.Proofs.YtkjjobafbcdmoaaGreatDoor
open Go.RowKit Go.Maps
namespace Hp
variable {L : List Pg} {E : List Re} {q : Int}

theorem fit_le {m : Int} (hm : 1 ≤ m) : ∀ (L : List Pg) (b : Int), (∀ p ∈ L, 1 ≤ p.span) → fit m b L ≤ b + L.length * (m - 1) + granted L
  | [], b, _ => by simp [fit, granted]
  | p :: L, b, hs => by
    have h1 := hs p (by simp)
    have ih := fit_le hm L (p.n + p.span) fun r hr => hs r (by simp [hr])
    have hg : granted (p :: L) = p.span + granted L := by simp [granted]
    have hg0 : 0 ≤ granted L := by
      have : ∀ L : List Pg, (∀ p ∈ L, 1 ≤ p.span) → 0 ≤ granted L := by
        intro L
        induction L with
        | nil => intro _; simp [granted]
        | cons x l ih =>
          intro h
          have h2 := h x (by simp)
          have h3 := ih fun r hr => h r (by simp [hr])
          have : granted (x :: l) = x.span + granted l := by simp [granted]
          omega
      exact this L fun r hr => hs r (by simp [hr])
    have hmul : 0 ≤ (L.length : Int) * (m - 1) := Int.mul_nonneg (by omega) (by omega)
    unfold fit
    rw [hg, List.length_cons]
    have e : ((L.length + 1 : Nat) : Int) * (m - 1) = L.length * (m - 1) + (m - 1) := by
      rw [Int.natCast_add, Int.add_mul]
      simp
    rw [e]
    split <;> omega

/-- Small numbers. -/
def Nb (L : List Pg) : Prop := ∀ r ∈ L, r.n ≤ 4096
theorem len_granted : ∀ {L : List Pg}, (∀ p ∈ L, 1 ≤ p.span) → (L.length : Int) ≤ granted L
  | [], _ => by simp [granted]
  | p :: L, h => by
    have h1 := h p (by simp)
    have ih := len_granted (L := L) fun r hr => h r (by simp [hr])
    have hg : granted (p :: L) = p.span + granted L := by simp [granted]
    rw [hg, List.length_cons]
    omega
theorem eo_of (hw : Wl L) (hn : Nb L) (hg : granted L * 64 ≤ 4000) (he : entsR E = L) : Eo E := by
  have hl := len_granted fun r hr => (hw.ent r hr).span.1
  have : (entsR E).length = E.length := by simp [entsR]
  rw [he] at this
  exact ⟨by rw [he]; exact hw, by omega, fun e hx => hn e.1 (by rw [← he]; exact List.mem_map.2 ⟨e, hx, rfl⟩)⟩
theorem nb_fit (hw : Wl L) {m : Int} (m0 : 1 ≤ m) (hg : (granted L + m) * 64 ≤ 4000) : fit m 0 L ≤ 4096 := by
  have hs : ∀ r ∈ L, 1 ≤ r.span := fun r hr => (hw.ent r hr).span.1
  have h1 := fit_le m0 L 0 hs
  have h2 := len_granted hs
  have h3 : (L.length : Int) * (m - 1) ≤ 62 * 62 := by
    have ha : (L.length : Int) ≤ 62 := by omega
    have hb : m - 1 ≤ 62 := by omega
    exact Int.mul_le_mul ha hb (by omega) (by omega)
  omega
theorem nb_alloc (hw : Wl L) (hn : Nb L) (hq : q ≤ 4000) (x : Int) : Nb (allocL q L x).2.2 := by
  unfold allocL
  split
  · rename_i hx
    split
    · rename_i hs
      split
      · rename_i p s hf
        intro r hr
        rcases mem_upd hr with rfl | ⟨h, _⟩
        · exact hn p (freeB_some hf).1
        · exact hn r h
      · split
        · rename_i hg
          intro r hr
          rcases mem_insL.1 hr with rfl | h
          · exact nb_fit hw (by omega) (by omega)
          · exact hn r h
        · exact hn
    · split
      · rename_i hg
        intro r hr
        rcases mem_insL.1 hr with rfl | h
        · exact nb_fit hw (pag_range hx.1 hx.2).1 (by omega)
        · exact hn r h
      · exact hn
  · exact hn
theorem nb_del (hn : Nb L) (n : Int) : Nb (delL L n) := fun r hr => hn r (mem_delL.1 hr).1
theorem nb_upd (hn : Nb L) {p p' : Pg} (hp : p ∈ L) (h : p'.n = p.n) : Nb (updL L p.n p') := fun r hr => by
  rcases mem_upd hr with rfl | ⟨h2, _⟩
  · rw [h]; exact hn p hp
  · exact hn r h2
theorem nb_drop (hn : Nb L) {p : Pg} (hp : p ∈ L) (s : Int) : Nb (dropL L p s) := by
  unfold dropL
  split
  · exact nb_del hn _
  · split
    · exact nb_del hn _
    · exact nb_upd hn hp rfl
theorem nb_free (hn : Nb L) (x : Int) : Nb (freeL L x).2 := by
  unfold freeL
  cases hf : findB L x with
  | none => exact hn
  | some ps => exact nb_drop hn (findB_some hf).1 _
theorem nb_slide (hE : Eo E) (hn : Nb (entsR E)) (x : Int) : Nb (slideL (entsR E) x).2.2 := by
  unfold slideL
  cases hf : findB (entsR E) x with
  | none => exact hn
  | some ps =>
    obtain ⟨p, s⟩ := ps
    have hm := (findB_some hf).1
    obtain ⟨e, he, hep⟩ := List.mem_map.1 hm
    obtain ⟨i, hi⟩ := List.getElem?_of_mem he
    simp only
    split
    · intro r hr
      rcases mem_insL.1 hr with rfl | h
      · have h1 := (hE.fitBut hi).2.1
        rw [hep] at h1
        have h2 := hn p hm
        show fit p.span 0 (delL (entsR E) p.n) ≤ 4096
        omega
      · exact nb_del hn _ r h
    · split
      · exact hn
      · rename_i p2 s2 hfb
        split
        · exact hn
        · have hm2 := (freeB_some hfb).1
          exact nb_drop (nb_upd (p' := withT p2 (Bt.setI p2.taken s2)) hn hm2 rfl) (mem_turn hm) _

end Hp
end Go.Proofs.YtkjjobafbcdmoaaGreatDoor
