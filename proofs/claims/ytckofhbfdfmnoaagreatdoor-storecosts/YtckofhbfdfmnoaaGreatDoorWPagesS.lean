/-
  The walk of package store's pages.
-/
import Derived.Test.YtckofhbfdfmnoaaGreatDoorWPageW
namespace Go.Proofs.YtckofhbfdfmnoaaGreatDoor
open Go.RowKit Go.Maps
attribute [local go_sem ↓] Go.wp_at_zero Go.wp_at_succ
namespace So
open Hp (Kept K No Pg BlR Bl Wl)
variable {w w' : World} {B : Nat} {A : Ad} {pg : List (Int × Nat)} {W : Int → Int} {L : List Pg} {v : Value} {T : List Hd.Sl}

/-- The numbers of pages. -/
def nums (pg : List (Int × Nat)) : List Int := pg.map fun p => p.1

theorem read_page (h : Sb w B A pg W L v T) {N : Int} (hN : N ∈ nums pg) (k : Nat) (hk : k < 64) : Calls Tryz.prog 42 #[.pointer (some ⟨A.bs, 0, none⟩), .int .i64 (N * 64 + k)] w fun e w' => e = .returned (.tuple #[.int .u64 (W (64 * N + k)), .int .i64 0]) ∧ w = w' := by
  obtain ⟨p, hp, rfl⟩ := List.mem_map.1 hN
  have hr := h.hp.hw.ar.rng p hp
  have hb : (Sl.blk pg p.1).isSome = true := Hp.mem_keys.1 (List.mem_map.2 ⟨p, hp, rfl⟩)
  have r1 := Sl.read_any h.hp.hw.ar (64 * p.1 + k)
  rw [Hp.readV_in hr.1 hr.2 hb k (by omega) (by omega), Hp.readE_in hr.1 hr.2 hb k (by omega) (by omega)] at r1
  rw [show p.1 * 64 + (k : Int) = 64 * p.1 + k by omega]
  exact r1

set_option maxRecDepth 100000 in
set_option maxHeartbeats 2000000 in
theorem pages_any (h : Sb w B A pg W L v T) : Calls Tryz.prog 54 #[sp A.st] w fun e w' => ∃ v', e = .returned v' ∧ w'.ownsRow w.heap.size 93 65 v' pg.length (flat W (nums pg)) ∧ K w w' := by
  have c0 := h.c0
  have pp := Sl.pages_said w _ _ _ _ _ h.hp.hw.ar
  have hl := h.hp.hw.ar.len
  have HH : Aside _ := h
  have hrng : Aside _ := h.hp.hw.ar.rng
  obtain ⟨i0, hi0, hs0, hby0, z0, hz0, hzs0⟩ := info_apage
  have HI : Aside (Tryz.prog.info? 93 = some i0 ∧ i0.size = 65 ∧ i0.bytes = 520 ∧ i0.zero = some z0 ∧ z0.cells.size = 65) := ⟨hi0, hs0, hby0, hz0, hzs0⟩
  clear h hi0 hs0 hby0 hz0 hzs0
  have HLN : Aside ((nums pg).length = pg.length) := by show _ = _; simp [nums]
  generalize hn : pg.length = n at *
  have HN : Aside _ := hn
  clear hn
  go_enter Tryz.func54, Tryz.ntmps54
  go_wp2_with fail
  refine pp.mono ?_
  rintro e w1 ⟨a, cap, rfl, hb1, hrow⟩
  have k1 := K.of_below hb1
  have HR : Aside _ := hrow
  clear pp c0 hrow
  go_wp2
  go_loopg [14, 3] n (fun gh t tv wx => ∃ i : Nat, i + gh = n ∧ t = .int .i64 i ∧ wx.ownsRow w1.heap.size 93 65 tv i (flat W ((nums pg).take i)) ∧ K w1 wx)
  case atStart => exact ⟨0, by omega, rfl, by simpa [flat] using World.ownsRow_nil _ _ _ _, K.refl _⟩
  case round =>
    obtain ⟨i, hig, rfl, hown, hk⟩ := hrel
    by_cases hlt : i < n
    · obtain ⟨p, hp⟩ : ∃ p, pg[i]? = some p := ⟨_, List.getElem?_eq_getElem (by rw [HN.out]; exact hlt)⟩
      have hNm : p.1 ∈ nums pg := List.mem_map.2 ⟨p, List.mem_of_getElem? hp, rfl⟩
      have hNi : (nums pg)[i]? = some p.1 := by unfold nums; rw [List.getElem?_map, hp]; rfl
      have hr := hrng.out p (List.mem_of_getElem? hp)
      obtain ⟨r0, r1⟩ := hr
      obtain ⟨g, rfl, hg0, hcell⟩ := HR.out (by omega)
      have dcell := hk.cell (hcell i p hp)
      have HNM : Aside _ := hNm
      have HNI : Aside _ := hNi
      have HOWN : Aside _ := hown
      clear hp hNm hNi hcell hown
      generalize p.1 = N at *
      have hst := run_storeCells_new (P := Tryz.prog) wr 93 (pArr (fun _ => 0) 0) (pArr (fun _ => 0) N) (size_apage _ _) (by rw [pArr_size, pArr_size]) (pArr_all _ _)
      have hsz := pArr_size (fun _ => 0) N
      go_wp2_with (first
        | ((with_reducible refine wpList_build_ap N ?_ ?_); · rfl)
        | (with_reducible refine wpList_alloc_ap ?_))
      clear hst hsz
      obtain ⟨w2, hw2⟩ : ∃ w2, w2 = wr.alloc (.cells (pArr (fun _ => 0) N) 93) := ⟨_, rfl⟩
      have hb2 : w2.heap[wr.heap.size]? = some (.cells (pArr (fun _ => 0) N) 93) := by rw [hw2]; exact World.alloc_heap_new _ _
      have k2 : K wr w2 := by rw [hw2]; exact (K.refl wr).alloc _
      rw [← hw2]
      clear hw2 dcell
      have k02 := (k1.trans hk).trans k2
      have k12 := hk.trans k2
      have hPle := (k1.trans hk).size
      have hP1 := hk.size
      have OWN2 : Aside (w2.ownsRow w1.heap.size 93 65 u3 i (flat W ((nums pg).take i))) := Hd.ownsRow_kept HOWN.out k2 (fun _ _ x => x)
      have OLT : Aside (∀ b, some b = u3.ownBlock → w1.heap.size ≤ b ∧ b < wr.heap.size) := fun b hb => Hd.own_lt HOWN.out hb
      clear HOWN k2
      generalize wr.heap.size = P at *
      go_loopg [20] 64 (fun gh t wx => ∃ k : Nat, k + gh = 64 ∧ t = .int .i64 k ∧ wx.heap[P]? = some (.cells (pArr (cutW W N k) N) 93) ∧ Kept (fun j => j = P) w2 wx)
      case atStart => exact ⟨0, by omega, rfl, by rw [cutW_zero]; exact hb2, Kept.refl _ _⟩
      case round =>
        obtain ⟨k, hkg, rfl, hbk, hkk⟩ := hrel
        have kx := K.thenKept k02 hkk hPle
        by_cases hk64 : k < 64
        · have d0 := (HH.out.keep kx).c0
          have rd := read_page (HH.out.keep kx) HNM.out k hk64
          have hix := run_ixW P 1 k hk64
          have dc : wr.cell? ⟨P, 1 + k, none⟩ = some (.int .u64 (cutW W N k (64 * N + k))) := by
            simp only [World.cell?, hbk]
            rw [if_neg (by simp)]
            exact pArr_word _ _ _ hk64
          have df : wr.frozen? ⟨P, 1 + k, none⟩ = false := by simp [World.frozen?, hbk]
          have nx : Aside ((wr.setCell ⟨P, 1 + k, none⟩ (.int .u64 (W (64 * N + k)))).heap[P]? = some (.cells (pArr (cutW W N (k + 1)) N) 93)) := by
            have := Sl.heap_setCell_same (i := 1 + k) hbk (.int .u64 (W (64 * N + k)))
            rw [cutW_succ _ _ _ hk64] at this
            exact this
          generalize W (64 * N + k) = y at *
          clear hbk
          go_wp2_with (go_at_call 42; refine rd.mono ?_; rintro e w5 ⟨rfl, rfl⟩)
          go_roundg (64 - (k + 1))
          case measure => omega
          case rel => exact ⟨k + 1, by omega, by go_num, nx.out, hkk.setCell (p := ⟨P, 1 + k, none⟩) _ (.inl rfl)⟩
        · obtain rfl : k = 64 := by omega
          rw [cutW_all] at hbk
          have RG : Aside _ := range_block hbk
          have OWNX : Aside (wr.ownsRow w1.heap.size 93 65 u3 i (flat W ((nums pg).take i))) := Hd.ownsRow_kept OWN2.out hkk (fun b hb e => by have := OLT.out b hb; omega)
          have k1x := K.thenKept k12 hkk hP1
          have hil : i + 1 ≤ 4096 := by omega
          clear hbk OWN2
          go_wp2_with (first
            | ((with_reducible refine wpList_load_ap P 0 W N ?_ ?_ ?_); (· exact RG.out); (· rfl))
            | ((with_reducible refine wpList_one_ap (pArr W N) (pArr_size _ _) ?_ ?_); · rfl)
            | (at_builtin
               refine wpList_append_own_at _ rfl _ _ 67 rfl w1.heap.size 93 i0 z0 65 520 Tryz.underlying67 HI.out.1 HI.out.2.2.2.1 HI.out.2.1 HI.out.2.2.1 HI.out.2.2.2.2 (by decide) u3 i (flat W ((nums pg).take i)) rfl (OWNX.out.alloc _) ⟨wr.heap.size, 0, none⟩ 1 1 (pArr W N).toList rfl (by rw [pArr_len]) (Hd.src_one _ _ _) (pArr_one W N) (by unfold maxLen; omega) (by omega) (by have := k1x.size; simp; omega) ?_
               intro v4 w4 hown4 hgrow _ hat))
          go_roundg (n - (i + 1))
          case measure => omega
          case rel =>
            refine ⟨i + 1, by omega, by go_num, ?_, Hd.K.thenGrown k1x hgrow (fun b hb => (OLT.out b hb).1)⟩
            rw [← flat_one, ← flat_app] at hown4
            have e : (nums pg).take i ++ [N] = (nums pg).take (i + 1) := by
              rw [List.take_add_one, HNI.out]
              rfl
            rw [e] at hown4
            exact hown4
    · have hin : i = n := by omega
      have e : (nums pg).take i = nums pg := by rw [List.take_of_length_le (by rw [HLN.out]; omega)]
      rw [e] at hown
      subst hin
      have hO := own_low hown k1.size
      clear hown e
      go_wp2
      go_ret
      exact ⟨_, rfl, hO, k1.trans hk⟩

end So
end Go.Proofs.YtckofhbfdfmnoaaGreatDoor
