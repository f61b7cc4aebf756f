/-
  The walk of the statement on claimed pages.
-/
import Derived.Test.YtclbaepgodeoiaaAwake
import Derived.Test.YtclbaepgodeoiaaPigeon
namespace Go.Proofs.Ytclbaepgodeoiaa
open Go.RowKit Go.Maps
namespace Sl
variable {w : World} {bs bm : Nat} {q : Int} {pg : List (Int × Nat)} {W : Int → Int}

/-- What Pages tells: the granted pages, rising, in a new row. -/
def PagesSaid : Prop := ∀ (w : World) (bs bm : Nat) (q : Int) (pg : List (Int × Nat)) (W : Int → Int), Arena w bs bm q pg W →
  Calls Try.prog 13 #[.pointer (some ⟨bs, 0, none⟩)] w fun e w' => ∃ a cap, e = .returned (.slice a pg.length cap) ∧ Below w.heap.size w w' ∧
    (0 < pg.length → ∃ g, a = some ⟨g, 0, none⟩ ∧ w.heap.size ≤ g ∧ ∀ (i : Nat) (p : Int × Nat), pg[i]? = some p → w'.cell? ⟨g, i, none⟩ = some (.int .i64 p.1))

theorem claimE_zero {p : Int} (he : claimE q pg p = 0) : isPageB p = true ∧ blk pg p = none := by
  have hp : isPageB p = true := by
    cases hp : isPageB p with
    | true => rfl
    | false => simp [claimE, hp] at he
  refine ⟨hp, ?_⟩
  cases hb : blk pg p with
  | none => rfl
  | some b => simp [claimE, hp, hb] at he

/-- A slice of numbers that came in. -/
structure Nums (w : World) (a : Option Addr) (b off len cap : Nat) (z : Nat → Int) : Prop where
  ix : ∀ i : Nat, i < len → ∀ w', (Instr.indexAt 39 (.slice a len cap) (.int .i64 (i : Int))).run Try.prog w' = .ok (.pointer (some ⟨b, off + i, none⟩)) w'
  lt : 0 < len → b < w.heap.size
  cell : ∀ j, j < len → w.cell? ⟨b, off + j, none⟩ = some (.int .i64 (z j))
  wf : ∀ j, (Lit.int .i64 (z j)).wf = true

/-- What the loop over the claimed pages keeps. -/
structure Kept (w wx : World) (pg : List (Int × Nat)) (W : Int → Int) (i : Nat) : Prop where
  le : pg.length ≤ i
  ar : Arena wx (w.heap.size + 1) w.heap.size 262144 pg W
  bel : Below w.heap.size w wx
  ge : ∀ k, foot (w.heap.size + 1) w.heap.size pg k → w.heap.size ≤ k

theorem Kept.step {w wx w2 : World} {pg pg2 : List (Int × Nat)} {W W2 : Int → Int} {i j : Nat} (h : Kept w wx pg W i) (ha : Arena w2 (w.heap.size + 1) w.heap.size 262144 pg2 W2) (hs : Step (w.heap.size + 1) w.heap.size pg pg2 wx w2) (hl : pg2.length ≤ j) : Kept w w2 pg2 W2 j :=
  ⟨hl, ha, h.bel.trans (hs.below h.bel.size h.ge), hs.foot_ge h.bel.size h.ge⟩

theorem claimE_far {p : Int} (hp : isPageB p = false) : claimE q pg p = 2 := by simp [claimE, hp]

set_option maxHeartbeats 4000000 in
set_option maxRecDepth 100000 in
theorem claims_main (hpages : PagesSaid) (a0 : Option Addr) (b off len cap : Nat) (z : Nat → Int) (n : Int) (w : World) (hN : Nums w a0 b off len cap z) (hlen : len ≤ 30) (hn1 : 1 ≤ n) (hn2 : n ≤ 30) :
    Calls Try.prog 7 #[.slice a0 len cap, .int .i64 n] w fun e w' => e = .returned (.bool true) ∧ Below w.heap.size w w' := by
  have hnew := new_ok 262144 w (by omega) (by omega)
  have HN : Aside (Nums w a0 b off len cap z) := hN
  clear hN
  go_enter Try.func7, Try.ntmps7
  go_wp2_with fail
  refine hnew.mono ?_
  rintro e w1 ⟨rfl, ha1, hb1⟩
  have hge1 : ∀ k, foot (w.heap.size + 1) w.heap.size [] k → w.heap.size ≤ k := fun k hk => by
    rcases hk with rfl | rfl | ⟨p, hp, rfl⟩
    · omega
    · omega
    · simp at hp
  go_wp2
  clear hnew
  go_loopg [7, 8, 9, 10, 11, 12, 13] len (fun g t7 t8 _ _ _ _ _ wx => ∃ (i : Nat) (pg : List (Int × Nat)) (W : Int → Int), i + g = len ∧ t8 = .int .i64 i ∧ t7 = .int .i64 pg.length ∧ Kept w wx pg W i)
  case atStart => exact ⟨0, [], fun _ => 0, by omega, rfl, rfl, by simp, ha1, hb1, hge1⟩
  case round =>
    obtain ⟨i, pg, W, hig, rfl, rfl, HK⟩ := hrel
    by_cases hlt : i < len
    · have hix := HN.out.ix i hlt
      have hbl := HN.out.lt (by omega)
      have hpi := HK.le
      have hc : wr.cell? ⟨b, off + i, none⟩ = some (.int .i64 (z i)) := (HK.bel.cell (p := ⟨b, off + i, none⟩) hbl).trans (HN.out.cell i hlt)
      have hwf := HN.out.wf i
      have his := is_any HK.ar (z i) hwf
      clear ha1 hb1 hge1
      by_cases hp : isPageB (z i) = true
      · have hpr : 0 ≤ z i ∧ z i ≤ 1048575 := by simpa [isPageB] using hp
        cases hb : blk pg (z i) with
        | some bb =>
          have he : claimE 262144 pg (z i) = 6 := by simp [claimE, hp, hb]
          have hcl := claim_no HK.ar (z i) hwf (by rw [he]; decide)
          rw [he] at hcl
          rw [hb] at his
          clear he hb hp
          go_wp2_with (go_at_call 16; refine his.mono ?_; rintro e w' ⟨rfl, rfl⟩)
          refine hcl.mono ?_
          rintro e w' ⟨rfl, nq, rfl⟩
          go_wp2
          go_roundg (len - (i + 1))
          case measure => omega
          case rel => exact ⟨i + 1, pg, W, by omega, by go_num, rfl, HK.step (HK.ar.drewN nq) (Step.drewN _ _ _ _ _) (by omega)⟩
        | none =>
          have he : claimE 262144 pg (z i) = 0 := by
            have : 64 * ((pg.length : Int) + 1) ≤ 262144 := by omega
            simp [claimE, hp, hb, this]
          have hcl := claim_ok HK.ar (z i) he
          have HB : Aside (blk pg (z i) = none) := hb
          rw [hb] at his
          clear he hb hp
          go_wp2_with (go_at_call 16; refine his.mono ?_; rintro e w' ⟨rfl, rfl⟩)
          refine hcl.mono ?_
          rintro e w2 ⟨rfl, bb, ha2, hs2⟩
          have hc2 : w2.cell? ⟨b, off + i, none⟩ = some (.int .i64 (z i)) := ((hs2.below HK.bel.size HK.ge).cell (p := ⟨b, off + i, none⟩) hbl).trans hc
          have hbk : blk (ins (z i) bb pg) (z i) = some bb := by rw [blk_ins HK.ar.rise HB.out, if_pos rfl]
          have r1 : readE (ins (z i) bb pg) (z i * 64 + 63) = 0 := by
            simp only [readE]
            rw [if_pos (by simp [isSpanB]; omega), show (z i * 64 + 63) / 64 = z i from by omega, hbk]
            rfl
          have r2 : readV (ins (z i) bb pg) W (z i * 64 + 63) = 0 := by
            rw [readV, if_pos r1]
            exact HK.ar.z _ (by rw [show (z i * 64 + 63) / 64 = z i from by omega]; exact HB.out)
          have r3 : readE (ins (z i) bb pg) (z i * 64) = 0 := by
            simp only [readE]
            rw [if_pos (by simp [isSpanB]; omega), show (z i * 64) / 64 = z i from by omega, hbk]
            rfl
          have hrd := read_any ha2 (z i * 64 + 63)
          rw [r1, r2] at hrd
          have hwr := write_ok ha2 (z i * 64) ((pg.length : Int) + 1) r3 (WalkArith.wf_u64 (by omega))
          clear r1 r2 r3 hbk hc his hcl
          go_wp2_with (first | (go_at_call 18; refine hrd.mono ?_; rintro e w' ⟨rfl, rfl⟩))
          refine hwr.mono ?_
          rintro e w3 ⟨rfl, ha3, hs3⟩
          go_wp2
          go_roundg (len - (i + 1))
          case measure => omega
          case rel => exact ⟨i + 1, _, _, by omega, by go_num, by rw [ins_length]; go_num, HK.step ha3 (hs2.trans hs3) (by rw [ins_length]; omega)⟩
      · have hp : isPageB (z i) = false := by simpa using hp
        have he := claimE_far (q := 262144) (pg := pg) hp
        have hcl := claim_no HK.ar (z i) hwf (by rw [he]; decide)
        have hb : blk pg (z i) = none := by
          cases hb : blk pg (z i) with
          | none => rfl
          | some bb =>
            have := HK.ar.rng _ (blk_mem hb)
            simp [isPageB] at hp
            simp at this
            omega
        rw [he] at hcl
        rw [hb] at his
        have hpr : z i < 0 ∨ 1048575 < z i := by
          simp [isPageB] at hp
          omega
        clear he hb hp
        rcases hpr with hpr | hpr
        · go_wp2_with (go_at_call 16; refine his.mono ?_; rintro e w' ⟨rfl, rfl⟩)
          refine hcl.mono ?_
          rintro e w' ⟨rfl, nq, rfl⟩
          go_wp2
          go_roundg (len - (i + 1))
          case measure => omega
          case rel => exact ⟨i + 1, pg, W, by omega, by go_num, rfl, HK.step (HK.ar.drewN nq) (Step.drewN _ _ _ _ _) (by omega)⟩
        · go_wp2_with (go_at_call 16; refine his.mono ?_; rintro e w' ⟨rfl, rfl⟩)
          refine hcl.mono ?_
          rintro e w' ⟨rfl, nq, rfl⟩
          go_wp2
          go_roundg (len - (i + 1))
          case measure => omega
          case rel => exact ⟨i + 1, pg, W, by omega, by go_num, rfl, HK.step (HK.ar.drewN nq) (Step.drewN _ _ _ _ _) (by omega)⟩
    · have hpi := HK.le
      have hg : grantE 262144 pg n = 0 := by
        have : ((pg.length : Int) + n) * 64 ≤ 262144 := by omega
        simp [grantE, isCountB, hn1, this]
        omega
      have hgr := grant_ok HK.ar n hg
      clear ha1 hb1 hge1 hg
      go_wp2_with fail
      refine hgr.mono ?_
      rintro e w2 (⟨r, rfl, hl, pg2, hadd, ha2, hs2⟩ | ⟨rfl, hno, nq, rfl⟩)
      rotate_left
      · exact absurd hno (not_nowhere hn1 (by
          have : n * ((pg.length : Int) + 1) ≤ 30 * 31 := Int.mul_le_mul hn2 (by omega) (by omega) (by omega)
          omega))
      have hlo := hl.lo
      have hhi := hl.hi
      have hlen2 := hadd.len
      have HK2 : Kept w w2 pg2 W pg2.length := HK.step ha2 hs2 (Nat.le_refl _)
      have HR : Aside (∀ k, r ≤ k → k < r + n → readE pg2 (k * 64) = 0 ∧ readV pg2 W (k * 64) = 0) := fun k h1 h2 => by
        have e1 : readE pg2 (k * 64) = 0 := by
          simp only [readE]
          rw [if_pos (by simp [isSpanB]; omega), show (k * 64) / 64 = k from by omega, hadd.new k h1 h2]
          rfl
        refine ⟨e1, ?_⟩
        rw [readV, if_pos e1]
        exact HK.ar.z _ (by rw [show (k * 64) / 64 = k from by omega]; exact hl.run k h1 h2)
      have hfin : ((pg2.length : Int) == (pg.length : Int) + n) = true := by rw [beq_iff_eq]; omega
      have HFN : Aside _ := hfin
      clear hgr hfin hlen2
      go_wp2
      go_loopg [16, 17, 18] n.toNat (fun g t _ _ wx => ∃ k : Int, r ≤ k ∧ k + g = r + n ∧ t = .int .i64 k ∧ w2 = wx)
      case atStart => exact ⟨r, by omega, by omega, rfl, rfl⟩
      case round =>
        obtain ⟨k, hk1, hkg, rfl, rfl⟩ := hrel
        by_cases hkn : k < r + n
        · obtain ⟨r1, r2⟩ := HR.out k hk1 hkn
          have hrd := read_any ha2 (k * 64)
          rw [r1, r2] at hrd
          clear r1 r2
          go_wp2_with (go_at_call 18; refine hrd.mono ?_; rintro e w' ⟨rfl, rfl⟩)
          go_roundg (r + n - (k + 1)).toNat
          case measure => omega
          case rel => exact ⟨k + 1, by omega, by omega, by go_num, rfl⟩
        · have hpg := hpages _ _ _ _ _ _ ha2
          have hfin := HFN.out
          go_wp2_with fail
          refine hpg.mono ?_
          rintro e w3 ⟨a3, cap3, rfl, hb3, -⟩
          have haw := awake_any w3
          have HB : Aside (Below w.heap.size w w3) := HK2.bel.trans (hb3.mono HK2.bel.size)
          go_wp2_with (go_at_call 8; refine haw.mono ?_; rintro e w4 ⟨rfl, hb4⟩)
          go_ret
          exact ⟨rfl, HB.out.trans (hb4.mono HB.out.size)⟩


set_option maxRecDepth 100000 in
theorem claims_any (hpages : PagesSaid) (a0 : Option Addr) (b off len cap : Nat) (z : Nat → Int) (n : Int) (w : World) (hN : Nums w a0 b off len cap z) (hmax : len ≤ maxLen) :
    Calls Try.prog 7 #[.slice a0 len cap, .int .i64 n] w fun e w' => e = .returned (.bool true) ∧ Below w.heap.size w w' := by
  have haw := awake_any w
  unfold maxLen at hmax
  by_cases hl : 30 < len
  · go_enter Try.func7, Try.ntmps7
    go_wp2_with (go_at_call 8; refine haw.mono ?_; rintro e w' ⟨rfl, hb⟩)
    go_ret
    exact ⟨rfl, hb⟩
  by_cases h1 : n < 1
  · go_enter Try.func7, Try.ntmps7
    go_wp2_with (go_at_call 8; refine haw.mono ?_; rintro e w' ⟨rfl, hb⟩)
    go_ret
    exact ⟨rfl, hb⟩
  by_cases h2 : 30 < n
  · go_enter Try.func7, Try.ntmps7
    go_wp2_with (go_at_call 8; refine haw.mono ?_; rintro e w' ⟨rfl, hb⟩)
    go_ret
    exact ⟨rfl, hb⟩
  exact claims_main hpages a0 b off len cap z n w hN (by omega) (by omega) (by omega)

end Sl
end Go.Proofs.Ytclbaepgodeoiaa
