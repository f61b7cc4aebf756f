/-
  The walk of the statement on least runs.
-/
import Derived.Test.YtclbaepgodeoiaaOps
namespace Go.Proofs.Ytclbaepgodeoiaa
open Go.RowKit Go.Maps
namespace Sl
variable {w : World} {bs bm : Nat} {q : Int} {pg : List (Int × Nat)} {W : Int → Int}

/-- What a loop over a script keeps of its arena: its blocks are new since B, and nothing below B has turned. -/
structure Holds (B : Nat) (w wx : World) (bs bm : Nat) (q : Int) (pg : List (Int × Nat)) (W : Int → Int) : Prop where
  ar : Arena wx bs bm q pg W
  bel : Below B w wx
  ge : ∀ k, foot bs bm pg k → B ≤ k
  sz : B ≤ wx.heap.size

theorem Holds.step {B : Nat} {w wx w2 : World} {pg2 : List (Int × Nat)} {W2 : Int → Int} (h : Holds B w wx bs bm q pg W) (ha : Arena w2 bs bm q pg2 W2) (hs : Step bs bm pg pg2 wx w2) : Holds B w w2 bs bm q pg2 W2 :=
  ⟨ha, h.bel.trans (hs.below h.sz h.ge), hs.foot_ge h.sz h.ge, Nat.le_trans h.sz hs.size⟩

/-- New blocks alone. -/
theorem Holds.grow {B : Nat} {w wx w2 : World} (h : Holds B w wx bs bm q pg W) (hb : Below wx.heap.size wx w2) : Holds B w w2 bs bm q pg W :=
  ⟨h.ar.stays fun k hk => hb.block k (h.ar.foot_lt hk), h.bel.trans (hb.mono h.sz), h.ge, Nat.le_trans h.sz hb.size⟩

theorem Step.cell {pg2 : List (Int × Nat)} {w2 : World} (hs : Step bs bm pg pg2 w w2) {b o : Nat} (hlt : b < w.heap.size) (hf : ¬ foot bs bm pg b) : w2.cell? ⟨b, o, none⟩ = w.cell? ⟨b, o, none⟩ :=
  World.cell?_of_block (w := w) (hs.kept b hlt hf)

theorem release_both (h : Arena w bs bm q pg W) (p n : Int) :
    Calls Try.prog 20 #[.pointer (some ⟨bs, 0, none⟩), .int .i64 p, .int .i64 n] w fun e w' => e = .returned (.int .i64 (relE pg p n)) ∧ ∃ pg' W', Arena w' bs bm q pg' W' ∧ Step bs bm pg pg' w w' := by
  by_cases he : relE pg p n = 0
  · refine (release_ok h p n he).mono ?_
    rintro e w' ⟨rfl, pg', _, ha, hs⟩
    exact ⟨by rw [he], pg', _, ha, hs⟩
  · refine (release_no h p n he).mono ?_
    rintro e w' ⟨rfl, rfl⟩
    exact ⟨rfl, pg, W, h, Step.refl _ _ _ _⟩

/-- The block of a call that a loop holds. -/
def opBlk (o : Opv) : Obj := .cells #[.int .i64 o.d, .int .i64 o.a, .int .i64 o.b, .int .i64 o.n, .int .u64 o.x] 37

/-- What Grant leaves, where it was refused. -/
theorem grantE_3 {n : Int} (h : grantE q pg n = 3) : 1 ≤ n ∧ n ≤ 4096 ∧ q < ((pg.length : Int) + n) * 64 := by
  unfold grantE at h
  split at h
  · cases h
  · rename_i h1
    split at h
    · cases h
    · rename_i h2
      simp [isCountB] at h1
      omega

theorem grantE_cases (q : Int) (pg : List (Int × Nat)) (n : Int) : grantE q pg n = 0 ∨ grantE q pg n = 2 ∨ grantE q pg n = 3 := by
  unfold grantE
  split
  · exact Or.inr (Or.inl rfl)
  · split
    · exact Or.inl rfl
    · exact Or.inr (Or.inr rfl)

theorem grantE_0 {n : Int} (h : grantE q pg n = 0) : 1 ≤ n ∧ n ≤ 4096 ∧ ((pg.length : Int) + n) * 64 ≤ q := by
  unfold grantE at h
  split at h
  · cases h
  · rename_i h1
    split at h
    · rename_i h2
      simp [isCountB] at h1
      omega
    · cases h

set_option maxHeartbeats 4000000 in
set_option maxRecDepth 100000 in
theorem least_main (hpages : PagesSaid) (a0 : Option Addr) (b off len cap : Nat) (z : Nat → Opv) (qq : Int) (w : World) (hS : Script w a0 b off len cap z) (hlen : len ≤ 60) (hq1 : 0 ≤ qq) (hq2 : qq ≤ 2000) :
    Calls Try.prog 5 #[.int .i64 qq, .slice a0 len cap] w fun e w' => e = .returned (.bool true) ∧ Below w.heap.size w w' := by
  have hnew := new_ok qq w (by omega) (by omega)
  have HS : Aside (Script w a0 b off len cap z) := hS
  clear hS
  go_enter Try.func5, Try.ntmps5
  go_wp2_with fail
  refine hnew.mono ?_
  rintro e w1 ⟨rfl, ha1, hb1⟩
  have HK1 : Holds w.heap.size w w1 (w.heap.size + 1) w.heap.size qq [] (fun _ => 0) := ⟨ha1, hb1, fun k hk => by
    rcases hk with rfl | rfl | ⟨p, hp, rfl⟩
    · omega
    · omega
    · simp at hp, hb1.size⟩
  clear ha1 hb1
  go_wp2
  clear hnew
  go_loopg [7, 8, 9, 10, 11, 12, 13, 14, 15] len (fun g t7 _ _ _ _ _ _ _ _ wx => ∃ (i : Nat) (pg : List (Int × Nat)) (W : Int → Int), i + g = len ∧ t7 = .int .i64 i ∧ Holds w.heap.size w wx (w.heap.size + 1) w.heap.size qq pg W)
  case atStart => exact ⟨0, [], fun _ => 0, by omega, rfl, HK1⟩
  case round =>
    obtain ⟨i, pg, W, hig, rfl, HK⟩ := hrel
    clear HK1
    by_cases hlt : i < len
    · have hix := HS.out.ix i hlt
      have hbl := HS.out.lt (by omega)
      have hop := (HS.out.cell i hlt).stays HK.bel hbl
      have hok := HS.out.ok i
      obtain ⟨c0, c1, c2, c3, c4⟩ := hop
      generalize z i = o at *
      by_cases hd : o.d = 2
      · have hd' : (o.d == 2) = true := by simp [hd]
        clear hd
        have HK2 := HK.grow ((Below.refl _ _).alloc (Nat.le_refl _) (opBlk o))
        have hrl := release_both HK2.ar o.b o.a
        go_wp2_with fail
        refine hrl.mono ?_
        rintro e w2 ⟨rfl, pg2, W2, ha2, hs2⟩
        go_wp2
        go_roundg (len - (i + 1))
        case measure => omega
        case rel => exact ⟨i + 1, pg2, W2, by omega, by go_num, HK2.step ha2 hs2⟩
      · have hd' : (o.d == 2) = false := by simp [hd]
        clear hd
        have HK2 := HK.grow ((Below.refl _ _).alloc (Nat.le_refl _) (opBlk o))
        have hpg := hpages _ _ _ _ _ _ HK2.ar
        have hfull := HK.ar.full
        go_wp2_with fail
        refine hpg.mono ?_
        rintro e w2 ⟨a2, cap2, rfl, hb2, -⟩
        have HK3 := HK2.grow hb2
        have hbo : wr.heap.size < (wr.alloc (opBlk o)).heap.size := by simp
        have ho1 : w2.cell? ⟨wr.heap.size, 1, none⟩ = some (.int .i64 o.a) := (hb2.cell (p := ⟨wr.heap.size, 1, none⟩) hbo).trans (by simp [opBlk])
        have hfr := free_any HK3.ar o.a hok.a
        clear c0 c1 c2 c3 c4 hpg
        go_wp2_with fail
        refine hfr.mono ?_
        rintro e w3 ⟨f, rfl, hf, rfl⟩
        have hnf : ¬ foot (w.heap.size + 1) w.heap.size pg wr.heap.size := fun hk => by have := HK.ar.foot_lt hk; omega
        have hlt2 : wr.heap.size < w2.heap.size := Nat.lt_of_lt_of_le hbo hb2.size
        have HF : Aside _ := hf
        clear hf hfr
        rcases grantE_cases qq pg o.a with hg | hg | hg
        · obtain ⟨hn1, hn2, hn3⟩ := grantE_0 hg
          have hgr := grant_ok HK3.ar o.a hg
          clear hg
          go_wp2_with fail
          refine hgr.mono ?_
          rintro e w4 (⟨r, rfl, hl, pg4, hadd, ha4, hs4⟩ | ⟨rfl, hno, nq, rfl⟩)
          rotate_left
          · exact absurd hno (not_nowhere hn1 (by
              have : o.a * ((pg.length : Int) + 1) ≤ 31 * 32 := Int.mul_le_mul (by omega) (by omega) (by omega) (by omega)
              omega))
          have HK4 := HK3.step ha4 hs4
          have hfull4 := ha4.full
          have hlo := hl.lo
          have hhi := hl.hi
          have ho4 : w4.cell? ⟨wr.heap.size, 1, none⟩ = some (.int .i64 o.a) := (hs4.cell hlt2 hnf).trans ho1
          have hnf4 : ¬ foot (w.heap.size + 1) w.heap.size pg4 wr.heap.size := fun hk => by
            rcases hs4.inn _ hk with h1 | h1
            · exact hnf h1
            · omega
          have hlt4 : wr.heap.size < w4.heap.size := Nat.lt_of_lt_of_le hlt2 hs4.size
          have hpg := hpages _ _ _ _ _ _ ha4
          have HR : Aside (f = r) := free_unique (HF.out hn1 hn2) ⟨hlo, hl.run, hl.least⟩
          have HZ : Aside (∀ x, r * 64 ≤ x → x < (r + o.a) * 64 → readE pg4 x = 0 ∧ W x = 0) := fun x h1 h2 => by
            refine ⟨?_, HK3.ar.z x (hl.run _ (by omega) (by omega))⟩
            simp only [readE]
            rw [if_pos (by simp [isSpanB]; omega), hadd.new (x / 64) (by omega) (by omega)]
            rfl
          clear hgr hpg
          have hpg := hpages _ _ _ _ _ _ ha4
          go_wp2_with fail
          refine hpg.mono ?_
          rintro e w5 ⟨a5, cap5, rfl, hb5, -⟩
          have HK5 := HK4.grow hb5
          have ho5 : w5.cell? ⟨wr.heap.size, 1, none⟩ = some (.int .i64 o.a) := (hb5.cell (p := ⟨wr.heap.size, 1, none⟩) hlt4).trans ho4
          have hlt5 : wr.heap.size < w5.heap.size := Nat.lt_of_lt_of_le hlt4 hb5.size
          clear ho1 ho4 hpg
          have hrr := HR.out
          clear HR HF
          subst hrr
          go_wp2
          go_loopg [13, 14, 15] (o.a * 64).toNat (fun g t _ _ wx => ∃ (k : Int) (W5 : Int → Int), f * 64 ≤ k ∧ k + g = (f + o.a) * 64 ∧ t = .int .i64 k ∧ wx.cell? ⟨wr.heap.size, 1, none⟩ = some (.int .i64 o.a) ∧ wr.heap.size < wx.heap.size ∧ Holds w.heap.size w wx (w.heap.size + 1) w.heap.size qq pg4 W5 ∧ Aside (∀ x, k ≤ x → W5 x = W x))
          case atStart => exact ⟨f * 64, W, by omega, by omega, rfl, ho5, hlt5, HK5, fun _ _ => rfl⟩
          case round =>
            obtain ⟨k, W5, hk1, hkg, rfl, hox, hltx, HKx, HWx⟩ := hrel
            by_cases hkn : k < (f + o.a) * 64
            · obtain ⟨r1, r2⟩ := HZ.out k hk1 hkn
              have r3 : readV pg4 W5 k = 0 := by rw [readV, if_pos r1, HWx.out k (Int.le_refl _), r2]
              have hrd := read_any HKx.ar k
              rw [r1, r3] at hrd
              have hwr := write_ok HKx.ar k 99 r1 (WalkArith.wf_u64 (by omega))
              clear r1 r2 r3 ho5 HK5 hb5
              go_wp2_with (go_at_call 18; refine hrd.mono ?_; rintro e w' ⟨rfl, rfl⟩)
              refine hwr.mono ?_
              rintro e w6 ⟨rfl, ha6, hs6⟩
              have ho6 := (hs6.cell (o := 1) hltx hnf4).trans hox
              go_wp2
              go_roundg ((f + o.a) * 64 - (k + 1)).toNat
              case measure => omega
              case rel =>
                refine ⟨k + 1, upd W5 k 99, by omega, by omega, by go_num, ho6, Nat.lt_of_lt_of_le hltx hs6.size, HKx.step ha6 hs6, fun x hx => ?_⟩
                simp only [upd]
                rw [if_neg (by omega)]
                exact HWx.out x (by omega)
            · clear ho5 HK5 hb5
              go_wp2
              go_roundg (len - (i + 1))
              case measure => omega
              case rel => exact ⟨i + 1, pg4, W5, by omega, by go_num, HKx⟩
        · have hgr := grant_no HK3.ar o.a (by rw [hg]; decide)
          rw [hg] at hgr
          clear hg
          go_wp2_with fail
          refine hgr.mono ?_
          rintro e w4 ⟨rfl, nq, rfl⟩
          have HK4 := HK3.step (HK3.ar.drewN nq) (Step.drewN _ _ _ _ nq)
          have hpg := hpages _ _ _ _ _ _ HK4.ar
          go_wp2_with fail
          refine hpg.mono ?_
          rintro e w5 ⟨a5, cap5, rfl, hb5, -⟩
          have HK5 := HK4.grow hb5
          have hpg := hpages _ _ _ _ _ _ HK5.ar
          go_wp2_with fail
          refine hpg.mono ?_
          rintro e w6 ⟨a6, cap6, rfl, hb6, -⟩
          have HK6 := HK5.grow hb6
          go_wp2
          go_roundg (len - (i + 1))
          case measure => omega
          case rel => exact ⟨i + 1, pg, W, by omega, by go_num, HK6⟩
        · obtain ⟨hn1, hn2, hn3⟩ := grantE_3 hg
          have hgr := grant_no HK3.ar o.a (by rw [hg]; decide)
          rw [hg] at hgr
          clear hg
          go_wp2_with fail
          refine hgr.mono ?_
          rintro e w4 ⟨rfl, nq, rfl⟩
          have HK4 := HK3.step (HK3.ar.drewN nq) (Step.drewN _ _ _ _ nq)
          have hpg := hpages _ _ _ _ _ _ HK4.ar
          go_wp2_with fail
          refine hpg.mono ?_
          rintro e w5 ⟨a5, cap5, rfl, hb5, -⟩
          have HK5 := HK4.grow hb5
          have ho5 : w5.cell? ⟨wr.heap.size, 1, none⟩ = some (.int .i64 o.a) := (hb5.cell (p := ⟨wr.heap.size, 1, none⟩) hlt2).trans ho1
          have hpg := hpages _ _ _ _ _ _ HK5.ar
          go_wp2_with fail
          refine hpg.mono ?_
          rintro e w6 ⟨a6, cap6, rfl, hb6, -⟩
          have HK6 := HK5.grow hb6
          go_wp2
          go_roundg (len - (i + 1))
          case measure => omega
          case rel => exact ⟨i + 1, pg, W, by omega, by go_num, HK6⟩
    · have haw := awake_any wr
      go_wp2_with (go_at_call 8; refine haw.mono ?_; rintro e w' ⟨rfl, hb⟩)
      go_ret
      exact ⟨rfl, HK.bel.trans (hb.mono HK.sz)⟩


set_option maxRecDepth 100000 in
theorem least_any (hpages : PagesSaid) (a0 : Option Addr) (b off len cap : Nat) (z : Nat → Opv) (qq : Int) (w : World) (hS : Script w a0 b off len cap z) (hmax : len ≤ maxLen) :
    Calls Try.prog 5 #[.int .i64 qq, .slice a0 len cap] w fun e w' => e = .returned (.bool true) ∧ Below w.heap.size w w' := by
  have haw := awake_any w
  unfold maxLen at hmax
  by_cases h1 : qq < 0
  · go_enter Try.func5, Try.ntmps5
    go_wp2_with (go_at_call 8; refine haw.mono ?_; rintro e w' ⟨rfl, hb⟩)
    go_ret
    exact ⟨rfl, hb⟩
  by_cases h2 : 2000 < qq
  · go_enter Try.func5, Try.ntmps5
    go_wp2_with (go_at_call 8; refine haw.mono ?_; rintro e w' ⟨rfl, hb⟩)
    go_ret
    exact ⟨rfl, hb⟩
  by_cases hl : 60 < len
  · go_enter Try.func5, Try.ntmps5
    go_wp2_with (go_at_call 8; refine haw.mono ?_; rintro e w' ⟨rfl, hb⟩)
    go_ret
    exact ⟨rfl, hb⟩
  exact least_main hpages a0 b off len cap z qq w hS (by omega) (by omega) (by omega)

end Sl
end Go.Proofs.Ytclbaepgodeoiaa
