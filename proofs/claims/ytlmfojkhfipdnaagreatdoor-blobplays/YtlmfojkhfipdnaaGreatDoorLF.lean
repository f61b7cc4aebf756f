/-
  BlobPlays: the walk.
-/
import Derived.Test.YtlmfojkhfipdnaaGreatDoorLE
import Derived.Test.YtlmfojkhfipdnaaGreatDoorLC
import Derived.Test.YtlmfojkhfipdnaaGreatDoorR5
namespace Go.Proofs.YtlmfojkhfipdnaaGreatDoor
open Go.RowKit Go.Maps
attribute [local go_sem ↓] Go.wp_at_zero Go.wp_at_succ
namespace Bb
open Hp (Kept K No)
open Hd (U64)
open Go.Proofs.YtlmfojkhfipdnaaGreatDoor.So (Ad Rn sp)
open Go.Proofs.YtlmfojkhfipdnaaGreatDoor.Rs (rp Pl Sr Rl Tn)
variable {w0 w1 w2 w w' : World} {A : Ad} {br c n cc : Nat} {aa : Option Addr} {hs : List Int} {q m z : Int} {v : Value}

theorem Mq.start (rn : Rn w0 w1 A [] (fun _ => 0) [] v []) (hq : A.q = q) (hm : A.m = m) (hz : A.z = z) (q4 : q ≤ 4000) (m0 : 1 ≤ m) (m1 : m ≤ 65536) (z0 : 1 ≤ z) (z1 : z ≤ 4294967295) (k : K w1 w2) : Mq w0 (w2.alloc (.cells #[.int .i64 q, .slice none 0 0, .int .i64 m, .int .u32 z, .slice none 0 0, .slice none 0 0] 37)) A w2.heap.size 0 none 0 0 [] := by
  subst hq hm hz
  have rn2 := rn.keep (k.alloc (.cells #[.int .i64 A.q, .slice none 0 0, .int .i64 A.m, .int .u32 A.z, .slice none 0 0, .slice none 0 0] 37))
  have hsz : w0.heap.size ≤ w2.heap.size := (rn.keep k).k.size
  exact ⟨⟨_, _, _, _, _, [], [], [], ⟨⟨rn2, Sr.new w2 m0 m1 z0 z1 hsz (Tn.refl _ _)⟩, rfl, fun r hr => absurd hr List.not_mem_nil, ⟨rfl, fun c hc => absurd hc List.not_mem_nil, List.Pairwise.nil, fun x hx => by simp [Hd.findL] at hx⟩, q4⟩, Nat.le_refl _⟩, World.ownsRow_nil _ _ _ _, rfl, fun y hy => absurd hy List.not_mem_nil⟩

set_option maxRecDepth 100000 in
set_option maxHeartbeats 2000000 in
theorem plays_out (q m : Int) (a0 : Option Addr) (len cap : Nat) (w : World) (hT : Bt.Tab w) (h : q < 0 ∨ 0 ≤ q ∧ (4000 < q ∨ q ≤ 4000 ∧ (m < 1 ∨ 1 ≤ m ∧ (1000 < m ∨ m ≤ 1000 ∧ 50 < len)))) : Calls Tryz.prog 3 #[.int .i64 q, .int .i64 m, .slice a0 len cap] w fun e w' => e = .returned (.bool true) ∧ K w w' := by
  have ca := awake_any w hT
  rcases h with h | ⟨h0, h | ⟨h1, h | ⟨h2, h | ⟨h3, h⟩⟩⟩⟩
  all_goals
    go_enter Tryz.func3, Tryz.ntmps3
    go_wp2_with (go_at_call 4; refine ca.mono ?_; rintro e w1 ⟨rfl, k1⟩)
    go_ret
    exact ⟨rfl, k1⟩

set_option maxRecDepth 100000 in
set_option maxHeartbeats 4000000 in
theorem plays_main (q m : Int) (a0 : Option Addr) (b off len cap : Nat) (oo : Nat → Opb) (w : World) (hT : Bt.Tab w) (hS : Scriptb w a0 b off len cap oo) (q0 : 0 ≤ q) (q1 : q ≤ 4000) (m0 : 1 ≤ m) (m1 : m ≤ 1000) (hlen : len ≤ 50) : Calls Tryz.prog 3 #[.int .i64 q, .int .i64 m, .slice a0 len cap] w fun e w' => e = .returned (.bool true) ∧ K w w' := by
  have cn := Rn.new q m 4294967295 w hT q0 (by omega) m0 (by omega) (by decide) (by decide)
  have hz0 : Aside (0 < w.heap.size) := Hp.lt0 hT
  have ca : Aside (∀ w1, K w w1 → Calls Tryz.prog 4 #[] w1 fun e w' => e = .returned (.bool true) ∧ K w w') := fun w1 k => (awake_any w1 (hT.keep ⟨k.below⟩)).mono fun e w2 h => ⟨h.1, k.trans h.2⟩
  have HS : Aside _ := hS
  have hd1 : decide (q < (0 : Int)) = false := decide_eq_false (by omega)
  have hd2 : decide ((4000 : Int) < q) = false := decide_eq_false (by omega)
  have hd3 : decide (m < (1 : Int)) = false := decide_eq_false (by omega)
  have hd4 : decide ((1000 : Int) < m) = false := decide_eq_false (by omega)
  have hd5 : decide ((50 : Int) < (len : Int)) = false := decide_eq_false (by omega)
  have QM : Aside (0 ≤ q ∧ q ≤ 4000 ∧ 1 ≤ m ∧ m ≤ 1000) := ⟨q0, q1, m0, m1⟩
  have cr : Aside (∀ V, Calls Tryz.prog 6 #[.int .i64 q, .int .i64 m, .int .u32 4294967295] V fun e w' => e = .returned (.tuple #[.agg #[.int .i64 q, .slice none 0 0, .int .i64 m, .int .u32 4294967295, .slice none 0 0, .slice none 0 0], .int .i64 0]) ∧ K V w') := fun V => Rs.rNew_ok V q0 (by omega) m0 (by omega) (by decide) (by decide)
  clear hS hT q0 q1 m0 m1
  go_enter Tryz.func3, Tryz.ntmps3
  go_wp2_with fail
  refine cn.mono ?_
  rintro e w1 ⟨A, v, rfl, HR, k1⟩
  have HRA : Aside _ := HR.out
  clear cn HR k1
  go_wp2_with fail
  refine (cr.out _).mono ?_
  rintro e w2 ⟨rfl, k2⟩
  have M0 : Aside (Mq w (w2.alloc (.cells #[.int .i64 q, .slice none 0 0, .int .i64 m, .int .u32 4294967295, .slice none 0 0, .slice none 0 0] 37)) A w2.heap.size 0 none 0 0 []) := Mq.start HRA.out.1 HRA.out.2.1 HRA.out.2.2.1 HRA.out.2.2.2.1 QM.out.2.1 QM.out.2.2.1 (by have := QM.out.2.2.2; omega) (by decide) (by decide) k2
  clear cr HRA k2 QM
  go_wp2_with fail
  generalize w2.alloc (.cells #[.int .i64 q, .slice none 0 0, .int .i64 m, .int .u32 4294967295, .slice none 0 0, .slice none 0 0] 37) = W at *
  generalize w2.heap.size = br at *
  go_loopg [11, 12] len (fun gh t11 t12 wx => ∃ (i n : Nat) (aa : Option Addr) (cc : Nat) (hs : List Int), i + gh = len ∧ t12 = .int .i64 i ∧ t11 = .slice aa n cc ∧ n ≤ i ∧ Aside (Mq w wx A br i aa n cc hs))
  case atStart => exact ⟨0, 0, none, 0, [], by omega, rfl, rfl, Nat.le_refl _, M0⟩
  case round =>
    obtain ⟨i, n, aa, cc, hs, hig, rfl, rfl, hni, HO⟩ := hrel
    clear M0
    by_cases hlt : i < len
    · have hix := HS.out.ix i hlt
      obtain ⟨o0, o1, o2, o3, o4⟩ := (HS.out.cell i hlt).keep HO.out.k
      have cp := play_any HO.out hz0.out (by omega) (by omega) (oo i) (HS.out.ok i)
      have cx := ca.out _ HO.out.k
      have hs64 := (HS.out.ok i).s
      unfold maxLen at hs64
      by_cases hbig : 2000 < (oo i).s.size
      · have hd6 : decide ((2000 : Int) < ((oo i).s.size : Int)) = true := decide_eq_true (by omega)
        clear HO cp
        go_wp2_with fail
        refine cx.mono ?_
        rintro e w4 ⟨rfl, k4⟩
        go_wp2_with fail
        go_ret
        exact ⟨rfl, k4⟩
      have hd6 : decide ((2000 : Int) < ((oo i).s.size : Int)) = false := decide_eq_false (by omega)
      clear HO cx hbig
      go_wp2_with fail
      refine cp.mono ?_
      rintro e w4 ⟨aa4, n4, cc4, hs4, rfl, hn4, HM4⟩
      clear cp o0 o1 o2 o3 o4 hix hd6
      go_wp2_with fail
      go_roundg (len - (i + 1))
      case measure => omega
      case rel => exact ⟨i + 1, n4, aa4, cc4, hs4, by omega, by go_num, rfl, by omega, HM4⟩
    · obtain rfl : i = len := by omega
      obtain ⟨pg, W', L, v', T, E, R, C, P, _⟩ := HO.out.p
      have cu := So.audit_ok P.m.rn.s
      have KO : Aside _ := HO.out.k
      clear HO P
      go_wp2_with fail
      refine cu.mono ?_
      rintro e w5 ⟨rfl, k5⟩
      have cx := ca.out _ (Hp.K.trans KO.out k5)
      clear cu k5
      go_wp2_with fail
      refine cx.mono ?_
      rintro e w6 ⟨rfl, k6⟩
      go_wp2_with fail
      go_ret
      exact ⟨rfl, k6⟩

theorem plays_walk (w : World) (q : Int) (_ : Hp.In64 q) (m : Int) (_ : Hp.In64 m) (a0 : Option Addr) (b off len cap : Nat) (oo : Nat → Opb) (hS : Scriptb w a0 b off len cap oo) (_ : len ≤ maxLen) (hT : Bt.Tab w) : Calls Tryz.prog 3 #[.int .i64 q, .int .i64 m, .slice a0 len cap] w fun e w' => e = .returned (.bool true) ∧ K w w' := by
  by_cases h : q < 0 ∨ 0 ≤ q ∧ (4000 < q ∨ q ≤ 4000 ∧ (m < 1 ∨ 1 ≤ m ∧ (1000 < m ∨ m ≤ 1000 ∧ 50 < len)))
  · exact plays_out q m a0 len cap w hT h
  · exact plays_main q m a0 b off len cap oo w hT hS (by omega) (by omega) (by omega) (by omega) (by omega)

end Bb
end Go.Proofs.YtlmfojkhfipdnaaGreatDoor
