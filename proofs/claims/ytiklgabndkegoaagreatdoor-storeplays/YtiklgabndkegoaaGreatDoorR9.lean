/-
  New, refused: the store's, the reference's.
-/
import Derived.Test.YtiklgabndkegoaaGreatDoorR5
import Derived.Test.YtiklgabndkegoaaGreatDoorE3
import Derived.Test.YtiklgabndkegoaaGreatDoorR8
namespace Go.Proofs.YtiklgabndkegoaaGreatDoor
open Go.RowKit Go.Maps
attribute [local go_sem ↓] Go.wp_at_zero Go.wp_at_succ
namespace Rs
open Hp (Kept K No)
variable {w w' : World} {q m z : Int}

set_option maxRecDepth 100000 in
set_option maxHeartbeats 2000000 in
theorem of_no (q m z : Int) (w : World) (h : q < 0 ∨ 262144 < q ∨ 0 ≤ q ∧ q ≤ 262144 ∧ Hd.badNew m z) :
    Calls Tryz.prog 15 #[.agg #[.int .i64 q, .int .i64 m, .int .u32 z, .slice none 0 0, .slice none 0 0]] w fun e w' => e = .returned (.tuple #[.pointer none, .int .i64 2]) ∧ K w w' := by
  obtain ⟨w1, hw1⟩ : ∃ w1, w1 = w.alloc (.cells #[.int .i64 q, .int .i64 m, .int .u32 z, .slice none 0 0, .slice none 0 0] 65) := ⟨_, rfl⟩
  have k1 : K w w1 := by rw [hw1]; exact (K.refl w).alloc _
  have hb1 : w1.heap[w.heap.size]? = some (.cells #[.int .i64 q, .int .i64 m, .int .u32 z, .slice none 0 0, .slice none 0 0] 65) := by rw [hw1]; exact World.alloc_heap_new _ _
  have cs : ∀ w2, K w1 w2 → w2.cell? ⟨w.heap.size, 0, none⟩ = some (.int .i64 q) ∧ w2.cell? ⟨w.heap.size, 1, none⟩ = some (.int .i64 m) ∧ w2.cell? ⟨w.heap.size, 2, none⟩ = some (.int .u32 z) := fun w2 k2 => by
    have := k2.block hb1
    exact ⟨by simp [World.cell?, this], by simp [World.cell?, this], by simp [World.cell?, this]⟩
  have CS : Aside _ := cs
  obtain ⟨x0, x1, x2⟩ := cs w1 (K.refl _)
  clear cs
  by_cases hq : q < 0 ∨ 262144 < q
  · have sn := Sl.new_arg q w1 hq
    clear h hb1
    go_enter Tryz.func15, Tryz.ntmps15
    go_wp2_with fail
    rw [← hw1]
    refine sn.mono ?_
    rintro e w2 ⟨rfl, b2⟩
    go_wp2
    go_ret2
    exact ⟨rfl, k1.trans (by first | exact b2 | exact Hp.K.of_below b2 | (subst b2; exact K.refl _))⟩
  · have hb : Hd.badNew m z := by
      rcases h with h | h | h
      · exact absurd (.inl h) hq
      · exact absurd (.inr h) hq
      · exact h.2.2
    have sn := Sl.new_ok q w1 (by omega) (by omega)
    clear h hb1
    go_enter Tryz.func15, Tryz.ntmps15
    go_wp2_with fail
    rw [← hw1]
    refine sn.mono ?_
    rintro e w2 ⟨rfl, a2, b2⟩
    have k2 := Hp.K.of_below b2
    have tn := Hd.new_no m z w2 hb
    clear x0 x1 x2 hw1 sn a2 b2
    obtain ⟨x0, x1, x2⟩ := CS.out w2 k2
    have k12 : Aside (K w w2) := k1.trans k2
    go_wp2_with fail
    refine tn.mono ?_
    rintro e w3 ⟨rfl, rfl⟩
    go_wp2
    go_ret2
    exact ⟨rfl, k12.out⟩

theorem new_no (q m z : Int) (w : World) (h : q < 0 ∨ 262144 < q ∨ 0 ≤ q ∧ q ≤ 262144 ∧ Hd.badNew m z) :
    Calls Tryz.prog 5 #[.int .i64 q, .int .i64 m, .int .u32 z] w fun e w' => e = .returned (.tuple #[.pointer none, .int .i64 2]) ∧ K w w' := by
  have on := of_no q m z w h
  clear h
  go_enter Tryz.func5, Tryz.ntmps5
  go_wp2_with fail
  refine on.mono ?_
  rintro e w1 ⟨rfl, k1⟩
  go_wp2
  go_ret2
  exact ⟨rfl, k1⟩

set_option maxRecDepth 100000 in
set_option maxHeartbeats 2000000 in
theorem rNew_no (w : World) (z0 : 0 ≤ z) (h : q < 0 ∨ 262144 < q ∨ 0 ≤ q ∧ q ≤ 262144 ∧ Hd.badNew m z) : Calls Tryz.prog 6 #[.int .i64 q, .int .i64 m, .int .u32 z] w fun e w' => e = .returned (.tuple #[.agg #[.int .i64 0, .slice none 0 0, .int .i64 0, .int .u32 0, .slice none 0 0, .slice none 0 0], .int .i64 2]) ∧ K w w' := by
  by_cases hq1 : q < 0
  · clear h
    go_enter Tryz.func6, Tryz.ntmps6
    go_wp2
    go_returns
    exact ⟨rfl, (K.refl _).alloc _⟩
  by_cases hq2 : 262144 < q
  · clear h
    go_enter Tryz.func6, Tryz.ntmps6
    go_wp2
    go_returns
    exact ⟨rfl, (K.refl _).alloc _⟩
  have hb : Hd.badNew m z := by
    rcases h with h | h | h
    · exact absurd h hq1
    · exact absurd h hq2
    · exact h.2.2
  have cn : Aside (∀ w1, Calls Tryz.prog 16 #[.int .i64 m, .int .u32 z] w1 fun e w' => e = .returned (.tuple #[.agg #[.int .i64 0, .int .u32 0, .slice none 0 0], .int .i64 2]) ∧ K w1 w') := fun w1 => Hd.rNew_no m z w1 hb z0
  have h1 : decide (q < 0) = false := decide_eq_false hq1
  have h2 : decide (262144 < q) = false := decide_eq_false hq2
  have BX : (w.alloc (.cells #[.int .i64 0, .slice none 0 0, .int .i64 0, .int .u32 0, .slice none 0 0, .slice none 0 0] 37)).heap[w.heap.size]? = some (.cells #[.int .i64 0, .slice none 0 0, .int .i64 0, .int .u32 0, .slice none 0 0, .slice none 0 0] 37) := World.alloc_heap_new _ _
  have BXA : Aside _ := BX
  clear h hb BX hq1 hq2
  go_enter Tryz.func6, Tryz.ntmps6
  go_wp2_with fail
  refine (cn.out _).mono ?_
  rintro e w1 ⟨rfl, k1⟩
  have K1 : Aside _ := k1
  have b1 : Aside _ := Hp.K.block k1 BXA.out
  have hlt : w.heap.size < w1.heap.size := (Array.getElem?_eq_some_iff.1 b1.out).1
  have HB : Aside (∀ V W, K w1 V → Kept (fun j => j = w.heap.size) V W → K w W) := fun V W k st => Hp.K.thenKept (Hp.K.trans ((K.refl w).alloc _) (Hp.K.trans K1.out k)) st (Nat.le_refl _)
  have BV : Aside (∀ V, K w1 V → V.heap[w.heap.size]? = some (.cells #[.int .i64 0, .slice none 0 0, .int .i64 0, .int .u32 0, .slice none 0 0, .slice none 0 0] 37)) := fun V k => Hp.K.block k b1.out
  clear k1 cn BXA K1 b1
  generalize w.heap.size = b at *
  go_wp2_with (with_reducible refine wrapS ?_)
  unfold Wrapd
  refine wpList_store_six (v0 := .int .i64 0) (v1 := .slice none 0 0) (v2 := .int .i64 0) (v3 := .int .u32 0) (v4 := .slice none 0 0) (v5 := .slice none 0 0) rfl (.tmp 6) (.tmp 25) rfl b (BV.out _ ((K.refl w1).alloc _)) rfl rfl (by simp [Value.oneCell']) ?_
  intro w5 b5 st5
  obtain ⟨d0, d1, d2, d3, d4, d5⟩ := six b5
  have KF : Aside _ := HB.out _ _ ((K.refl w1).alloc _) st5
  clear b5 st5
  go_wp2
  refine bodyPost_ret (v := .tuple #[.agg #[.int .i64 0, .slice none 0 0, .int .i64 0, .int .u32 0, .slice none 0 0, .slice none 0 0], .int .i64 2]) (by simp [results, Tryz.results6, go_sem, d0, d1, d2, d3, d4, d5]; try rfl) rfl ?_
  exact ⟨rfl, KF.out⟩

end Rs
end Go.Proofs.YtiklgabndkegoaaGreatDoor

/-
  StorePlays: the walk.
-/
namespace Go.Proofs.YtiklgabndkegoaaGreatDoor
open Go.RowKit Go.Maps
attribute [local go_sem ↓] Go.wp_at_zero Go.wp_at_succ
namespace Rs
open Hp (Kept K No)
open Hd (U64 findL)
open Go.Proofs.YtiklgabndkegoaaGreatDoor.So (Ad Rn sp Opv OpOk Script)
variable {w0 w1 w2 w w' : World} {A : Ad} {br c n cc : Nat} {aa : Option Addr} {hs : List Int} {q m z : Int} {v : Value} {T R : List Hd.Sl} {W : Int → Int} {C : List Rc}

theorem Mq.start (rn : Rn w0 w1 A [] (fun _ => 0) [] v []) (hq : A.q = q) (hm : A.m = m) (hz : A.z = z) (q4 : q ≤ 4000) (m0 : 1 ≤ m) (m1 : m ≤ 65536) (z0 : 1 ≤ z) (z1 : z ≤ 4294967295) (k : K w1 w2) : Mq w0 (w2.alloc (.cells #[.int .i64 q, .slice none 0 0, .int .i64 m, .int .u32 z, .slice none 0 0, .slice none 0 0] 37)) A w2.heap.size 0 none 0 0 [] := by
  subst hq hm hz
  have rn2 := rn.keep (k.alloc (.cells #[.int .i64 A.q, .slice none 0 0, .int .i64 A.m, .int .u32 A.z, .slice none 0 0, .slice none 0 0] 37))
  have hsz : w0.heap.size ≤ w2.heap.size := (rn.keep k).k.size
  exact ⟨⟨_, _, _, _, _, [], [], [], ⟨⟨rn2, Sr.new w2 m0 m1 z0 z1 hsz (Tn.refl _ _)⟩, rfl, fun r hr => absurd hr List.not_mem_nil, ⟨rfl, fun c hc => absurd hc List.not_mem_nil, List.Pairwise.nil, fun x hx => by simp [Hd.findL] at hx⟩, q4⟩, Nat.le_refl _⟩, World.ownsRow_nil _ _ _ _, rfl, fun y hy => absurd hy List.not_mem_nil⟩

theorem Rl.u64 (h : Rl T W R C) (wf : Hd.Wf m z T) {c : Rc} (hc : c ∈ C) : U64 c.h := by
  have hfd := (h.r c hc).1
  cases hf : findL T c.h with
  | none => rw [hf] at hfd; cases hfd
  | some i =>
    obtain ⟨s, hs, so, e1, e2⟩ := Hd.findL_some hf
    have hi := (List.getElem?_eq_some_iff.1 hs).1
    have hk := wf.ok s (List.mem_of_getElem? hs)
    have h1 := hk.lo
    have h2 := hk.hi
    have h3 := wf.z1
    have h4 := wf.len
    have h5 := wf.q1
    refine ⟨by omega, by omega⟩

/-- What play and same leave behind an operation of the script. -/
theorem Mq.seen (h : Mq w0 w A br c aa n cc hs) (hn : n ≤ 100) (x : Int) (x64 : -9223372036854775808 ≤ x) (x63 : x ≤ 9223372036854775807) :
    ∃ x0 x1 x2 x3 x4 x5 y, w.heap[br]? = some (.cells #[x0, x1, x2, x3, x4, x5] 37) ∧ (∀ V, K w V → Calls Tryz.prog 9 #[.slice aa n cc, .int .i64 x] V fun e w' => e = .returned (.int .u64 y) ∧ V = w') ∧ (∀ V, K w V → Calls Tryz.prog 8 #[sp A.st, .agg #[x0, x1, x2, x3, x4, x5], .int .u64 y] V fun e w' => e = .returned (.bool true) ∧ K V w') := by
  obtain ⟨pg, W, L, v, T, E, R, C, P, _⟩ := h.p
  obtain ⟨a1, c1, a2, c2, a3, c3, hb, vw⟩ := Sr.view P.m.sr
  exact ⟨_, _, _, _, _, _, nthH hs x, hb, fun V k => nth_any (h.keep k).r h.l (by omega) x x64 x63, fun V k => same_any (P.keep k) (vw.keep k) (nthH_u64 h.u x)⟩

/-- What is read at the end. -/
theorem Mq.words (h : Mq w0 w A br c aa n cc hs) : ∃ (C : List Rc) (x0 x1 x2 x3 x4 : Value) (a3 : Option Addr) (c3 g3 : Nat), w.heap[br]? = some (.cells #[x0, x1, x2, x3, x4, .slice a3 C.length c3] 37) ∧ Row w g3 a3 c3 C ∧ C.length ≤ 65536 ∧ ∀ (i : Nat) (c : Rc) (k : Nat), C[i]? = some c → k < c.ws.length → ∀ V, K w V → Calls Tryz.prog 10 #[sp A.st, .int .u64 c.h, .int .i64 (k : Int)] V fun e w' => e = .returned (.tuple #[.int .u64 (c.ws.getD k 0), .int .i64 0]) ∧ K V w' := by
  obtain ⟨pg, W, L, v, T, E, R, C, P, _⟩ := h.p
  obtain ⟨a1, c1, a2, c2, a3, c3, hb, g1, g2, g3, _, _, hr, _, _, few⟩ := Sr.view P.m.sr
  refine ⟨C, _, _, _, _, _, a3, c3, g3, hb, hr, few, fun i c k hc hk V kV => ?_⟩
  have hx := Rl.u64 P.rl P.m.rn.s.b.tb.wf (List.mem_of_getElem? hc)
  have hfd : fdR C c.h = (i : Int) := fdR_some hc rfl fun j t hj ht e => by
    have := P.rl.ix ht hc e
    omega
  have g := P.rl.get P.m.rn.s.r c.h (k : Int)
  rw [gtR_of hfd hc hk] at g
  have h1 := So.get_any (P.keep kV).m.rn.s c.h (k : Int) hx
  obtain ⟨g4, g5⟩ : c.ws.getD k 0 = So.gV T W c.h (k : Int) ∧ (0 : Int) = So.wE T W c.h (k : Int) := by simpa only [Prod.mk.injEq] using g
  rw [← g4, ← g5] at h1
  exact h1

set_option maxRecDepth 100000 in
set_option maxHeartbeats 2000000 in
theorem plays_out (q m z : Int) (a0 : Option Addr) (len cap : Nat) (w : World) (hT : Bt.Tab w) (hl63 : (len : Int) ≤ 9223372036854775807) (h : 4000 < q ∧ q ≤ 262144 ∨ ¬ (4000 < q ∧ q ≤ 262144) ∧ 60 < len) : Calls Tryz.prog 3 #[.int .i64 q, .int .i64 m, .int .u32 z, .slice a0 len cap] w fun e w' => e = .returned (.bool true) ∧ K w w' := by
  have ca := So.awake_any w hT
  rcases h with ⟨h1, h2⟩ | ⟨h1, h2⟩
  · go_enter Tryz.func3, Tryz.ntmps3
    go_wp2_with (go_at_call 4; refine ca.mono ?_; rintro e w1 ⟨rfl, k1⟩)
    go_ret
    exact ⟨rfl, k1⟩
  · by_cases h3 : 4000 < q
    · have h4 : 262144 < q := by omega
      clear h1
      go_enter Tryz.func3, Tryz.ntmps3
      go_wp2_with (go_at_call 4; refine ca.mono ?_; rintro e w1 ⟨rfl, k1⟩)
      go_ret
      exact ⟨rfl, k1⟩
    · clear h1
      go_enter Tryz.func3, Tryz.ntmps3
      go_wp2_with (go_at_call 4; refine ca.mono ?_; rintro e w1 ⟨rfl, k1⟩)
      go_ret
      exact ⟨rfl, k1⟩

set_option maxRecDepth 100000 in
set_option maxHeartbeats 4000000 in
theorem plays_bad (q m z : Int) (a0 : Option Addr) (len cap : Nat) (w : World) (hT : Bt.Tab w) (hlen : len ≤ 60) (hq : q ≤ 4000 ∨ 262144 < q) (zz : 0 ≤ z) (h : q < 0 ∨ 262144 < q ∨ 0 ≤ q ∧ q ≤ 262144 ∧ Hd.badNew m z) : Calls Tryz.prog 3 #[.int .i64 q, .int .i64 m, .int .u32 z, .slice a0 len cap] w fun e w' => e = .returned (.bool true) ∧ K w w' := by
  have ca : Aside (∀ w1, K w w1 → Calls Tryz.prog 4 #[] w1 fun e w' => e = .returned (.bool true) ∧ K w w') := fun w1 k => (So.awake_any w1 (hT.keep ⟨k.below⟩)).mono fun e w2 h => ⟨h.1, k.trans h.2⟩
  have hn := new_no q m z w h
  have hr : Aside (∀ V, _) := fun V => rNew_no V zz h
  have hg : decide ((4000 : Int) < q) = false ∨ decide ((4000 : Int) < q) = true ∧ decide (q ≤ (262144 : Int)) = false := by
    rcases hq with h | h
    · exact .inl (decide_eq_false (by omega))
    · exact .inr ⟨decide_eq_true (by omega), decide_eq_false (by omega)⟩
  have hd5 : decide ((60 : Int) < (len : Int)) = false := decide_eq_false (by omega)
  clear h hq zz hT
  rcases hg with hd1 | ⟨hd1, hd2⟩
  all_goals
    go_enter Tryz.func3, Tryz.ntmps3
    go_wp2_with fail
    refine hn.mono ?_
    rintro e w1 ⟨rfl, k1⟩
    have K1 : Aside _ := k1
    clear hn k1
    go_wp2_with fail
    refine (hr.out _).mono ?_
    rintro e w2 ⟨rfl, k2⟩
    have hb : (w2.alloc (.cells #[.int .i64 0, .slice none 0 0, .int .i64 0, .int .u32 0, .slice none 0 0, .slice none 0 0] 37)).heap[w2.heap.size]? = some (.cells #[.int .i64 0, .slice none 0 0, .int .i64 0, .int .u32 0, .slice none 0 0, .slice none 0 0] 37) := World.alloc_heap_new _ _
    obtain ⟨d0, d1, d2, d3, d4, d5⟩ := six hb
    have ha := ca.out _ (Hp.K.trans K1.out (Hp.K.trans k2 ((K.refl w2).alloc (.cells #[.int .i64 0, .slice none 0 0, .int .i64 0, .int .u32 0, .slice none 0 0, .slice none 0 0] 37))))
    clear hr k2 hb K1
    go_wp2_with fail
    generalize w2.alloc (.cells #[.int .i64 0, .slice none 0 0, .int .i64 0, .int .u32 0, .slice none 0 0, .slice none 0 0] 37) = WW at *
    generalize w2.heap.size = bb at *
    go_loopg [14] 0 (fun gh t wx => t = .int .i64 0 ∧ WW = wx)
    case atStart => exact ⟨rfl, rfl⟩
    case round =>
      obtain ⟨rfl, rfl⟩ := hrel
      by_cases h0 : 0 < len
      · go_wp2_with fail
        go_loopg [17] 0 (fun gh t wx => t = .int .i64 0 ∧ WW = wx)
        case atStart => exact ⟨rfl, rfl⟩
        case round =>
          obtain ⟨rfl, rfl⟩ := hrel
          go_wp2_with fail
          refine ha.mono ?_
          rintro e w3 ⟨rfl, k3⟩
          go_wp2_with fail
          go_ret
          exact ⟨rfl, k3⟩
      · obtain rfl : len = 0 := by omega
        go_wp2_with fail
        go_loopg [17] 0 (fun gh t wx => t = .int .i64 0 ∧ WW = wx)
        case atStart => exact ⟨rfl, rfl⟩
        case round =>
          obtain ⟨rfl, rfl⟩ := hrel
          go_wp2_with fail
          refine ha.mono ?_
          rintro e w3 ⟨rfl, k3⟩
          go_wp2_with fail
          go_ret
          exact ⟨rfl, k3⟩

set_option maxRecDepth 100000 in
set_option maxHeartbeats 4000000 in
theorem plays_main (q m z : Int) (a0 : Option Addr) (b off len cap : Nat) (oo : Nat → Opv) (w : World) (hT : Bt.Tab w) (hS : Script w a0 b off len cap oo) (q0 : 0 ≤ q) (q1 : q ≤ 4000) (m0 : 1 ≤ m) (m1 : m ≤ 65536) (z0 : 1 ≤ z) (z1 : z ≤ 4294967295) (hlen : len ≤ 60) : Calls Tryz.prog 3 #[.int .i64 q, .int .i64 m, .int .u32 z, .slice a0 len cap] w fun e w' => e = .returned (.bool true) ∧ K w w' := by
  have cn := Rn.new q m z w hT q0 (by omega) m0 (by omega) z0 z1
  have hz0 : Aside (0 < w.heap.size) := Hp.lt0 hT
  have ca : Aside (∀ w1, K w w1 → Calls Tryz.prog 4 #[] w1 fun e w' => e = .returned (.bool true) ∧ K w w') := fun w1 k => (So.awake_any w1 (hT.keep ⟨k.below⟩)).mono fun e w2 h => ⟨h.1, k.trans h.2⟩
  have HS : Aside _ := hS
  have hd1 : decide ((4000 : Int) < q) = false := decide_eq_false (by omega)
  have hd5 : decide ((60 : Int) < (len : Int)) = false := decide_eq_false (by omega)
  have QM : Aside (0 ≤ q ∧ q ≤ 4000 ∧ 1 ≤ m ∧ m ≤ 65536 ∧ 1 ≤ z ∧ z ≤ 4294967295) := ⟨q0, q1, m0, m1, z0, z1⟩
  have cr : Aside (∀ V, Calls Tryz.prog 6 #[.int .i64 q, .int .i64 m, .int .u32 z] V fun e w' => e = .returned (.tuple #[.agg #[.int .i64 q, .slice none 0 0, .int .i64 m, .int .u32 z, .slice none 0 0, .slice none 0 0], .int .i64 0]) ∧ K V w') := fun V => rNew_ok V q0 (by omega) m0 (by omega) z0 z1
  clear hS hT q0 q1 m0 m1 z0 z1
  go_enter Tryz.func3, Tryz.ntmps3
  go_wp2_with fail
  refine cn.mono ?_
  rintro e w1 ⟨A, v, rfl, HR, k1⟩
  have HRA : Aside _ := HR.out
  clear cn HR k1
  go_wp2_with fail
  refine (cr.out _).mono ?_
  rintro e w2 ⟨rfl, k2⟩
  have M0 : Aside (Mq w (w2.alloc (.cells #[.int .i64 q, .slice none 0 0, .int .i64 m, .int .u32 z, .slice none 0 0, .slice none 0 0] 37)) A w2.heap.size 0 none 0 0 []) := Mq.start HRA.out.1 HRA.out.2.1 HRA.out.2.2.1 HRA.out.2.2.2.1 QM.out.2.1 QM.out.2.2.1 QM.out.2.2.2.1 QM.out.2.2.2.2.1 QM.out.2.2.2.2.2 k2
  clear cr HRA k2 QM
  go_wp2_with fail
  generalize w2.alloc (.cells #[.int .i64 q, .slice none 0 0, .int .i64 m, .int .u32 z, .slice none 0 0, .slice none 0 0] 37) = W at *
  generalize w2.heap.size = br at *
  go_loopg [13, 14] len (fun gh t13 t14 wx => ∃ (i n : Nat) (aa : Option Addr) (cc : Nat) (hs : List Int), i + gh = len ∧ t14 = .int .i64 i ∧ t13 = .slice aa n cc ∧ n ≤ i ∧ Aside (Mq w wx A br i aa n cc hs))
  case atStart => exact ⟨0, 0, none, 0, [], by omega, rfl, rfl, Nat.le_refl _, M0⟩
  case round =>
    obtain ⟨i, n, aa, cc, hs, hig, rfl, rfl, hni, HO⟩ := hrel
    clear M0
    by_cases hlt : i < len
    · have hix := HS.out.ix i hlt
      obtain ⟨o0, o1, o2, o3⟩ := (HS.out.cell i hlt).keep HO.out.k
      have cp := play_any HO.out hz0.out (by omega) (by omega) (oo i) (HS.out.ok i)
      have hN := (HS.out.ok i).n
      clear HO
      go_wp2_with fail
      refine cp.mono ?_
      rintro e w4 ⟨aa4, n4, cc4, hs4, rfl, hn4, HM4⟩
      obtain ⟨x0, x1, x2, x3, x4, x5, y, hb, cnth, csame⟩ := HM4.out.seen (by omega) (oo i).n hN.1 hN.2
      have SIX : Aside (∀ V, K w4 V → (V.cell? ⟨br, 0, none⟩ = some x0 ∧ V.cell? ⟨br, 1, none⟩ = some x1 ∧ V.cell? ⟨br, 2, none⟩ = some x2 ∧ V.cell? ⟨br, 3, none⟩ = some x3 ∧ V.cell? ⟨br, 4, none⟩ = some x4 ∧ V.cell? ⟨br, 5, none⟩ = some x5) ∧ V.cell? ⟨b, off + i * 4 + 1, none⟩ = some (.int .i64 (oo i).n)) := fun V k => ⟨six (Hp.K.block k hb), ((HS.out.cell i hlt).keep (HM4.out.keep k).k).c1⟩
      have KD : Aside (K w4 w4.drew) := (K.refl w4).drew
      have CN : Aside _ := cnth
      have CS : Aside _ := csame
      clear cp o0 o1 o2 o3 hb cnth csame hN
      obtain ⟨⟨d0, d1, d2, d3, d4, d5⟩, d6⟩ := SIX.out _ (K.refl w4)
      go_wp2_with fail
      go_region_held3 (fun V => (V.cell? ⟨br, 0, none⟩ = some x0 ∧ V.cell? ⟨br, 1, none⟩ = some x1 ∧ V.cell? ⟨br, 2, none⟩ = some x2 ∧ V.cell? ⟨br, 3, none⟩ = some x3 ∧ V.cell? ⟨br, 4, none⟩ = some x4 ∧ V.cell? ⟨br, 5, none⟩ = some x5) ∧ V.cell? ⟨b, off + i * 4 + 1, none⟩ = some (.int .i64 (oo i).n))
        (first | exact HC | exact ⟨⟨d0, d1, d2, d3, d4, d5⟩, d6⟩ | go_keep)
        (first
          | (go_at_call 9; refine (CN.out _ KD.out).mono ?_; rintro e w6 ⟨rfl, rfl⟩; have HC := SIX.out _ KD.out)
          | (go_at_call 8; refine (CS.out _ KD.out).mono ?_; rintro e w7 ⟨rfl, k7⟩; have K7 := Hp.K.trans KD.out k7; have HC := SIX.out _ K7))
      have HM5 : Aside _ := HM4.out.keep K7
      clear d0 d1 d2 d3 d4 d5 d6 SIX CN CS HM4
      go_wp2_with fail
      go_roundg (len - (i + 1))
      case measure => omega
      case rel => exact ⟨i + 1, n4, aa4, cc4, hs4, by omega, by go_num, rfl, by omega, HM5⟩
    · obtain rfl : i = len := by omega
      rename World => w9
      obtain ⟨C, x0, x1, x2, x3, x4, a3, c3, g3, hb, hr, few, hget⟩ := HO.out.words
      have KO : Aside _ := HO.out.k
      have B5 : Aside (∀ V, K w9 V → V.cell? ⟨br, 5, none⟩ = some (.slice a3 C.length c3)) := fun V k => (six (Hp.K.block k hb)).2.2.2.2.2
      have HR : Aside _ := hr
      have HG : Aside _ := hget
      clear HO hb hr hget
      go_wp2_with fail
      go_loopg [17] C.length (fun gh t wx => ∃ j : Nat, j + gh = C.length ∧ t = .int .i64 j ∧ Aside (K w9 wx))
      case atStart => exact ⟨0, by omega, rfl, K.refl _⟩
      case round =>
        obtain ⟨j, hj, rfl, HK⟩ := hrel
        have b5 := B5.out _ HK.out
        by_cases hlt2 : j < C.length
        · obtain ⟨c, hc⟩ : ∃ c, C[j]? = some c := ⟨_, List.getElem?_eq_getElem hlt2⟩
          have hixc := HR.out.ix j hlt2
          obtain ⟨ad, b3, cc3, hv, src⟩ := HR.out.ws j c hc
          have SRC : Aside _ := src
          have C1 : Aside (∀ V, K w9 V → V.cell? ⟨g3, j * 2, none⟩ = some (.int .u64 c.h) ∧ V.cell? ⟨g3, j * 2 + 1, none⟩ = some (.slice ad c.ws.length cc3)) := fun V k => ⟨(HR.out.keep k).c0 j c hc, by rw [← hv]; exact (HR.out.keep k).c1 j c hc⟩
          have HG1 : Aside (∀ k : Nat, k < c.ws.length → ∀ V, K w9 V → Calls Tryz.prog 10 #[sp A.st, .int .u64 c.h, .int .i64 (k : Int)] V fun e w' => e = .returned (.tuple #[.int .u64 (c.ws.getD k 0), .int .i64 0]) ∧ K V w') := fun k hk => HG.out j c k hc hk
          have hmax := src.max
          unfold maxLen at hmax
          clear hc hv src
          go_wp2_with fail
          go_loopg [18] c.ws.length (fun gh t wx => ∃ k : Nat, k + gh = c.ws.length ∧ t = .int .i64 k ∧ Aside (K w9 wx))
          case atStart => exact ⟨0, by omega, rfl, HK⟩
          case round =>
            obtain ⟨k, hk, rfl, HK2⟩ := hrel
            clear b5 HK
            have b5 := B5.out _ HK2.out
            obtain ⟨e0, e1⟩ := C1.out _ HK2.out
            by_cases hlt3 : k < c.ws.length
            · obtain ⟨y, hy⟩ : ∃ y, c.ws.getD k 0 = y := ⟨_, rfl⟩
              have cg := HG1.out k hlt3 _ HK2.out
              rw [hy] at cg
              have FC : Aside (∀ V, K w9 V → V.cell? ⟨b3, k, none⟩ = some (.int .u64 y)) := fun V kV => by
                have := (SRC.out.keep kV).at hlt3
                rwa [Nat.zero_add, hy] at this
              have hixs : ∀ w', (Instr.indexAt 50 (.slice ad c.ws.length cc3) (.int .i64 (k : Int))).run Tryz.prog w' = .ok (.pointer (some ⟨b3, k, none⟩)) w' := fun w' => by
                have := SRC.out.ix k hlt3 w'
                rwa [Nat.zero_add] at this
              clear hy
              go_wp2_with fail
              refine cg.mono ?_
              rintro e w5 ⟨rfl, k5⟩
              have K5 : Aside _ := Hp.K.trans HK2.out k5
              clear cg k5 b5 e0 e1
              have b5 := B5.out _ K5.out
              obtain ⟨e0, e1⟩ := C1.out _ K5.out
              have f0 := FC.out _ K5.out
              clear HK2
              go_wp2_with fail
              go_roundg (c.ws.length - (k + 1))
              case measure => omega
              case rel => exact ⟨k + 1, by omega, by go_num, K5⟩
            · obtain rfl : k = c.ws.length := by omega
              go_wp2_with fail
              go_roundg (C.length - (j + 1))
              case measure => omega
              case rel => exact ⟨j + 1, by omega, by go_num, HK2⟩
        · obtain rfl : j = C.length := by omega
          have cx := ca.out _ (Hp.K.trans KO.out HK.out)
          go_wp2_with fail
          refine cx.mono ?_
          rintro e w6 ⟨rfl, k6⟩
          go_wp2_with fail
          go_ret
          exact ⟨rfl, k6⟩

theorem storePlays_any (w : World) (q : Int) (_ : Hp.In64 q) (m : Int) (_ : Hp.In64 m) (z : Int) (hz : 0 ≤ z ∧ z ≤ 4294967295) (a0 : Option Addr) (b off len cap : Nat) (oo : Nat → Opv) (hS : Script w a0 b off len cap oo) (hmax : len ≤ maxLen) (hT : Bt.Tab w) : Calls Tryz.prog 3 #[.int .i64 q, .int .i64 m, .int .u32 z, .slice a0 len cap] w fun e w' => e = .returned (.bool true) ∧ K w w' := by
  by_cases h : 4000 < q ∧ q ≤ 262144 ∨ ¬ (4000 < q ∧ q ≤ 262144) ∧ 60 < len
  · exact plays_out q m z a0 len cap w hT (by unfold maxLen at hmax; omega) h
  · by_cases h2 : q < 0 ∨ 262144 < q ∨ 0 ≤ q ∧ q ≤ 262144 ∧ Hd.badNew m z
    · exact plays_bad q m z a0 len cap w hT (by omega) (by omega) hz.1 h2
    · unfold Hd.badNew at h2
      exact plays_main q m z a0 b off len cap oo w hT hS (by omega) (by omega) (by omega) (by omega) (by omega) hz.2 (by omega)

end Rs
end Go.Proofs.YtiklgabndkegoaaGreatDoor
