/-
  Walks that go down: At, seek, Find, Rank.
-/
import Derived.Test.YtbbjfebdihepnaaGreatDoorWB
import Derived.Test.YtbbjfebdihepnaaGreatDoorX2
import Derived.Deep.RegionHeld3
namespace Go.Proofs.YtbbjfebdihepnaaGreatDoor
open Go.RowKit Go.Maps
attribute [local go_sem ↓] Go.wp_at_zero Go.wp_at_succ
namespace Wa
open Hp (Kept K No Pg)
open Hd (U64 findL)
open Nd (Nv nv0 encU six Wrapd wrapN wpList_store_six)
open Go.Proofs.YtbbjfebdihepnaaGreatDoor.So (Ad Sb Sw Rec Rn sp)
variable {w w' : World} {B : Nat} {A : Ad} {pg : List (Int × Nat)} {W : Int → Int} {L : List Pg} {v : Value} {T : List Hd.Sl} {x : Int}

/-- All that a way down leans on. -/
structure Dwn (w : World) (A : Ad) (g : Vw) : Prop where
  look : ∀ V, K w V → ∀ x n, lk g x = some n → Calls Tryz.prog 35 #[sp A.st, .int .u64 x] V fun e w' => e = .returned (.tuple #[pv x n, .bool true]) ∧ K V w'
  lookN : ∀ V, K w V → ∀ x, U64 x → lk g x = none → Calls Tryz.prog 35 #[sp A.st, .int .u64 x] V fun e w' => e = .returned (.tuple #[pv 0 nv0, .bool false]) ∧ K V w'
  down : ∀ V, K w V → ∀ x y p n, dn g p x = some n → Calls Tryz.prog 38 #[sp A.st, pv y p, .int .u64 x] V fun e w' => e = .returned (.tuple #[pv x n, .bool true]) ∧ K V w'
  downN : ∀ V, K w V → ∀ x y p, U64 x → dn g p x = none → Calls Tryz.prog 38 #[sp A.st, pv y p, .int .u64 x] V fun e w' => e = .returned (.tuple #[pv 0 nv0, .bool false]) ∧ K V w'
  size : ∀ V, K w V → ∀ x, U64 x → Calls Tryz.prog 13 #[sp A.st, .int .u64 x] V fun e w' => e = .returned (.int .i64 (sz g x)) ∧ K V w'
  text : ∀ V, K w V → ∀ x t, g.tx x = some t → Calls Tryz.prog 54 #[sp A.st, .int .u64 x] V fun e w' => e = .returned (.tuple #[.string t, .int .i64 0]) ∧ K V w'
  textN : ∀ V, K w V → ∀ x, U64 x → g.tx x = none → ∃ er s, (er != 0) = true ∧ Calls Tryz.prog 54 #[sp A.st, .int .u64 x] V fun e w' => e = .returned (.tuple #[.string s, .int .i64 er]) ∧ K V w'
  made : ∀ V, K w V → Calls Tryz.prog 29 #[sp A.st] V fun e w' => e = .returned (.bool true) ∧ K V w'
  ok : ∀ x n, lk g x = some n → n.Ok ∧ n.f ≤ 65536
  rng : ∀ x, 0 ≤ sz g x ∧ sz g x ≤ 65536
theorem dwn (h : Sw w B A pg W L v T) : Dwn w A (vw T W) :=
  ⟨fun _ k _ _ hn => look_some (h.keep k) hn, fun _ k _ hx hn => look_none (h.keep k) hx hn, fun _ k _ _ _ _ hn => down_some (h.keep k) hn, fun _ k _ _ _ hx hn => down_none (h.keep k) hx hn,
    fun _ k _ hx => size_any (h.keep k) hx, fun _ k _ _ ht => text_some (h.keep k) ht, fun _ k _ hx ht => text_none (h.keep k) hx ht, fun _ k => made_yes (h.keep k), fun _ _ hn => lk_ok h hn, fun x => sz_rng h x⟩
theorem Dwn.keep {g : Vw} (d : Dwn w A g) (k : K w w') : Dwn w' A g :=
  ⟨fun V q => d.look V (k.trans q), fun V q => d.lookN V (k.trans q), fun V q => d.down V (k.trans q), fun V q => d.downN V (k.trans q), fun V q => d.size V (k.trans q), fun V q => d.text V (k.trans q), fun V q => d.textN V (k.trans q), fun V q => d.made V (k.trans q), d.ok, d.rng⟩

/-- In At's loop. -/
structure Atw (w V : World) (g : Vw) (x : Int) (n : Nv) (k : Int) (y : Int) (m : Nv) (j : Int) (b f1 : Nat) : Prop where
  kk : K w V
  bx : V.heap[b]? = some (pbx y m)
  lo : w.heap.size ≤ b
  lk : lk g y = some m
  u : U64 y
  j0 : 0 ≤ j
  j1 : j ≤ 65536
  f : f1 = m.f.toNat
  go : ∀ a z, Atm g y m j a z → Atm g x n k a z
theorem Atw.keep {V V' : World} {g : Vw} {x : Int} {n : Nv} {k y : Int} {m : Nv} {j : Int} {b f1 : Nat} (h : Atw w V g x n k y m j b f1) (q : K V V') : Atw w V' g x n k y m j b f1 := ⟨h.kk.trans q, q.block h.bx, h.lo, h.lk, h.u, h.j0, h.j1, h.f, h.go⟩

set_option maxRecDepth 100000 in
set_option maxHeartbeats 2000000 in
theorem at_go {g : Vw} (D : Dwn w A g) (hx : U64 x) {n : Nv} (hn : lk g x = some n) {k : Int} (k0 : 0 ≤ k) (k1 : k < sz g x) :
    Calls Tryz.prog 19 #[sp A.st, .int .u64 x, .int .i64 k] w fun e w' => ∃ h y, e = .returned (.tuple #[.int .u64 h, .int .i64 y]) ∧ Aside (Atm g x n k h y) ∧ K w w' := by
  have cm := D.made w (K.refl w)
  have DD : Aside _ := D
  have HN : Aside _ := hn
  have HX : Aside _ := hx
  have k2 := (D.rng x).2
  generalize hsz : sz g x = s at *
  have cs : Aside (∀ V, K w V → Calls Tryz.prog 13 #[sp A.st, .int .u64 x] V fun e w' => e = .returned (.int .i64 s) ∧ K V w') := fun V q => by rw [← hsz]; exact D.size V q x hx
  have hd1 : decide (k < (0 : Int)) = false := decide_eq_false (by omega)
  have hd2 : decide (s ≤ k) = false := decide_eq_false (by omega)
  have K63 : Aside (k ≤ 65536) := by show k ≤ 65536; omega
  clear D hn hx hsz
  go_enter Tryz.func19, Tryz.ntmps19
  go_wp2_with fail
  refine cm.mono ?_
  rintro e w1 ⟨rfl, q1⟩
  have c1 := cs.out w1 q1
  clear cm
  go_wp2_with fail
  refine c1.mono ?_
  rintro e w2 ⟨rfl, q2⟩
  have q12 := q1.trans q2
  have c2 := DD.out.look w2 q12 x n HN.out
  clear c1 q1 q2 cs
  go_wp2_with fail
  refine c2.mono ?_
  rintro e w3 ⟨rfl, q3⟩
  have q13 := q12.trans q3
  clear c2 q12 q3
  obtain ⟨f0, hf0⟩ : ∃ f0 : Nat, f0 = n.f.toNat := ⟨_, rfl⟩
  have S0 : Aside (Atw w (w3.alloc (pbx x n)) g x n k x n k w3.heap.size f0) := ⟨q13.alloc _, World.alloc_heap_new _ _, q13.size, HN.out, HX.out, k0, K63.out, hf0, fun y z h => h⟩
  clear q13 hf0
  go_wp2_with fail
  go_loopg [2, 8, 9] (f0 + 1) (fun gh t2 t8 t9 wr => ∃ (y : Int) (m : Nv) (j : Int) (b : Nat), t2 = .int .i64 j ∧ t8 = .pointer (some ⟨b, 0, none⟩) ∧ ((t9 = .bool true ∧ ∃ f1, gh = f1 + 1 ∧ Aside (Atw w wr g x n k y m j b f1)) ∨ (t9 = .bool false ∧ Aside (K w wr ∧ Atm g x n k 0 8))))
  case atStart => exact ⟨x, n, k, w3.heap.size, rfl, rfl, .inl ⟨rfl, f0, rfl, S0⟩⟩
  case round =>
    obtain ⟨y, m, j, b, rfl, rfl, (⟨rfl, f1, hgh, SS⟩ | ⟨rfl, SS⟩)⟩ := hrel
    · clear S0
      subst hgh
      obtain ⟨ma, mb, mc, md, me, mf⟩ := m
      obtain ⟨okm, hmf⟩ := DD.out.ok _ _ SS.out.lk
      have OKM : Aside _ := okm
      have cs := DD.out.size wr SS.out.kk mc okm.c
      have hsr := DD.out.rng mc
      obtain ⟨s, hs⟩ : ∃ s, sz g mc = s := ⟨_, rfl⟩
      rw [hs] at cs hsr
      have SZ : Aside (sz g mc = s ∧ 0 ≤ s ∧ s ≤ 65536) := ⟨hs, hsr⟩
      obtain ⟨e0, e1, e2, e3, e4, e5, e6⟩ := seven SS.out.bx
      clear okm hmf hs hsr
      go_wp2_with fail
      refine cs.mono ?_
      rintro e w5 ⟨rfl, k5⟩
      have S5 : Aside _ := SS.out.keep k5
      clear cs k5 SS e0 e1 e2 e3 e4 e5 e6
      obtain ⟨e0, e1, e2, e3, e4, e5, e6⟩ := seven S5.out.bx
      by_cases hjs : j = s
      · have hb : (j == s) = true := by simpa using hjs
        have FIN : Aside (Atm g x n k y 0 ∧ K w w5) := ⟨S5.out.go y 0 (.hit (by rw [SZ.out.1]; exact hjs)), S5.out.kk⟩
        clear hjs S5
        go_wp2_with fail
        go_ret2
        exact ⟨y, 0, rfl, FIN.out.1, FIN.out.2⟩
      have hb : (j == s) = false := by simpa using hjs
      by_cases hlt : j < s
      · have hd : decide (j < s) = true := decide_eq_true hlt
        have HS : Aside (j < s ∧ sz g mc = s ∧ 0 ≤ s ∧ s ≤ 65536) := ⟨hlt, SZ.out⟩
        have HS : Aside (j < s ∧ sz g mc = s) := ⟨hlt, SZ.out.1⟩
        clear hlt hjs SZ
        cases hdn : dn g ⟨ma, mb, mc, md, me, mf⟩ mc with
        | some m' =>
          have c6 := DD.out.down w5 S5.out.kk mc y ⟨ma, mb, mc, md, me, mf⟩ m' hdn
          obtain ⟨hl, hf⟩ := dn_lk hdn
          have NX : Aside _ := And.intro hl (And.intro hf hdn)
          obtain ⟨na, nb, nc, nd, ne, nf⟩ := m'
          clear hl hf hdn
          go_wp2_with fail
          refine c6.mono ?_
          rintro e w6 ⟨rfl, k6⟩
          have S6 : Aside _ := S5.out.keep k6
          clear c6 k6 S5 e0 e1 e2 e3 e4 e5 e6
          go_wp2_with (with_reducible refine wrapP ?_)
          unfold Wrapd
          refine wpList_store_seven (v0 := encU mc) (v1 := encU na) (v2 := encU nb) (v3 := encU nc) (v4 := encU nd) (v5 := encU ne) (v6 := encU nf) rfl 71 (.tmp 8) (.tmp 65) rfl (by kernel_rfl) b S6.out.bx rfl rfl (by simp [Value.oneCell']) ?_
          intro w7 b7 st7
          obtain ⟨e0, e1, e2, e3, e4, e5, e6⟩ := seven b7
          have K7 : Aside (K w w7) := Hp.K.thenKept S6.out.kk st7 S6.out.lo
          have S8 : Aside (Atw w (w7.alloc (pbx mc ⟨na, nb, nc, nd, ne, nf⟩)) g x n k mc ⟨na, nb, nc, nd, ne, nf⟩ j w7.heap.size nf.toNat) :=
            ⟨K7.out.alloc _, World.alloc_heap_new _ _, K7.out.size, NX.out.1, OKM.out.c, by have := HS.out; have := S6.out.j0; have := S6.out.j1; omega, by have := HS.out; have := S6.out.j0; have := S6.out.j1; omega, rfl, fun a z h => S6.out.go a z (.left (by rw [HS.out.2]; exact HS.out.1) NX.out.2.2 h)⟩
          have MS : Aside (nf.toNat < f1) := by
            show nf.toNat < f1
            have h1 : nf < mf := NX.out.2.1
            have h2 : f1 = mf.toNat := S6.out.f
            have h3 : 0 ≤ nf := (DD.out.ok _ _ NX.out.1).1.f.1
            omega
          clear b7 st7
          go_wp2_with fail
          go_roundg (nf.toNat + 1)
          case measure => have := MS.out; omega
          case rel => exact ⟨mc, ⟨na, nb, nc, nd, ne, nf⟩, j, w7.heap.size, rfl, rfl, .inl ⟨rfl, nf.toNat, rfl, S8⟩⟩
        | none =>
          have c6 := DD.out.downN w5 S5.out.kk mc y ⟨ma, mb, mc, md, me, mf⟩ OKM.out.c hdn
          have NX : Aside _ := hdn
          clear hdn
          go_wp2_with fail
          refine c6.mono ?_
          rintro e w6 ⟨rfl, k6⟩
          have S6 : Aside _ := S5.out.keep k6
          clear c6 k6 S5 e0 e1 e2 e3 e4 e5 e6
          go_wp2_with (with_reducible refine wrapP ?_)
          unfold Wrapd
          refine wpList_store_seven (v0 := encU 0) (v1 := encU 0) (v2 := encU 0) (v3 := encU 0) (v4 := encU 0) (v5 := encU 0) (v6 := encU 0) rfl 71 (.tmp 8) (.tmp 65) rfl (by kernel_rfl) b S6.out.bx rfl rfl (by simp [Value.oneCell']) ?_
          intro w7 b7 st7
          obtain ⟨e0, e1, e2, e3, e4, e5, e6⟩ := seven b7
          have K7 : Aside (K w w7) := Hp.K.thenKept S6.out.kk st7 S6.out.lo
          have S8 : Aside (K w (w7.alloc (pbx 0 nv0)) ∧ Atm g x n k 0 8) := ⟨K7.out.alloc _, S6.out.go 0 8 (.endl (by rw [HS.out.2]; exact HS.out.1) NX.out)⟩
          clear b7 st7
          go_wp2_with fail
          go_roundg 0
          case measure => omega
          case rel => exact ⟨0, nv0, j, w7.heap.size, rfl, rfl, .inr ⟨rfl, S8⟩⟩
      · have hd : decide (j < s) = false := decide_eq_false hlt
        have HS : Aside (s < j ∧ sz g mc = s) := ⟨by omega, SZ.out.1⟩
        have hj1 := S5.out.j1
        have hj0 := S5.out.j0
        have hs0 := SZ.out.2.1
        have hs1 := SZ.out.2.2
        clear hlt hjs SZ
        cases hdn : dn g ⟨ma, mb, mc, md, me, mf⟩ md with
        | some m' =>
          have c6 := DD.out.down w5 S5.out.kk md y ⟨ma, mb, mc, md, me, mf⟩ m' hdn
          obtain ⟨hl, hf⟩ := dn_lk hdn
          have NX : Aside _ := And.intro hl (And.intro hf hdn)
          obtain ⟨na, nb, nc, nd, ne, nf⟩ := m'
          clear hl hf hdn
          go_wp2_with fail
          refine c6.mono ?_
          rintro e w6 ⟨rfl, k6⟩
          have S6 : Aside _ := S5.out.keep k6
          clear c6 k6 S5 e0 e1 e2 e3 e4 e5 e6
          go_wp2_with (with_reducible refine wrapP ?_)
          unfold Wrapd
          refine wpList_store_seven (v0 := encU md) (v1 := encU na) (v2 := encU nb) (v3 := encU nc) (v4 := encU nd) (v5 := encU ne) (v6 := encU nf) rfl 71 (.tmp 8) (.tmp 46) rfl (by kernel_rfl) b S6.out.bx rfl rfl (by simp [Value.oneCell']) ?_
          intro w7 b7 st7
          obtain ⟨e0, e1, e2, e3, e4, e5, e6⟩ := seven b7
          have K7 : Aside (K w w7) := Hp.K.thenKept S6.out.kk st7 S6.out.lo
          have S8 : Aside (Atw w (w7.alloc (pbx md ⟨na, nb, nc, nd, ne, nf⟩)) g x n k md ⟨na, nb, nc, nd, ne, nf⟩ (j - (s + 1)) w7.heap.size nf.toNat) :=
            ⟨K7.out.alloc _, World.alloc_heap_new _ _, K7.out.size, NX.out.1, OKM.out.d, by have := HS.out; have := S6.out.j0; have := S6.out.j1; omega, by have := HS.out; have := S6.out.j0; have := S6.out.j1; omega, rfl, fun a z h => S6.out.go a z (.right (by rw [HS.out.2]; exact HS.out.1) NX.out.2.2 (by show Atm g md _ (j - (sz g mc + 1)) a z; rw [HS.out.2]; exact h))⟩
          have MS : Aside (nf.toNat < f1) := by
            show nf.toNat < f1
            have h1 : nf < mf := NX.out.2.1
            have h2 : f1 = mf.toNat := S6.out.f
            have h3 : 0 ≤ nf := (DD.out.ok _ _ NX.out.1).1.f.1
            omega
          clear b7 st7
          go_wp2_with fail
          go_roundg (nf.toNat + 1)
          case measure => have := MS.out; omega
          case rel => exact ⟨md, ⟨na, nb, nc, nd, ne, nf⟩, (j - (s + 1)), w7.heap.size, by go_num, rfl, .inl ⟨rfl, nf.toNat, rfl, S8⟩⟩
        | none =>
          have c6 := DD.out.downN w5 S5.out.kk md y ⟨ma, mb, mc, md, me, mf⟩ OKM.out.d hdn
          have NX : Aside _ := hdn
          clear hdn
          go_wp2_with fail
          refine c6.mono ?_
          rintro e w6 ⟨rfl, k6⟩
          have S6 : Aside _ := S5.out.keep k6
          clear c6 k6 S5 e0 e1 e2 e3 e4 e5 e6
          go_wp2_with (with_reducible refine wrapP ?_)
          unfold Wrapd
          refine wpList_store_seven (v0 := encU 0) (v1 := encU 0) (v2 := encU 0) (v3 := encU 0) (v4 := encU 0) (v5 := encU 0) (v6 := encU 0) rfl 71 (.tmp 8) (.tmp 46) rfl (by kernel_rfl) b S6.out.bx rfl rfl (by simp [Value.oneCell']) ?_
          intro w7 b7 st7
          obtain ⟨e0, e1, e2, e3, e4, e5, e6⟩ := seven b7
          have K7 : Aside (K w w7) := Hp.K.thenKept S6.out.kk st7 S6.out.lo
          have S8 : Aside (K w (w7.alloc (pbx 0 nv0)) ∧ Atm g x n k 0 8) := ⟨K7.out.alloc _, S6.out.go 0 8 (.endr (by rw [HS.out.2]; exact HS.out.1) NX.out)⟩
          clear b7 st7
          go_wp2_with fail
          go_roundg 0
          case measure => omega
          case rel => exact ⟨0, nv0, (j - (s + 1)), w7.heap.size, by go_num, rfl, .inr ⟨rfl, S8⟩⟩
    · clear S0
      go_wp2_with fail
      go_ret2
      exact ⟨0, 8, rfl, SS.out.2, SS.out.1⟩

end Wa
end Go.Proofs.YtbbjfebdihepnaaGreatDoor

/-
  Walks that go down: seek, Find, Rank; At where there is none.
-/
namespace Go.Proofs.YtbbjfebdihepnaaGreatDoor
open Go.RowKit Go.Maps
attribute [local go_sem ↓] Go.wp_at_zero Go.wp_at_succ
namespace Wa
open Hp (Kept K No Pg)
open Hd (U64 findL)
open Nd (Nv nv0 encU six Wrapd wrapN wpList_store_six)
open Go.Proofs.YtbbjfebdihepnaaGreatDoor.So (Ad Sb Sw Rec Rn sp)
variable {w w' : World} {B : Nat} {A : Ad} {pg : List (Int × Nat)} {W : Int → Int} {L : List Pg} {v : Value} {T : List Hd.Sl} {x : Int}

/-- In seek's loop. -/
structure Skw (w V : World) (g : Vw) (key : ByteArray) (x : Int) (n : Nv) (y : Int) (m : Nv) (j : Int) (b f1 : Nat) : Prop where
  kk : K w V
  bx : V.heap[b]? = some (pbx y m)
  lo : w.heap.size ≤ b
  lk : lk g y = some m
  u : U64 y
  j0 : 0 ≤ j
  j1 : j ≤ (65536 - m.f) * 65537
  f : f1 = m.f.toNat
  go : ∀ a z, Sk g key y m j a z → Sk g key x n 0 a z
theorem Skw.keep {V V' : World} {g : Vw} {key : ByteArray} {x : Int} {n : Nv} {y : Int} {m : Nv} {j : Int} {b f1 : Nat} (h : Skw w V g key x n y m j b f1) (q : K V V') : Skw w V' g key x n y m j b f1 := ⟨h.kk.trans q, q.block h.bx, h.lo, h.lk, h.u, h.j0, h.j1, h.f, h.go⟩

set_option maxRecDepth 100000 in
set_option maxHeartbeats 2000000 in
theorem seek_none {g : Vw} (D : Dwn w A g) (hx : U64 x) (hn : lk g x = none) (key : ByteArray) :
    Calls Tryz.prog 36 #[sp A.st, .int .u64 x, .string key] w fun e w' => e = .returned (.tuple #[.int .u64 0, .int .i64 0]) ∧ K w w' := by
  have c2 := D.lookN w (K.refl w) x hx hn
  clear D hn hx
  go_enter Tryz.func36, Tryz.ntmps36
  go_wp2_with fail
  refine c2.mono ?_
  rintro e w3 ⟨rfl, q3⟩
  have K0 : Aside (K w (w3.alloc (pbx 0 nv0))) := q3.alloc _
  clear c2 q3
  go_wp2_with fail
  go_loopg [7, 8, 9] 0 (fun _ t7 t8 t9 wr => t7 = .int .i64 0 ∧ (∃ b : Nat, t8 = .pointer (some ⟨b, 0, none⟩)) ∧ t9 = .bool false ∧ Aside (K w wr))
  case atStart => exact ⟨rfl, ⟨_, rfl⟩, rfl, K0⟩
  case round =>
    obtain ⟨rfl, ⟨b, rfl⟩, rfl, KR⟩ := hrel
    clear K0
    go_wp2_with fail
    go_ret2
    exact ⟨rfl, KR.out⟩

set_option maxRecDepth 100000 in
set_option maxHeartbeats 4000000 in
theorem seek_go {g : Vw} (D : Dwn w A g) (hx : U64 x) {n : Nv} (hn : lk g x = some n) (key : ByteArray) :
    Calls Tryz.prog 36 #[sp A.st, .int .u64 x, .string key] w fun e w' => ∃ h y, e = .returned (.tuple #[.int .u64 h, .int .i64 y]) ∧ Aside (Sk g key x n 0 h y) ∧ K w w' := by
  have DD : Aside _ := D
  have HN : Aside _ := hn
  have HX : Aside _ := hx
  have c2 := D.look w (K.refl w) x n hn
  have OK0 := (D.ok _ _ hn)
  have B0 : Aside ((0 : Int) ≤ (65536 - n.f) * 65537) := by
    show (0 : Int) ≤ (65536 - n.f) * 65537
    have := OK0.2
    omega
  clear D hn hx OK0
  go_enter Tryz.func36, Tryz.ntmps36
  go_wp2_with fail
  refine c2.mono ?_
  rintro e w3 ⟨rfl, q13⟩
  clear c2
  obtain ⟨f0, hf0⟩ : ∃ f0 : Nat, f0 = n.f.toNat := ⟨_, rfl⟩
  have S0 : Aside (Skw w (w3.alloc (pbx x n)) g key x n x n 0 w3.heap.size f0) := ⟨q13.alloc _, World.alloc_heap_new _ _, q13.size, HN.out, HX.out, Int.le_refl _, B0.out, hf0, fun y z h => h⟩
  clear q13 hf0 B0
  go_wp2_with fail
  go_loopg [7, 8, 9] (f0 + 1) (fun gh t7 t8 t9 wr => ∃ (y : Int) (m : Nv) (j : Int) (b : Nat), t7 = .int .i64 j ∧ t8 = .pointer (some ⟨b, 0, none⟩) ∧ ((t9 = .bool true ∧ ∃ f1, gh = f1 + 1 ∧ Aside (Skw w wr g key x n y m j b f1)) ∨ (t9 = .bool false ∧ Aside (K w wr ∧ Sk g key x n 0 0 j))))
  case atStart => exact ⟨x, n, 0, w3.heap.size, rfl, rfl, .inl ⟨rfl, f0, rfl, S0⟩⟩
  case round =>
    obtain ⟨y, m, j, b, rfl, rfl, (⟨rfl, f1, hgh, SS⟩ | ⟨rfl, SS⟩)⟩ := hrel
    · clear S0
      subst hgh
      obtain ⟨ma, mb, mc, md, me, mf⟩ := m
      obtain ⟨okm, hmf⟩ := DD.out.ok _ _ SS.out.lk
      have OKM : Aside _ := okm
      obtain ⟨e0, e1, e2, e3, e4, e5, e6⟩ := seven SS.out.bx
      cases htx : g.tx ma with
      | none =>
        obtain ⟨er, str, her, ct⟩ := DD.out.textN wr SS.out.kk ma okm.a htx
        have TX : Aside _ := htx
        clear okm hmf htx
        go_wp2_with fail
        refine ct.mono ?_
        rintro e w5 ⟨rfl, k5⟩
        have FIN : Aside (Sk g key x n 0 0 0 ∧ K w w5) := ⟨SS.out.go 0 0 (.bad TX.out), SS.out.kk.trans k5⟩
        clear ct k5 SS e0 e1 e2 e3 e4 e5 e6
        go_wp2_with fail
        go_ret2
        exact ⟨0, 0, rfl, FIN.out.1, FIN.out.2⟩
      | some t =>
      have ct := DD.out.text wr SS.out.kk ma t htx
      have TX : Aside _ := htx
      clear okm hmf htx
      go_wp2_with fail
      refine ct.mono ?_
      rintro e w4 ⟨rfl, k4⟩
      have S4 : Aside _ := SS.out.keep k4
      clear ct k4 SS e0 e1 e2 e3 e4 e5 e6
      obtain ⟨e0, e1, e2, e3, e4, e5, e6⟩ := seven S4.out.bx
      have cc : Calls Tryz.prog 34 #[.string key, .string t] w4 fun e w' => e = .returned (.int .i64 (cmp key t)) ∧ w4 = w' := Tx.compare_any key t w4
      have crng := Tx.cmp_rng key.data.toList t.data.toList
      have crng : -1 ≤ cmp key t ∧ cmp key t ≤ 1 := crng
      obtain ⟨cv, hcv⟩ : ∃ cv, cmp key t = cv := ⟨_, rfl⟩
      rw [hcv] at cc crng
      have HC : Aside (cmp key t = cv ∧ -1 ≤ cv ∧ cv ≤ 1) := ⟨hcv, crng⟩
      clear hcv crng
      go_wp2_with fail
      refine cc.mono ?_
      rintro e w5 ⟨rfl, rfl⟩
      clear cc
      have S5 : Aside _ := S4
      clear S4
      by_cases hc1 : cv = -1
      · subst hc1
        have HS : Aside (True) := trivial
        cases hdn : dn g ⟨ma, mb, mc, md, me, mf⟩ mc with
        | some m' =>
          have c6 := DD.out.down w4 S5.out.kk mc y ⟨ma, mb, mc, md, me, mf⟩ m' hdn
          obtain ⟨hl, hf⟩ := dn_lk hdn
          have NX : Aside _ := And.intro hl (And.intro hf hdn)
          obtain ⟨na, nb, nc, nd, ne, nf⟩ := m'
          clear hl hf hdn
          go_wp2_with fail
          refine c6.mono ?_
          rintro e w6 ⟨rfl, k6⟩
          have S6 : Aside _ := S5.out.keep k6
          clear c6 k6 S5 e0 e1 e2 e3 e4 e5 e6
          go_wp2_with (with_reducible refine wrapP ?_)
          unfold Wrapd
          refine wpList_store_seven (v0 := encU mc) (v1 := encU na) (v2 := encU nb) (v3 := encU nc) (v4 := encU nd) (v5 := encU ne) (v6 := encU nf) rfl 71 (.tmp 8) (.tmp 58) rfl (by kernel_rfl) b S6.out.bx rfl rfl (by simp [Value.oneCell']) ?_
          intro w7 b7 st7
          obtain ⟨e0, e1, e2, e3, e4, e5, e6⟩ := seven b7
          have K7 : Aside (K w w7) := Hp.K.thenKept S6.out.kk st7 S6.out.lo
          have MS : Aside (nf.toNat < f1 ∧ nf < mf) := by
            have h1 : nf < mf := NX.out.2.1
            have h2 : f1 = mf.toNat := S6.out.f
            have h3 : 0 ≤ nf := (DD.out.ok _ _ NX.out.1).1.f.1
            exact ⟨by omega, h1⟩
          have S8 : Aside (Skw w (w7.alloc (pbx mc ⟨na, nb, nc, nd, ne, nf⟩)) g key x n mc ⟨na, nb, nc, nd, ne, nf⟩ j w7.heap.size nf.toNat) :=
            ⟨K7.out.alloc _, World.alloc_heap_new _ _, K7.out.size, NX.out.1, OKM.out.c, by have := HS.out; have := S6.out.j0; omega, by
              have h1 := MS.out.2
              have h2 : j ≤ (65536 - mf) * 65537 := S6.out.j1
              have h3 := HS.out
              show j ≤ (65536 - nf) * 65537
              omega, rfl, fun a z h => S6.out.go a z (.left TX.out (by have := HC.out; omega) NX.out.2.2 h)⟩
          clear b7 st7
          go_wp2_with fail
          go_roundg (nf.toNat + 1)
          case measure => have := MS.out; omega
          case rel => exact ⟨mc, ⟨na, nb, nc, nd, ne, nf⟩, j, w7.heap.size, rfl, rfl, .inl ⟨rfl, nf.toNat, rfl, S8⟩⟩
        | none =>
          have c6 := DD.out.downN w4 S5.out.kk mc y ⟨ma, mb, mc, md, me, mf⟩ OKM.out.c hdn
          have NX : Aside _ := hdn
          clear hdn
          go_wp2_with fail
          refine c6.mono ?_
          rintro e w6 ⟨rfl, k6⟩
          have S6 : Aside _ := S5.out.keep k6
          clear c6 k6 S5 e0 e1 e2 e3 e4 e5 e6
          go_wp2_with (with_reducible refine wrapP ?_)
          unfold Wrapd
          refine wpList_store_seven (v0 := encU 0) (v1 := encU 0) (v2 := encU 0) (v3 := encU 0) (v4 := encU 0) (v5 := encU 0) (v6 := encU 0) rfl 71 (.tmp 8) (.tmp 58) rfl (by kernel_rfl) b S6.out.bx rfl rfl (by simp [Value.oneCell']) ?_
          intro w7 b7 st7
          obtain ⟨e0, e1, e2, e3, e4, e5, e6⟩ := seven b7
          have K7 : Aside (K w w7) := Hp.K.thenKept S6.out.kk st7 S6.out.lo
          have S8 : Aside (K w (w7.alloc (pbx 0 nv0)) ∧ Sk g key x n 0 0 j) := ⟨K7.out.alloc _, S6.out.go 0 _ (.endl TX.out (by have := HC.out; omega) NX.out)⟩
          clear b7 st7
          go_wp2_with fail
          go_roundg 0
          case measure => omega
          case rel => exact ⟨0, nv0, j, w7.heap.size, rfl, rfl, .inr ⟨rfl, S8⟩⟩
      have hb1 : (cv == -1) = false := by simpa using hc1
      have cs := DD.out.size
      have hsr := DD.out.rng mc
      obtain ⟨s, hs⟩ : ∃ s, sz g mc = s := ⟨_, rfl⟩
      rw [hs] at hsr
      by_cases hc2 : cv = 0
      · subst hc2
        have P1 : Calls Tryz.prog 13 #[sp A.st, .int .u64 mc] w4.drew fun e1 w1 => e1 = .returned (.int .i64 s) ∧ (w1.cell? ⟨b, 0, none⟩ = some (encU y) ∧ w1.cell? ⟨b, 3, none⟩ = some (encU mc)) ∧ Aside (K w w1) := by
          refine (cs w4.drew S5.out.kk.drew mc OKM.out.c).mono ?_
          rintro e1 w1 ⟨rfl, k1⟩
          rw [hs]
          exact ⟨rfl, ⟨k1.cell e0, k1.cell e3⟩, S5.out.kk.drew.trans k1⟩
        have hj0 := S5.out.j0
        have hj1 : Aside _ := S5.out.j1
        have hbig : j ≤ 4295032833 := by
          have h1 : j ≤ (65536 - mf) * 65537 := hj1.out
          have h2 : 0 ≤ mf := OKM.out.f.1
          omega
        have ew : IntKind.i64.wrap (j + s) = j + s := by simp [IntKind.wrap, IntKind.signed, IntKind.bits]; omega
        have FIN : Aside (Sk g key x n 0 y (j + s)) := S5.out.go y (j + s) (by rw [← hs]; exact .hit TX.out HC.out.1)
        clear cs hj1 hs S5 e1 e2 e4 e5 e6 hc1
        go_wp2_with fail
        go_region_held3 (fun w' => w'.cell? ⟨b, 0, none⟩ = some (encU y) ∧ w'.cell? ⟨b, 3, none⟩ = some (encU mc))
          (first | exact ⟨e0, e3⟩ | exact y1)
          (first | (go_at_call 13; refine P1.mono ?_; rintro e w6 ⟨rfl, y1, P2⟩))
        all_goals
          go_wp2
          go_ret2
          exact ⟨_, _, rfl, FIN, P2.out⟩
      · have hb2 : (cv == 0) = false := by simpa using hc2
        have HS : Aside (0 ≤ s ∧ s ≤ 65536 ∧ sz g mc = s) := ⟨hsr.1, hsr.2, hs⟩
        have c5 : Calls Tryz.prog 13 #[sp A.st, .int .u64 mc] w4 fun e w' => e = .returned (.int .i64 s) ∧ K w4 w' := by rw [← hs]; exact cs w4 S5.out.kk mc OKM.out.c
        have hj0 := S5.out.j0
        have hbig : j ≤ 4295032833 := by
          have h1 : j ≤ (65536 - mf) * 65537 := S5.out.j1
          have h2 : 0 ≤ mf := OKM.out.f.1
          omega
        have HC : Aside (cmp key t = cv ∧ 0 < cv) := ⟨HC.out.1, by have := HC.out; omega⟩
        clear cs hs hc1 hc2
        go_wp2_with fail
        refine c5.mono ?_
        rintro e w5 ⟨rfl, k5⟩
        have S5 : Aside _ := S5.out.keep k5
        clear c5 k5 e0 e1 e2 e3 e4 e5 e6
        obtain ⟨e0, e1, e2, e3, e4, e5, e6⟩ := seven S5.out.bx
        cases hdn : dn g ⟨ma, mb, mc, md, me, mf⟩ md with
        | some m' =>
          have c6 := DD.out.down w5 S5.out.kk md y ⟨ma, mb, mc, md, me, mf⟩ m' hdn
          obtain ⟨hl, hf⟩ := dn_lk hdn
          have NX : Aside _ := And.intro hl (And.intro hf hdn)
          obtain ⟨na, nb, nc, nd, ne, nf⟩ := m'
          clear hl hf hdn
          go_wp2_with fail
          refine c6.mono ?_
          rintro e w6 ⟨rfl, k6⟩
          have S6 : Aside _ := S5.out.keep k6
          clear c6 k6 S5 e0 e1 e2 e3 e4 e5 e6
          go_wp2_with (with_reducible refine wrapP ?_)
          unfold Wrapd
          refine wpList_store_seven (v0 := encU md) (v1 := encU na) (v2 := encU nb) (v3 := encU nc) (v4 := encU nd) (v5 := encU ne) (v6 := encU nf) rfl 71 (.tmp 8) (.tmp 47) rfl (by kernel_rfl) b S6.out.bx rfl rfl (by simp [Value.oneCell']) ?_
          intro w7 b7 st7
          obtain ⟨e0, e1, e2, e3, e4, e5, e6⟩ := seven b7
          have K7 : Aside (K w w7) := Hp.K.thenKept S6.out.kk st7 S6.out.lo
          have MS : Aside (nf.toNat < f1 ∧ nf < mf) := by
            have h1 : nf < mf := NX.out.2.1
            have h2 : f1 = mf.toNat := S6.out.f
            have h3 : 0 ≤ nf := (DD.out.ok _ _ NX.out.1).1.f.1
            exact ⟨by omega, h1⟩
          have S8 : Aside (Skw w (w7.alloc (pbx md ⟨na, nb, nc, nd, ne, nf⟩)) g key x n md ⟨na, nb, nc, nd, ne, nf⟩ (j + (s + 1)) w7.heap.size nf.toNat) :=
            ⟨K7.out.alloc _, World.alloc_heap_new _ _, K7.out.size, NX.out.1, OKM.out.d, by have := HS.out; have := S6.out.j0; omega, by
              have h1 := MS.out.2
              have h2 : j ≤ (65536 - mf) * 65537 := S6.out.j1
              have h3 := HS.out
              show (j + (s + 1)) ≤ (65536 - nf) * 65537
              omega, rfl, fun a z h => S6.out.go a z (by have := HS.out.2.2; refine .right TX.out (by have := HC.out; omega) NX.out.2.2 ?_; show Sk g key md _ (j + (sz g mc + 1)) a z; rw [this]; exact h)⟩
          clear b7 st7
          go_wp2_with fail
          go_roundg (nf.toNat + 1)
          case measure => have := MS.out; omega
          case rel => exact ⟨md, ⟨na, nb, nc, nd, ne, nf⟩, (j + (s + 1)), w7.heap.size, by go_num, rfl, .inl ⟨rfl, nf.toNat, rfl, S8⟩⟩
        | none =>
          have c6 := DD.out.downN w5 S5.out.kk md y ⟨ma, mb, mc, md, me, mf⟩ OKM.out.d hdn
          have NX : Aside _ := hdn
          clear hdn
          go_wp2_with fail
          refine c6.mono ?_
          rintro e w6 ⟨rfl, k6⟩
          have S6 : Aside _ := S5.out.keep k6
          clear c6 k6 S5 e0 e1 e2 e3 e4 e5 e6
          go_wp2_with (with_reducible refine wrapP ?_)
          unfold Wrapd
          refine wpList_store_seven (v0 := encU 0) (v1 := encU 0) (v2 := encU 0) (v3 := encU 0) (v4 := encU 0) (v5 := encU 0) (v6 := encU 0) rfl 71 (.tmp 8) (.tmp 47) rfl (by kernel_rfl) b S6.out.bx rfl rfl (by simp [Value.oneCell']) ?_
          intro w7 b7 st7
          obtain ⟨e0, e1, e2, e3, e4, e5, e6⟩ := seven b7
          have K7 : Aside (K w w7) := Hp.K.thenKept S6.out.kk st7 S6.out.lo
          have S8 : Aside (K w (w7.alloc (pbx 0 nv0)) ∧ Sk g key x n 0 0 (j + (s + 1))) := ⟨K7.out.alloc _, S6.out.go 0 _ ((by have := HS.out.2.2; show Sk g key y _ j 0 (j + (s + 1)); rw [← this]; exact .endr TX.out (by have := HC.out; omega) NX.out))⟩
          clear b7 st7
          go_wp2_with fail
          go_roundg 0
          case measure => omega
          case rel => exact ⟨0, nv0, (j + (s + 1)), w7.heap.size, by go_num, rfl, .inr ⟨rfl, S8⟩⟩
    · clear S0
      go_wp2_with fail
      go_ret2
      exact ⟨0, j, rfl, SS.out.2, SS.out.1⟩

/-- What seek answers. -/
def Skr (g : Vw) (key : ByteArray) (x h y : Int) : Prop := match lk g x with
  | none => h = 0 ∧ y = 0
  | some n => Sk g key x n 0 h y
theorem seek_any {g : Vw} (D : Dwn w A g) (hx : U64 x) (key : ByteArray) : Calls Tryz.prog 36 #[sp A.st, .int .u64 x, .string key] w fun e w' => ∃ h y, e = .returned (.tuple #[.int .u64 h, .int .i64 y]) ∧ Aside (Skr g key x h y) ∧ K w w' := by
  cases e : lk g x with
  | none =>
    refine (seek_none D hx e key).mono ?_
    rintro e1 w1 ⟨rfl, k⟩
    exact ⟨0, 0, rfl, by show Skr g key x 0 0; unfold Skr; rw [e]; exact ⟨rfl, rfl⟩, k⟩
  | some n =>
    refine (seek_go D hx e key).mono ?_
    rintro e1 w1 ⟨h, y, rfl, hh, k⟩
    exact ⟨h, y, rfl, by show Skr g key x h y; unfold Skr; rw [e]; exact hh.out, k⟩

set_option maxHeartbeats 400000 in
theorem find_any {g : Vw} (D : Dwn w A g) (hx : U64 x) (key : ByteArray) : Calls Tryz.prog 14 #[sp A.st, .int .u64 x, .string key] w fun e w' => ∃ h y, e = .returned (.tuple #[.int .u64 h, .bool (h != 0)]) ∧ Aside (Skr g key x h y) ∧ K w w' := by
  have cs := seek_any D hx key
  clear D hx
  go_enter Tryz.func14, Tryz.ntmps14
  go_wp2_with fail
  refine cs.mono ?_
  rintro e w1 ⟨h, y, rfl, hh, k⟩
  clear cs
  go_wp2_with fail
  go_ret2
  exact ⟨h, y, rfl, hh, k⟩
set_option maxHeartbeats 400000 in
theorem rank_any {g : Vw} (D : Dwn w A g) (hx : U64 x) (key : ByteArray) : Calls Tryz.prog 16 #[sp A.st, .int .u64 x, .string key] w fun e w' => ∃ h y, e = .returned (.int .i64 y) ∧ Aside (Skr g key x h y) ∧ K w w' := by
  have cs := seek_any D hx key
  clear D hx
  go_enter Tryz.func16, Tryz.ntmps16
  go_wp2_with fail
  refine cs.mono ?_
  rintro e w1 ⟨h, y, rfl, hh, k⟩
  clear cs
  go_wp2_with fail
  go_ret
  exact ⟨h, y, rfl, hh, k⟩

set_option maxRecDepth 100000 in
set_option maxHeartbeats 400000 in
theorem at_no {g : Vw} (D : Dwn w A g) (hx : U64 x) (k : Int) (hk : k < 0 ∨ sz g x ≤ k) : Calls Tryz.prog 19 #[sp A.st, .int .u64 x, .int .i64 k] w fun e w' => e = .returned (.tuple #[.int .u64 0, .int .i64 2]) ∧ K w w' := by
  have cm := D.made w (K.refl w)
  have cs : Aside (∀ V, K w V → Calls Tryz.prog 13 #[sp A.st, .int .u64 x] V fun e w' => e = .returned (.int .i64 (sz g x)) ∧ K V w') := fun V q => D.size V q x hx
  generalize sz g x = s at *
  clear D hx
  by_cases h0 : k < 0
  · have hd1 : decide (k < (0 : Int)) = true := decide_eq_true h0
    clear hk h0 cs
    go_enter Tryz.func19, Tryz.ntmps19
    go_wp2_with fail
    refine cm.mono ?_
    rintro e w1 ⟨rfl, q1⟩
    clear cm
    go_wp2_with fail
    go_ret2
    exact ⟨rfl, q1⟩
  · have hd1 : decide (k < (0 : Int)) = false := decide_eq_false h0
    have hd2 : decide (s ≤ k) = true := decide_eq_true (by omega)
    clear hk h0
    go_enter Tryz.func19, Tryz.ntmps19
    go_wp2_with fail
    refine cm.mono ?_
    rintro e w1 ⟨rfl, q1⟩
    have c1 := cs.out w1 q1
    clear cm
    go_wp2_with fail
    refine c1.mono ?_
    rintro e w2 ⟨rfl, q2⟩
    have q12 := q1.trans q2
    clear c1 q1 q2 cs
    go_wp2_with fail
    go_ret2
    exact ⟨rfl, q12⟩

end Wa
end Go.Proofs.YtbbjfebdihepnaaGreatDoor
