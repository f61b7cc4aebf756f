/-
  What List's rounds keep.
-/
import Derived.Test.YtbbjfebdihepnaaGreatDoorWE
namespace Go.Proofs.YtbbjfebdihepnaaGreatDoor
open Go.RowKit Go.Maps
attribute [local go_sem] Oper.semAt_some
namespace Wa
open Hp (Kept K No Pg Grows wide outer)
open Hd (U64)
open Nd (Nv nv0 encU six)
open Co (Off)
open Go.Proofs.YtbbjfebdihepnaaGreatDoor.So (Ad Sw sp)
variable {w w' : World} {B : Nat} {A : Ad} {pg : List (Int × Nat)} {W : Int → Int} {L : List Pg} {v : Value} {T : List Hd.Sl} {x : Int} {pp : Option Addr}

/-- The blocks that a round of List may turn. -/
def Lm (p : Nat) (v : Value) : Nat → Prop := fun k => k = p ∨ k = p + 1 ∨ some k = v.ownBlock
/-- List's variables, and what was told, between two rounds. -/
structure Li (w : World) (pp : Option Addr) (g : Vw) (x : Int) (hs0 : List Int) (p : Nat) (s : Sg) (pre : List Int) (v : Value) (V : World) : Prop where
  k : K w V
  r : Boxed V p 45 (.slice none 0 0)
  bv : Boxed V (p + 1) 45 v
  row : V.ownsRow p 28 1 v pre.length (pre.map encU)
  off : ∀ j, some j = v.ownBlock → j ≠ p ∧ j ≠ p + 1 ∧ (j < p + 2 ∨ p + 7 ≤ j)
  i2 : Boxed V (p + 2 + 1) 26 (.pointer pp)
  i1 : Boxed V (p + 2 + 1 + 1) 28 (.int .u64 x)
  i3 : Boxed V (p + 2 + 1 + 2) 66 (.map (some (p + 2)))
  d : V.heap[p + 6]? = some (.deferred (some []))
  mp : Mp V (p + 2) s.m
  sub : ∀ y ∈ s.m, y ∈ hs0
  high : s.st.length ≤ s.m.length
  hu : U64 s.h
  su : ∀ y ∈ s.st, U64 y.1 ∧ y.2.Ok
  eg : s.g = g
  pl : pre.length ≤ s.m.length - s.st.length
  go : ∀ k r, Lst g k s.h s.st s.m r → ∃ k', Lst g k' x [] [] (r.map (pre ++ ·))
theorem Li.turn {g : Vw} {hs0 : List Int} {p : Nat} {s : Sg} {pre : List Int} {v : Value} {V V' : World} {O : Nat → Prop} (h : Li w pp g x hs0 p s pre v V) (wp : w.heap.size = p) (k : Kept O V V') (hO : ∀ j, O j → p + 7 ≤ j ∧ some j ≠ v.ownBlock) : Li w pp g x hs0 p s pre v V' := by
  have n : ∀ j, j < p + 7 → ¬ O j := fun j hj ho => by have := (hO j ho).1; omega
  exact ⟨Nd.kthen h.k k (fun j hj => by have := (hO j hj).1; omega), k.boxed h.r (n _ (by omega)), k.boxed h.bv (n _ (by omega)), Hd.ownsRow_kept h.row k (fun b hb ho => (hO b ho).2 hb), h.off, k.boxed h.i2 (n _ (by omega)), k.boxed h.i1 (n _ (by omega)), k.boxed h.i3 (n _ (by omega)), k.block h.d (n _ (by omega)), h.mp.kept k (n _ (by omega)), h.sub, h.high, h.hu, h.su, h.eg, h.pl, h.go⟩
theorem Li.kk {g : Vw} {hs0 : List Int} {p : Nat} {s : Sg} {pre : List Int} {v : Value} {V V' : World} (h : Li w pp g x hs0 p s pre v V) (wp : w.heap.size = p) (k : K V V') : Li w pp g x hs0 p s pre v V' := h.turn wp (k.kept (fun _ => False)) (fun _ h => h.elim)
theorem Li.mark {g : Vw} {hs0 : List Int} {p : Nat} {s s' : Sg} {pre : List Int} {v : Value} {V V' : World} (h : Li w pp g x hs0 p s pre v V) (wp : w.heap.size = p) (dom : ∀ y n, g.nd y = some n → y ∈ hs0) (ok : ∀ y n, g.nd y = some n → n.Ok) (m : (iWay (p + 2)).Mark s V s' V') : Li w pp g x hs0 p s' pre v V' := by
  obtain ⟨h0, n, hn, hm, rfl, k, mp⟩ := m
  have ne : ∀ {c : Nat}, c ≠ p + 2 → ¬ c = p + 2 := fun h => h
  rw [h.eg] at hn
  refine ⟨Nd.kthen h.k k (fun j hj => by have : j = p + 2 := hj; omega), k.boxed h.r (ne (by omega)), k.boxed h.bv (ne (by omega)), Hd.ownsRow_kept h.row k (fun b hb e => by have e : b = p + 2 := e; have := h.off b hb; omega), h.off, k.boxed h.i2 (ne (by omega)), k.boxed h.i1 (ne (by omega)), k.boxed h.i3 (ne (by omega)), k.block h.d (ne (by omega)), mp, fun y hy => ?_, ?_, ?_, fun y hy => ?_, h.eg, ?_, fun k r c => h.go _ _ (.push h0 hn hm c)⟩
  · rcases List.mem_cons.1 hy with rfl | hy
    · exact dom _ _ hn
    · exact h.sub y hy
  · have := h.high
    simp only [List.length_cons]
    omega
  · exact ⟨(ok _ _ hn).c.1, (ok _ _ hn).c.2⟩
  · rcases List.mem_cons.1 hy with rfl | hy
    · exact ⟨h.hu, ok _ _ hn⟩
    · exact h.su y hy
  · have := h.pl
    simp only [List.length_cons]
    omega
theorem Li.lt {g : Vw} {hs0 : List Int} {p : Nat} {s : Sg} {pre : List Int} {v : Value} {V : World} (h : Li w pp g x hs0 p s pre v V) {k : Nat} (hk : Lm p v k) : k < V.heap.size := by
  rcases hk with rfl | rfl | hk
  · exact h.r.lt
  · exact h.bv.lt
  · exact (Hd.own_lt h.row hk).2
theorem Li.read {g : Vw} {hs0 : List Int} {p : Nat} {s : Sg} {pre : List Int} {v' : Value} {V : World} (h : Li w pp g x hs0 p s pre v' V) (gt : ∀ V, K w V → Gets V pp g) (dom : ∀ y n, g.nd y = some n → y ∈ hs0) (few : hs0.length ≤ 65536) : Rdg pp hs0 x (p + 2 + 1 + 1) (p + 2 + 1) (p + 2 + 1 + 2) (p + 2) s (Lm p v') V :=
  ⟨by rw [h.eg]; exact gt _ h.k, h.i1.cell, h.i2.cell, h.i3.cell, h.mp, h.sub, fun y n hn => dom y n (by rw [← h.eg]; exact hn), few, h.high, h.hu, fun y hy => ⟨(h.su y hy).1, (h.su y hy).2⟩, fun _ hk => h.lt hk⟩
/-- Behind a return within a round: none. -/
structure Lx (w : World) (g : Vw) (x : Int) (p : Nat) (V : World) : Prop where
  k : K w V
  r : Boxed V p 45 (.slice none 0 0)
  c : ∃ k, Lst g k x [] [] none
  d : V.heap[p + 6]? = some (.deferred (some []))
theorem Lx.turn {g : Vw} {p : Nat} {V V' : World} {O : Nat → Prop} (h : Lx w g x p V) (wp : w.heap.size = p) (k : Kept O V V') (hO : ∀ j, O j → p + 7 ≤ j) : Lx w g x p V' := by
  have n : ∀ j, j < p + 7 → ¬ O j := fun j hj ho => by have := hO j ho; omega
  exact ⟨Nd.kthen h.k k (fun j hj => by have := hO j hj; omega), k.boxed h.r (n _ (by omega)), h.c, k.block h.d (n _ (by omega))⟩
/-- At the start. -/
theorem Li.start {g : Vw} {hs0 : List Int} {p : Nat} (hp : w.heap.size = p) (hx : U64 x) :
    Li w pp g x hs0 p ⟨x, [], [], g⟩ [] (.slice none 0 0) (((((((w.alloc (.cells #[.slice none 0 0] 45)).alloc (.cells #[.slice none 0 0] 45)).alloc (.map #[] 0)).alloc (.cells #[.pointer pp] 26)).alloc (.cells #[.int .u64 x] 28)).alloc (.cells #[.map (some (p + 2))] 66)).alloc (.deferred (some []))) := by
  subst hp
  have a1 := Boxed.new w 45 (.slice none 0 0)
  have a2 := Boxed.new (w.alloc (.cells #[.slice none 0 0] 45)) 45 (.slice none 0 0)
  have m1 := Mp.new ((w.alloc (.cells #[.slice none 0 0] 45)).alloc (.cells #[.slice none 0 0] 45))
  have i2 := Boxed.new (((w.alloc (.cells #[.slice none 0 0] 45)).alloc (.cells #[.slice none 0 0] 45)).alloc (.map #[] 0)) 26 (.pointer pp)
  have i1 := Boxed.new ((((w.alloc (.cells #[.slice none 0 0] 45)).alloc (.cells #[.slice none 0 0] 45)).alloc (.map #[] 0)).alloc (.cells #[.pointer pp] 26)) 28 (.int .u64 x)
  have i3 := Boxed.new (((((w.alloc (.cells #[.slice none 0 0] 45)).alloc (.cells #[.slice none 0 0] 45)).alloc (.map #[] 0)).alloc (.cells #[.pointer pp] 26)).alloc (.cells #[.int .u64 x] 28)) 66 (.map (some (w.heap.size + 2)))
  have d1 := World.alloc_heap_new ((((((w.alloc (.cells #[.slice none 0 0] 45)).alloc (.cells #[.slice none 0 0] 45)).alloc (.map #[] 0)).alloc (.cells #[.pointer pp] 26)).alloc (.cells #[.int .u64 x] 28)).alloc (.cells #[.map (some (w.heap.size + 2))] 66)) (.deferred (some []))
  simp only [World.size_alloc] at a2 m1 i2 i1 i3 d1
  have r : ∀ V, K V V := fun V => K.refl V
  refine ⟨((((((((r _).alloc _).alloc _).alloc _).alloc _).alloc _).alloc _).alloc _), (((((((r _).alloc _).alloc _).alloc _).alloc _).alloc _).alloc _).boxed a1, ((((((r _).alloc _).alloc _).alloc _).alloc _).alloc _).boxed a2, World.ownsRow_nil _ _ _ _, fun j hj => (by cases hj), ((((r _).alloc _).alloc _).alloc _).boxed i2, (((r _).alloc _).alloc _).boxed i1, ((r _).alloc _).boxed i3, d1, ?_, by simp, by simp, hx, by simp, rfl, by simp, fun k r c => ⟨k, by cases r <;> exact c⟩⟩
  exact m1.kept ((((((r _).alloc _).alloc _).alloc _).alloc _).kept (fun _ => False)) (fun h => h)
/-- A round that tells a name more. -/
theorem Li.app {g : Vw} {hs0 : List Int} {p : Nat} {hh : Int} {n : Nv} {st : List (Int × Nv)} {m : List Int} {pre : List Int} {v v' : Value} {V W3 : World} {o : Obj} (h : Li w pp g x hs0 p ⟨0, (hh, n) :: st, m, g⟩ pre v V) (wp : w.heap.size = p)
    (hown : W3.ownsRow p 28 1 v' (pre.length + 1) (pre.map encU ++ [encU hh])) (hg : (V.alloc o).grownBy W3 v.ownBlock) (hat : v'.ownBlock = v.ownBlock ∨ v'.ownBlock = some (V.alloc o).heap.size) (hN : p + 7 ≤ V.heap.size) :
    Boxed W3 (p + 1) 45 v ∧ Kept (Lm p v) V (W3.setCell ⟨p + 1, 0, none⟩ v') ∧ Li w pp g x hs0 p ⟨n.d, st, m, g⟩ (pre ++ [hh]) v' (W3.setCell ⟨p + 1, 0, none⟩ v') ∧ Grows (Lm p v) (Lm p v') V := by
  have hsz := hg.size
  simp at hsz
  have k3 : Kept (fun j => some j = v.ownBlock) V W3 := ⟨hg.os, hg.tape, hg.output, by omega, fun j hj hn => by
    rw [hg.block j (by simp; omega) hn, Below.heap_alloc V o j hj]⟩
  have hoff' : ∀ j, some j = v'.ownBlock → j ≠ p ∧ j ≠ p + 1 ∧ (j < p + 2 ∨ p + 7 ≤ j) := fun j hj => by
    rcases hat with e | e
    · exact h.off j (by rw [← e]; exact hj)
    · rw [e] at hj
      have := Option.some.inj hj
      simp at this
      omega
  have nv : ∀ j, j < p + 7 → p ≤ j → j ≠ p + 2 ∨ True → ¬ some j = v.ownBlock := fun j h1 h2 _ e => by have := h.off j e; omega
  have k4 : Kept (fun j => j = p + 1) W3 (W3.setCell ⟨p + 1, 0, none⟩ v') := (Kept.refl _ W3).setCell (p := ⟨p + 1, 0, none⟩) v' (.inl rfl)
  have kall : Kept (fun j => j = p + 1 ∨ some j = v.ownBlock) V (W3.setCell ⟨p + 1, 0, none⟩ v') := (k3.mono (fun _ _ h => .inr h)).trans (k4.mono (fun _ _ h => .inl h))
  have no : ∀ j, j ≠ p + 1 → j < p + 7 → p ≤ j → ¬ (j = p + 1 ∨ some j = v.ownBlock) := fun j h1 h2 h3 h => h.elim h1 (nv j h2 h3 (.inr trivial))
  have b3 : Boxed W3 (p + 1) 45 v := k3.boxed h.bv (nv _ (by omega) (by omega) (.inr trivial))
  refine ⟨b3, kall.mono (fun _ _ h => .inr h), ⟨Nd.kthen h.k kall (fun j hj => ?_), kall.boxed h.r (no _ (by omega) (by omega) (by omega)), b3.set _, ?_, hoff', kall.boxed h.i2 (no _ (by omega) (by omega) (by omega)), kall.boxed h.i1 (no _ (by omega) (by omega) (by omega)), kall.boxed h.i3 (no _ (by omega) (by omega) (by omega)), kall.block h.d (no _ (by omega) (by omega) (by omega)), h.mp.kept kall (no _ (by omega) (by omega) (by omega)), h.sub, ?_, (h.su (hh, n) (by simp)).2.d, fun y hy => h.su y (by simp [hy]), h.eg, ?_, fun k r c => ?_⟩, fun k hk => ?_⟩
  · rcases hj with rfl | hj
    · omega
    · have := (Hd.own_lt h.row hj).1
      omega
  · rw [List.length_append, List.map_append]
    exact Hd.ownsRow_kept hown k4 (fun b hb e => (hoff' b hb).2.1 e)
  · have := h.high
    simp only [List.length_cons] at this ⊢
    omega
  · have h1 := h.pl
    have h2 := h.high
    simp only [List.length_cons, List.length_append, List.length_nil] at h1 h2 ⊢
    omega
  · obtain ⟨k', hk'⟩ := h.go (k + 1) _ (.item c)
    refine ⟨k', ?_⟩
    cases r <;> simpa using hk'
  · rcases hk with rfl | rfl | hk
    · exact .inl (.inl rfl)
    · exact .inl (.inr (.inl rfl))
    · rcases hat with e | e
      · exact .inl (.inr (.inr (by rw [← e]; exact hk)))
      · rw [e] at hk
        have := Option.some.inj hk
        simp at this
        exact .inr (by omega)

end Wa
end Go.Proofs.YtbbjfebdihepnaaGreatDoor

/-
  The walk of List.
-/
namespace Go.Proofs.YtbbjfebdihepnaaGreatDoor
open Go.RowKit Go.Maps
attribute [local go_sem] Oper.semAt_some
namespace Wa
open Hp (Kept K No Pg Grows wide outer)
open Hd (U64)
open Nd (Nv nv0 encU six)
open Co (Off)
open Go.Proofs.YtbbjfebdihepnaaGreatDoor.So (Ad Sw sp)
variable {w w' : World} {B : Nat} {A : Ad} {pg : List (Int × Nat)} {W : Int → Int} {L : List Pg} {v : Value} {T : List Hd.Sl} {x : Int}

theorem wrapdd {p : Prop} (h : Nd.Wrapd p) : p := h
/-- What List answers. -/
def ListPost (w : World) (g : Vw) (x : Int) (e : Ending) (w' : World) : Prop := ∃ (rr : Option (List Int)) (k : Nat), Lst g k x [] [] rr ∧ K w w' ∧ ((rr = none ∧ e = .returned (.slice none 0 0)) ∨ ∃ l v, rr = some l ∧ e = .returned v ∧ w'.ownsRow w.heap.size 28 1 v l.length (l.map encU))

set_option maxRecDepth 100000 in
set_option maxHeartbeats 4000000 in
theorem list_in {pp : Option Addr} {g : Vw} {hs0 : List Int} (gt : ∀ V, K w V → Gets V pp g) (hf : g.Fit) (dom : ∀ y n, g.nd y = some n → y ∈ hs0) (few : hs0.length ≤ 65536) (hx : U64 x) : CallsIn Fence.wide 0 Tryz.prog 20 #[.pointer pp, .int .u64 x] w (ListPost w g x) := by
  have GT : Aside _ := gt
  have HF : Aside (g.Fit ∧ (∀ y n, g.nd y = some n → y ∈ hs0) ∧ hs0.length ≤ 65536) := ⟨hf, dom, few⟩
  have HX : Aside _ := hx
  obtain ⟨ih, hih, hsh, hbh, zh, hzh, hzsh⟩ := Hd.info_handle
  have HI : Aside (Tryz.prog.info? 28 = some ih ∧ ih.zero = some zh ∧ ih.size = 1 ∧ ih.bytes = 8 ∧ zh.cells.size = 1) := ⟨hih, hzh, hsh, hbh, hzsh⟩
  clear gt hf dom few hx hih hsh hbh hzh hzsh
  refine callsIn_of_wp_marks Tryz.func20 rfl trivial ?_ rfl
  simp only [Tryz.ntmps20, List.size_toArray, List.length_cons, List.length_nil, Nat.reduceAdd, Nat.reduceSub, Array.replicate_succ, Array.replicate_zero, List.push_toArray, List.append_toArray, List.nil_append, List.cons_append]
  have hmm := @run_makeMap Tryz.prog
  gi_wp2
  refine ⟨trivial, rfl, (callsIn_wide.2 (inOrder_any pp x (w.heap.size + 1 + 1) _)).mono ?_⟩
  rintro e W7 ⟨rfl, hw7⟩
  simp only [World.size_alloc] at hw7 ⊢
  have s7 : W7.heap.size = w.heap.size + 6 := by rw [hw7]; simp
  have C0 : Aside (Li w pp g x hs0 w.heap.size ⟨x, [], [], g⟩ [] (.slice none 0 0) (W7.alloc (.deferred (some [])))) := by
    rw [hw7]
    exact Li.start rfl HX.out
  clear hw7 hmm
  gi_wp2
  refine range_G (r := none) (w' := W7.alloc (.deferred (some []))) (mark := [{ target := .collected W7.heap.size, args := #[] }]) (gf := 53) (ba := #[]) (cp := #[.pointer (some ⟨w.heap.size + 1 + 1 + 1 + 1, 0, none⟩), .pointer (some ⟨w.heap.size + 1 + 1 + 1, 0, none⟩), .pointer (some ⟨w.heap.size + 1 + 1 + 1 + 2, 0, none⟩)]) rfl (enters_of Tryz.func53 (by kernel_rfl) rfl) (fun fn => outer W7)
    (inOrder_seq (pp := pp) hs0 x (w.heap.size + 1 + 1 + 1 + 1) (w.heap.size + 1 + 1 + 1) (w.heap.size + 1 + 1 + 1 + 2) (w.heap.size + 1 + 1) [] g (Lm w.heap.size (.slice none 0 0)) W7) ((K.refl W7).alloc _) ?hO ?hps ?hmk
    (fun s M V => ∃ pre a c, M = Lm w.heap.size (.slice a pre.length c) ∧ Li w pp g x hs0 w.heap.size s pre (.slice a pre.length c) V)
    (fun c M V => c = .ret ∧ Lx w g x w.heap.size V)
    (fun s enc M a' V => (∃ pre a c, M = Lm w.heap.size (.slice a pre.length c) ∧ Li w pp g x hs0 w.heap.size s pre (.slice a pre.length c) V) ∧ ∃ hh n er pb, enc = #[pv hh n, .int .i64 er] ∧ V.heap[pb]? = some (pbx hh n) ∧ w.heap.size + 7 < pb ∧ a' = { tmps := #[.pointer pp, .int .u64 x, undef, undef, .pointer (some ⟨w.heap.size, 0, none⟩), .pointer (some ⟨w.heap.size + 1, 0, none⟩), .pointer (some ⟨pb, 0, none⟩), .int .i64 er, .pointer pp, .int .u64 x, .map (some (w.heap.size + 1 + 1)), .func (.func 53) #[] #[.pointer (some ⟨w.heap.size + 1 + 1 + 1 + 1, 0, none⟩), .pointer (some ⟨w.heap.size + 1 + 1 + 1, 0, none⟩), .pointer (some ⟨w.heap.size + 1 + 1 + 1 + 2, 0, none⟩)], pv hh n, .int .i64 er, undef, undef, undef, undef, undef, undef, undef, undef], defers := [] })
    ?hI ?hIm ?hIx ?hAx ?hS ?h0 ?hassign ?hbody ?hdone ?hstop
  case hO =>
    intro k hk
    exact C0.out.lt hk
  case hps => rintro s enc (⟨_, p, st, _, rfl⟩ | ⟨_, _, rfl⟩) <;> rfl
  case hmk =>
    rintro s V s' V' ⟨_, n, _, _, _, k, _⟩
    exact k.mono (fun j _ hj => by have : j = w.heap.size + 1 + 1 := hj; rw [World.size_alloc, s7]; omega)
  case hI =>
    rintro s M V V' ⟨pre, a, c, rfl, hc⟩ k
    exact ⟨pre, a, c, rfl, hc.turn rfl k (fun j hj => ⟨by have := hj.1; rw [World.size_alloc, s7] at this; omega, fun e => hj.2 (.inr (.inr e))⟩)⟩
  case hIm =>
    rintro s M V s' V' ⟨pre, a, c, rfl, hc⟩ hm
    exact ⟨pre, a, c, rfl, hc.mark rfl HF.out.2.1 HF.out.1.sz hm⟩
  case hIx =>
    rintro c M V V' ⟨rfl, hc⟩ k
    exact ⟨rfl, hc.turn rfl k (fun j hj => by have := hj.1; rw [World.size_alloc, s7] at this; omega)⟩
  case hAx =>
    rintro s enc M a' V V' ⟨⟨pre, a, c, rfl, hc⟩, hh, n, er, pb, he, hb, hp, ha⟩ hM k
    have e8 : (W7.alloc (.deferred (some []))).heap.size = w.heap.size + 7 := by rw [World.size_alloc, s7]
    refine ⟨⟨pre, a, c, rfl, hc.turn rfl k (fun j hj => ?_)⟩, hh, n, er, pb, he, k.block hb (by rw [e8]; omega), hp, ha⟩
    have hj : j = _ := hj
    subst hj
    exact ⟨by rw [e8]; omega, fun e => hM (.inr (.inr e))⟩
  case hS =>
    rintro s M V ⟨pre, a, c, rfl, hc⟩
    exact hc.read GT.out HF.out.2.1 HF.out.2.2
  case h0 => exact ⟨[], none, 0, rfl, C0.out⟩
  case hassign =>
    rintro s enc M V hdue ⟨pre, a, c, rfl, hc⟩ _ hlt
    obtain ⟨hh, n, er, rfl⟩ : ∃ hh n er, enc = #[pv hh n, .int .i64 er] := by
      rcases hdue with ⟨_, p, st, _, e⟩ | ⟨_, _, e⟩
      · exact ⟨_, _, _, e⟩
      · exact ⟨_, _, _, e⟩
    have HC : Aside _ := hc
    have LT : Aside (w.heap.size + 7 < V.heap.size) := by rw [World.size_alloc, s7] at hlt; exact hlt
    clear hdue hc hlt C0
    gi_wp2
    exact ⟨((K.refl V).alloc _).kept _, ⟨pre, a, c, rfl, HC.out.kk rfl ((K.refl V).alloc _)⟩, hh, n, er, _, rfl, World.alloc_heap_new V (pbx hh n), LT.out, rfl⟩
  case hbody =>
    rintro s enc M a' V hdue _ _ ⟨⟨pre, a, c, rfl, hc⟩, hh, n, er, pb, henc, hb, hp, rfl⟩
    clear C0
    have HP : Aside (w.heap.size + 7 < pb) := hp
    rcases hdue with ⟨e0, p1, st, e1, rfl⟩ | ⟨e0, e1, rfl⟩
    · obtain ⟨h1, st1, m, g1⟩ := s
      simp only at e0 e1
      subst e0 e1
      have he : pv p1.1 p1.2 = pv hh n ∧ er = 0 := by
        have h0 := congrArg (fun a : Array Value => a[0]?) henc
        have h1 := congrArg (fun a : Array Value => a[1]?) henc
        simp at h0 h1
        exact ⟨by simpa using h0, h1.symm⟩
      obtain ⟨hpv, rfl⟩ := he
      obtain ⟨ph, pn⟩ := p1
      obtain ⟨pa, pb1, pc, pd, pe, pf⟩ := pn
      obtain ⟨na, nb, nc, nd, ne, nf⟩ := n
      have hpv2 : ph = hh ∧ pa = na ∧ pb1 = nb ∧ pc = nc ∧ pd = nd ∧ pe = ne ∧ pf = nf := by simpa using hpv
      obtain ⟨rfl, rfl, rfl, rfl, rfl, rfl, rfl⟩ := hpv2
      obtain rfl : g = g1 := hc.eg.symm
      obtain ⟨l, hl⟩ : ∃ l, pre.length = l := ⟨_, rfl⟩
      rw [hl] at hc
      have HL : Aside (pre.length = l) := hl
      have hl6 : l ≤ 65536 := by
        have h1 := hc.pl
        have h2 := Nat.le_trans (nodup_len hc.mp.nd hc.sub) HF.out.2.2
        simp only at h1 h2
        omega
      have HC : Aside _ := hc
      have HV : Aside (w.heap.size + 7 ≤ V.heap.size) := by
        have := (Array.getElem?_eq_some_iff.1 hc.d).1
        show _ ≤ _
        omega
      obtain ⟨d0, d1, d2, d3, d4, d5, d6⟩ := seven hb
      have hcv := hc.bv.cell
      have hbs : w.heap.size ≤ V.heap.size := by have := HV.out; omega
      clear hc henc hpv hb hp hl
      gi_wp2_with (gi_at_builtin; refine wrapdd ?_)
      unfold Nd.Wrapd
      have hl8 : l + 1 ≤ maxLen := by unfold maxLen; omega
      have hrw : (V.alloc (.cells #[encU ph] 28)).ownsRow w.heap.size 28 1 (.slice a l c) l (pre.map encU) := by have := HC.out.row; rw [HL.out] at this; exact this.alloc _
      refine wpListIn_append_own_at _ rfl _ _ 45 rfl w.heap.size 28 ih zh 1 8 Tryz.underlying45 HI.out.1 HI.out.2.1 HI.out.2.2.1 HI.out.2.2.2.1 HI.out.2.2.2.2 (by decide) (.slice a l c) l (pre.map encU) rfl hrw ⟨V.heap.size, 0, none⟩ 1 1 [encU ph] rfl rfl (Hd.src_one V #[encU ph] 28) (by simp [Value.oneCell']) hl8 (by omega) (by simp only [World.size_alloc]; omega) ?_
      intro v' W3 hown hgrow _ hat
      obtain ⟨g4, c4, hv4⟩ := Hd.own_form hown
      subst hv4
      have FF : Aside _ := HC.out.app rfl (by rw [HL.out]; exact hown) hgrow hat HV.out
      have fz := FF.out.1.frozen
      have fc := FF.out.1.cell
      clear hown hgrow hat hrw
      gi_wp2
      rw [HL.out]
      exact ⟨FF.out.2.1, ⟨pd, st, m, g⟩, _, ⟨rfl, _, _, rfl, rfl, rfl, Nat.le_refl _⟩, ⟨pre ++ [ph], some ⟨g4, 0, none⟩, c4, rfl, by rw [show (pre ++ [ph]).length = l + 1 by simp [HL.out]]; exact FF.out.2.2.1⟩, by rw [show (pre ++ [ph]).length = l + 1 by simp [HL.out]]; exact FF.out.2.2.2⟩
    · obtain rfl : er = 8 := by
        have := congrArg (fun a : Array Value => a[1]?) henc
        simp at this
        exact this.symm
      have hfz := hc.r.frozen
      have hcl := hc.r.cell
      have k2 : Kept (Lm w.heap.size (.slice a pre.length c)) V (V.setCell ⟨w.heap.size, 0, none⟩ (.slice none 0 0)) := (Kept.refl _ V).setCell (p := ⟨w.heap.size, 0, none⟩) _ (.inl (.inl rfl))
      have FIN : Aside (Kept (Lm w.heap.size (.slice a pre.length c)) V (V.setCell ⟨w.heap.size, 0, none⟩ (.slice none 0 0)) ∧ Lx w g x w.heap.size (V.setCell ⟨w.heap.size, 0, none⟩ (.slice none 0 0))) := by
        obtain ⟨k', hk'⟩ := hc.go 0 none (.no e0 (by rw [← hc.eg]; exact e1))
        exact ⟨k2, Hp.K.setCell hc.k _ (Nat.le_refl _), hc.r.set _, ⟨k', hk'⟩, (Below.heap_setCell V ⟨w.heap.size, 0, none⟩ _ _ (by show w.heap.size + 6 ≠ w.heap.size; omega)).trans hc.d⟩
      clear hc henc hp e0 e1 hb k2
      gi_wp2
      exact ⟨FIN.out.1, _, ⟨rfl, FIN.out.2⟩, fun k h => .inl h⟩
  case hdone =>
    rintro s M V hend ⟨pre, a, c, rfl, hc⟩
    obtain ⟨h1, st1, m1, g1⟩ := s
    obtain ⟨e1, e2⟩ := hend
    simp only at e1 e2
    subst e1 e2
    obtain ⟨k', hk'⟩ := hc.go 0 (some []) .done
    have hk' : Lst g k' x [] [] (some pre) := by simpa using hk'
    have HK : Aside _ := hk'
    have HC : Aside _ := hc
    have hfz := hc.r.frozen
    have hcl := hc.r.cell
    have hcv := hc.bv.cell
    have HL : Aside (W7.heap.size = w.heap.size + 6) := s7
    obtain ⟨l, hl⟩ : ∃ l, pre.length = l := ⟨_, rfl⟩
    rw [hl] at hcv
    have HLL : Aside (pre.length = l) := hl
    clear hc hk' C0 hl
    gi_wp2
    rw [HL.out]
    have k6 : Kept (fun j => j = w.heap.size ∨ j = w.heap.size + 6) V ((V.setCell ⟨w.heap.size, 0, none⟩ (.slice a l c)).putObj (w.heap.size + 6) (.deferred none)) := Kept.putObj ((Kept.refl _ V).setCell (p := ⟨w.heap.size, 0, none⟩) _ (.inl (.inl rfl))) _ (.inl (.inr rfl))
    refine ⟨by simp, .inl ⟨_, _, rfl, run_takeDeferred (show (V.setCell ⟨w.heap.size, 0, none⟩ (.slice a l c)).heap[w.heap.size + 6]? = _ from (Below.heap_setCell V ⟨w.heap.size, 0, none⟩ _ _ (by show w.heap.size + 6 ≠ w.heap.size; omega)).trans HC.out.d), .slice a l c, ?_, some pre, k', HK.out, Kept.putObj (Hp.K.setCell HC.out.k _ (Nat.le_refl _)) _ (.inr (by omega)), .inr ⟨pre, _, rfl, rfl, ?_⟩⟩⟩
    · have hset := ((Kept.putObj (Kept.refl (fun k => k = w.heap.size + 6) (V.setCell ⟨w.heap.size, 0, none⟩ (.slice a l c))) (.deferred none) (.inl rfl)).boxed (HC.out.r.set (.slice a l c)) (show ¬ w.heap.size = w.heap.size + 6 by omega)).cell
      simp [results, Tryz.f20, go_sem, hset]
    · have hrow := HC.out.row
      rw [HLL.out] at hrow ⊢
      exact Hd.ownsRow_kept hrow k6 (fun b hb e => by have := HC.out.off b (by rw [HLL.out]; exact hb); omega)
  case hstop =>
    rintro c M V ⟨rfl, hc⟩
    obtain ⟨k', hk'⟩ := hc.c
    have HK : Aside _ := hk'
    have HC : Aside _ := hc
    have HL : Aside (W7.heap.size = w.heap.size + 6) := s7
    clear hc hk' C0
    gi_wp2
    rw [HL.out]
    refine ⟨by simp, .inl ⟨_, _, rfl, run_takeDeferred HC.out.d, .slice none 0 0, ?_, none, k', HK.out, Kept.putObj HC.out.k _ (.inr (by omega)), .inl ⟨rfl, rfl⟩⟩⟩
    have hset := ((Kept.putObj (Kept.refl (fun k => k = w.heap.size + 6) V) (.deferred none) (.inl rfl)).boxed HC.out.r (show ¬ w.heap.size = w.heap.size + 6 by omega)).cell
    simp [results, Tryz.f20, go_sem, hset]
theorem list_any (h : Sw w B A pg W L v T) (hx : U64 x) : Calls Tryz.prog 20 #[sp A.st, .int .u64 x] w (ListPost w (vw T W) x) :=
  callsIn_wide.1 (list_in (fun V k => gets_of (h.keep k)) (vw_fit h) (fun y n h => nd_mem h) (by rw [lvH_len]; exact h.b.tl) hx)

end Wa
end Go.Proofs.YtbbjfebdihepnaaGreatDoor
