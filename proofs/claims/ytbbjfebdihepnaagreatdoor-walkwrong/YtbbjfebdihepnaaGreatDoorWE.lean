/-
  What Check's rounds keep.
-/
import Derived.Test.YtbbjfebdihepnaaGreatDoorWD
import Derived.Test.YtbbjfebdihepnaaGreatDoorWC
import Derived.OrdersIn
namespace Go.Proofs.YtbbjfebdihepnaaGreatDoor
open Go.RowKit Go.Maps
attribute [local go_sem] Oper.semAt_some
namespace Wa
open Hp (Kept K No Pg Grows wide outer)
open Hd (U64)
open Nd (Nv nv0 encU six)
open Co (Off)
open Go.Proofs.YtbbjfebdihepnaaGreatDoor.So (Ad Sw sp)
variable {w w' : World} {B : Nat} {A : Ad} {pg : List (Int × Nat)} {W : Int → Int} {L : List Pg} {v : Value} {T : List Hd.Sl} {x : Int}

theorem inOrder_any (pp : Option Addr) (x : Int) (mb : Nat) (w : World) : Calls Tryz.prog 30 #[.pointer pp, .int .u64 x, .map (some mb)] w fun e w' => e = .returned (.func (.func 53) #[] #[.pointer (some ⟨w.heap.size + 1, 0, none⟩), .pointer (some ⟨w.heap.size, 0, none⟩), .pointer (some ⟨w.heap.size + 2, 0, none⟩)]) ∧ w' = ((w.alloc (.cells #[.pointer pp] 26)).alloc (.cells #[.int .u64 x] 28)).alloc (.cells #[.map (some mb)] 66) := by
  have hmf : ∀ (fn : Fn) (first cap : Array Value) (w : World), (Instr.makeFunc fn first cap).run Tryz.prog w = .ok (.func fn first cap) w := fun _ _ _ _ => rfl
  go_enter Tryz.func30, Tryz.ntmps30
  go_wp2
  go_ret
  exact ⟨by simp, rfl⟩

/-- Check's variables, and what is met, between two rounds. -/
structure Ci (w : World) (A : Ad) (g : Vw) (x : Int) (hs0 : List Int) (p q : Nat) (s : Sg) (b : Option ByteArray) (V : World) : Prop where
  k : K w V
  bs : Boxed V p 26 (sp A.st)
  r : ∃ r0, Boxed V (p + 1) 31 (.int .i64 r0)
  v : Boxed V (q + 1) 66 (.map (some q))
  f : Boxed V (q + 1 + 1) 4 (.bool b.isNone)
  t : Boxed V (q + 1 + 1 + 1) 9 (.string (b.getD ⟨#[]⟩))
  i2 : Boxed V (q + 1 + 1 + 1 + 1) 26 (sp A.st)
  i1 : Boxed V (q + 1 + 1 + 1 + 1 + 1) 28 (.int .u64 x)
  i3 : Boxed V (q + 1 + 1 + 1 + 1 + 2) 66 (.map (some q))
  d : V.heap[q + 7]? = some (.deferred (some []))
  mp : Mp V q s.m
  sub : ∀ y ∈ s.m, y ∈ hs0
  high : s.st.length ≤ s.m.length
  hu : U64 s.h
  su : ∀ y ∈ s.st, U64 y.1 ∧ y.2.Ok ∧ g.nd y.1 = some y.2
  eg : s.g = g
  go : ∀ k r, Chk g k s.h s.st s.m b r → ∃ k', Chk g k' x [] [] none r
/-- The blocks that a round may turn. -/
def Cm (p q : Nat) : Nat → Prop := fun k => k = p + 1 ∨ k = q + 1 + 1 ∨ k = q + 1 + 1 + 1 ∨ k = q
theorem Ci.turn {g : Vw} {hs0 : List Int} {p q : Nat} {s : Sg} {b : Option ByteArray} {V V' : World} {O : Nat → Prop} (h : Ci w A g x hs0 p q s b V) (wp : w.heap.size = p) (k : Kept O V V') (hO : ∀ j, O j → q + 8 ≤ j) (hpq : p + 1 < q) : Ci w A g x hs0 p q s b V' := by
  have n : ∀ j, j < q + 8 → ¬ O j := fun j hj ho => by have := hO j ho; omega
  obtain ⟨r0, hr⟩ := h.r
  exact ⟨Nd.kthen h.k k (fun j hj => by have := hO j hj; omega), k.boxed h.bs (n _ (by omega)), ⟨r0, k.boxed hr (n _ (by omega))⟩, k.boxed h.v (n _ (by omega)), k.boxed h.f (n _ (by omega)), k.boxed h.t (n _ (by omega)), k.boxed h.i2 (n _ (by omega)), k.boxed h.i1 (n _ (by omega)), k.boxed h.i3 (n _ (by omega)), k.block h.d (n _ (by omega)), h.mp.kept k (n _ (by omega)), h.sub, h.high, h.hu, h.su, h.eg, h.go⟩
theorem Ci.kk {g : Vw} {hs0 : List Int} {p q : Nat} {s : Sg} {b : Option ByteArray} {V V' : World} (h : Ci w A g x hs0 p q s b V) (wp : w.heap.size = p) (k : K V V') (hpq : p + 1 < q) : Ci w A g x hs0 p q s b V' := h.turn wp (k.kept (fun _ => False)) (fun _ h => h.elim) hpq
/-- What the iterator marks. -/
theorem Ci.mark {g : Vw} {hs0 : List Int} {p q : Nat} {s s' : Sg} {b : Option ByteArray} {V V' : World} (h : Ci w A g x hs0 p q s b V) (wp : w.heap.size = p) (hpq : p + 1 < q) (dom : ∀ y n, g.nd y = some n → y ∈ hs0) (ok : ∀ y n, g.nd y = some n → n.Ok) (m : (iWay q).Mark s V s' V') : Ci w A g x hs0 p q s' b V' := by
  obtain ⟨h0, n, hn, hm, rfl, k, mp⟩ := m
  have ne : ∀ {c : Nat}, c ≠ q → ¬ c = q := fun h => h
  rw [h.eg] at hn
  obtain ⟨r0, hr⟩ := h.r
  refine ⟨Nd.kthen h.k k (fun j hj => by have : j = q := hj; omega), k.boxed h.bs (ne (by omega)), ⟨r0, k.boxed hr (ne (by omega))⟩, k.boxed h.v (ne (by omega)), k.boxed h.f (ne (by omega)), k.boxed h.t (ne (by omega)), k.boxed h.i2 (ne (by omega)), k.boxed h.i1 (ne (by omega)), k.boxed h.i3 (ne (by omega)), k.block h.d (ne (by omega)), mp, fun y hy => ?_, ?_, ?_, fun y hy => ?_, h.eg, fun k r c => h.go _ _ (.push h0 hn hm c)⟩
  · rcases List.mem_cons.1 hy with rfl | hy
    · exact dom _ _ hn
    · exact h.sub y hy
  · have := h.high
    simp only [List.length_cons]
    omega
  · exact ⟨(ok _ _ hn).c.1, (ok _ _ hn).c.2⟩
  · rcases List.mem_cons.1 hy with rfl | hy
    · exact ⟨h.hu, ok _ _ hn, hn⟩
    · exact h.su y hy
/-- What is read. -/
theorem Ci.read {hs0 : List Int} {p q : Nat} {s : Sg} {b : Option ByteArray} {V : World} (h : Ci w A (vw T W) x hs0 p q s b V) (sw : Sw w B A pg W L v T) (dom : ∀ y n, (vw T W).nd y = some n → y ∈ hs0) (few : hs0.length ≤ 65536) : Rdg (some ⟨A.st, 0, none⟩) hs0 x (q + 1 + 1 + 1 + 1 + 1) (q + 1 + 1 + 1 + 1) (q + 1 + 1 + 1 + 1 + 2) q s (Cm p q) V := by
  obtain ⟨r0, hr⟩ := h.r
  refine ⟨by rw [h.eg]; exact gets_of (sw.keep h.k), h.i1.cell, h.i2.cell, h.i3.cell, h.mp, h.sub, fun y n hn => dom y n (by rw [← h.eg]; exact hn), few, h.high, h.hu, fun y hy => ⟨(h.su y hy).1, (h.su y hy).2.1⟩, fun k hk => ?_⟩
  rcases hk with rfl | rfl | rfl | rfl
  · exact hr.lt
  · exact h.f.lt
  · exact h.t.lt
  · exact h.mp.lt
/-- Behind a return within a round. -/
structure Cx (w : World) (g : Vw) (x : Int) (p q : Nat) (V : World) : Prop where
  k : K w V
  r : ∃ r k, Boxed V (p + 1) 31 (.int .i64 r) ∧ Chk g k x [] [] none r
  d : V.heap[q + 7]? = some (.deferred (some []))
theorem Cx.turn {g : Vw} {p q : Nat} {V V' : World} {O : Nat → Prop} (h : Cx w g x p q V) (wp : w.heap.size = p) (k : Kept O V V') (hO : ∀ j, O j → q + 8 ≤ j) (hpq : p + 1 < q) : Cx w g x p q V' := by
  have n : ∀ j, j < q + 8 → ¬ O j := fun j hj ho => by have := hO j ho; omega
  obtain ⟨r, k', h1, h2⟩ := h.r
  exact ⟨Nd.kthen h.k k (fun j hj => by have := hO j hj; omega), ⟨r, k', k.boxed h1 (n _ (by omega)), h2⟩, k.block h.d (n _ (by omega))⟩
/-- At the start. -/
theorem Ci.start {w1 : World} {g : Vw} {hs0 : List Int} {p q : Nat} (k1 : K w w1) (b0 : w1.heap[p]? = some (.cells #[sp A.st] 26)) (b1 : w1.heap[p + 1]? = some (.cells #[.int .i64 0] 31)) (hq : w1.heap.size = q) (hx : U64 x) :
    Ci w A g x hs0 p q ⟨x, [], [], g⟩ none (((((((((w1.alloc (.map #[] 0)).alloc (.cells #[.map (some q)] 66)).alloc (.cells #[.bool true] 4)).alloc (.cells #[.string ⟨#[]⟩] 9)).alloc (.cells #[sp A.st] 26)).alloc (.cells #[.int .u64 x] 28)).alloc (.cells #[.map (some q)] 66)).alloc (.deferred (some [])))) := by
  subst hq
  have m1 := Mp.new w1
  have v1 := Boxed.new (w1.alloc (.map #[] 0)) 66 (.map (some w1.heap.size))
  have f1 := Boxed.new ((w1.alloc (.map #[] 0)).alloc (.cells #[.map (some w1.heap.size)] 66)) 4 (.bool true)
  have t1 := Boxed.new (((w1.alloc (.map #[] 0)).alloc (.cells #[.map (some w1.heap.size)] 66)).alloc (.cells #[.bool true] 4)) 9 (.string ⟨#[]⟩)
  have i2 := Boxed.new ((((w1.alloc (.map #[] 0)).alloc (.cells #[.map (some w1.heap.size)] 66)).alloc (.cells #[.bool true] 4)).alloc (.cells #[.string ⟨#[]⟩] 9)) 26 (sp A.st)
  have i1 := Boxed.new (((((w1.alloc (.map #[] 0)).alloc (.cells #[.map (some w1.heap.size)] 66)).alloc (.cells #[.bool true] 4)).alloc (.cells #[.string ⟨#[]⟩] 9)).alloc (.cells #[sp A.st] 26)) 28 (.int .u64 x)
  have i3 := Boxed.new ((((((w1.alloc (.map #[] 0)).alloc (.cells #[.map (some w1.heap.size)] 66)).alloc (.cells #[.bool true] 4)).alloc (.cells #[.string ⟨#[]⟩] 9)).alloc (.cells #[sp A.st] 26)).alloc (.cells #[.int .u64 x] 28)) 66 (.map (some w1.heap.size))
  have d1 := World.alloc_heap_new (((((((w1.alloc (.map #[] 0)).alloc (.cells #[.map (some w1.heap.size)] 66)).alloc (.cells #[.bool true] 4)).alloc (.cells #[.string ⟨#[]⟩] 9)).alloc (.cells #[sp A.st] 26)).alloc (.cells #[.int .u64 x] 28)).alloc (.cells #[.map (some w1.heap.size)] 66)) (.deferred (some []))
  simp only [World.size_alloc] at v1 f1 t1 i2 i1 i3 d1
  have r : ∀ V, K V V := fun V => K.refl V
  have kA : K w1 _ := (((((((r w1).alloc (.map #[] 0)).alloc (.cells #[.map (some w1.heap.size)] 66)).alloc (.cells #[.bool true] 4)).alloc (.cells #[.string ⟨#[]⟩] 9)).alloc (.cells #[sp A.st] 26)).alloc (.cells #[.int .u64 x] 28)).alloc (.cells #[.map (some w1.heap.size)] 66) |>.alloc (.deferred (some []))
  have bs : Boxed w1 p 26 (sp A.st) := b0
  have br : Boxed w1 (p + 1) 31 (.int .i64 0) := b1
  refine ⟨k1.trans kA, kA.boxed bs, ⟨0, kA.boxed br⟩, (((((((r _).alloc _).alloc _).alloc _).alloc _).alloc _).alloc _).boxed v1, ((((((r _).alloc _).alloc _).alloc _).alloc _).alloc _).boxed f1, (((((r _).alloc _).alloc _).alloc _).alloc _).boxed t1, ((((r _).alloc _).alloc _).alloc _).boxed i2, (((r _).alloc _).alloc _).boxed i1, ((r _).alloc _).boxed i3, d1, ?_, by simp, by simp, hx, by simp, rfl, fun k r c => ⟨k, c⟩⟩
  exact m1.kept (((((((((r _).alloc _).alloc _).alloc _).alloc _).alloc _).alloc _).alloc _).kept (fun _ => False)) (fun h => h)

/-- Within a round: what stays, and the two texts. -/
structure Bz (w : World) (A : Ad) (p q pb pr : Nat) (hh : Int) (n : Nv) (b : Option ByteArray) (kt vt : ByteArray) (V V2 : World) : Prop where
  kp : Kept (Cm p q) V V2
  bs : Boxed V2 p 26 (sp A.st)
  r : ∃ r0, Boxed V2 (p + 1) 31 (.int .i64 r0)
  v : Boxed V2 (q + 1) 66 (.map (some q))
  f : Boxed V2 (q + 1 + 1) 4 (.bool b.isNone)
  t : Boxed V2 (q + 1 + 1 + 1) 9 (.string (b.getD ⟨#[]⟩))
  pb : V2.heap[pb]? = some (pbx hh n)
  pr : V2.heap[pr]? = some (.cells #[.string kt, .string vt] 39)
theorem Bz.next {p q pb pr : Nat} {hh : Int} {n : Nv} {b : Option ByteArray} {kt vt : ByteArray} {V V2 V3 : World} (h : Bz w A p q pb pr hh n b kt vt V V2) (k : Kept (fun j => j = q) V2 V3) (hpb : q < pb) (hpr : q < pr) (hpq : p + 1 < q) : Bz w A p q pb pr hh n b kt vt V V3 := by
  obtain ⟨r0, hr⟩ := h.r
  have ne : ∀ {c : Nat}, c ≠ q → ¬ c = q := fun h => h
  exact ⟨h.kp.trans (k.mono (fun j _ hj => .inr (.inr (.inr hj)))), k.boxed h.bs (ne (by omega)), ⟨r0, k.boxed hr (ne (by omega))⟩, k.boxed h.v (ne (by omega)), k.boxed h.f (ne (by omega)), k.boxed h.t (ne (by omega)), k.block h.pb (ne (by omega)), k.block h.pr (ne (by omega))⟩
theorem Bz.keep {p q pb pr : Nat} {hh : Int} {n : Nv} {b : Option ByteArray} {kt vt : ByteArray} {V V2 V3 : World} (h : Bz w A p q pb pr hh n b kt vt V V2) (k : K V2 V3) (hpb : q < pb) (hpr : q < pr) (hpq : p + 1 < q) : Bz w A p q pb pr hh n b kt vt V V3 := h.next (k.kept _) hpb hpr hpq
/-- Behind textsOf. -/
theorem Ci.pair {g : Vw} {hs0 : List Int} {p q pb : Nat} {s : Sg} {b : Option ByteArray} {V V2 : World} (h : Ci w A g x hs0 p q s b V) {hh : Int} {n : Nv} (hb : V.heap[pb]? = some (pbx hh n)) (k : K V V2) (kt vt : ByteArray) : Bz w A p q pb V2.heap.size hh n b kt vt V (V2.alloc (.cells #[.string kt, .string vt] 39)) := by
  obtain ⟨r0, hr⟩ := h.r
  have k2 := k.alloc (.cells #[.string kt, .string vt] 39)
  exact ⟨k2.kept _, k2.boxed h.bs, ⟨r0, k2.boxed hr⟩, k2.boxed h.v, k2.boxed h.f, k2.boxed h.t, k2.block hb, World.alloc_heap_new _ _⟩
theorem Ci.kM {g : Vw} {hs0 : List Int} {p q : Nat} {s : Sg} {b : Option ByteArray} {V V2 : World} (h : Ci w A g x hs0 p q s b V) (wp : w.heap.size = p) (hpq : p + 1 < q) (k : Kept (Cm p q) V V2) : K w V2 := Nd.kthen h.k k (fun j hj => by rcases hj with rfl | rfl | rfl | rfl <;> omega)
/-- A round that returns 8. -/
theorem Ci.bad {g : Vw} {hs0 : List Int} {p q : Nat} {s : Sg} {b : Option ByteArray} {V V2 : World} (h : Ci w A g x hs0 p q s b V) (wp : w.heap.size = p) (hpq : p + 1 < q) (k : Kept (Cm p q) V V2) (hr : ∃ r0, Boxed V2 (p + 1) 31 (.int .i64 r0)) (c : Chk g 0 s.h s.st s.m b 8) :
    Kept (Cm p q) V (V2.setCell ⟨p + 1, 0, none⟩ (.int .i64 8)) ∧ Cx w g x p q (V2.setCell ⟨p + 1, 0, none⟩ (.int .i64 8)) := by
  obtain ⟨r0, hr⟩ := hr
  obtain ⟨k', hk'⟩ := h.go _ _ c
  have hn : ∀ j, j < q + 8 → j ≠ p + 1 → j ≠ q + 1 + 1 → j ≠ q + 1 + 1 + 1 → j ≠ q → ¬ Cm p q j := fun j _ h1 h2 h3 h4 h => by
    rcases h with h | h | h | h
    · exact h1 h
    · exact h2 h
    · exact h3 h
    · exact h4 h
  have hd2 := k.block h.d (hn _ (by omega) (by omega) (by omega) (by omega) (by omega))
  refine ⟨k.setCell (p := ⟨p + 1, 0, none⟩) _ (.inl (.inl rfl)), Hp.K.setCell (h.kM wp hpq k) _ (by show w.heap.size ≤ p + 1; omega), ⟨8, k', hr.set _, hk'⟩, (Below.heap_setCell V2 ⟨p + 1, 0, none⟩ _ _ (by show q + 7 ≠ p + 1; omega)).trans hd2⟩
/-- A round that goes on. -/
theorem Ci.good {g : Vw} {hs0 : List Int} {p q : Nat} {hh : Int} {n : Nv} {st : List (Int × Nv)} {m : List Int} {b : Option ByteArray} {V V2 : World} {kt vt : ByteArray} {pb pr : Nat} (h : Ci w A g x hs0 p q ⟨0, (hh, n) :: st, m, g⟩ b V) (wp : w.heap.size = p) (hpq : p + 1 < q) (z : Bz w A p q pb pr hh n b kt vt V V2) (gd : Good g n m b kt vt) (mp : Mp V2 q (n.b :: n.a :: m)) (ha : n.a ∈ hs0) (hb : n.b ∈ hs0) :
    Kept (Cm p q) V ((V2.setCell ⟨q + 1 + 1, 0, none⟩ (.bool false)).setCell ⟨q + 1 + 1 + 1, 0, none⟩ (.string kt)) ∧ Ci w A g x hs0 p q ⟨n.d, st, n.b :: n.a :: m, g⟩ (some kt) ((V2.setCell ⟨q + 1 + 1, 0, none⟩ (.bool false)).setCell ⟨q + 1 + 1 + 1, 0, none⟩ (.string kt)) := by
  have hn : ∀ j, j ≠ p + 1 → j ≠ q + 1 + 1 → j ≠ q + 1 + 1 + 1 → j ≠ q → ¬ Cm p q j := fun j h1 h2 h3 h4 h => by
    rcases h with h | h | h | h
    · exact h1 h
    · exact h2 h
    · exact h3 h
    · exact h4 h
  have k2 : Kept (fun j => j = q + 1 + 1 ∨ j = q + 1 + 1 + 1) V2 ((V2.setCell ⟨q + 1 + 1, 0, none⟩ (.bool false)).setCell ⟨q + 1 + 1 + 1, 0, none⟩ (.string kt)) := ((Kept.refl _ V2).setCell (p := ⟨q + 1 + 1, 0, none⟩) _ (.inl (.inl rfl))).setCell (p := ⟨q + 1 + 1 + 1, 0, none⟩) _ (.inl (.inr rfl))
  have kall : Kept (Cm p q) V ((V2.setCell ⟨q + 1 + 1, 0, none⟩ (.bool false)).setCell ⟨q + 1 + 1 + 1, 0, none⟩ (.string kt)) := z.kp.trans (k2.mono (fun j _ hj => hj.elim (fun h => .inr (.inl h)) (fun h => .inr (.inr (.inl h)))))
  obtain ⟨r0, hr⟩ := z.r
  have ne : ∀ {c : Nat}, c ≠ q + 1 + 1 → c ≠ q + 1 + 1 + 1 → ¬ (c = q + 1 + 1 ∨ c = q + 1 + 1 + 1) := fun h1 h2 h => h.elim h1 h2
  have hsn := h.su (hh, n) (by simp)
  refine ⟨kall, h.kM wp hpq kall, k2.boxed z.bs (ne (by omega) (by omega)), ⟨r0, k2.boxed hr (ne (by omega) (by omega))⟩, k2.boxed z.v (ne (by omega) (by omega)), ?_, ?_, kall.boxed h.i2 (hn _ (by omega) (by omega) (by omega) (by omega)), kall.boxed h.i1 (hn _ (by omega) (by omega) (by omega) (by omega)), kall.boxed h.i3 (hn _ (by omega) (by omega) (by omega) (by omega)), kall.block h.d (hn _ (by omega) (by omega) (by omega) (by omega)), mp.kept k2 (ne (by omega) (by omega)), fun y hy => ?_, ?_, hsn.2.1.d, fun y hy => h.su y (by simp [hy]), h.eg, fun k r c => h.go (k + 1) r (.item gd c)⟩
  · have h1 : Boxed (V2.setCell ⟨q + 1 + 1, 0, none⟩ (.bool false)) (q + 1 + 1) 4 (.bool false) := z.f.set _
    exact ((Kept.refl (fun j => j = q + 1 + 1 + 1) _).setCell (p := ⟨q + 1 + 1 + 1, 0, none⟩) _ (.inl rfl)).boxed h1 (show ¬ q + 1 + 1 = q + 1 + 1 + 1 by omega)
  · have h1 : Boxed (V2.setCell ⟨q + 1 + 1, 0, none⟩ (.bool false)) (q + 1 + 1 + 1) 9 (.string (b.getD ⟨#[]⟩)) := ((Kept.refl (fun j => j = q + 1 + 1) _).setCell (p := ⟨q + 1 + 1, 0, none⟩) _ (.inl rfl)).boxed z.t (show ¬ q + 1 + 1 + 1 = q + 1 + 1 by omega)
    exact h1.set _
  · rcases List.mem_cons.1 hy with rfl | hy
    · exact hb
    · rcases List.mem_cons.1 hy with rfl | hy
      · exact ha
      · exact h.sub y hy
  · have := h.high
    simp only [List.length_cons] at this ⊢
    omega

end Wa
end Go.Proofs.YtbbjfebdihepnaaGreatDoor

/-
  The walk of Check.
-/
namespace Go.Proofs.YtbbjfebdihepnaaGreatDoor
open Go.RowKit Go.Maps
attribute [local go_sem] Oper.semAt_some
namespace Wa
open Hp (Kept K No Pg Grows wide outer)
open Hd (U64)
open Nd (Nv nv0 encU six)
open Co (Off)
open Go.Proofs.YtbbjfebdihepnaaGreatDoor.So (Ad Sw sp)
variable {w w' : World} {B : Nat} {A : Ad} {pg : List (Int × Nat)} {W : Int → Int} {L : List Pg} {v : Value} {T : List Hd.Sl} {x : Int}

set_option maxRecDepth 100000 in
set_option maxHeartbeats 4000000 in
theorem check_in (h : Sw w B A pg W L v T) (hx : U64 x) : CallsIn Fence.wide 0 Tryz.prog 12 #[sp A.st, .int .u64 x] w fun e w' => ∃ r k, e = .returned (.int .i64 r) ∧ Chk (vw T W) k x [] [] none r ∧ K w w' := by
  have cm : ∀ V, K w V → Calls Tryz.prog 29 #[sp A.st] V fun e w' => e = .returned (.bool true) ∧ K V w' := fun V k => made_yes (h.keep k)
  have CM : Aside _ := cm
  have HH : Aside _ := h
  have HX : Aside _ := hx
  clear cm h hx
  refine callsIn_of_wp_marks Tryz.func12 rfl trivial ?_ rfl
  simp only [Tryz.ntmps12, List.size_toArray, List.length_cons, List.length_nil, Nat.reduceAdd, Nat.reduceSub, Array.replicate_succ, Array.replicate_zero, List.push_toArray, List.append_toArray, List.nil_append, List.cons_append]
  gi_wp2
  refine ⟨trivial, rfl, (callsIn_wide.2 (CM.out _ (((K.refl w).alloc _).alloc _))).mono ?_⟩
  rintro e w1 ⟨rfl, k1⟩
  have b0 : w1.heap[w.heap.size]? = some (.cells #[sp A.st] 26) := k1.block (((K.refl (w.alloc (.cells #[sp A.st] 26))).alloc (.cells #[.int .i64 0] 31)).block (World.alloc_heap_new w (.cells #[sp A.st] 26)))
  have b1 : w1.heap[w.heap.size + 1]? = some (.cells #[.int .i64 0] 31) := k1.block (by have := World.alloc_heap_new (w.alloc (.cells #[sp A.st] 26)) (.cells #[.int .i64 0] 31); rwa [World.size_alloc] at this)
  have c0 : w1.cell? ⟨w.heap.size, 0, none⟩ = some (sp A.st) := by simp [World.cell?, b0]
  have K1 : Aside (K w w1) := (((K.refl w).alloc _).alloc _).trans k1
  have l0 : w.heap.size < w1.heap.size := (Array.getElem?_eq_some_iff.1 b0).1
  have l1 : w.heap.size + 1 < w1.heap.size := (Array.getElem?_eq_some_iff.1 b1).1
  clear CM k1
  have hmm := @run_makeMap Tryz.prog
  have k5 : K w1 ((((w1.alloc (.map #[] 0)).alloc (.cells #[.map (some w1.heap.size)] 66)).alloc (.cells #[.bool true] 4)).alloc (.cells #[.string ⟨#[]⟩] 9)) := ((((K.refl w1).alloc _).alloc _).alloc _).alloc _
  have c05 : ((((w1.alloc (.map #[] 0)).alloc (.cells #[.map (some w1.heap.size)] 66)).alloc (.cells #[.bool true] 4)).alloc (.cells #[.string ⟨#[]⟩] 9)).cell? ⟨w.heap.size, 0, none⟩ = some (sp A.st) := k5.cell c0
  have c15 : ((((w1.alloc (.map #[] 0)).alloc (.cells #[.map (some w1.heap.size)] 66)).alloc (.cells #[.bool true] 4)).alloc (.cells #[.string ⟨#[]⟩] 9)).cell? ⟨w1.heap.size + 1, 0, none⟩ = some (.map (some w1.heap.size)) := by
    have h1 := Boxed.new (w1.alloc (.map #[] 0)) 66 (.map (some w1.heap.size))
    simp only [World.size_alloc] at h1
    exact ((((K.refl ((w1.alloc (.map #[] 0)).alloc (.cells #[.map (some w1.heap.size)] 66))).alloc (.cells #[.bool true] 4)).alloc (.cells #[.string ⟨#[]⟩] 9)).boxed h1).cell
  gi_wp2
  refine ⟨trivial, rfl, (callsIn_wide.2 (inOrder_any (some ⟨A.st, 0, none⟩) x w1.heap.size _)).mono ?_⟩
  rintro e W7 ⟨rfl, hw7⟩
  have s7 : W7.heap.size = w1.heap.size + 7 := by rw [hw7]; simp
  have HF : Aside ((vw T W).Fit ∧ (∀ y n, (vw T W).nd y = some n → y ∈ lvH T) ∧ (lvH T).length ≤ 65536) := ⟨vw_fit HH.out, fun y n h => nd_mem h, by rw [lvH_len]; exact HH.out.b.tl⟩
  have C0 : Aside (Ci w A (vw T W) x (lvH T) w.heap.size w1.heap.size ⟨x, [], [], vw T W⟩ none (W7.alloc (.deferred (some [])))) := by
    rw [hw7]
    exact Ci.start K1.out b0 b1 rfl HX.out
  clear c05 c15 k5 hw7 c0 b0 b1 hmm
  gi_wp2
  refine range_G (r := none) (w' := W7.alloc (.deferred (some []))) (mark := [{ target := .collected W7.heap.size, args := #[] }]) (gf := 53) (ba := #[]) (cp := #[.pointer (some ⟨w1.heap.size + 1 + 1 + 1 + 1 + 1, 0, none⟩), .pointer (some ⟨w1.heap.size + 1 + 1 + 1 + 1, 0, none⟩), .pointer (some ⟨w1.heap.size + 1 + 1 + 1 + 1 + 2, 0, none⟩)]) rfl (enters_of Tryz.func53 (by kernel_rfl) rfl) (fun fn => outer W7)
    (inOrder_seq (pp := some ⟨A.st, 0, none⟩) (lvH T) x (w1.heap.size + 1 + 1 + 1 + 1 + 1) (w1.heap.size + 1 + 1 + 1 + 1) (w1.heap.size + 1 + 1 + 1 + 1 + 2) w1.heap.size [] (vw T W) (Cm w.heap.size w1.heap.size) W7) ((K.refl W7).alloc _) ?hO ?hps ?hmk
    (fun s M V => M = Cm w.heap.size w1.heap.size ∧ ∃ b, Ci w A (vw T W) x (lvH T) w.heap.size w1.heap.size s b V)
    (fun c M V => M = Cm w.heap.size w1.heap.size ∧ c = .ret ∧ Cx w (vw T W) x w.heap.size w1.heap.size V)
    (fun s enc M a' V => M = Cm w.heap.size w1.heap.size ∧ (∃ b, Ci w A (vw T W) x (lvH T) w.heap.size w1.heap.size s b V) ∧ ∃ hh n er pb, enc = #[pv hh n, .int .i64 er] ∧ V.heap[pb]? = some (pbx hh n) ∧ w1.heap.size + 8 < pb ∧ a' = { tmps := #[sp A.st, .int .u64 x, .pointer (some ⟨w.heap.size, 0, none⟩), undef, .pointer (some ⟨w.heap.size + 1, 0, none⟩), .pointer (some ⟨w1.heap.size + 1, 0, none⟩), .pointer (some ⟨w1.heap.size + 1 + 1, 0, none⟩), .pointer (some ⟨w1.heap.size + 1 + 1 + 1, 0, none⟩), .pointer (some ⟨pb, 0, none⟩), .int .i64 er, undef, undef, sp A.st, .bool true, .bool false, .map (some w1.heap.size), sp A.st, .int .u64 x, .map (some w1.heap.size), .func (.func 53) #[] #[.pointer (some ⟨w1.heap.size + 1 + 1 + 1 + 1 + 1, 0, none⟩), .pointer (some ⟨w1.heap.size + 1 + 1 + 1 + 1, 0, none⟩), .pointer (some ⟨w1.heap.size + 1 + 1 + 1 + 1 + 2, 0, none⟩)], pv hh n, .int .i64 er, undef, undef, undef, undef, undef, undef, undef, undef, undef, undef, undef, undef, undef, undef, undef, undef, undef, undef, undef, undef, undef, undef, undef, undef, undef, undef, undef, undef, undef, undef, undef, undef, undef, undef, undef, undef, undef, undef, undef, undef, undef, undef, undef, undef, undef, undef], defers := [] })
    ?hI ?hIm ?hIx ?hAx ?hS ?h0 ?hassign ?hbody ?hdone ?hstop
  case hO =>
    obtain ⟨r0, hr⟩ := C0.out.r
    rintro k (rfl | rfl | rfl | rfl)
    · exact hr.lt
    · exact C0.out.f.lt
    · exact C0.out.t.lt
    · exact C0.out.mp.lt
  case hps => rintro s enc (⟨_, p, st, _, rfl⟩ | ⟨_, _, rfl⟩) <;> rfl
  case hmk =>
    rintro s V s' V' ⟨_, n, _, _, _, k, _⟩
    exact k.mono (fun j _ hj => by have : j = w1.heap.size := hj; rw [World.size_alloc, s7]; omega)
  case hI =>
    rintro s M V V' ⟨rfl, b, hc⟩ k
    exact ⟨rfl, b, hc.turn rfl k (fun j hj => by have := hj.1; rw [World.size_alloc, s7] at this; omega) l1⟩
  case hIm =>
    rintro s M V s' V' ⟨rfl, b, hc⟩ hm
    exact ⟨rfl, b, hc.mark rfl l1 HF.out.2.1 HF.out.1.sz hm⟩
  case hIx =>
    rintro c M V V' ⟨rfl, rfl, hc⟩ k
    exact ⟨rfl, rfl, hc.turn rfl k (fun j hj => by have := hj.1; rw [World.size_alloc, s7] at this; omega) l1⟩
  case hAx =>
    rintro s enc M a' V V' ⟨rfl, ⟨b, hc⟩, hh, n, er, pb, he, hb, hp, ha⟩ _ k
    have e8 : (W7.alloc (.deferred (some []))).heap.size = w1.heap.size + 8 := by rw [World.size_alloc, s7]
    exact ⟨rfl, ⟨b, hc.turn rfl k (fun j hj => by have hj : j = _ := hj; rw [e8] at hj; omega) l1⟩, hh, n, er, pb, he, k.block hb (by rw [e8]; omega), hp, ha⟩
  case hS =>
    rintro s M V ⟨rfl, b, hc⟩
    exact hc.read HH.out HF.out.2.1 HF.out.2.2
  case h0 => exact ⟨rfl, none, C0.out⟩
  case hassign =>
    rintro s enc M V hdue ⟨rfl, b, hc⟩ _ hlt
    obtain ⟨hh, n, er, rfl⟩ : ∃ hh n er, enc = #[pv hh n, .int .i64 er] := by
      rcases hdue with ⟨_, p, st, _, e⟩ | ⟨_, _, e⟩
      · exact ⟨_, _, _, e⟩
      · exact ⟨_, _, _, e⟩
    have HC : Aside (Ci w A (vw T W) x (lvH T) w.heap.size w1.heap.size s b V) := hc
    have LT : Aside (w1.heap.size + 8 < V.heap.size) := by rw [World.size_alloc, s7] at hlt; exact hlt
    clear hdue hc hlt C0
    gi_wp2
    exact ⟨((K.refl V).alloc _).kept _, trivial, ⟨b, HC.out.kk rfl ((K.refl V).alloc _) l1⟩, hh, n, er, _, rfl, World.alloc_heap_new V (pbx hh n), LT.out, rfl⟩
  case hbody =>
    rintro s enc M a' V hdue _ _ ⟨rfl, ⟨b, hc⟩, hh, n, er, pb, henc, hb, hp, rfl⟩
    clear C0
    have HP : Aside (w1.heap.size + 8 < pb) := hp
    rcases hdue with ⟨e0, p1, st, e1, rfl⟩ | ⟨e0, e1, rfl⟩
    · obtain ⟨h1, st1, m, g1⟩ := s
      simp only at e0 e1
      subst e0 e1
      have he : pv p1.1 p1.2 = pv hh n ∧ er = 0 := by
        have h0 := congrArg (fun a : Array Value => a[0]?) henc
        have h1 := congrArg (fun a : Array Value => a[1]?) henc
        simp at h0 h1
        exact ⟨by simpa using h0, h1.symm⟩
      obtain ⟨hpv, rfl⟩ := he
      obtain ⟨ph, pn⟩ := p1
      obtain ⟨pa, pb1, pc, pd, pe, pf⟩ := pn
      obtain ⟨na, nb, nc, nd, ne, nf⟩ := n
      have hpv2 : ph = hh ∧ pa = na ∧ pb1 = nb ∧ pc = nc ∧ pd = nd ∧ pe = ne ∧ pf = nf := by simpa using hpv
      obtain ⟨rfl, rfl, rfl, rfl, rfl, rfl, rfl⟩ := hpv2
      obtain rfl : g1 = vw T W := hc.eg
      have HC : Aside (Ci w A (vw T W) x (lvH T) w.heap.size w1.heap.size ⟨0, (ph, ⟨pa, pb1, pc, pd, pe, pf⟩) :: st, m, vw T W⟩ b V) := hc
      have HB : Aside (V.heap[pb]? = some (pbx ph ⟨pa, pb1, pc, pd, pe, pf⟩)) := hb
      obtain ⟨hsu1, hsu2, hsu3⟩ := hc.su _ (List.mem_cons_self ..)
      have HN : Aside (U64 ph ∧ (⟨pa, pb1, pc, pd, pe, pf⟩ : Nv).Ok ∧ (vw T W).nd ph = some ⟨pa, pb1, pc, pd, pe, pf⟩) := ⟨hsu1, hsu2, hsu3⟩
      obtain ⟨d0, d1, d2, d3, d4, d5, d6⟩ := seven hb
      have cs := hc.bs.cell
      by_cases htx : ∃ kt vt, (vw T W).tx pa = some kt ∧ (vw T W).tx pb1 = some vt
      · obtain ⟨kt, vt, htk, htx2⟩ := htx
        have ct := texts_yes (HH.out.keep hc.k) (n := ⟨pa, pb1, pc, pd, pe, pf⟩) htk htx2
        have TX : Aside ((vw T W).tx pa = some kt ∧ (vw T W).tx pb1 = some vt) := ⟨htk, htx2⟩
        clear hc hb henc hpv hsu1 hsu2 hsu3 hp htk htx2
        gi_wp2
        refine ⟨trivial, rfl, (callsIn_wide.2 ct).mono ?_⟩
        rintro e w3 ⟨rfl, k3⟩
        have Z3 : Aside _ := HC.out.pair HB.out k3 kt vt
        have M3 : Aside (Mp (w3.alloc (.cells #[.string kt, .string vt] 39)) w1.heap.size m) := HC.out.mp.kept ((k3.alloc _).kept (fun _ => False)) (fun h => h)
        have P3 : Aside (w1.heap.size < pb ∧ w1.heap.size < w3.heap.size) := ⟨by have := HP.out; omega, by have := k3.size; have := HC.out.mp.lt; omega⟩
        have P4 : Aside (w1.heap.size + 7 < w3.heap.size) := Nat.lt_of_lt_of_le (Array.getElem?_eq_some_iff.1 HC.out.d).1 k3.size
        have ML : Aside (m.length ≤ 65536) := Nat.le_trans (nodup_len HC.out.mp.nd HC.out.sub) HF.out.2.2
        clear ct k3 d0 d1 d2 d3 d4 d5 d6 cs
        obtain ⟨d0, d1, d2, d3, d4, d5, d6⟩ := seven Z3.out.pb
        obtain ⟨x0, x1⟩ := two Z3.out.pr
        have cs := Z3.out.bs.cell
        have hbv := Z3.out.v.cell
        by_cases hma : pa ∈ m
        · have ca := add_old M3.out HN.out.2.1.a hma
          have BD : Aside (Chk (vw T W) 0 0 ((ph, ⟨pa, pb1, pc, pd, pe, pf⟩) :: st) m b 8) := .bad fun kt vt gd => gd.a hma
          clear hma
          gi_wp2
          refine ⟨trivial, rfl, (callsIn_wide.2 ca).mono ?_⟩
          rintro e w4 ⟨rfl, k4⟩
          have Z4 : Aside _ := Z3.out.keep k4 P3.out.1 P3.out.2 l1
          clear ca k4
          obtain ⟨r0, hr⟩ := Z4.out.r
          have hfz := hr.frozen
          have hcl := hr.cell
          have FIN : Aside _ := HC.out.bad rfl l1 Z4.out.kp Z4.out.r BD.out
          clear hr d0 d1 d2 d3 d4 d5 d6 x0 x1 cs hbv
          gi_wp2
          refine ⟨trivial, ?_⟩
          gi_wp2
          refine ⟨trivial, ?_⟩
          gi_wp2
          exact ⟨FIN.out.1, _, ⟨rfl, rfl, FIN.out.2⟩, fun k h => .inl h⟩
        · have ca := add_new M3.out HN.out.2.1.a hma (by have := ML.out; omega)
          have HMA : Aside (pa ∉ m) := hma
          clear hma
          gi_wp2
          refine ⟨trivial, rfl, (callsIn_wide.2 ca).mono ?_⟩
          rintro e w4 ⟨rfl, h4⟩
          have Z4 : Aside _ := Z3.out.next h4.out.2 P3.out.1 P3.out.2 l1
          have M4 : Aside _ := h4.out.1
          clear ca h4 d0 d1 d2 d3 d4 d5 d6 x0 x1 cs hbv M3
          obtain ⟨d0, d1, d2, d3, d4, d5, d6⟩ := seven Z4.out.pb
          obtain ⟨x0, x1⟩ := two Z4.out.pr
          have cs := Z4.out.bs.cell
          have hbv := Z4.out.v.cell
          by_cases hmb : pb1 ∈ pa :: m
          · have ca := add_old M4.out HN.out.2.1.b hmb
            have BD : Aside (Chk (vw T W) 0 0 ((ph, ⟨pa, pb1, pc, pd, pe, pf⟩) :: st) m b 8) := .bad fun kt vt gd => gd.b hmb
            clear hmb
            gi_wp2
            refine ⟨trivial, rfl, (callsIn_wide.2 ca).mono ?_⟩
            rintro e w5 ⟨rfl, k5⟩
            have Z5 : Aside _ := Z4.out.keep k5 P3.out.1 P3.out.2 l1
            clear ca k5
            obtain ⟨r0, hr⟩ := Z5.out.r
            have hfz := hr.frozen
            have hcl := hr.cell
            have FIN : Aside _ := HC.out.bad rfl l1 Z5.out.kp Z5.out.r BD.out
            clear hr d0 d1 d2 d3 d4 d5 d6 x0 x1 cs hbv
            gi_wp2
            refine ⟨trivial, ?_⟩
            gi_wp2
            exact ⟨FIN.out.1, _, ⟨rfl, rfl, FIN.out.2⟩, fun k h => .inl h⟩
          · have ca := add_new M4.out HN.out.2.1.b hmb (by have := ML.out; simp only [List.length_cons]; omega)
            have HMB : Aside (pb1 ∉ pa :: m) := hmb
            clear hmb
            gi_wp2
            refine ⟨trivial, rfl, (callsIn_wide.2 ca).mono ?_⟩
            rintro e w5 ⟨rfl, h5⟩
            have Z5 : Aside _ := Z4.out.next h5.out.2 P3.out.1 P3.out.2 l1
            have M5a : Aside _ := h5.out.1
            clear ca h5 d0 d1 d2 d3 d4 d5 d6 x0 x1 cs hbv M4
            obtain ⟨d0, d1, d2, d3, d4, d5, d6⟩ := seven Z5.out.pb
            obtain ⟨x0, x1⟩ := two Z5.out.pr
            have cs := Z5.out.bs.cell
            have hbv := Z5.out.v.cell
            have cz := sized_any (HH.out.keep (HC.out.kM rfl l1 Z5.out.kp)) HN.out.2.1
            by_cases hsz : pf = 1 + sz (vw T W) pc + sz (vw T W) pd
            · rw [show decide ((⟨pa, pb1, pc, pd, pe, pf⟩ : Nv).f = 1 + sz (vw T W) (⟨pa, pb1, pc, pd, pe, pf⟩ : Nv).c + sz (vw T W) (⟨pa, pb1, pc, pd, pe, pf⟩ : Nv).d) = true from decide_eq_true hsz] at cz
              have HSZ : Aside (pf = 1 + sz (vw T W) pc + sz (vw T W) pd) := hsz
              clear hsz
              gi_wp2
              refine ⟨trivial, rfl, (callsIn_wide.2 cz).mono ?_⟩
              rintro e w6 ⟨rfl, k6⟩
              have Z6 : Aside _ := Z5.out.keep k6 P3.out.1 P3.out.2 l1
              have M5 : Aside _ := M5a.out.kept (k6.kept (fun _ => False)) (fun h => h)
              clear cz k6 d0 d1 d2 d3 d4 d5 d6 x0 x1 cs hbv M5a
              obtain ⟨d0, d1, d2, d3, d4, d5, d6⟩ := seven Z6.out.pb
              obtain ⟨x0, x1⟩ := two Z6.out.pr
              have cs := Z6.out.bs.cell
              have hbv := Z6.out.v.cell
              cases b with
              | none =>
                have hfc : w6.cell? ⟨w1.heap.size + 1 + 1, 0, none⟩ = some (.bool true) := Z6.out.f.cell
                have htc : w6.cell? ⟨w1.heap.size + 1 + 1 + 1, 0, none⟩ = some (.string ⟨#[]⟩) := Z6.out.t.cell
                have hlo : lo none kt := fun c h => by cases h
                have GD : Aside (Good (vw T W) ⟨pa, pb1, pc, pd, pe, pf⟩ m none kt vt) := ⟨TX.out.1, TX.out.2, hlo, HMA.out, HMB.out, HSZ.out⟩
                have Z7 : Aside _ := Z6.out.keep ((K.refl w6).drew) P3.out.1 P3.out.2 l1
                have M7 : Aside _ := M5.out.kept (((K.refl w6).drew).kept (fun _ => False)) (fun h => h)
                have FIN : Aside _ := HC.out.good rfl l1 Z7.out GD.out M7.out (tx_mem TX.out.1) (tx_mem TX.out.2)
                have x0b : (w6.setCell ⟨w1.heap.size + 1 + 1, 0, none⟩ (.bool false)).cell? ⟨w3.heap.size, 0, none⟩ = some (.string kt) := ((Kept.refl (fun j => j = w1.heap.size + 1 + 1) w6).setCell (p := ⟨w1.heap.size + 1 + 1, 0, none⟩) (.bool false) (.inl rfl)).cell x0 (show ¬ w3.heap.size = w1.heap.size + 1 + 1 by have := P4.out; omega)
                have f1 := Z6.out.f.frozen
                have f2 := Z6.out.t.frozen
                clear hlo d0 d1 d2 d3 d4 d5 d6 cs hbv
                gi_wp2
                refine ⟨trivial, ?_⟩
                gi_wp2
                have hmix : Tryz.prog.follows .mixedOrders = true := by kernel_rfl
                refine wpIn_region_any hmix ?_
                change wpAnyIn _ _ _ _ _ _ _ _ _ (World.drew _)
                refine wpAnyIn_ready (rs := [0, 2]) (by kernel_rfl) (by simp) ?_
                refine AllReadyIn.cons rfl (fun K hK => ?_) (AllReadyIn.cons rfl (fun K hK => ?_) AllReadyIn.nil)
                · go_simp
                  refine hK _ _ ?_
                  clear hK K
                  refine wpAnyIn_ready (rs := [1, 2]) (by kernel_rfl) (by simp) ?_
                  refine AllReadyIn.cons rfl (fun K hK => ?_) (AllReadyIn.cons rfl (fun K hK => ?_) AllReadyIn.nil)
                  · go_simp
                    refine hK _ _ ?_
                    clear hK K
                    refine wpAnyIn_ready (rs := [2]) (by kernel_rfl) (by simp) ?_
                    refine AllReadyIn.cons rfl (fun K hK => ?_) AllReadyIn.nil
                    go_simp
                    refine hK _ _ ?_
                    clear hK K
                    refine wpAnyIn_ready (rs := [3]) (by kernel_rfl) (by simp) ?_
                    refine AllReadyIn.cons rfl (fun K hK => ?_) AllReadyIn.nil
                    go_simp
                    refine hK _ _ ?_
                    clear hK K
                    refine wpAnyIn_done (by kernel_rfl) ?_ _
                    exact ⟨FIN.out.1, _, _, ⟨rfl, _, _, rfl, rfl, rfl, by simp only [List.length_cons]; omega⟩, ⟨rfl, _, FIN.out.2⟩, fun k h => .inl h⟩
                  · go_simp
                    refine hK _ _ ?_
                    clear hK K
                    refine wpAnyIn_ready (rs := [1]) (by kernel_rfl) (by simp) ?_
                    refine AllReadyIn.cons rfl (fun K hK => ?_) AllReadyIn.nil
                    go_simp
                    refine hK _ _ ?_
                    clear hK K
                    refine wpAnyIn_ready (rs := [3]) (by kernel_rfl) (by simp) ?_
                    refine AllReadyIn.cons rfl (fun K hK => ?_) AllReadyIn.nil
                    go_simp
                    refine hK _ _ ?_
                    clear hK K
                    refine wpAnyIn_done (by kernel_rfl) ?_ _
                    exact ⟨FIN.out.1, _, _, ⟨rfl, _, _, rfl, rfl, rfl, by simp only [List.length_cons]; omega⟩, ⟨rfl, _, FIN.out.2⟩, fun k h => .inl h⟩
                · go_simp
                  refine hK _ _ ?_
                  clear hK K
                  refine wpAnyIn_ready (rs := [0]) (by kernel_rfl) (by simp) ?_
                  refine AllReadyIn.cons rfl (fun K hK => ?_) AllReadyIn.nil
                  go_simp
                  refine hK _ _ ?_
                  clear hK K
                  refine wpAnyIn_ready (rs := [1]) (by kernel_rfl) (by simp) ?_
                  refine AllReadyIn.cons rfl (fun K hK => ?_) AllReadyIn.nil
                  go_simp
                  refine hK _ _ ?_
                  clear hK K
                  refine wpAnyIn_ready (rs := [3]) (by kernel_rfl) (by simp) ?_
                  refine AllReadyIn.cons rfl (fun K hK => ?_) AllReadyIn.nil
                  go_simp
                  refine hK _ _ ?_
                  clear hK K
                  refine wpAnyIn_done (by kernel_rfl) ?_ _
                  exact ⟨FIN.out.1, _, _, ⟨rfl, _, _, rfl, rfl, rfl, by simp only [List.length_cons]; omega⟩, ⟨rfl, _, FIN.out.2⟩, fun k h => .inl h⟩
              | some bt =>
                have hfc : w6.cell? ⟨w1.heap.size + 1 + 1, 0, none⟩ = some (.bool false) := Z6.out.f.cell
                have htc : w6.cell? ⟨w1.heap.size + 1 + 1 + 1, 0, none⟩ = some (.string bt) := Z6.out.t.cell
                have cc : Calls Tryz.prog 34 #[.string bt, .string kt] w6 fun e w' => e = .returned (.int .i64 (cmp bt kt)) ∧ w6 = w' := Tx.compare_any bt kt w6
                by_cases hcv : 0 ≤ cmp bt kt
                · have BD : Aside (Chk (vw T W) 0 0 ((ph, ⟨pa, pb1, pc, pd, pe, pf⟩) :: st) m (some bt) 8) := .bad fun kt2 vt gd => by
                    have e : kt2 = kt := Option.some.inj (gd.k.symm.trans TX.out.1)
                    have := gd.lo bt rfl
                    rw [e] at this
                    omega
                  have hd : decide ((0 : Int) ≤ cmp bt kt) = true := decide_eq_true hcv
                  clear hcv
                  generalize cmp bt kt = cv at *
                  gi_wp2
                  refine ⟨trivial, rfl, (callsIn_wide.2 cc).mono ?_⟩
                  rintro e w7 ⟨rfl, rfl⟩
                  clear cc
                  obtain ⟨r0, hr⟩ := Z6.out.r
                  have hfz := hr.frozen
                  have hcl := hr.cell
                  have FIN : Aside _ := HC.out.bad rfl l1 Z6.out.kp Z6.out.r BD.out
                  clear hr d0 d1 d2 d3 d4 d5 d6 x0 x1 cs hbv
                  gi_wp2
                  exact ⟨FIN.out.1, _, ⟨rfl, rfl, FIN.out.2⟩, fun k h => .inl h⟩
                · have hlo : lo (some bt) kt := fun c h => by cases h; omega
                  have hd : decide ((0 : Int) ≤ cmp bt kt) = false := decide_eq_false hcv
                  clear hcv
                  have GD : Aside (Good (vw T W) ⟨pa, pb1, pc, pd, pe, pf⟩ m (some bt) kt vt) := ⟨TX.out.1, TX.out.2, hlo, HMA.out, HMB.out, HSZ.out⟩
                  have Z7 : Aside _ := Z6.out.keep ((K.refl w6).drew) P3.out.1 P3.out.2 l1
                  have M7 : Aside _ := M5.out.kept (((K.refl w6).drew).kept (fun _ => False)) (fun h => h)
                  have FIN : Aside _ := HC.out.good rfl l1 Z7.out GD.out M7.out (tx_mem TX.out.1) (tx_mem TX.out.2)
                  have x0b : (w6.setCell ⟨w1.heap.size + 1 + 1, 0, none⟩ (.bool false)).cell? ⟨w3.heap.size, 0, none⟩ = some (.string kt) := ((Kept.refl (fun j => j = w1.heap.size + 1 + 1) w6).setCell (p := ⟨w1.heap.size + 1 + 1, 0, none⟩) (.bool false) (.inl rfl)).cell x0 (show ¬ w3.heap.size = w1.heap.size + 1 + 1 by have := P4.out; omega)
                  have f1 := Z6.out.f.frozen
                  have f2 := Z6.out.t.frozen
                  clear hlo d0 d1 d2 d3 d4 d5 d6 cs hbv
                  generalize cmp bt kt = cv at *
                  gi_wp2
                  refine ⟨trivial, rfl, (callsIn_wide.2 cc).mono ?_⟩
                  rintro e w7 ⟨rfl, rfl⟩
                  clear cc
                  gi_wp2
                  have hmix : Tryz.prog.follows .mixedOrders = true := by kernel_rfl
                  refine wpIn_region_any hmix ?_
                  change wpAnyIn _ _ _ _ _ _ _ _ _ (World.drew _)
                  refine wpAnyIn_ready (rs := [0, 2]) (by kernel_rfl) (by simp) ?_
                  refine AllReadyIn.cons rfl (fun K hK => ?_) (AllReadyIn.cons rfl (fun K hK => ?_) AllReadyIn.nil)
                  · go_simp
                    refine hK _ _ ?_
                    clear hK K
                    refine wpAnyIn_ready (rs := [1, 2]) (by kernel_rfl) (by simp) ?_
                    refine AllReadyIn.cons rfl (fun K hK => ?_) (AllReadyIn.cons rfl (fun K hK => ?_) AllReadyIn.nil)
                    · go_simp
                      refine hK _ _ ?_
                      clear hK K
                      refine wpAnyIn_ready (rs := [2]) (by kernel_rfl) (by simp) ?_
                      refine AllReadyIn.cons rfl (fun K hK => ?_) AllReadyIn.nil
                      go_simp
                      refine hK _ _ ?_
                      clear hK K
                      refine wpAnyIn_ready (rs := [3]) (by kernel_rfl) (by simp) ?_
                      refine AllReadyIn.cons rfl (fun K hK => ?_) AllReadyIn.nil
                      go_simp
                      refine hK _ _ ?_
                      clear hK K
                      refine wpAnyIn_done (by kernel_rfl) ?_ _
                      exact ⟨FIN.out.1, _, _, ⟨rfl, _, _, rfl, rfl, rfl, by simp only [List.length_cons]; omega⟩, ⟨rfl, _, FIN.out.2⟩, fun k h => .inl h⟩
                    · go_simp
                      refine hK _ _ ?_
                      clear hK K
                      refine wpAnyIn_ready (rs := [1]) (by kernel_rfl) (by simp) ?_
                      refine AllReadyIn.cons rfl (fun K hK => ?_) AllReadyIn.nil
                      go_simp
                      refine hK _ _ ?_
                      clear hK K
                      refine wpAnyIn_ready (rs := [3]) (by kernel_rfl) (by simp) ?_
                      refine AllReadyIn.cons rfl (fun K hK => ?_) AllReadyIn.nil
                      go_simp
                      refine hK _ _ ?_
                      clear hK K
                      refine wpAnyIn_done (by kernel_rfl) ?_ _
                      exact ⟨FIN.out.1, _, _, ⟨rfl, _, _, rfl, rfl, rfl, by simp only [List.length_cons]; omega⟩, ⟨rfl, _, FIN.out.2⟩, fun k h => .inl h⟩
                  · go_simp
                    refine hK _ _ ?_
                    clear hK K
                    refine wpAnyIn_ready (rs := [0]) (by kernel_rfl) (by simp) ?_
                    refine AllReadyIn.cons rfl (fun K hK => ?_) AllReadyIn.nil
                    go_simp
                    refine hK _ _ ?_
                    clear hK K
                    refine wpAnyIn_ready (rs := [1]) (by kernel_rfl) (by simp) ?_
                    refine AllReadyIn.cons rfl (fun K hK => ?_) AllReadyIn.nil
                    go_simp
                    refine hK _ _ ?_
                    clear hK K
                    refine wpAnyIn_ready (rs := [3]) (by kernel_rfl) (by simp) ?_
                    refine AllReadyIn.cons rfl (fun K hK => ?_) AllReadyIn.nil
                    go_simp
                    refine hK _ _ ?_
                    clear hK K
                    refine wpAnyIn_done (by kernel_rfl) ?_ _
                    exact ⟨FIN.out.1, _, _, ⟨rfl, _, _, rfl, rfl, rfl, by simp only [List.length_cons]; omega⟩, ⟨rfl, _, FIN.out.2⟩, fun k h => .inl h⟩
            · rw [show decide ((⟨pa, pb1, pc, pd, pe, pf⟩ : Nv).f = 1 + sz (vw T W) (⟨pa, pb1, pc, pd, pe, pf⟩ : Nv).c + sz (vw T W) (⟨pa, pb1, pc, pd, pe, pf⟩ : Nv).d) = false from decide_eq_false hsz] at cz
              have BD : Aside (Chk (vw T W) 0 0 ((ph, ⟨pa, pb1, pc, pd, pe, pf⟩) :: st) m b 8) := .bad fun kt vt gd => hsz gd.e
              clear hsz
              gi_wp2
              refine ⟨trivial, rfl, (callsIn_wide.2 cz).mono ?_⟩
              rintro e w6 ⟨rfl, k6⟩
              have Z6 : Aside _ := Z5.out.keep k6 P3.out.1 P3.out.2 l1
              clear cz k6
              obtain ⟨r0, hr⟩ := Z6.out.r
              have hfz := hr.frozen
              have hcl := hr.cell
              have FIN : Aside _ := HC.out.bad rfl l1 Z6.out.kp Z6.out.r BD.out
              clear hr d0 d1 d2 d3 d4 d5 d6 x0 x1 cs hbv
              gi_wp2
              exact ⟨FIN.out.1, _, ⟨rfl, rfl, FIN.out.2⟩, fun k h => .inl h⟩
      · obtain ⟨er1, her1, ct⟩ := texts_no (HH.out.keep hc.k) hsu2 (fun kt xt hk => htx ⟨kt, xt, hk⟩)
        have BD : Aside (Chk (vw T W) 0 0 ((ph, ⟨pa, pb1, pc, pd, pe, pf⟩) :: st) m b 8) := .bad fun kt vt gd => htx ⟨kt, vt, gd.k, gd.x⟩
        clear hc hb henc hpv hsu1 hsu2 hsu3 htx hp
        gi_wp2
        refine ⟨trivial, rfl, (callsIn_wide.2 ct).mono ?_⟩
        rintro e w3 ⟨rfl, k3⟩
        have Z : Aside _ := HC.out.pair HB.out k3 ⟨#[]⟩ ⟨#[]⟩
        obtain ⟨r0, hr⟩ := Z.out.r
        have hfz := hr.frozen
        have hcl := hr.cell
        have hbv := Z.out.v.cell
        have FIN : Aside _ := HC.out.bad rfl l1 Z.out.kp Z.out.r BD.out
        clear ct k3 hr d0 d1 d2 d3 d4 d5 d6
        gi_wp2
        refine ⟨trivial, ?_⟩
        gi_wp2
        refine ⟨trivial, ?_⟩
        gi_wp2
        refine ⟨trivial, ?_⟩
        gi_wp2
        exact ⟨FIN.out.1, _, ⟨rfl, rfl, FIN.out.2⟩, fun k h => .inl h⟩
    · obtain rfl : er = 8 := by
        have := congrArg (fun a : Array Value => a[1]?) henc
        simp at this
        exact this.symm
      obtain ⟨r0, hr⟩ := hc.r
      have hfz := hr.frozen
      have hcl := hr.cell
      have FIN : Aside _ := hc.bad rfl l1 (Kept.refl _ _) hc.r (.no e0 (by rw [← hc.eg]; exact e1))
      clear hc hr henc hp e0 e1 hb
      gi_wp2
      exact ⟨FIN.out.1, _, ⟨rfl, rfl, FIN.out.2⟩, fun k h => .inl h⟩
  case hdone =>
    rintro s M V hend ⟨rfl, b, hc⟩
    obtain ⟨h1, st1, m1, g1⟩ := s
    obtain ⟨e1, e2⟩ := hend
    simp only at e1 e2
    subst e1 e2
    obtain ⟨k', hk'⟩ := hc.go 0 0 .done
    obtain ⟨r0, hr⟩ := hc.r
    have HK : Aside (Chk (vw T W) k' x [] [] none 0) := hk'
    have HC : Aside (K w V ∧ V.heap[w1.heap.size + 7]? = some (.deferred (some [])) ∧ Boxed V (w.heap.size + 1) 31 (.int .i64 r0)) := ⟨hc.k, hc.d, hr⟩
    have hfz := hr.frozen
    have hcl := hr.cell
    have HL : Aside (W7.heap.size = w1.heap.size + 7) := s7
    clear hc hk' hr C0
    gi_wp2
    rw [HL.out]
    refine ⟨by simp, .inl ⟨_, _, rfl, run_takeDeferred (show (V.setCell ⟨w.heap.size + 1, 0, none⟩ (.int .i64 0)).heap[w1.heap.size + 7]? = _ from (Below.heap_setCell V ⟨w.heap.size + 1, 0, none⟩ _ _ (by simp; omega)).trans HC.out.2.1), .int .i64 0, ?_, 0, k', rfl, HK.out, Kept.putObj (Hp.K.setCell HC.out.1 _ (by simp)) _ (.inr (by omega))⟩⟩
    have hset := ((Kept.putObj (Kept.refl (fun k => k = w1.heap.size + 7) (V.setCell ⟨w.heap.size + 1, 0, none⟩ (.int .i64 0))) (.deferred none) (.inl rfl)).boxed (HC.out.2.2.set (.int .i64 0)) (show ¬ w.heap.size + 1 = w1.heap.size + 7 by omega)).cell
    simp [results, Tryz.f12, go_sem, hset]
  case hstop =>
    rintro c M V ⟨rfl, rfl, hc⟩
    obtain ⟨r0, k', hr, hk'⟩ := hc.r
    have HK : Aside (Chk (vw T W) k' x [] [] none r0) := hk'
    have HC : Aside (K w V ∧ V.heap[w1.heap.size + 7]? = some (.deferred (some [])) ∧ Boxed V (w.heap.size + 1) 31 (.int .i64 r0)) := ⟨hc.k, hc.d, hr⟩
    have HL : Aside (W7.heap.size = w1.heap.size + 7) := s7
    clear hc hk' hr C0
    gi_wp2
    rw [HL.out]
    refine ⟨by simp, .inl ⟨_, _, rfl, run_takeDeferred HC.out.2.1, .int .i64 r0, ?_, r0, k', rfl, HK.out, Kept.putObj HC.out.1 _ (.inr (by omega))⟩⟩
    have hset := ((Kept.putObj (Kept.refl (fun k => k = w1.heap.size + 7) V) (.deferred none) (.inl rfl)).boxed HC.out.2.2 (show ¬ w.heap.size + 1 = w1.heap.size + 7 by omega)).cell
    simp [results, Tryz.f12, go_sem, hset]

/-- What Check answers. -/
theorem check_any (h : Sw w B A pg W L v T) (hx : U64 x) : Calls Tryz.prog 12 #[sp A.st, .int .u64 x] w fun e w' => ∃ r, e = .returned (.int .i64 r) ∧ ((r = 0 ∧ ∃ t, t.root = x ∧ Right (vw T W) t) ∨ (r = 8 ∧ ∀ t, t.root = x → ¬ Right (vw T W) t)) ∧ K w w' := by
  refine (callsIn_wide.1 (check_in h hx)).mono ?_
  rintro e w1 ⟨r, k, rfl, hc, hk⟩
  exact ⟨r, rfl, Chk.iff (vw_fit h) hc, hk⟩
theorem check_right (h : Sw w B A pg W L v T) {t : Tr} (hx : U64 t.root) (ht : Right (vw T W) t) : Calls Tryz.prog 12 #[sp A.st, .int .u64 t.root] w fun e w' => e = .returned (.int .i64 0) ∧ K w w' := by
  refine (check_any h hx).mono ?_
  rintro e w1 ⟨r, rfl, (⟨rfl, _⟩ | ⟨_, hn⟩), hk⟩
  · exact ⟨rfl, hk⟩
  · exact absurd ht (hn t rfl)

end Wa
end Go.Proofs.YtbbjfebdihepnaaGreatDoor
