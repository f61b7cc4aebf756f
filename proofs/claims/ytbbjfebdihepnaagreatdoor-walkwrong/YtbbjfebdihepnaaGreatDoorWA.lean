/-
  Trees, with no program: what is right, and what the machine that goes through them tells of any nodes.
-/
import Derived.Test.YtbbjfebdihepnaaGreatDoorL1
import Derived.Test.YtbbjfebdihepnaaGreatDoorX2
import Derived.Test.YtbbjfebdihepnaaGreatDoorN1
import Derived.Test.YtbbjfebdihepnaaGreatDoorGA
namespace Go.Proofs.YtbbjfebdihepnaaGreatDoor
namespace Wa
open Nd (Nv)
open Go.Lib (compareBytes)

/-- What a store tells: its nodes, its texts. -/
structure Vw where
  nd : Int → Option Nv
  tx : Int → Option ByteArray
/-- A node that was found: its name, its words, its texts. -/
structure It where
  h : Int
  n : Nv
  k : ByteArray
  x : ByteArray
inductive Tr where
  | nil : Tr
  | node : It → Tr → Tr → Tr
def Tr.root : Tr → Int
  | .nil => 0
  | .node i _ _ => i.h
def Tr.items : Tr → List It
  | .nil => []
  | .node i l r => l.items ++ i :: r.items
def It.hs (i : It) : List Int := [i.h, i.n.a, i.n.b]
def hsOf (l : List It) : List Int := l.flatMap It.hs
def cmp (a b : ByteArray) : Int := compareBytes a.data.toList b.data.toList
/-- A node as the store tells it. -/
structure It.Ok (g : Vw) (i : It) : Prop where
  nd : g.nd i.h = some i.n
  k : g.tx i.n.a = some i.k
  x : g.tx i.n.b = some i.x
/-- The shape, and the sizes. -/
def Tr.Lay (g : Vw) : Tr → Prop
  | .nil => True
  | .node i l r => i.Ok g ∧ i.n.c = l.root ∧ i.n.d = r.root ∧ i.n.f = (l.items.length : Int) + (r.items.length : Int) + 1 ∧ l.Lay g ∧ r.Lay g
structure Right (g : Vw) (t : Tr) : Prop where
  lay : t.Lay g
  nd : (hsOf t.items).Nodup
  up : t.items.Pairwise (fun i j => cmp i.k j.k < 0)

theorem cmp_tr {a b c : ByteArray} (h1 : cmp a b < 0) (h2 : cmp b c < 0) : cmp a c < 0 := (Tx.cmp_trans _ _ _ (Int.le_of_lt h1) (Int.le_of_lt h2)).2 h1
theorem cmp_sw (a b : ByteArray) : cmp b a = -cmp a b := Tx.cmp_swap _ _
theorem cmp_eq {a b : ByteArray} (h : cmp a b = 0) : a = b := by
  have := Tx.cmp_zero h
  cases a; cases b
  congr
  exact Array.ext' this
theorem cmp_same (a : ByteArray) : cmp a a = 0 := Tx.cmp_self _

theorem hs_app (a b : List It) : hsOf (a ++ b) = hsOf a ++ hsOf b := by simp [hsOf]
theorem hs_cons (i : It) (b : List It) : hsOf (i :: b) = i.h :: i.n.a :: i.n.b :: hsOf b := rfl
theorem lay_mem {g : Vw} : ∀ {t : Tr}, t.Lay g → ∀ i ∈ t.items, i.Ok g
  | .nil, _, i, h => by cases h
  | .node j l r, h, i, hi => by
    obtain ⟨h1, _, _, _, h5, h6⟩ := h
    simp only [Tr.items, List.mem_append, List.mem_cons] at hi
    rcases hi with hi | rfl | hi
    · exact lay_mem h5 i hi
    · exact h1
    · exact lay_mem h6 i hi

/-- What Size tells. -/
def sz (g : Vw) (h : Int) : Int := match g.nd h with
  | some n => if n.f ≤ 65536 then n.f else 0
  | none => 0
/-- A view: 0 is no node, and there are no more nodes than slots. -/
structure Vw.Fit (g : Vw) : Prop where
  zero : g.nd 0 = none
  few : ∀ l : List Int, l.Nodup → (∀ x ∈ l, g.nd x ≠ none) → l.length ≤ 65536
  sz : ∀ h n, g.nd h = some n → n.Ok

theorem root_ne {g : Vw} (hf : g.Fit) {i : It} {l r : Tr} (h : (Tr.node i l r).Lay g) : i.h ≠ 0 := fun e => by
  have := h.1.nd
  rw [e, hf.zero] at this
  cases this

theorem hs_sub : ∀ l : List It, (l.map It.h).Sublist (hsOf l)
  | [] => .slnil
  | i :: l => by
    rw [hs_cons, List.map_cons]
    exact .cons_cons _ (.cons _ (.cons _ (hs_sub l)))
theorem few_items {g : Vw} (hf : g.Fit) {t : Tr} (h : t.Lay g) (hn : (hsOf t.items).Nodup) : t.items.length ≤ 65536 := by
  have := hf.few (t.items.map It.h) (hn.sublist (hs_sub _)) (fun x hx => by
    obtain ⟨i, hi, rfl⟩ := List.mem_map.1 hx
    rw [(lay_mem h i hi).nd]
    simp)
  simpa using this
theorem sz_root {g : Vw} (hf : g.Fit) {t : Tr} (h : t.Lay g) (hn : (hsOf t.items).Nodup) : sz g t.root = t.items.length := by
  have hl := few_items hf h hn
  cases t with
  | nil => simp [sz, Tr.root, hf.zero, Tr.items]
  | node i l r =>
    have e : i.n.f = ((Tr.node i l r).items.length : Int) := by
      rw [h.2.2.2.1]
      simp [Tr.items]
      omega
    simp only [sz, Tr.root, h.1.nd]
    rw [e, if_pos (by omega)]

/-- What was told last, if any, is below. -/
def lo (b : Option ByteArray) (k : ByteArray) : Prop := ∀ c, b = some c → cmp c k < 0
/-- What Check asks of a node that comes. -/
structure Good (g : Vw) (n : Nv) (m : List Int) (b : Option ByteArray) (kt vt : ByteArray) : Prop where
  k : g.tx n.a = some kt
  x : g.tx n.b = some vt
  lo : lo b kt
  a : n.a ∉ m
  b : n.b ∉ n.a :: m
  e : n.f = 1 + sz g n.c + sz g n.d
/-- What Check answers from here on, and in how many steps. -/
inductive Chk (g : Vw) : Nat → Int → List (Int × Nv) → List Int → Option ByteArray → Int → Prop where
  | done {m b} : Chk g 0 0 [] m b 0
  | no {h st m b} : h ≠ 0 → (g.nd h = none ∨ h ∈ m) → Chk g 0 h st m b 8
  | push {k h n st m b r} : h ≠ 0 → g.nd h = some n → h ∉ m → Chk g k n.c ((h, n) :: st) (h :: m) b r → Chk g (k + 1) h st m b r
  | bad {p st m b} : (∀ kt vt, ¬ Good g p.2 m b kt vt) → Chk g 0 0 (p :: st) m b 8
  | item {k p st m b r kt vt} : Good g p.2 m b kt vt → Chk g k p.2.d st (p.2.b :: p.2.a :: m) (some kt) r → Chk g (k + 1) 0 (p :: st) m b r

theorem Chk.ans {g : Vw} {k h st m b r} (c : Chk g k h st m b r) : r = 0 ∨ r = 8 := by
  induction c with
  | done => exact .inl rfl
  | no _ _ => exact .inr rfl
  | push _ _ _ _ ih => exact ih
  | bad _ => exact .inr rfl
  | item _ _ ih => exact ih

/-- Through a part that is right. -/
theorem Chk.tree {g : Vw} (hf : g.Fit) : ∀ (t : Tr) {k st m b r}, t.Lay g → (hsOf t.items).Nodup → t.items.Pairwise (fun i j => cmp i.k j.k < 0) → (∀ y ∈ hsOf t.items, y ∉ m) → (∀ i ∈ t.items, lo b i.k) → Chk g k t.root st m b r →
    ∃ k' m' b', Chk g k' 0 st m' b' r ∧ (∀ y, y ∈ m' ↔ y ∈ m ∨ y ∈ hsOf t.items) ∧ ∀ c, lo b c → (∀ i ∈ t.items, cmp i.k c < 0) → lo b' c
  | .nil, k, st, m, b, r, _, _, _, _, _, c => ⟨k, m, b, c, fun y => by simp [Tr.items, hsOf], fun c h _ => h⟩
  | .node i l r, k, st, m, b, res, hl, hn, hu, hm, hb, c => by
    have hne := root_ne hf hl
    obtain ⟨hi, ec, ed, ee, hll, hlr⟩ := hl
    simp only [Tr.items, hs_app, hs_cons] at hn hm
    simp only [Tr.items] at hu hb
    obtain ⟨nl, nr, nlr⟩ := List.nodup_append.1 hn
    obtain ⟨n1, nr⟩ := List.nodup_cons.1 nr
    obtain ⟨n2, nr⟩ := List.nodup_cons.1 nr
    obtain ⟨n3, nr⟩ := List.nodup_cons.1 nr
    obtain ⟨ul, ur, ulr⟩ := List.pairwise_append.1 hu
    obtain ⟨ui, ur⟩ := List.pairwise_cons.1 ur
    have e0 : (Tr.node i l r).root = i.h := rfl
    rw [e0] at c
    generalize eh : i.h = h0 at c
    cases c with
    | done => exact absurd eh hne
    | no _ h =>
      subst eh
      rcases h with h | h
      · rw [hi.nd] at h; cases h
      · exact absurd h (hm _ (by simp))
    | bad _ => exact absurd eh hne
    | item _ _ => exact absurd eh hne
    | @push k1 _ n1' _ _ _ _ _ hnd hnm c =>
      subst eh
      obtain rfl : i.n = n1' := Option.some.inj (hi.nd.symm.trans hnd)
      rw [ec] at c
      obtain ⟨k2, m2, b2, c2, hm2, hb2⟩ := Chk.tree hf l hll nl ul (fun y hy hc => by
        rcases List.mem_cons.1 hc with rfl | hc
        · exact nlr _ hy _ (by simp) rfl
        · exact hm y (by simp [hy]) hc) (fun j hj => hb j (by simp [hj])) c
      have good : Good g i.n m2 b2 i.k i.x := ⟨hi.k, hi.x, hb2 _ (hb i (by simp)) (fun j hj => ulr j hj i (by simp)), fun h => by
          rcases (hm2 _).1 h with h | h
          · rcases List.mem_cons.1 h with h | h
            · exact n1 (by rw [h]; simp)
            · exact hm _ (by simp) h
          · exact nlr _ h _ (by simp) rfl, fun h => by
          rcases List.mem_cons.1 h with h | h
          · exact n2 (by rw [h]; simp)
          · rcases (hm2 _).1 h with h | h
            · rcases List.mem_cons.1 h with h | h
              · exact n1 (by rw [h]; simp)
              · exact hm _ (by simp) h
            · exact nlr _ h _ (by simp) rfl, by
          rw [ee, ec, ed, sz_root hf hll nl, sz_root hf hlr nr]; omega⟩
      generalize e2 : (i.h, i.n) :: st = st2 at c2
      cases c2 with
      | done => cases e2
      | no h _ => exact absurd rfl h
      | push h _ _ _ => exact absurd rfl h
      | bad h => cases e2; exact absurd good (h _ _)
      | @item k3 p _ _ _ _ kt vt good' c3 =>
        cases e2
        obtain rfl : i.k = kt := Option.some.inj (hi.k.symm.trans good'.k)
        rw [show (i.h, i.n).2 = i.n from rfl, ed] at c3
        obtain ⟨k4, m4, b4, c4, hm4, hb4⟩ := Chk.tree hf r hlr nr ur (fun y hy hc => by
          rcases List.mem_cons.1 hc with rfl | hc
          · exact n3 hy
          · rcases List.mem_cons.1 hc with rfl | hc
            · exact n2 (by simp [hy])
            · rcases (hm2 _).1 hc with hc | hc
              · rcases List.mem_cons.1 hc with rfl | hc
                · exact n1 (by simp [hy])
                · exact hm y (by simp [hy]) hc
              · exact nlr _ hc _ (by simp [hy]) rfl) (fun j hj c hc => by
          obtain rfl := Option.some.inj hc
          exact ui j hj) c3
        refine ⟨k4, m4, b4, c4, fun y => ?_, fun c hlo hall => hb4 c (fun d hd => ?_) (fun j hj => hall j (by simp [Tr.items, hj]))⟩
        · rw [hm4]
          simp only [Tr.items, hs_app, hs_cons, List.mem_append, List.mem_cons, hm2]
          constructor
          · rintro ((rfl | rfl | (rfl | h) | h) | h) <;> simp_all
          · rintro (h | h | rfl | rfl | rfl | h) <;> simp_all
        · obtain rfl := Option.some.inj hd
          exact hall i (by simp [Tr.items])

theorem Chk.right {g : Vw} (hf : g.Fit) {t : Tr} (h : Right g t) {k r} (c : Chk g k t.root [] [] none r) : r = 0 := by
  obtain ⟨k', m', b', c', _, _⟩ := Chk.tree hf t h.lay h.nd h.up (fun _ _ => by simp) (fun _ _ _ h => by cases h) c
  cases c' with
  | done => rfl
  | no h _ => exact absurd rfl h
  | push h _ _ _ => exact absurd rfl h

/-- What goes through is a part that is right. -/
theorem Chk.sound {g : Vw} (hf : g.Fit) : ∀ (K k : Nat), k ≤ K → ∀ {h st m b}, Chk g k h st m b 0 →
    ∃ (t : Tr) (k' : Nat) (m' : List Int) (b' : Option ByteArray), t.root = h ∧ t.Lay g ∧ (hsOf t.items).Nodup ∧ t.items.Pairwise (fun i j => cmp i.k j.k < 0) ∧ (∀ y ∈ hsOf t.items, y ∉ m) ∧ (∀ i ∈ t.items, lo b i.k) ∧ k' ≤ k ∧ Chk g k' 0 st m' b' 0 ∧ (∀ y, y ∈ m' ↔ y ∈ m ∨ y ∈ hsOf t.items) ∧ ∀ c, lo b' c → lo b c ∧ ∀ i ∈ t.items, cmp i.k c < 0 := by
  intro K
  induction K with
  | zero =>
    intro k hk h st m b c
    obtain rfl : k = 0 := by omega
    by_cases h0 : h = 0
    · subst h0
      exact ⟨.nil, 0, m, b, rfl, trivial, by simp [Tr.items, hsOf], by simp [Tr.items], by simp [Tr.items, hsOf], by simp [Tr.items], Nat.le_refl _, c, by simp [Tr.items, hsOf], fun c h => ⟨h, by simp [Tr.items]⟩⟩
    · cases c with
      | done => exact absurd rfl h0
  | succ K ih =>
    intro k hk h st m b c
    by_cases h0 : h = 0
    · subst h0
      exact ⟨.nil, k, m, b, rfl, trivial, by simp [Tr.items, hsOf], by simp [Tr.items], by simp [Tr.items, hsOf], by simp [Tr.items], Nat.le_refl _, c, by simp [Tr.items, hsOf], fun c h => ⟨h, by simp [Tr.items]⟩⟩
    · cases c with
      | done => exact absurd rfl h0
      | item _ _ => exact absurd rfl h0
      | @push k1 _ n _ _ _ _ _ hnd hnm c =>
        obtain ⟨l, k2, m2, b2, el, ll, nl, ul, dl, bl, hk2, c2, hm2, hb2⟩ := ih k1 (by omega) c
        cases c2 with
        | push h _ _ _ => exact absurd rfl h
        | @item k3 _ _ _ _ _ kt vt good c3 =>
          obtain ⟨r, k4, m4, b4, er, lr, nr, ur, dr, br, hk4, c4, hm4, hb4⟩ := ih k3 (by omega) c3
          have ga : n.a ∉ m2 := good.a
          have gb : n.b ∉ n.a :: m2 := good.b
          have gk : g.tx n.a = some kt := good.k
          have gx : g.tx n.b = some vt := good.x
          have gl : lo b2 kt := good.lo
          have ge : n.f = 1 + sz g n.c + sz g n.d := good.e
          obtain ⟨lk1, lk2⟩ := hb2 _ gl
          have hda : n.a ≠ h := fun e => ga ((hm2 _).2 (.inl (by simp [e])))
          have hdb : n.b ≠ h := fun e => gb (.tail _ ((hm2 _).2 (.inl (by simp [e]))))
          have hab : n.b ≠ n.a := fun e => gb (by simp [e])
          have dr' : ∀ y ∈ hsOf r.items, y ≠ n.b ∧ y ≠ n.a ∧ y ≠ h ∧ y ∉ m ∧ y ∉ hsOf l.items := fun y hy => by
            have := dr y hy
            simp only [List.mem_cons, hm2, not_or] at this
            exact ⟨this.1, this.2.1, this.2.2.1.1, this.2.2.1.2, this.2.2.2⟩
          have dl' : ∀ y ∈ hsOf l.items, y ≠ n.b ∧ y ≠ n.a ∧ y ≠ h ∧ y ∉ m := fun y hy => by
            have h1 := dl y hy
            simp only [List.mem_cons, not_or] at h1
            have h2 : y ∈ m2 := (hm2 _).2 (.inr hy)
            exact ⟨fun e => gb (.tail _ (by rw [← e]; exact h2)), fun e => ga (by rw [← e]; exact h2), h1.1, h1.2⟩
          have hma : n.a ∉ m := fun e => ga ((hm2 _).2 (.inl (.tail _ e)))
          have hmb : n.b ∉ m := fun e => gb (.tail _ ((hm2 _).2 (.inl (.tail _ e))))
          refine ⟨.node ⟨h, n, kt, vt⟩ l r, k4, m4, b4, rfl, ⟨⟨hnd, gk, gx⟩, el.symm, er.symm, ?_, ll, lr⟩, ?_, ?_, ?_, ?_, by omega, c4, ?_, ?_⟩
          · show n.f = _
            have er : r.root = n.d := er
            rw [ge, ← el, ← er, sz_root hf ll nl, sz_root hf lr nr]
            omega
          · simp only [Tr.items, hs_app, hs_cons]
            refine List.nodup_append.2 ⟨nl, List.nodup_cons.2 ⟨?_, List.nodup_cons.2 ⟨?_, List.nodup_cons.2 ⟨?_, nr⟩⟩⟩, ?_⟩
            · simp only [List.mem_cons, not_or]
              exact ⟨Ne.symm hda, Ne.symm hdb, fun e => (dr' _ e).2.2.1 rfl⟩
            · simp only [List.mem_cons, not_or]
              exact ⟨Ne.symm hab, fun e => (dr' _ e).2.1 rfl⟩
            · exact fun e => (dr' _ e).1 rfl
            · intro y hy z hz e
              subst e
              simp only [List.mem_cons] at hz
              rcases hz with rfl | rfl | rfl | hz
              · exact (dl' _ hy).2.2.1 rfl
              · exact (dl' _ hy).2.1 rfl
              · exact (dl' _ hy).1 rfl
              · exact (dr' _ hz).2.2.2.2 hy
          · simp only [Tr.items]
            refine List.pairwise_append.2 ⟨ul, List.pairwise_cons.2 ⟨fun j hj => br j hj _ rfl, ur⟩, fun i hi j hj => ?_⟩
            rcases List.mem_cons.1 hj with rfl | hj
            · exact lk2 i hi
            · exact cmp_tr (lk2 i hi) (br j hj _ rfl)
          · intro y hy
            simp only [Tr.items, hs_app, hs_cons, List.mem_append, List.mem_cons] at hy
            rcases hy with hy | rfl | rfl | rfl | hy
            · exact (dl' y hy).2.2.2
            · exact hnm
            · exact hma
            · exact hmb
            · exact (dr' y hy).2.2.2.1
          · intro i hi
            simp only [Tr.items, List.mem_append, List.mem_cons] at hi
            rcases hi with hi | rfl | hi
            · exact bl i hi
            · exact lk1
            · exact fun c hc => cmp_tr (lk1 c hc) (br i hi _ rfl)
          · intro y
            rw [hm4]
            simp only [Tr.items, hs_app, hs_cons, List.mem_append, List.mem_cons, hm2]
            constructor
            · rintro ((rfl | rfl | (rfl | h) | h) | h) <;> simp_all
            · rintro (h | h | rfl | rfl | rfl | h) <;> simp_all
          · intro c hc
            obtain ⟨h1, h2⟩ := hb4 c hc
            have h3 : cmp kt c < 0 := h1 _ rfl
            refine ⟨fun d hd => cmp_tr (lk1 d hd) h3, fun i hi => ?_⟩
            simp only [Tr.items, List.mem_append, List.mem_cons] at hi
            rcases hi with hi | rfl | hi
            · exact cmp_tr (lk2 i hi) h3
            · exact h3
            · exact h2 i hi

/-- What Check answers. -/
theorem Chk.iff {g : Vw} (hf : g.Fit) {k h r} (c : Chk g k h [] [] none r) : (r = 0 ∧ ∃ t, t.root = h ∧ Right g t) ∨ (r = 8 ∧ ∀ t, t.root = h → ¬ Right g t) := by
  rcases c.ans with rfl | rfl
  · obtain ⟨t, _, _, _, e, h1, h2, h3, _⟩ := Chk.sound hf k k (Nat.le_refl _) c
    exact .inl ⟨rfl, t, e, h1, h2, h3⟩
  · refine .inr ⟨rfl, fun t e h => ?_⟩
    rw [← e] at c
    exact absurd (Chk.right hf h c) (by decide)

/-- What List answers from here on. -/
inductive Lst (g : Vw) : Nat → Int → List (Int × Nv) → List Int → Option (List Int) → Prop where
  | done {m} : Lst g 0 0 [] m (some [])
  | no {h st m} : h ≠ 0 → (g.nd h = none ∨ h ∈ m) → Lst g 0 h st m none
  | push {k h n st m r} : h ≠ 0 → g.nd h = some n → h ∉ m → Lst g k n.c ((h, n) :: st) (h :: m) r → Lst g (k + 1) h st m r
  | item {k p st m r} : Lst g k p.2.d st m r → Lst g (k + 1) 0 (p :: st) m (r.map (p.1 :: ·))

theorem Lst.tree {g : Vw} (hf : g.Fit) : ∀ (t : Tr) {k st m r}, t.Lay g → (hsOf t.items).Nodup → (∀ y ∈ hsOf t.items, y ∉ m) → Lst g k t.root st m r →
    ∃ k' m' r', Lst g k' 0 st m' r' ∧ r = r'.map (t.items.map It.h ++ ·) ∧ ∀ y, y ∈ m' → y ∈ m ∨ y ∈ hsOf t.items
  | .nil, k, st, m, r, _, _, _, c => ⟨k, m, r, c, by cases r <;> simp [Tr.items], fun y h => .inl h⟩
  | .node i l r, k, st, m, res, hl, hn, hm, c => by
    have hne := root_ne hf hl
    obtain ⟨hi, ec, ed, ee, hll, hlr⟩ := hl
    simp only [Tr.items, hs_app, hs_cons] at hn hm
    obtain ⟨nl, nr, nlr⟩ := List.nodup_append.1 hn
    obtain ⟨n1, nr⟩ := List.nodup_cons.1 nr
    obtain ⟨n2, nr⟩ := List.nodup_cons.1 nr
    obtain ⟨n3, nr⟩ := List.nodup_cons.1 nr
    have e0 : (Tr.node i l r).root = i.h := rfl
    rw [e0] at c
    generalize eh : i.h = h0 at c
    cases c with
    | done => exact absurd eh hne
    | no _ h =>
      subst eh
      rcases h with h | h
      · rw [hi.nd] at h; cases h
      · exact absurd h (hm _ (by simp))
    | item _ => exact absurd eh hne
    | @push k1 _ n1' _ _ _ _ hnd hnm c =>
      subst eh
      obtain rfl : i.n = n1' := Option.some.inj (hi.nd.symm.trans hnd)
      rw [ec] at c
      obtain ⟨k2, m2, r2, c2, er2, hm2⟩ := Lst.tree hf l hll nl (fun y hy hc => by
        rcases List.mem_cons.1 hc with rfl | hc
        · exact nlr _ hy _ (by simp) rfl
        · exact hm y (by simp [hy]) hc) c
      subst er2
      generalize e2 : (i.h, i.n) :: st = st2 at c2
      cases c2 with
      | done => cases e2
      | no h _ => exact absurd rfl h
      | push h _ _ _ => exact absurd rfl h
      | @item k3 p _ _ r3 c3 =>
        cases e2
        rw [show (i.h, i.n).2 = i.n from rfl, ed] at c3
        obtain ⟨k4, m4, r4, c4, er4, hm4⟩ := Lst.tree hf r hlr nr (fun y hy hc => by
          rcases hm2 _ hc with hc | hc
          · rcases List.mem_cons.1 hc with rfl | hc
            · exact n1 (by simp [hy])
            · exact hm y (by simp [hy]) hc
          · exact nlr _ hc _ (by simp [hy]) rfl) c3
        refine ⟨k4, m4, r4, c4, ?_, fun y hy => ?_⟩
        · rw [er4]
          cases r4 <;> simp [Tr.items]
        · simp only [Tr.items, hs_app, hs_cons, List.mem_append, List.mem_cons]
          rcases hm4 y hy with h | h
          · rcases hm2 y h with h | h
            · rcases List.mem_cons.1 h with h | h <;> simp_all
            · simp [h]
          · simp [h]

theorem Lst.right {g : Vw} (hf : g.Fit) {t : Tr} (h : t.Lay g) (hn : (hsOf t.items).Nodup) {k r} (c : Lst g k t.root [] [] r) : r = some (t.items.map It.h) := by
  obtain ⟨k', m', r', c', e, _⟩ := Lst.tree hf t h hn (fun _ _ => by simp) c
  subst e
  generalize e0 : (0 : Int) = z at c'
  generalize e1 : ([] : List (Int × Nv)) = y at c'
  cases c' with
  | done => simp
  | no h _ => exact absurd e0.symm h
  | push h _ _ _ => exact absurd e0.symm h
  | item _ => cases e1

end Wa
end Go.Proofs.YtbbjfebdihepnaaGreatDoor

/-
  Going down, with no program: seek, At; what they tell of a tree that is right.
-/
namespace Go.Proofs.YtbbjfebdihepnaaGreatDoor
namespace Wa
open Nd (Nv)

/-- A node that may have its Size. -/
def lk (g : Vw) (h : Int) : Option Nv := match g.nd h with
  | some n => if n.f ≤ 65536 then some n else none
  | none => none
def dn (g : Vw) (p : Nv) (side : Int) : Option Nv := match lk g side with
  | some n => if n.f < p.f then some n else none
  | none => none
theorem lk_nd {g : Vw} {h : Int} {n : Nv} (e : lk g h = some n) : g.nd h = some n ∧ n.f ≤ 65536 := by
  unfold lk at e
  cases hn : g.nd h with
  | none => rw [hn] at e; cases e
  | some n' =>
    rw [hn] at e
    simp only at e
    split at e
    · next h1 => cases e; exact ⟨rfl, h1⟩
    · cases e
theorem dn_lk {g : Vw} {p : Nv} {h : Int} {n : Nv} (e : dn g p h = some n) : lk g h = some n ∧ n.f < p.f := by
  unfold dn at e
  cases hn : lk g h with
  | none => rw [hn] at e; cases e
  | some n' =>
    rw [hn] at e
    simp only at e
    split at e
    · next h1 => cases e; exact ⟨rfl, h1⟩
    · cases e
theorem sz_lk {g : Vw} {h : Int} : sz g h = match lk g h with | some n => n.f | none => 0 := by
  unfold sz lk
  cases g.nd h with
  | none => rfl
  | some n =>
    simp only
    split <;> rfl

/-- What seek answers from here on. -/
inductive Sk (g : Vw) (key : ByteArray) : Int → Nv → Int → Int → Int → Prop where
  | bad {h n b} : g.tx n.a = none → Sk g key h n b 0 0
  | hit {h n b t} : g.tx n.a = some t → cmp key t = 0 → Sk g key h n b h (b + sz g n.c)
  | endl {h n b t} : g.tx n.a = some t → cmp key t < 0 → dn g n n.c = none → Sk g key h n b 0 b
  | left {h n b t n' x y} : g.tx n.a = some t → cmp key t < 0 → dn g n n.c = some n' → Sk g key n.c n' b x y → Sk g key h n b x y
  | endr {h n b t} : g.tx n.a = some t → 0 < cmp key t → dn g n n.d = none → Sk g key h n b 0 (b + (sz g n.c + 1))
  | right {h n b t n' x y} : g.tx n.a = some t → 0 < cmp key t → dn g n n.d = some n' → Sk g key n.d n' (b + (sz g n.c + 1)) x y → Sk g key h n b x y

/-- How many keys are below one; its node. -/
def rankL (l : List It) (key : ByteArray) : Nat := l.countP fun i => decide (cmp i.k key < 0)
def findI (l : List It) (key : ByteArray) : Int := match l.find? (fun i => decide (cmp i.k key = 0)) with
  | some i => i.h
  | none => 0

theorem rank_app (a b : List It) (key : ByteArray) : rankL (a ++ b) key = rankL a key + rankL b key := by simp [rankL]
theorem rank_all {l : List It} {key : ByteArray} (h : ∀ i ∈ l, cmp i.k key < 0) : rankL l key = l.length := by
  unfold rankL
  exact List.countP_eq_length.2 fun i hi => by simpa using h i hi
theorem rank_none {l : List It} {key : ByteArray} (h : ∀ i ∈ l, 0 ≤ cmp i.k key) : rankL l key = 0 := by
  unfold rankL
  exact List.countP_eq_zero.2 fun i hi => by have := h i hi; simp; omega
theorem find_none {l : List It} {key : ByteArray} (h : ∀ i ∈ l, cmp i.k key ≠ 0) : l.find? (fun i => decide (cmp i.k key = 0)) = none :=
  List.find?_eq_none.2 fun i hi => by simpa using h i hi
theorem find_l {a b : List It} {key : ByteArray} (h : ∀ i ∈ b, cmp i.k key ≠ 0) : findI (a ++ b) key = findI a key := by
  unfold findI
  rw [List.find?_append, find_none h]
  cases a.find? _ <;> rfl
theorem find_r {a b : List It} {key : ByteArray} (h : ∀ i ∈ a, cmp i.k key ≠ 0) : findI (a ++ b) key = findI b key := by
  unfold findI
  rw [List.find?_append, find_none h]
  rfl
theorem cmp_lt {a b c : ByteArray} (h1 : cmp a b < 0) (h2 : cmp b c = 0) : cmp a c < 0 := by
  rw [← cmp_eq h2]; exact h1

theorem e_node {g : Vw} {i : It} {l r : Tr} (h : (Tr.node i l r).Lay g) : i.n.f = ((Tr.node i l r).items.length : Int) := by
  rw [h.2.2.2.1]
  simp [Tr.items]
  omega
/-- Down a side of a right tree. -/
theorem dn_side {g : Vw} (hf : g.Fit) {i : It} {t : Tr} (ht : t.Lay g) (hn : (hsOf t.items).Nodup) (hl : (t.items.length : Int) < i.n.f) :
    (t = .nil ∧ dn g i.n t.root = none) ∨ ∃ j l r, t = .node j l r ∧ dn g i.n t.root = some j.n := by
  cases t with
  | nil => exact .inl ⟨rfl, by simp [dn, lk, Tr.root, hf.zero]⟩
  | node j l r =>
    refine .inr ⟨j, l, r, rfl, ?_⟩
    have e := e_node ht
    have h2 := few_items hf ht hn
    simp only [dn, lk, Tr.root, ht.1.nd]
    rw [if_pos (by omega)]
    simp only
    rw [if_pos (by omega)]

theorem Sk.tree {g : Vw} (hf : g.Fit) (key : ByteArray) : ∀ (t : Tr) {i l r b x y}, t = .node i l r → t.Lay g → (hsOf t.items).Nodup → t.items.Pairwise (fun i j => cmp i.k j.k < 0) → Sk g key i.h i.n b x y → x = findI t.items key ∧ y = b + (rankL t.items key : Int)
  | .nil, _, _, _, _, _, _, e, _, _, _, _ => by cases e
  | .node i l r, i', l', r', b, x, y, e, hl, hn, hu, c => by
    cases e
    have hl0 := hl
    obtain ⟨hi, ec, ed, ee, hll, hlr⟩ := hl
    simp only [Tr.items, hs_app, hs_cons] at hn
    obtain ⟨nl, nr, _⟩ := List.nodup_append.1 hn
    have nr := (List.nodup_cons.1 (List.nodup_cons.1 (List.nodup_cons.1 nr).2).2).2
    simp only [Tr.items] at hu ⊢
    obtain ⟨ul, ur, ulr⟩ := List.pairwise_append.1 hu
    obtain ⟨ui, ur⟩ := List.pairwise_cons.1 ur
    have dl := dn_side hf (i := i) hll nl (by omega)
    have dr := dn_side hf (i := i) hlr nr (by omega)
    rw [← ec] at dl
    rw [← ed] at dr
    have sl : sz g i.n.c = l.items.length := by rw [ec]; exact sz_root hf hll nl
    have ci : ∀ t, g.tx i.n.a = some t → t = i.k := fun t h => Option.some.inj (h.symm.trans hi.k)
    -- below the node, all right of it is above; behind it, all left of it is below
    have low : cmp key i.k < 0 → rankL (l.items ++ i :: r.items) key = rankL l.items key ∧ findI (l.items ++ i :: r.items) key = findI l.items key := fun h => by
      have ab : ∀ j ∈ i :: r.items, 0 < cmp j.k key := fun j hj => by
        rcases List.mem_cons.1 hj with rfl | hj
        · rw [cmp_sw]; omega
        · have := cmp_tr h (ui j hj)
          rw [cmp_sw]; omega
      rw [rank_app, rank_none (l := i :: r.items) fun j hj => by have := ab j hj; omega]
      exact ⟨rfl, find_l fun j hj => by have := ab j hj; omega⟩
    have high : 0 < cmp key i.k → rankL (l.items ++ i :: r.items) key = l.items.length + 1 + rankL r.items key ∧ findI (l.items ++ i :: r.items) key = findI r.items key := fun h => by
      have h2 : cmp i.k key < 0 := by rw [cmp_sw]; omega
      have be : ∀ j ∈ l.items ++ [i], cmp j.k key < 0 := fun j hj => by
        rcases List.mem_append.1 hj with hj | hj
        · exact cmp_tr (ulr j hj i (by simp)) h2
        · obtain rfl : j = i := by simpa using hj
          exact h2
      rw [show l.items ++ i :: r.items = (l.items ++ [i]) ++ r.items by simp, rank_app, rank_all be]
      refine ⟨by simp, find_r fun j hj => by have := be j hj; omega⟩
    cases c with
    | bad h => rw [hi.k] at h; cases h
    | hit h1 h2 =>
      obtain rfl := ci _ h1
      have be : ∀ j ∈ l.items, cmp j.k key < 0 := fun j hj => cmp_lt (ulr j hj i (by simp)) (by rw [cmp_sw]; omega)
      have ab : ∀ j ∈ r.items, 0 ≤ cmp j.k key := fun j hj => by
        have := ui j hj
        rw [← cmp_eq h2] at this
        rw [cmp_sw]; omega
      have e0 : cmp i.k key = 0 := by rw [cmp_sw]; omega
      refine ⟨?_, ?_⟩
      · rw [find_r fun j hj => by have := be j hj; omega]
        simp [findI, e0]
      · have e1 : rankL [i] key = 0 := rank_none fun j hj => by
          obtain rfl : j = i := by simpa using hj
          omega
        rw [rank_app, rank_all be, show i :: r.items = [i] ++ r.items from rfl, rank_app, rank_none ab, e1, sl]
        omega
    | endl h1 h2 h3 =>
      obtain rfl := ci _ h1
      obtain ⟨e1, e2⟩ := low h2
      rw [e1, e2]
      rcases dl with ⟨rfl, _⟩ | ⟨_, _, _, _, h⟩
      · simp [Tr.items, rankL, findI]
      · rw [h3] at h; cases h
    | left h1 h2 h3 h4 =>
      obtain rfl := ci _ h1
      obtain ⟨e1, e2⟩ := low h2
      rw [e1, e2]
      rcases dl with ⟨_, h⟩ | ⟨j, l2, r2, e, h⟩
      · rw [h3] at h; cases h
      · rw [h3] at h
        obtain rfl := Option.some.inj h
        rw [ec, e] at h4
        exact Sk.tree hf key l e hll nl ul h4
    | endr h1 h2 h3 =>
      obtain rfl := ci _ h1
      obtain ⟨e1, e2⟩ := high h2
      rw [e1, e2]
      rcases dr with ⟨rfl, _⟩ | ⟨_, _, _, _, h⟩
      · simp [Tr.items, rankL, findI, sl]
      · rw [h3] at h; cases h
    | right h1 h2 h3 h4 =>
      obtain rfl := ci _ h1
      obtain ⟨e1, e2⟩ := high h2
      rw [e1, e2]
      rcases dr with ⟨_, h⟩ | ⟨j, l2, r2, e, h⟩
      · rw [h3] at h; cases h
      · rw [h3] at h
        obtain rfl := Option.some.inj h
        rw [ed, e] at h4
        obtain ⟨f1, f2⟩ := Sk.tree hf key r e hlr nr ur h4
        exact ⟨f1, by rw [f2, sl]; omega⟩

/-- What At answers from here on: a node, or none. -/
inductive Atm (g : Vw) : Int → Nv → Int → Int → Int → Prop where
  | hit {h n k} : k = sz g n.c → Atm g h n k h 0
  | endl {h n k} : k < sz g n.c → dn g n n.c = none → Atm g h n k 0 8
  | left {h n k n' x y} : k < sz g n.c → dn g n n.c = some n' → Atm g n.c n' k x y → Atm g h n k x y
  | endr {h n k} : sz g n.c < k → dn g n n.d = none → Atm g h n k 0 8
  | right {h n k n' x y} : sz g n.c < k → dn g n n.d = some n' → Atm g n.d n' (k - (sz g n.c + 1)) x y → Atm g h n k x y

theorem Atm.tree {g : Vw} (hf : g.Fit) : ∀ (t : Tr) {i l r x y} {k : Nat}, t = .node i l r → t.Lay g → (hsOf t.items).Nodup → k < t.items.length → Atm g i.h i.n (k : Int) x y → y = 0 ∧ (t.items.map It.h)[k]? = some x
  | .nil, _, _, _, _, _, _, e, _, _, _, _ => by cases e
  | .node i l r, i', l', r', x, y, k, e, hl, hn, hk, c => by
    cases e
    obtain ⟨hi, ec, ed, ee, hll, hlr⟩ := hl
    simp only [Tr.items, hs_app, hs_cons] at hn
    obtain ⟨nl, nr, _⟩ := List.nodup_append.1 hn
    have nr := (List.nodup_cons.1 (List.nodup_cons.1 (List.nodup_cons.1 nr).2).2).2
    simp only [Tr.items, List.length_append, List.length_cons] at hk ⊢
    have dl := dn_side hf (i := i) hll nl (by omega)
    have dr := dn_side hf (i := i) hlr nr (by omega)
    rw [← ec] at dl
    rw [← ed] at dr
    have sl : sz g i.n.c = l.items.length := by rw [ec]; exact sz_root hf hll nl
    rw [List.map_append, List.map_cons]
    generalize ek : (k : Int) = k0 at c
    cases c with
    | hit h =>
      have e : k = (l.items.map It.h).length := by simp; omega
      exact ⟨rfl, by rw [e, List.getElem?_append_right (Nat.le_refl _)]; simp⟩
    | endl h1 h2 =>
      rcases dl with ⟨rfl, _⟩ | ⟨_, _, _, _, h⟩
      · simp [Tr.items] at sl; omega
      · rw [h2] at h; cases h
    | left h1 h2 h3 =>
      rcases dl with ⟨_, h⟩ | ⟨j, l2, r2, e, h⟩
      · rw [h2] at h; cases h
      · rw [h2] at h
        obtain rfl := Option.some.inj h
        rw [ec, e, ← ek] at h3
        obtain ⟨f1, f2⟩ := Atm.tree hf l e hll nl (by omega) h3
        exact ⟨f1, by rw [List.getElem?_append_left (by simp; omega)]; exact f2⟩
    | endr h1 h2 =>
      rcases dr with ⟨rfl, _⟩ | ⟨_, _, _, _, h⟩
      · simp [Tr.items] at hk; omega
      · rw [h2] at h; cases h
    | right h1 h2 h3 =>
      rcases dr with ⟨_, h⟩ | ⟨j, l2, r2, e, h⟩
      · rw [h2] at h; cases h
      · rw [h2] at h
        obtain rfl := Option.some.inj h
        have ek2 : k0 - (sz g i.n.c + 1) = ((k - (l.items.length + 1) : Nat) : Int) := by omega
        rw [ed, e, ek2] at h3
        obtain ⟨f1, f2⟩ := Atm.tree hf r e hlr nr (by omega) h3
        refine ⟨f1, ?_⟩
        rw [List.getElem?_append_right (by simp; omega), List.length_map, show k - l.items.length = (k - (l.items.length + 1)) + 1 by omega, List.getElem?_cons_succ]
        exact f2

end Wa
end Go.Proofs.YtbbjfebdihepnaaGreatDoor

/-
  Seven cells stored over seven others, and two over two, as a step; read again.
-/
namespace Go.Proofs.YtbbjfebdihepnaaGreatDoor
open Go.RowKit Go.Maps
attribute [local go_sem ↓] Go.wp_at_zero Go.wp_at_succ
namespace Wa
open Hp (Kept K No)
open Nd (Nv encU six frz Wrapd)
variable {w w' : World}

/-- A place: its name, its node. -/
abbrev pv (h : Int) (n : Nv) : Value := .agg #[encU h, encU n.a, encU n.b, encU n.c, encU n.d, encU n.e, encU n.f]
/-- A box of a place. -/
abbrev pbx (h : Int) (n : Nv) : Obj := .cells #[encU h, encU n.a, encU n.b, encU n.c, encU n.d, encU n.e, encU n.f] 71
def pcs (h : Int) (n : Nv) : Array Value := #[encU h, encU n.a, encU n.b, encU n.c, encU n.d, encU n.e, encU n.f]
theorem seven {b : Nat} {x0 x1 x2 x3 x4 x5 x6 : Value} {t : TypeId} (h : w.heap[b]? = some (.cells #[x0, x1, x2, x3, x4, x5, x6] t)) : w.cell? ⟨b, 0, none⟩ = some x0 ∧ w.cell? ⟨b, 1, none⟩ = some x1 ∧ w.cell? ⟨b, 2, none⟩ = some x2 ∧ w.cell? ⟨b, 3, none⟩ = some x3 ∧ w.cell? ⟨b, 4, none⟩ = some x4 ∧ w.cell? ⟨b, 5, none⟩ = some x5 ∧ w.cell? ⟨b, 6, none⟩ = some x6 :=
  ⟨by simp [World.cell?, h], by simp [World.cell?, h], by simp [World.cell?, h], by simp [World.cell?, h], by simp [World.cell?, h], by simp [World.cell?, h], by simp [World.cell?, h]⟩
theorem two {b : Nat} {x0 x1 : Value} {t : TypeId} (h : w.heap[b]? = some (.cells #[x0, x1] t)) : w.cell? ⟨b, 0, none⟩ = some x0 ∧ w.cell? ⟨b, 1, none⟩ = some x1 :=
  ⟨by simp [World.cell?, h], by simp [World.cell?, h]⟩

theorem wpList_store_seven {ops : Array Oper} {rest : List Oper} {op : Oper} {a : Act} {w : World} {Q : Exit → Act → World → Prop} (hgd : op.guard = none) (t : TypeId) (x y : Operand) (ho : op.op = .store t x y) (ht : (Tryz.prog.info? t).map (·.size) = some 7)
    (b : Nat) {c0 c1 c2 c3 c4 c5 c6 v0 v1 v2 v3 v4 v5 v6 : Value} (hb : w.heap[b]? = some (.cells #[c0, c1, c2, c3, c4, c5, c6] t)) (hx : a.eval x = .pointer (some ⟨b, 0, none⟩)) (hy : a.eval y = .agg #[v0, v1, v2, v3, v4, v5, v6]) (h1 : (#[v0, v1, v2, v3, v4, v5, v6] : Array Value).all (·.oneCell') = true)
    (h : ∀ w', w'.heap[b]? = some (.cells #[v0, v1, v2, v3, v4, v5, v6] t) → Kept (fun j => j = b) w w' → wpList Tryz.prog ops Q rest (a.put op.dst undef) w') : wpList Tryz.prog ops Q (op :: rest) a w := by
  refine wpList_store_mid hgd t x y ho b 0 #[v0, v1, v2, v3, v4, v5, v6] hx hy ?_ ht h1 ?_
  · intro j hj
    obtain ⟨e0, e1, e2, e3, e4, e5, e6⟩ := seven hb
    have hj6 : j < 7 := hj
    refine ⟨?_, frz hb _⟩
    rw [Nat.zero_add]
    rcases (by omega : j = 0 ∨ j = 1 ∨ j = 2 ∨ j = 3 ∨ j = 4 ∨ j = 5 ∨ j = 6) with rfl | rfl | rfl | rfl | rfl | rfl | rfl
    · rw [e0]; rfl
    · rw [e1]; rfl
    · rw [e2]; rfl
    · rw [e3]; rfl
    · rw [e4]; rfl
    · rw [e5]; rfl
    · rw [e6]; rfl
  · have k0 : Kept (fun j => j = b) w w := Kept.refl _ _
    have b0 := heap_setCell_same w b 0 _ _ v0 hb
    have b1 := heap_setCell_same _ b 1 _ _ v1 b0
    have b2 := heap_setCell_same _ b 2 _ _ v2 b1
    have b3 := heap_setCell_same _ b 3 _ _ v3 b2
    have b4 := heap_setCell_same _ b 4 _ _ v4 b3
    have b5 := heap_setCell_same _ b 5 _ _ v5 b4
    have b6 := heap_setCell_same _ b 6 _ _ v6 b5
    refine h _ (b6.trans (by rfl)) ?_
    exact Kept.setCell (p := ⟨b, 6, none⟩) (Kept.setCell (p := ⟨b, 5, none⟩) (Kept.setCell (p := ⟨b, 4, none⟩) (Kept.setCell (p := ⟨b, 3, none⟩) (Kept.setCell (p := ⟨b, 2, none⟩) (Kept.setCell (p := ⟨b, 1, none⟩) (Kept.setCell (p := ⟨b, 0, none⟩) k0 v0 (.inl rfl)) v1 (.inl rfl)) v2 (.inl rfl)) v3 (.inl rfl)) v4 (.inl rfl)) v5 (.inl rfl)) v6 (.inl rfl)
theorem wpList_store_two {ops : Array Oper} {rest : List Oper} {op : Oper} {a : Act} {w : World} {Q : Exit → Act → World → Prop} (hgd : op.guard = none) (t : TypeId) (x y : Operand) (ho : op.op = .store t x y) (ht : (Tryz.prog.info? t).map (·.size) = some 2)
    (b : Nat) {c0 c1 v0 v1 : Value} (hb : w.heap[b]? = some (.cells #[c0, c1] t)) (hx : a.eval x = .pointer (some ⟨b, 0, none⟩)) (hy : a.eval y = .agg #[v0, v1]) (h1 : (#[v0, v1] : Array Value).all (·.oneCell') = true)
    (h : ∀ w', w'.heap[b]? = some (.cells #[v0, v1] t) → Kept (fun j => j = b) w w' → wpList Tryz.prog ops Q rest (a.put op.dst undef) w') : wpList Tryz.prog ops Q (op :: rest) a w := by
  refine wpList_store_mid hgd t x y ho b 0 #[v0, v1] hx hy ?_ ht h1 ?_
  · intro j hj
    obtain ⟨e0, e1⟩ := two hb
    have hj6 : j < 2 := hj
    refine ⟨?_, frz hb _⟩
    rw [Nat.zero_add]
    rcases (by omega : j = 0 ∨ j = 1) with rfl | rfl
    · rw [e0]; rfl
    · rw [e1]; rfl
  · have k0 : Kept (fun j => j = b) w w := Kept.refl _ _
    have b0 := heap_setCell_same w b 0 _ _ v0 hb
    have b1 := heap_setCell_same _ b 1 _ _ v1 b0
    refine h _ (b1.trans (by rfl)) ?_
    exact Kept.setCell (p := ⟨b, 1, none⟩) (Kept.setCell (p := ⟨b, 0, none⟩) k0 v0 (.inl rfl)) v1 (.inl rfl)

theorem wrapP {P : Program} {ops : Array Oper} {rest : List Oper} {ac : Act} {w : World} {Q : Exit → Act → World → Prop} {ty : TypeId} {ps : String} {af : Array Edge} {x y : Operand} {d : Option Tmp} (h : Wrapd (wpList P ops Q ({ dst := d, op := Op.store 71 x y, type := ty, pos := ps, after := af, guard := none } :: rest) ac w)) : wpList P ops Q ({ dst := d, op := Op.store 71 x y, type := ty, pos := ps, after := af, guard := none } :: rest) ac w := h
theorem wrap2 {P : Program} {ops : Array Oper} {rest : List Oper} {ac : Act} {w : World} {Q : Exit → Act → World → Prop} {ty : TypeId} {ps : String} {af : Array Edge} {x y : Operand} {d : Option Tmp} (h : Wrapd (wpList P ops Q ({ dst := d, op := Op.store 39 x y, type := ty, pos := ps, after := af, guard := none } :: rest) ac w)) : wpList P ops Q ({ dst := d, op := Op.store 39 x y, type := ty, pos := ps, after := af, guard := none } :: rest) ac w := h

end Wa
end Go.Proofs.YtbbjfebdihepnaaGreatDoor

/-
  A range over an iterator that goes from state to state, turns blocks of its own, and marks in a block that both know: its contract, and the law for the caller.
-/
namespace Go.Proofs.YtbbjfebdihepnaaGreatDoor
open Go.RowKit
namespace Wa
open Hp (Kept K No wide Grows)
open Co (Off)

/-- How such an iterator goes: what is due in a state, what follows a round, what it marks by itself, where it is done. -/
structure Way (σ : Type) where
  Due : σ → Array Value → Prop
  After : σ → σ → Prop
  Mark : σ → World → σ → World → Prop
  End : σ → Prop

/-- The contract: the rounds keep J, and what the iterator does between them keeps it, too. -/
def SeqG {σ : Type} (P : Program) (gf : Nat) (ba cp : Array Value) (Y : Way σ) (s0 : σ) (O : Nat → Prop) (S : σ → (Nat → Prop) → World → Prop) (w : World) : Prop :=
  ∀ (n l : Nat) (J : σ → (Nat → Prop) → World → Prop) (Jx : (Nat → Prop) → World → Prop) (W : World), K w W → l < W.heap.size → (∀ k, O k → k < W.heap.size) →
    (∀ s M A B, J s M A → Kept (Off W.heap.size M) A B → J s M B) → (∀ s M A s' B, J s M A → Y.Mark s A s' B → J s' M B) → (∀ M A B, Jx M A → Kept (Off W.heap.size M) A B → Jx M B) → (∀ s M A, J s M A → S s M A ∧ W.heap.size ≤ A.heap.size) →
    (∀ s enc M W1, Y.Due s enc → J s M W1 → YieldAt Fence.wide (n - 1) P l enc W1 fun e W' =>
      (e = .returned (.bool true) ∧ ∃ s' M', Y.After s s' ∧ J s' M' W' ∧ Kept M W1 W' ∧ Grows M M' W1) ∨ (e = .returned (.bool false) ∧ ∃ M', Jx M' W' ∧ Kept (fun k => M k ∨ k = l) W1 W' ∧ Grows M M' W1)) →
    J s0 O W →
    CallsIn Fence.wide n P gf (ba ++ #[.func (.yield l) #[] #[]] ++ cp) W fun e W' => (∃ v, e = .returned v) ∧ ((∃ s M, Y.End s ∧ J s M W') ∨ ∃ M, Jx M W')

/-- How a round's body may be left. -/
def bodyEndG {σ : Type} (Y : Way σ) (s : σ) (M : Nat → Prop) (I : σ → (Nat → Prop) → World → Prop) (Ix : Code → (Nat → Prop) → World → Prop) (W : World) : Exit → Act → World → Prop
  | .normal, _, W' => Kept M W W' ∧ ∃ s' M', Y.After s s' ∧ I s' M' W' ∧ Grows M M' W
  | .ret, _, W' => Kept M W W' ∧ ∃ M', Ix .ret M' W' ∧ Grows M M' W
  | .exit id, _, W' => Kept M W W' ∧ ∃ M', Ix (.exit id) M' W' ∧ Grows M M' W
  | .goto t, _, W' => Kept M W W' ∧ ∃ M', Ix (.goto t) M' W' ∧ Grows M M' W
  | .panic _, _, _ => False
  | .outgrown, _, _ => False

theorem range_G {σ : Type} {P : Program} {r : Option Nat} {n : Nat} {g : Operand} {ps : Array Tmp} {assign body : Code} {Q : Exit → Act → World → Prop} {a : Act} {w w' : World} {mark : List Deferred}
    {gf : Nat} {ba cp : Array Value} (hg : a.eval g = .func (.func gf) ba cp) (eg : ∀ args w, (callFunc gf args).run P w = .ok (.enter gf args) w)
    (hen : ∀ fn, ∃ df, (Instr.enterLoop fn a.tmps ps assign body r).run P w = .ok (w'.heap.size, mark) (w'.alloc (.loop { state := .ready, pending := none, fn, tmps := a.tmps, params := ps, assign, body, defers := df })))
    {Y : Way σ} {s0 : σ} {O : Nat → Prop} {S : σ → (Nat → Prop) → World → Prop} {w0 : World} (hseq : SeqG P gf ba cp Y s0 O S w0) (hK : K w0 w') (hO : ∀ k, O k → k < w'.heap.size) (hps : ∀ s enc, Y.Due s enc → enc.size = ps.size)
    (hmk : ∀ s A s' B, Y.Mark s A s' B → Kept (fun k => k ≠ w'.heap.size) A B)
    (I : σ → (Nat → Prop) → World → Prop) (Ix : Code → (Nat → Prop) → World → Prop) (Ax : σ → Array Value → (Nat → Prop) → Act → World → Prop)
    (hI : ∀ s M A B, I s M A → Kept (Off w'.heap.size M) A B → I s M B) (hIm : ∀ s M A s' B, I s M A → Y.Mark s A s' B → I s' M B) (hIx : ∀ c M A B, Ix c M A → Kept (Off w'.heap.size M) A B → Ix c M B) (hAx : ∀ s enc M a' A B, Ax s enc M a' A → ¬ M w'.heap.size → Kept (fun k => k = w'.heap.size) A B → Ax s enc M a' B)
    (hS : ∀ s M A, I s M A → S s M A)
    (h0 : I s0 O w')
    (hassign : ∀ s enc M W, Y.Due s enc → I s M W → ¬ M w'.heap.size → w'.heap.size < W.heap.size →
      assign.wpIn (wide (some w'.heap.size)) (n - 1 - 1) P (Exit.then (fun a' W' => Kept M W W' ∧ Ax s enc M a' W') (fun _ _ _ => False)) { tmps := (ps.zip enc).foldl (fun t (p, v) => t.setIfInBounds p v) a.tmps, defers := [] } W)
    (hbody : ∀ s enc M a' W, Y.Due s enc → (∃ r, W.heap[w'.heap.size]? = some (.loop r)) → ¬ M w'.heap.size → Ax s enc M a' W → body.wpIn (wide (some w'.heap.size)) (n - 1 - 1) P (bodyEndG Y s M I Ix W) a' W)
    (hdone : ∀ s M W, Y.End s → I s M W → Q .normal { a with defers := mark ++ a.defers } W)
    (hstop : ∀ c M W, Ix c M W → c.wpIn (wide r) n P Q { a with defers := mark ++ a.defers } W) :
    (Code.rangeFunc g ps assign body).wpIn (wide r) n P Q a w := by
  refine wpIn_rangeFunc fun fn _ => ?_
  obtain ⟨df, hen⟩ := hen fn
  generalize hl : w'.heap.size = l at *
  let rc : LoopState → Option Code → Loop := fun st pe => { state := st, pending := pe, fn, tmps := a.tmps, params := ps, assign, body, defers := df }
  refine ⟨l, mark, w'.alloc (.loop (rc .ready none)), { target := .fn (.func gf) cp, args := ba ++ #[.func (.yield l) #[] #[]] }, w'.alloc (.loop (rc .ready none)), gf, ba ++ #[.func (.yield l) #[] #[]] ++ cp, w'.alloc (.loop (rc .ready none)), hen, ?_, fun _ _ => trivial, ?_, fun h => (by cases h), ?_⟩
  · simp only [resolve, hg]
    simp [go_sem]
  · simp [invoke, go_sem, eg]
  have hW1 : (w'.alloc (.loop (rc .ready none))).heap[l]? = some (.loop (rc .ready none)) := by rw [← hl]; exact World.alloc_heap_new w' _
  have offl : ∀ (M : Nat → Prop) A B, ¬ M l → Kept (fun k => k = l) A B → Kept (Off l M) A B := fun M A B hM k => k.mono (fun j _ hj => by subst hj; exact ⟨Nat.le_refl _, hM⟩)
  -- a round on a ready record, from whatever world
  have one : ∀ s enc M W, Y.Due s enc → I s M W → ¬ M l → W.heap[l]? = some (.loop (rc .ready none)) → YieldAt Fence.wide (n - 1 - 1) P l enc W fun e W' =>
      (e = .returned (.bool true) ∧ ∃ s' M', Y.After s s' ∧ (I s' M' W' ∧ ¬ M' l ∧ W'.heap[l]? = some (.loop (rc .ready none))) ∧ Kept M W W' ∧ Grows M M' W) ∨ (e = .returned (.bool false) ∧ ∃ M' : Nat → Prop, (∃ c, Ix c M' W' ∧ ¬ M' l ∧ W'.heap[l]? = some (.loop (rc .done (some c)))) ∧ Kept (fun k => M k ∨ k = l) W W' ∧ Grows M M' W) := by
    intro s enc M W hx hi hM hr
    have hlt := (Array.getElem?_eq_some_iff.1 hr).1
    refine ⟨fn, _, assign, body, run_yield (args := enc) hr (hps s enc hx), roundIn_of_wpIn trivial (wpIn_mono (hassign s enc M W hx hi hM hlt) ?_)⟩
    rintro (_ | _ | _ | _ | _ | _) a' Wa hp
    all_goals first | exact hp.elim | skip
    obtain ⟨hka, hax⟩ := hp
    have hra := hka.block hr hM
    have hlta := (Array.getElem?_eq_some_iff.1 hra).1
    refine ⟨_, run_beginRound hra rfl, wpIn_mono (hbody s enc M a' _ hx ⟨_, World.putObj_heap_same hlta⟩ hM (hAx _ _ _ _ _ _ hax hM ((Kept.refl _ Wa).putObj _ (.inl rfl)))) ?_⟩
    have busy : ∀ W3, Kept M (Wa.putObj l (.loop { rc .ready none with state := .busy })) W3 → W3.heap[l]? = some (.loop { rc .ready none with state := .busy }) := fun W3 h3 => h3.block (World.putObj_heap_same hlta) hM
    have nol : ∀ M', Grows M M' (Wa.putObj l (.loop { rc .ready none with state := .busy })) → ¬ M' l := fun M' hgr h => by
      rcases hgr l h with h5 | h5
      · exact hM h5
      · rw [World.putObj_size] at h5
        omega
    have gro : ∀ M', Grows M M' (Wa.putObj l (.loop { rc .ready none with state := .busy })) → Grows M M' W := fun M' hgr k hk => by
      rcases hgr k hk with h5 | h5
      · exact .inl h5
      · rw [World.putObj_size] at h5
        exact .inr (Nat.le_trans hka.size h5)
    have off : ∀ c W3, Kept M (Wa.putObj l (.loop { rc .ready none with state := .busy })) W3 → (∃ M', Ix c M' W3 ∧ Grows M M' (Wa.putObj l (.loop { rc .ready none with state := .busy }))) → ∃ v w'', (Instr.endRound l (some c)).run P W3 = .ok v w'' ∧ ((Ending.returned v = .returned (.bool true) ∧ ∃ s' M', Y.After s s' ∧ (I s' M' w'' ∧ ¬ M' l ∧ w''.heap[l]? = some (.loop (rc .ready none))) ∧ Kept M W w'' ∧ Grows M M' W) ∨ (Ending.returned v = .returned (.bool false) ∧ ∃ M' : Nat → Prop, (∃ c, Ix c M' w'' ∧ ¬ M' l ∧ w''.heap[l]? = some (.loop (rc .done (some c)))) ∧ Kept (fun k => M k ∨ k = l) W w'' ∧ Grows M M' W)) := fun c W3 h3 hx3 => by
      have h4 := busy W3 h3
      obtain ⟨M', hx3, hgr⟩ := hx3
      have hM' := nol M' hgr
      exact ⟨_, _, run_endRound (some c) h4, .inr ⟨rfl, M', ⟨c, hIx _ _ _ _ hx3 (offl _ _ _ hM' ((Kept.refl _ W3).putObj _ (.inl rfl))), hM', World.putObj_heap_same (Array.getElem?_eq_some_iff.1 h4).1⟩,
        ((((hka.mono (fun _ _ h => .inl h)).putObj _ (.inl (.inr rfl))).trans (h3.mono (fun _ _ h => .inl h))).putObj _ (.inl (.inr rfl))), gro M' hgr⟩⟩
    rintro (_ | _ | _ | _ | _ | _) a3 W3 hp
    all_goals first | exact hp.elim | skip
    · obtain ⟨h3, s', M', haf, hi3, hgr⟩ := hp
      have h4 := busy W3 h3
      have hlt4 := (Array.getElem?_eq_some_iff.1 h4).1
      have hM' := nol M' hgr
      refine ⟨_, _, run_endRound none h4, .inl ⟨rfl, s', M', haf, ⟨hI _ _ _ _ hi3 (offl _ _ _ hM' ((Kept.refl _ W3).putObj _ (.inl rfl))), hM', World.putObj_heap_same hlt4⟩, ?_, gro M' hgr⟩⟩
      refine ⟨h3.os.trans hka.os, h3.tape.trans hka.tape, h3.output.trans hka.output, ?_, fun k hk hn => ?_⟩
      · rw [World.putObj_size]
        have := h3.size
        rw [World.putObj_size] at this
        exact Nat.le_trans hka.size this
      · by_cases e : k = l
        · subst e
          rw [World.putObj_heap_same hlt4, hr]
          rfl
        · rw [World.putObj_heap_other e, h3.same k (by rw [World.putObj_size]; exact Nat.lt_of_lt_of_le hk hka.size) hn, World.putObj_heap_other e]
          exact hka.same k hk hn
    · exact off _ _ hp.1 hp.2
    · exact off _ _ hp.1 hp.2
    · exact off _ _ hp.1 hp.2
  have hsz1 : (w'.alloc (.loop (rc .ready none))).heap.size = l + 1 := by simp [hl]
  have up : ∀ (M : Nat → Prop) A B, Kept (Off (w'.alloc (.loop (rc .ready none))).heap.size M) A B → Kept (Off l M) A B := fun M A B k => k.mono (fun j _ hj => ⟨by have := hj.1; omega, hj.2⟩)
  have nl : ∀ (M : Nat → Prop), ¬ Off (w'.alloc (.loop (rc .ready none))).heap.size M l := fun M h => by have := h.1; omega
  have szl : ∀ (V : World) x, V.heap[l]? = some x → (w'.alloc (.loop (rc .ready none))).heap.size ≤ V.heap.size := fun V x hx => by
    have := (Array.getElem?_eq_some_iff.1 hx).1
    omega
  refine (hseq (n - 1) l (fun s M W => I s M W ∧ ¬ M l ∧ W.heap[l]? = some (.loop (rc .ready none))) (fun M W => ∃ c, Ix c M W ∧ ¬ M l ∧ W.heap[l]? = some (.loop (rc .done (some c)))) _ (hK.alloc _) (by omega) (fun k hk => by have := hO k hk; omega)
    (fun s M A B h k => ⟨hI s M A B h.1 (up _ _ _ k), h.2.1, k.block h.2.2 (nl M)⟩) (fun s M A s' B h k => ⟨hIm s M A s' B h.1 k, h.2.1, (hmk _ _ _ _ k).block h.2.2 (by simp)⟩) (fun M A B h k => by obtain ⟨c, h1, h2, h3⟩ := h; exact ⟨c, hIx c M A B h1 (up _ _ _ k), h2, k.block h3 (nl M)⟩)
    (fun s M A h => ⟨hS s M A h.1, szl _ _ h.2.2⟩)
    (fun s enc M W hx h => one s enc M W hx h.1 h.2.1 h.2.2) ⟨hI _ _ _ _ h0 ((K.refl w').kept _ |>.alloc _), fun h => by have := hO _ h; omega, hW1⟩).mono ?_
  rintro e W2 ⟨⟨v, rfl⟩, (⟨s, M, hend, hi, hM, hr⟩ | ⟨M, c, hi, hM, hr⟩)⟩
  · exact ⟨none, _, run_endLoop hr (by simp [rc]), hdone s M _ hend (hI _ _ _ _ hi (offl _ _ _ hM ((Kept.refl _ W2).putObj _ (.inl rfl))))⟩
  · exact ⟨some c, _, run_endLoop hr (by simp [rc]), hstop c M _ (hIx _ _ _ _ hi (offl _ _ _ hM ((Kept.refl _ W2).putObj _ (.inl rfl))))⟩

end Wa
end Go.Proofs.YtbbjfebdihepnaaGreatDoor
