/-
  Pages with right heads, as a list: what they are, and that 'heads' tells just them. No program.
-/
import Derived.Test.YtlpdgomoepinjaaDoorHPlain
import Derived.Test.YtlpdgomoepinjaaDoorSGap
namespace Go.Proofs.YtlpdgomoepinjaaDoor
namespace Hp

/-- A right entry: a page of small places with a taken slot, or a large block. -/
def Ent (p : Pg) : Prop :=
  (p.kind = 1 ∧ 0 ≤ p.cls ∧ p.cls ≤ 7 ∧ p.taken ≠ 0 ∧ Bt.U p.taken ∧ Bt.cutI (Cl.sloI p.cls) p.taken = p.taken ∧ p.words = 0 ∧ p.span = 1) ∨
  (p.kind = 2 ∧ p.cls = 0 ∧ p.taken = 0 ∧ 1 ≤ p.words ∧ p.words ≤ 4000 ∧ Cl.smaI p.words = false ∧ p.span = Cl.pagI p.words)

def markI (p : Pg) : Int := if p.kind = 1 then 1 + 256 * p.cls else 2 + 256 * p.span
def heldI (p : Pg) : Int := if p.kind = 1 then p.taken else p.words

theorem errC_in {c : Int} (h0 : 0 ≤ c) (h1 : c ≤ 7) : Cl.errC c = 0 := by
  rcases Cl.siz_cases c with ⟨_, _, a, _⟩ | ⟨_, _, a, _⟩ | ⟨_, _, a, _⟩ | ⟨_, _, a, _⟩ | ⟨_, _, a, _⟩ | ⟨_, _, a, _⟩ | ⟨_, _, a, _⟩ | ⟨_, _, a, _⟩ | ⟨a, _, _, _⟩
  case inr.inr.inr.inr.inr.inr.inr.inr => exact absurd ⟨h0, h1⟩ a
  all_goals exact a

theorem C_of {c : Int} (h : Cl.errC c = 0) : 0 ≤ c ∧ c ≤ 7 := by
  rcases Cl.siz_cases c with ⟨a, _⟩ | ⟨a, _⟩ | ⟨a, _⟩ | ⟨a, _⟩ | ⟨a, _⟩ | ⟨a, _⟩ | ⟨a, _⟩ | ⟨a, _⟩ | ⟨_, _, a, _⟩ <;> omega

theorem Ent.span {p : Pg} (h : Ent p) : 1 ≤ p.span ∧ p.span ≤ 63 := by
  rcases h with ⟨_, _, _, _, _, _, _, hs⟩ | ⟨_, _, _, h0, h1, _, hs⟩
  · omega
  · rw [hs]
    exact pag_range h0 h1
theorem Ent.kind {p : Pg} (h : Ent p) : p.kind = 1 ∨ p.kind = 2 := by
  rcases h with ⟨h, _⟩ | ⟨h, _⟩
  · exact .inl h
  · exact .inr h

/-- A right entry is what the page's head says, if its words say so. -/
theorem look_ent {pg : List (Int × Nat)} {W : Int → Int} {p : Pg} (he : Ent p) (hm : W (64 * p.n) = markI p) (hh : W (64 * p.n + 1) = heldI p) (ha : p.kind = 2 → Sl.allIn pg p.n p.span.toNat = true) : look pg W p.n = p := by
  obtain ⟨n, kd, c, t, x, s⟩ := p
  unfold look
  rw [hm, hh]
  rcases he with ⟨h1, h2, h3, h4, h5, h6, h7, h8⟩ | ⟨h1, h2, h3, h4, h5, h6, h7⟩
  · dsimp only at h1 h2 h3 h4 h5 h6 h7 h8
    subst h1 h7 h8
    have e1 : markI ⟨n, 1, c, t, 0, 1⟩ = 1 + 256 * c := rfl
    have e2 : heldI ⟨n, 1, c, t, 0, 1⟩ = t := rfl
    rw [e1, e2]
    have e3 : (1 + 256 * c) / 256 = c := by omega
    have hk : classOk (1 + 256 * c) t = true := by
      unfold classOk
      rw [e3, h6, errC_in h2 h3]
      simp [h4]
    rw [if_pos hk, e3]
  · dsimp only at h1 h2 h3 h4 h5 h6 h7 ha
    subst h1 h2 h3
    have e1 : markI ⟨n, 2, 0, 0, x, s⟩ = 2 + 256 * s := rfl
    have e2 : heldI ⟨n, 2, 0, 0, x, s⟩ = x := rfl
    rw [e1, e2]
    have hk : ¬ classOk (2 + 256 * s) x = true := fun h => by
      obtain ⟨_, _, h, _⟩ := classOk_inv h
      omega
    rw [if_neg hk]
    have hl : (largeOk (2 + 256 * s) x && Sl.allIn pg n (Cl.pagI x).toNat) = true := by
      unfold largeOk
      rw [h6, decide_eq_true (show 1 ≤ x ∧ x ≤ 4000 from ⟨h4, h5⟩), ← h7, ha rfl]
      simp
    rw [if_pos hl, h7]

/-- What a head says is right, or it is wrong. -/
theorem ent_look {pg : List (Int × Nat)} {W : Int → Int} {n : Int} (hw : Bt.U (W (64 * n + 1))) (hk : (look pg W n).kind ≠ 0) :
    Ent (look pg W n) ∧ W (64 * n) = markI (look pg W n) ∧ W (64 * n + 1) = heldI (look pg W n) ∧ ((look pg W n).kind = 2 → Sl.allIn pg n (look pg W n).span.toNat = true) := by
  unfold look at *
  by_cases h1 : classOk (W (64 * n)) (W (64 * n + 1)) = true
  · rw [if_pos h1]
    obtain ⟨a, b, c, d⟩ := classOk_inv h1
    have hC := C_of a
    exact ⟨.inl ⟨rfl, hC.1, hC.2, b, hw, d, rfl, rfl⟩, c, rfl, fun h => by cases h⟩
  · rw [if_neg h1] at hk ⊢
    by_cases h2 : (largeOk (W (64 * n)) (W (64 * n + 1)) && Sl.allIn pg n (Cl.pagI (W (64 * n + 1))).toNat) = true
    · rw [if_pos h2]
      simp only [Bool.and_eq_true] at h2
      obtain ⟨a, b, c, d⟩ := largeOk_inv h2.1
      exact ⟨.inr ⟨rfl, rfl, rfl, a, b, c, rfl⟩, d, rfl, fun _ => h2.2⟩
    · rw [if_neg h2] at hk
      exact absurd rfl hk

def Srt (L : List Pg) : Prop := L.Pairwise fun p r => p.n + p.span ≤ r.n
/-- A page is of one of the entries. -/
def In (L : List Pg) (k : Int) : Prop := ∃ p ∈ L, p.n ≤ k ∧ k < p.n + p.span

theorem scan_eq (f : Int → Pg) : ∀ (ks : List Int) (L : List Pg) (b : Int), ks.Pairwise (fun x y => x < y) → Srt L → (∀ p ∈ L, 1 ≤ p.span) → (∀ p ∈ L, f p.n = p) → (∀ p ∈ L, b ≤ p.n) → (∀ k ∈ ks, k < b ∨ In L k) → (∀ k, In L k → k ∈ ks) → scan f ks b = L := by
  intro ks
  induction ks with
  | nil =>
    intro L b _ _ hs _ _ _ hin
    cases L with
    | nil => rfl
    | cons p r =>
      have h1 := hs p (by simp)
      have := hin p.n ⟨p, by simp, by omega, by omega⟩
      cases this
  | cons k r ih =>
    intro L b hk hL hs hf hb hc hin
    obtain ⟨hk1, hk2⟩ := List.pairwise_cons.1 hk
    by_cases hlt : k < b
    · rw [scan_skip _ _ _ _ hlt]
      refine ih L b hk2 hL hs hf hb (fun j hj => hc j (List.mem_cons_of_mem _ hj)) (fun j hj => ?_)
      rcases List.mem_cons.1 (hin j hj) with rfl | h
      · obtain ⟨p, hp, h1, _⟩ := hj
        have := hb p hp
        omega
      · exact h
    · rw [scan_take _ _ _ _ hlt]
      have hin0 : In L k := by
        rcases hc k (by simp) with h | h
        · exact absurd h hlt
        · exact h
      cases L with
      | nil =>
        obtain ⟨p, hp, _⟩ := hin0
        cases hp
      | cons p0 L' =>
        obtain ⟨hp1, hp2⟩ := List.pairwise_cons.1 hL
        have hs0 := hs p0 (by simp)
        have hkn : k = p0.n := by
          rcases List.mem_cons.1 (hin p0.n ⟨p0, by simp, by omega, by omega⟩) with h | h
          · exact h.symm
          · have h1 := hk1 _ h
            obtain ⟨p, hp, h2, h3⟩ := hin0
            rcases List.mem_cons.1 hp with rfl | hp
            · omega
            · have := hp1 p hp
              omega
        have hf0 := hf p0 (by simp)
        rw [hkn, hf0]
        congr 1
        refine ih L' _ hk2 hp2 (fun p hp => hs p (List.mem_cons_of_mem _ hp)) (fun p hp => hf p (List.mem_cons_of_mem _ hp)) (fun p hp => hp1 p hp) (fun j hj => ?_) (fun j hj => ?_)
        · have h1 := hk1 j hj
          rcases hc j (List.mem_cons_of_mem _ hj) with h | ⟨p, hp, h2, h3⟩
          · omega
          · rcases List.mem_cons.1 hp with rfl | hp
            · exact .inl h3
            · exact .inr ⟨p, hp, h2, h3⟩
        · obtain ⟨p, hp, h2, h3⟩ := hj
          have h4 := hp1 p hp
          rcases List.mem_cons.1 (hin j ⟨p, List.mem_cons_of_mem _ hp, h2, h3⟩) with h | h
          · omega
          · exact h

/-- The arena's pages are these entries'. -/
structure Lay (pg : List (Int × Nat)) (W : Int → Int) (L : List Pg) : Prop where
  ent : ∀ p ∈ L, Ent p
  m : ∀ p ∈ L, W (64 * p.n) = markI p
  h : ∀ p ∈ L, W (64 * p.n + 1) = heldI p
  srt : Srt L
  cov : ∀ k, (Sl.blk pg k).isSome = true ↔ In L k

section
variable {pg : List (Int × Nat)} {W W' : Int → Int} {L : List Pg}

theorem Lay.has (l : Lay pg W L) {p : Pg} (hp : p ∈ L) (i : Int) (h0 : 0 ≤ i) (h1 : i < p.span) : (Sl.blk pg (p.n + i)).isSome = true := (l.cov _).2 ⟨p, hp, by omega, by omega⟩
theorem Lay.has0 (l : Lay pg W L) {p : Pg} (hp : p ∈ L) : (Sl.blk pg p.n).isSome = true := by
  have := (l.ent p hp).span
  have h := l.has hp 0 (by omega) (by omega)
  simpa using h

theorem Lay.look (l : Lay pg W L) {p : Pg} (hp : p ∈ L) : look pg W p.n = p :=
  look_ent (l.ent p hp) (l.m p hp) (l.h p hp) fun _ => Sl.allIn_iff.2 fun i hi => l.has hp i (by omega) (by have := (l.ent p hp).span; omega)

theorem mem_keys {k : Int} : k ∈ pg.map (fun p => p.1) ↔ (Sl.blk pg k).isSome = true := by
  constructor
  · intro h
    obtain ⟨p, hp, rfl⟩ := List.mem_map.1 h
    cases hb : Sl.blk pg p.1 with
    | some _ => rfl
    | none => exact absurd rfl (Sl.blk_none_iff.1 hb p hp)
  · intro h
    obtain ⟨b, hb⟩ := Option.isSome_iff_exists.1 h
    exact List.mem_map.2 ⟨_, Sl.blk_mem hb, rfl⟩

theorem Lay.range (l : Lay pg W L) (hr : ∀ p ∈ pg, 0 ≤ p.1 ∧ p.1 ≤ 1048575) {p : Pg} (hp : p ∈ L) (i : Int) (h0 : 0 ≤ i) (h1 : i < p.span) : 0 ≤ p.n + i ∧ p.n + i ≤ 1048575 := by
  obtain ⟨x, hx, e⟩ := List.mem_map.1 (mem_keys.2 (l.has hp i h0 h1))
  rw [← e]
  exact hr x hx

theorem Lay.heads (l : Lay pg W L) (hs : Sl.Rising pg) (hr : ∀ p ∈ pg, 0 ≤ p.1 ∧ p.1 ≤ 1048575) : heads pg W = L := by
  refine scan_eq _ _ L 0 ?_ l.srt (fun p hp => (l.ent p hp).span.1) (fun p hp => l.look hp) (fun p hp => ?_) (fun k hk => ?_) (fun k hk => ?_)
  · rw [List.pairwise_map]
    exact hs
  · have := (l.ent p hp).span
    have := l.range hr hp 0 (by omega) (by omega)
    omega
  · exact .inr ((l.cov k).1 (mem_keys.1 hk))
  · exact mem_keys.2 ((l.cov k).2 hk)

theorem Lay.nil (W : Int → Int) : Lay [] W [] :=
  ⟨fun _ h => (by cases h), fun _ h => (by cases h), fun _ h => (by cases h), List.Pairwise.nil, fun k => ⟨fun h => (by simp [Sl.blk_nil] at h), fun ⟨_, h, _⟩ => (by cases h)⟩⟩

/-- Two entries are apart. -/
theorem srt_apart {L : List Pg} (hs : Srt L) {p r : Pg} (hp : p ∈ L) (hr : r ∈ L) (hne : p ≠ r) : p.n + p.span ≤ r.n ∨ r.n + r.span ≤ p.n := by
  induction L with
  | nil => cases hp
  | cons x l ih =>
    obtain ⟨h1, h2⟩ := List.pairwise_cons.1 hs
    rcases List.mem_cons.1 hp with rfl | hp'
    · rcases List.mem_cons.1 hr with rfl | hr'
      · exact absurd rfl hne
      · exact .inl (h1 r hr')
    · rcases List.mem_cons.1 hr with rfl | hr'
      · exact .inr (h1 p hp')
      · exact ih h2 hp' hr'
theorem Lay.inj (l : Lay pg W L) {p r : Pg} (hp : p ∈ L) (hr : r ∈ L) (e : p.n = r.n) : p = r := by
  by_cases hne : p = r
  · exact hne
  · have h1 := (l.ent p hp).span
    have h2 := (l.ent r hr).span
    rcases srt_apart l.srt hp hr hne with h | h <;> omega

/-- Only words that are no head's turn. -/
theorem Lay.words (l : Lay pg W L) (h : ∀ p ∈ L, W' (64 * p.n) = W (64 * p.n) ∧ W' (64 * p.n + 1) = W (64 * p.n + 1)) : Lay pg W' L :=
  ⟨l.ent, fun p hp => (h p hp).1.trans (l.m p hp), fun p hp => (h p hp).2.trans (l.h p hp), l.srt, l.cov⟩

/-- One entry turns. -/
def updL (L : List Pg) (n : Int) (p' : Pg) : List Pg := L.map fun r => if r.n = n then p' else r
theorem mem_upd {n : Int} {p' r : Pg} (h : r ∈ updL L n p') : r = p' ∨ (r ∈ L ∧ r.n ≠ n) := by
  obtain ⟨x, hx, rfl⟩ := List.mem_map.1 h
  split
  · exact .inl rfl
  · rename_i hn
    exact .inr ⟨hx, hn⟩

theorem Lay.upd (l : Lay pg W L) {p p' : Pg} (hp : p ∈ L) (hn : p'.n = p.n) (hs : p'.span = p.span) (he : Ent p') (hm : W' (64 * p.n) = markI p') (hh : W' (64 * p.n + 1) = heldI p')
    (ho : ∀ r ∈ L, r.n ≠ p.n → W' (64 * r.n) = W (64 * r.n) ∧ W' (64 * r.n + 1) = W (64 * r.n + 1)) : Lay pg W' (updL L p.n p') := by
  have hin : ∀ k, In (updL L p.n p') k ↔ In L k := fun k => by
    constructor
    · rintro ⟨r, hr, h1, h2⟩
      rcases mem_upd hr with rfl | ⟨h3, _⟩
      · exact ⟨p, hp, by omega, by omega⟩
      · exact ⟨r, h3, h1, h2⟩
    · rintro ⟨r, hr, h1, h2⟩
      by_cases e : r.n = p.n
      · have := l.inj hr hp e
        subst this
        exact ⟨p', List.mem_map.2 ⟨r, hr, by rw [if_pos rfl]⟩, by omega, by omega⟩
      · exact ⟨r, List.mem_map.2 ⟨r, hr, by rw [if_neg e]⟩, h1, h2⟩
  refine ⟨fun r hr => ?_, fun r hr => ?_, fun r hr => ?_, ?_, fun k => (l.cov k).trans (hin k).symm⟩
  · rcases mem_upd hr with rfl | ⟨h3, _⟩
    · exact he
    · exact l.ent r h3
  · rcases mem_upd hr with rfl | ⟨h3, h4⟩
    · rw [hn]; exact hm
    · exact (ho r h3 h4).1.trans (l.m r h3)
  · rcases mem_upd hr with rfl | ⟨h3, h4⟩
    · rw [hn]; exact hh
    · exact (ho r h3 h4).2.trans (l.h r h3)
  · unfold Srt updL
    rw [List.pairwise_map]
    refine List.Pairwise.imp_of_mem (fun {a b} ha hb hab => ?_) l.srt
    have e : ∀ x ∈ L, (if x.n = p.n then p' else x).n = x.n ∧ (if x.n = p.n then p' else x).span = x.span := fun x hx => by
      split
      · rename_i hx2
        have := l.inj hx hp hx2
        subst this
        exact ⟨hn, hs⟩
      · exact ⟨rfl, rfl⟩
    rw [(e a ha).1, (e a ha).2, (e b hb).1]
    exact hab

/-- An entry goes. -/
def delL (L : List Pg) (n : Int) : List Pg := L.filter fun r => !(r.n == n)
theorem mem_delL {n : Int} {r : Pg} : r ∈ delL L n ↔ r ∈ L ∧ r.n ≠ n := by simp [delL]

theorem Lay.del (l : Lay pg W L) {pg' : List (Int × Nat)} {p : Pg} (hp : p ∈ L) (hg : ∀ k, (Sl.blk pg' k).isSome = true ↔ (Sl.blk pg k).isSome = true ∧ ¬ (p.n ≤ k ∧ k < p.n + p.span))
    (ho : ∀ r ∈ L, r.n ≠ p.n → W' (64 * r.n) = W (64 * r.n) ∧ W' (64 * r.n + 1) = W (64 * r.n + 1)) : Lay pg' W' (delL L p.n) := by
  refine ⟨fun r hr => l.ent r (mem_delL.1 hr).1, fun r hr => ?_, fun r hr => ?_, l.srt.filter _, fun k => ?_⟩
  · obtain ⟨h1, h2⟩ := mem_delL.1 hr
    exact (ho r h1 h2).1.trans (l.m r h1)
  · obtain ⟨h1, h2⟩ := mem_delL.1 hr
    exact (ho r h1 h2).2.trans (l.h r h1)
  · rw [hg k, l.cov k]
    constructor
    · rintro ⟨⟨r, hr, h1, h2⟩, h3⟩
      refine ⟨r, mem_delL.2 ⟨hr, fun e => h3 ?_⟩, h1, h2⟩
      have := l.inj hr hp e
      subst this
      exact ⟨h1, h2⟩
    · rintro ⟨r, hr, h1, h2⟩
      obtain ⟨h3, h4⟩ := mem_delL.1 hr
      refine ⟨⟨r, h3, h1, h2⟩, fun ⟨h5, h6⟩ => ?_⟩
      have hne : r ≠ p := fun e => h4 (by rw [e])
      rcases srt_apart l.srt h3 hp hne with h | h <;> omega

/-- An entry comes. -/
def insL (p : Pg) : List Pg → List Pg
  | [] => [p]
  | r :: l => if p.n < r.n then p :: r :: l else r :: insL p l
theorem mem_insL {p r : Pg} : ∀ {L : List Pg}, r ∈ insL p L ↔ r = p ∨ r ∈ L
  | [] => by simp [insL]
  | x :: l => by
    unfold insL
    split
    · simp
    · simp only [List.mem_cons, mem_insL (L := l)]
      constructor
      · rintro (h | h | h)
        · exact .inr (.inl h)
        · exact .inl h
        · exact .inr (.inr h)
      · rintro (h | h | h)
        · exact .inr (.inl h)
        · exact .inl h
        · exact .inr (.inr h)
theorem srt_ins {p : Pg} : ∀ {L : List Pg}, Srt L → (∀ r ∈ L, 1 ≤ r.span) → (∀ r ∈ L, p.n + p.span ≤ r.n ∨ r.n + r.span ≤ p.n) → 1 ≤ p.span → Srt (insL p L)
  | [], _, _, _, _ => List.pairwise_singleton _ _
  | x :: l, hs, h1, h2, h3 => by
    obtain ⟨a, b⟩ := List.pairwise_cons.1 hs
    have hx := h2 x (by simp)
    have hx1 := h1 x (by simp)
    unfold insL
    split
    · rename_i hlt
      refine List.pairwise_cons.2 ⟨fun r hr => ?_, hs⟩
      rcases List.mem_cons.1 hr with rfl | hr
      · omega
      · have := a r hr
        omega
    · rename_i hlt
      refine List.pairwise_cons.2 ⟨fun r hr => ?_, srt_ins b (fun r hr => h1 r (List.mem_cons_of_mem _ hr)) (fun r hr => h2 r (List.mem_cons_of_mem _ hr)) h3⟩
      rcases mem_insL.1 hr with rfl | hr
      · omega
      · exact a r hr

theorem Lay.ins (l : Lay pg W L) {pg' : List (Int × Nat)} {p : Pg} (he : Ent p) (hg : ∀ k, (Sl.blk pg' k).isSome = true ↔ (Sl.blk pg k).isSome = true ∨ (p.n ≤ k ∧ k < p.n + p.span)) (hf : ∀ k, p.n ≤ k → k < p.n + p.span → Sl.blk pg k = none)
    (hm : W' (64 * p.n) = markI p) (hh : W' (64 * p.n + 1) = heldI p) (ho : ∀ r ∈ L, r.n ≠ p.n → W' (64 * r.n) = W (64 * r.n) ∧ W' (64 * r.n + 1) = W (64 * r.n + 1)) : Lay pg' W' (insL p L) := by
  have hsp := he.span
  have hap : ∀ r ∈ L, p.n + p.span ≤ r.n ∨ r.n + r.span ≤ p.n := fun r hr => by
    have hs := (l.ent r hr).span
    by_cases h1 : p.n + p.span ≤ r.n
    · exact .inl h1
    · refine .inr ?_
      by_cases h2 : r.n + r.span ≤ p.n
      · exact h2
      · exfalso
        by_cases h3 : p.n ≤ r.n
        · have := l.has hr 0 (by omega) (by omega)
          rw [hf (r.n + 0) (by omega) (by omega)] at this
          cases this
        · have := l.has hr (p.n - r.n) (by omega) (by omega)
          rw [hf (r.n + (p.n - r.n)) (by omega) (by omega)] at this
          cases this
  have hne : ∀ r ∈ L, r.n ≠ p.n := fun r hr e => by
    have hs := (l.ent r hr).span
    have := hap r hr
    omega
  refine ⟨fun r hr => ?_, fun r hr => ?_, fun r hr => ?_, srt_ins l.srt (fun r hr => (l.ent r hr).span.1) hap hsp.1, fun k => ?_⟩
  · rcases mem_insL.1 hr with rfl | hr
    · exact he
    · exact l.ent r hr
  · rcases mem_insL.1 hr with rfl | hr
    · exact hm
    · exact (ho r hr (hne r hr)).1.trans (l.m r hr)
  · rcases mem_insL.1 hr with rfl | hr
    · exact hh
    · exact (ho r hr (hne r hr)).2.trans (l.h r hr)
  · rw [hg k, l.cov k]
    constructor
    · rintro (⟨r, hr, h1, h2⟩ | ⟨h1, h2⟩)
      · exact ⟨r, mem_insL.2 (.inr hr), h1, h2⟩
      · exact ⟨p, mem_insL.2 (.inl rfl), h1, h2⟩
    · rintro ⟨r, hr, h1, h2⟩
      rcases mem_insL.1 hr with rfl | hr
      · exact .inr ⟨h1, h2⟩
      · exact .inl ⟨r, hr, h1, h2⟩

end

end Hp
end Go.Proofs.YtlpdgomoepinjaaDoor
