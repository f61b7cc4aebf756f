/-
  What a call of a script answers as one number, and that it is told by the arena's pages and words alone.
-/
import Derived.Test.YtclbaepgodeoiaaLeast
namespace Go.Proofs.Ytclbaepgodeoiaa
open Go.RowKit Go.Maps
namespace Sl
variable {w : World} {bs bm : Nat} {q : Int} {pg : List (Int × Nat)} {W : Int → Int}

/-- What is seen of an arena: which pages are granted, how many, the words. -/
structure Seen where
  K : Int → Bool
  n : Nat
  W : Int → Int

def seen (pg : List (Int × Nat)) (W : Int → Int) : Seen := ⟨fun j => (blk pg j).isSome, pg.length, W⟩

theorem seen_K {pg : List (Int × Nat)} {W : Int → Int} (j : Int) : (seen pg W).K j = (blk pg j).isSome := rfl

/-- A run of n pages that are not granted, as it is seen. -/
def runS (s : Seen) (f n : Int) : Prop := ∀ j, f ≤ j → j < f + n → s.K j = false

theorem run_iff {f n : Int} : freeRun pg f n ↔ runS (seen pg W) f n := by
  constructor
  · intro h j h1 h2
    rw [seen_K, h j h1 h2]
    rfl
  · intro h j h1 h2
    have := h j h1 h2
    rw [seen_K] at this
    simpa using this

structure LeastS (s : Seen) (n r : Int) : Prop where
  lo : 0 ≤ r
  hi : r + n ≤ 1048576
  run : runS s r n
  least : ∀ g, 0 ≤ g → g < r → ¬ runS s g n

theorem leastS_of {n r : Int} (h : Least pg n r) : LeastS (seen pg W) n r :=
  ⟨h.lo, h.hi, run_iff.1 h.run, fun g h1 h2 h3 => h.least g h1 h2 (run_iff.2 h3)⟩

theorem leastS_eq {s : Seen} {n r t : Int} (h : LeastS s n r) (k : LeastS s n t) : r = t := by
  rcases Int.lt_trichotomy r t with h1 | h1 | h1
  · exact absurd h.run (k.least r h.lo h1)
  · exact h1
  · exact absurd k.run (h.least t k.lo h1)

def readES (s : Seen) (a : Int) : Int := if isSpanB a 1 = true then (if s.K (a / 64) = true then 0 else 5) else 2
def readVS (s : Seen) (a : Int) : Int := if readES s a = 0 then s.W a else 0
def allS (s : Seen) (f : Int) (n : Nat) : Bool := (List.range n).all fun i => s.K (f + (i : Int))
def spanS (s : Seen) (a n : Int) : Bool := if n = 0 then true else allS s (a / 64) ((a + n - 1) / 64 - a / 64 + 1).toNat
def relES (s : Seen) (p n : Int) : Int := if isPageB p = true ∧ isCountB n = true ∧ isPageB (p + n - 1) = true then (if allS s p n.toNat = true then 0 else 5) else 2
def moveES (s : Seen) (to fr n : Int) : Int := if isSpanB to n = true ∧ isSpanB fr n = true then (if spanS s to n = true ∧ spanS s fr n = true then 0 else 5) else 2
def claimES (q : Int) (s : Seen) (p : Int) : Int := if isPageB p = false then 2 else if s.K p = true then 6 else if 64 * ((s.n : Int) + 1) ≤ q then 0 else 3
def grantES (q : Int) (s : Seen) (n : Int) : Int := if isCountB n = false then 2 else if ((s.n : Int) + n) * 64 ≤ q then 0 else 3

theorem readE_seen (W : Int → Int) (a : Int) : readE pg a = readES (seen pg W) a := rfl
theorem readV_seen (a : Int) : readV pg W a = readVS (seen pg W) a := rfl
theorem relE_seen (W : Int → Int) (p n : Int) : relE pg p n = relES (seen pg W) p n := rfl
theorem moveE_seen (W : Int → Int) (a b n : Int) : moveE pg a b n = moveES (seen pg W) a b n := rfl
theorem claimE_seen (W : Int → Int) (p : Int) : claimE q pg p = claimES q (seen pg W) p := rfl
theorem grantE_seen (W : Int → Int) (n : Int) : grantE q pg n = grantES q (seen pg W) n := rfl

/-- What is seen behind a release, a claim. -/
def goneS (s : Seen) (p n : Int) : Seen := ⟨fun j => s.K j && !decide (p ≤ j ∧ j < p + n), s.n - n.toNat, zr s.W p n⟩
def addS (s : Seen) (p n : Int) : Seen := ⟨fun j => s.K j || decide (p ≤ j ∧ j < p + n), s.n + n.toNat, s.W⟩

/-- What a call other than a grant answers, as one number, and what is seen behind it. -/
def ansF (q : Int) (s : Seen) (o : Opv) : Int × Seen :=
  if o.d = 2 then (relES s o.b o.a, if relES s o.b o.a = 0 then goneS s o.b o.a else s)
  else if o.d = 3 then (IntKind.u64.wrap (IntKind.u64.wrap (readVS s o.a * 16) + readES s o.a), s)
  else if o.d = 4 then (readES s o.a, if readES s o.a = 0 then ⟨s.K, s.n, upd s.W o.a o.x⟩ else s)
  else if o.d = 6 then (claimES q s o.a, if claimES q s o.a = 0 then addS s o.a 1 else s)
  else (moveES s o.a o.b (o.n.tmod 300), if moveES s o.a o.b (o.n.tmod 300) = 0 then ⟨s.K, s.n, mv s.W o.a o.b (o.n.tmod 300)⟩ else s)

/-- What a grant answers, and what is seen behind it. -/
def ansG (q : Int) (s : Seen) (n x : Int) (t : Seen) : Prop :=
  (grantES q s n ≠ 0 ∧ x = grantES q s n ∧ t = s) ∨ (grantES q s n = 0 ∧ ((∃ r, LeastS s n r ∧ x = r * 16 ∧ t = addS s r n) ∨ ((∀ r, ¬ LeastS s n r) ∧ x = 3 ∧ t = s)))

def Ans (q : Int) (s : Seen) (o : Opv) (x : Int) (t : Seen) : Prop := (o.d = 1 ∧ ansG q s o.a x t) ∨ (o.d ≠ 1 ∧ (x, t) = ansF q s o)

theorem ans_one {s : Seen} {o : Opv} {x y : Int} {t u : Seen} (h : Ans q s o x t) (k : Ans q s o y u) : x = y ∧ t = u := by
  rcases h with ⟨h0, h⟩ | ⟨h0, h⟩
  · rcases k with ⟨_, k⟩ | ⟨k0, _⟩
    · rcases h with ⟨e, rfl, rfl⟩ | ⟨e, h⟩
      · rcases k with ⟨_, rfl, rfl⟩ | ⟨e2, _⟩
        · exact ⟨rfl, rfl⟩
        · exact absurd e2 e
      · rcases k with ⟨e2, _⟩ | ⟨_, k⟩
        · exact absurd e e2
        · rcases h with ⟨r, hl, rfl, rfl⟩ | ⟨hn, rfl, rfl⟩
          · rcases k with ⟨r2, hl2, rfl, rfl⟩ | ⟨hn2, _⟩
            · rw [leastS_eq hl hl2]
              exact ⟨rfl, rfl⟩
            · exact absurd hl (hn2 r)
          · rcases k with ⟨r2, hl2, _⟩ | ⟨_, rfl, rfl⟩
            · exact absurd hl2 (hn r2)
            · exact ⟨rfl, rfl⟩
    · exact absurd h0 k0
  · rcases k with ⟨k0, _⟩ | ⟨_, k⟩
    · exact absurd k0 h0
    · rw [← k] at h
      exact ⟨congrArg Prod.fst h, congrArg Prod.snd h⟩

theorem seen_added {pg2 : List (Int × Nat)} {f n : Int} (hn : 0 ≤ n) (h : Added pg pg2 f n) : seen pg2 W = addS (seen pg W) f n := by
  unfold seen addS
  congr 1
  · funext j
    by_cases hj : f ≤ j ∧ j < f + n
    · rw [h.new j hj.1 hj.2]
      simp [hj]
    · rw [h.old j (by omega)]
      have : decide (f ≤ j ∧ j < f + n) = false := by simpa using hj
      rw [this]
      simp
  · have := h.len
    show pg2.length = pg.length + n.toNat
    omega

theorem seen_gone {pg2 : List (Int × Nat)} {f n : Int} (hn : 0 ≤ n) (h : Gone pg pg2 f n) : seen pg2 (zr W f n) = goneS (seen pg W) f n := by
  unfold seen goneS
  congr 1
  · funext j
    by_cases hj : f ≤ j ∧ j < f + n
    · rw [h.gone j hj.1 hj.2]
      simp [hj]
    · rw [h.old j (by omega)]
      have : decide (f ≤ j ∧ j < f + n) = false := by simpa using hj
      rw [this]
      simp
  · have := h.len
    show pg2.length = pg.length - n.toNat
    omega

theorem seen_claimed {p : Int} {b : Nat} (hs : Rising pg) (hb : blk pg p = none) : seen (ins p b pg) W = addS (seen pg W) p 1 := by
  unfold seen addS
  congr 1
  · funext j
    rw [blk_ins hs hb]
    by_cases hj : j = p
    · have : decide (p ≤ j ∧ j < p + 1) = true := by simp; omega
      rw [if_pos hj, this]
      simp
    · have : decide (p ≤ j ∧ j < p + 1) = false := by simp; omega
      rw [if_neg hj, this]
      simp
  · show (ins p b pg).length = pg.length + 1
    rw [ins_length]

/-- The calls, each with what is seen behind it. -/
theorem grant_seen (h : Arena w bs bm q pg W) (n : Int) :
    Calls Try.prog 19 #[.pointer (some ⟨bs, 0, none⟩), .int .i64 n] w fun e w' => ∃ r c pg', e = .returned (.tuple #[.int .i64 r, .int .i64 c]) ∧ 0 ≤ r ∧ r ≤ 1048575 ∧ 0 ≤ c ∧ c ≤ 3 ∧ ansG q (seen pg W) n (r * 16 + c) (seen pg' W) ∧ Arena w' bs bm q pg' W ∧ Step bs bm pg pg' w w' := by
  by_cases he : grantE q pg n = 0
  · have hn := grantE_0 he
    refine (grant_ok h n he).mono ?_
    rintro e w' (⟨r, rfl, hl, pg2, hadd, ha, hs⟩ | ⟨rfl, hno, k, rfl⟩)
    · have h1 := hl.lo
      have h2 := hl.hi
      exact ⟨r, 0, pg2, rfl, h1, by omega, by omega, by omega, Or.inr ⟨he, Or.inl ⟨r, leastS_of hl, by omega, seen_added (by omega) hadd⟩⟩, ha, hs⟩
    · refine ⟨0, 3, pg, rfl, by omega, by omega, by omega, by omega, Or.inr ⟨he, Or.inr ⟨fun r hr => ?_, by omega, rfl⟩⟩, h.drewN k, Step.drewN _ _ _ _ _⟩
      exact hno r hr.lo hr.hi (run_iff.2 hr.run)
  · refine (grant_no h n he).mono ?_
    rintro e w' ⟨rfl, k, rfl⟩
    have hc := grantE_cases q pg n
    exact ⟨0, grantE q pg n, pg, rfl, by omega, by omega, by omega, by omega, Or.inl ⟨he, by show 0 * 16 + grantE q pg n = grantE q pg n; omega, rfl⟩, h.drewN k, Step.drewN _ _ _ _ _⟩

theorem relE_01 (pg : List (Int × Nat)) (p n : Int) : relE pg p n = 0 ∨ relE pg p n = 2 ∨ relE pg p n = 5 := by
  unfold relE
  split
  · split
    · exact Or.inl rfl
    · exact Or.inr (Or.inr rfl)
  · exact Or.inr (Or.inl rfl)

theorem release_seen (h : Arena w bs bm q pg W) (p n : Int) :
    Calls Try.prog 20 #[.pointer (some ⟨bs, 0, none⟩), .int .i64 p, .int .i64 n] w fun e w' => ∃ pg' W', e = .returned (.int .i64 (relE pg p n)) ∧ seen pg' W' = (if relES (seen pg W) p n = 0 then goneS (seen pg W) p n else seen pg W) ∧ Arena w' bs bm q pg' W' ∧ Step bs bm pg pg' w w' := by
  by_cases he : relE pg p n = 0
  · have hn : 0 ≤ n := by
      unfold relE at he
      split at he
      · rename_i h1
        have := h1.2.1
        simp [isCountB] at this
        omega
      · cases he
    refine (release_ok h p n he).mono ?_
    rintro e w' ⟨rfl, pg', hg, ha, hs⟩
    exact ⟨pg', _, by rw [he], by rw [← relE_seen, if_pos he, seen_gone hn hg], ha, hs⟩
  · refine (release_no h p n he).mono ?_
    rintro e w' ⟨rfl, rfl⟩
    exact ⟨pg, W, rfl, by rw [← relE_seen, if_neg he], h, Step.refl _ _ _ _⟩

theorem write_seen (h : Arena w bs bm q pg W) (a x : Int) (hx : WordOk x) :
    Calls Try.prog 21 #[.pointer (some ⟨bs, 0, none⟩), .int .i64 a, .int .u64 x] w fun e w' => ∃ W', e = .returned (.int .i64 (readE pg a)) ∧ seen pg W' = (if readES (seen pg W) a = 0 then ⟨(seen pg W).K, (seen pg W).n, upd W a x⟩ else seen pg W) ∧ Arena w' bs bm q pg W' ∧ Step bs bm pg pg w w' := by
  by_cases he : readE pg a = 0
  · refine (write_ok h a x he hx).mono ?_
    rintro e w' ⟨rfl, ha, hs⟩
    exact ⟨_, by rw [he], by rw [← readE_seen, if_pos he]; rfl, ha, hs⟩
  · refine (write_no h a x he).mono ?_
    rintro e w' ⟨rfl, rfl⟩
    exact ⟨W, rfl, by rw [← readE_seen, if_neg he], h, Step.refl _ _ _ _⟩

theorem claim_seen (h : Arena w bs bm q pg W) (p : Int) (hw : (Lit.int .i64 p).wf = true) :
    Calls Try.prog 23 #[.pointer (some ⟨bs, 0, none⟩), .int .i64 p] w fun e w' => ∃ pg', e = .returned (.int .i64 (claimE q pg p)) ∧ seen pg' W = (if claimES q (seen pg W) p = 0 then addS (seen pg W) p 1 else seen pg W) ∧ Arena w' bs bm q pg' W ∧ Step bs bm pg pg' w w' := by
  by_cases he : claimE q pg p = 0
  · refine (claim_ok h p he).mono ?_
    rintro e w' ⟨rfl, b, ha, hs⟩
    exact ⟨_, by rw [he], by rw [← claimE_seen, if_pos he, seen_claimed h.rise (claimE_zero he).2], ha, hs⟩
  · refine (claim_no h p hw he).mono ?_
    rintro e w' ⟨rfl, k, rfl⟩
    exact ⟨pg, rfl, by rw [← claimE_seen, if_neg he], h.drewN k, Step.drewN _ _ _ _ _⟩

theorem move_seen (h : Arena w bs bm q pg W) (a b n : Int) :
    Calls Try.prog 22 #[.pointer (some ⟨bs, 0, none⟩), .int .i64 a, .int .i64 b, .int .i64 n] w fun e w' => ∃ W', e = .returned (.int .i64 (moveE pg a b n)) ∧ seen pg W' = (if moveES (seen pg W) a b n = 0 then ⟨(seen pg W).K, (seen pg W).n, mv W a b n⟩ else seen pg W) ∧ Arena w' bs bm q pg W' ∧ Step bs bm pg pg w w' := by
  by_cases he : moveE pg a b n = 0
  · refine (move_ok h a b n he).mono ?_
    rintro e w' ⟨rfl, ha, hs⟩
    exact ⟨_, by rw [he], by rw [← moveE_seen, if_pos he]; rfl, ha, hs⟩
  · refine (move_no h a b n he).mono ?_
    rintro e w' ⟨rfl, rfl⟩
    exact ⟨W, rfl, by rw [← moveE_seen, if_neg he], h, Step.refl _ _ _ _⟩

end Sl
end Go.Proofs.Ytclbaepgodeoiaa
