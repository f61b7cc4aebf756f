/-
  Walks of package blob: made, Cost; without a store: Put, Get, Drop.
-/
import Derived.Test.YtbbjfebdihepnaaGreatDoorL1
import Derived.Test.YtbbjfebdihepnaaGreatDoorE7
import Derived.Test.YtbbjfebdihepnaaGreatDoorX2
import Derived.Test.YtbbjfebdihepnaaGreatDoorE2
import Derived.Test.YtbbjfebdihepnaaGreatDoorX3
import Derived.Test.YtbbjfebdihepnaaGreatDoorGA
import Derived.LoopIn
import Derived.LoopNIn
import Derived.TacticsInMore
import Derived.OwnWalkIn
import Derived.Maps.OwnIn
namespace Go.Proofs.YtbbjfebdihepnaaGreatDoor
open Go.RowKit Go.Maps
attribute [local go_sem ↓] Go.wp_at_zero Go.wp_at_succ
namespace Bb
open Hp (Kept K No Pg BlR Bl Wl)
open Hd (U64 findL)
open Go.Proofs.YtbbjfebdihepnaaGreatDoor.So (Ad Sb Sw Rec sp lE lN len_any Un)
variable {w w' : World} {B : Nat} {A : Ad} {pg : List (Int × Nat)} {W : Int → Int} {L : List Pg} {v : Value} {T : List Hd.Sl}

theorem find_zero (T : List Hd.Sl) : findL T 0 = none := by
  unfold findL
  rw [if_pos (by decide)]

theorem made_yes (h : Sw w B A pg W L v T) : Calls Tryz.prog 56 #[sp A.st] w fun e w' => e = .returned (.bool true) ∧ K w w' := by
  have ln := len_any h 0 ⟨by decide, by decide⟩
  rw [show lE T 0 = 7 by simp [lE, find_zero]] at ln
  go_enter Tryz.func56, Tryz.ntmps56
  go_wp2_with (go_at_call 52; refine ln.mono ?_; rintro e w1 ⟨rfl, k1⟩)
  go_ret
  exact ⟨rfl, k1⟩

end Bb
end Go.Proofs.YtbbjfebdihepnaaGreatDoor

/-
  The words of a record: package blob's iterator, its contract; and a row of words in a variable that grows, for the caller.
-/
namespace Go.Proofs.YtbbjfebdihepnaaGreatDoor
open Go.RowKit Go.Maps
attribute [local go_sem] Oper.semAt_some
namespace Bb
open Hp (Kept K No Pg BlR Bl Wl Grows lt_of_cell)
open Hd (U64 findL)
open Co (Off SeqS)
open Go.Proofs.YtbbjfebdihepnaaGreatDoor.So (Ad Sb Sw Rec sp lE lN gV wE len_any get_any)
variable {w w' : World} {B : Nat} {A : Ad} {pg : List (Int × Nat)} {W : Int → Int} {L : List Pg} {v : Value} {T : List Hd.Sl} {x : Int}

theorem words_any (st : Nat) (x : Int) (w : World) : Calls Tryz.prog 79 #[sp st, .int .u64 x] w fun e w' => e = .returned (.func (.func 112) #[] #[.pointer (some ⟨w.heap.size, 0, none⟩), .pointer (some ⟨w.heap.size + 1, 0, none⟩)]) ∧ w' = (w.alloc (.cells #[sp st] 26)).alloc (.cells #[.int .u64 x] 28) := by
  have hmf : ∀ (fn : Fn) (first cap : Array Value) (w : World), (Instr.makeFunc fn first cap).run Tryz.prog w = .ok (.func fn first cap) w := fun _ _ _ _ => rfl
  go_enter Tryz.func79, Tryz.ntmps79
  go_wp2
  go_ret
  exact ⟨by simp, rfl⟩

theorem lN_rng (h : Sw w B A pg W L v T) (x : Int) : 0 ≤ lN T W x ∧ lN T W x ≤ 3998 := by
  cases hf : findL T x with
  | none => simp [lN, hf]
  | some i =>
    obtain ⟨s, hs, _, _, n0, n1, _⟩ := h.live hf
    have ea : Hd.addrAt T i = s.a := by simp [Hd.addrAt, hs]
    simp only [lN, hf, ea]
    exact ⟨n0, n1⟩

theorem rwI_pre {k : Nat} (h : k < (lN T W x).toNat) : (rwI T W x).take k ++ [gV T W x (k : Int)] = (rwI T W x).take (k + 1) ∧ (rwI T W x).take k ++ [gV T W x (k : Int)] <+: rwI T W x := by
  have hk : (rwI T W x)[k]? = some (gV T W x (k : Int)) := by
    unfold rwI
    rw [List.getElem?_map, List.getElem?_range h]
    rfl
  have e : (rwI T W x).take k ++ [gV T W x (k : Int)] = (rwI T W x).take (k + 1) := by rw [List.take_add_one, hk]; rfl
  exact ⟨e, by rw [e]; exact List.take_prefix _ _⟩

/-- What the iterator reads. -/
structure Rd (w : World) (st : Nat) (x : Int) (b1 b2 : Nat) (V : World) : Prop where
  k : K w V
  c1 : V.cell? ⟨b1, 0, none⟩ = some (sp st)
  c2 : V.cell? ⟨b2, 0, none⟩ = some (.int .u64 x)

set_option maxRecDepth 100000 in
set_option maxHeartbeats 1000000 in
theorem words_seq (h : Sw w B A pg W L v T) (hx : U64 x) (b1 b2 : Nat) (O : Nat → Prop) (wa : World) :
    SeqS Tryz.prog 112 #[] #[.pointer (some ⟨b1, 0, none⟩), .pointer (some ⟨b2, 0, none⟩)] (fun y : Int => #[.int .u64 y]) (rwI T W x) O (fun _ V => Rd w A.st x b1 b2 V) wa := fun m r J Jx W0 k0 hr0 hOlt hJ hJx hJS hY h0 => by
  have S0 := hJS _ _ _ h0
  have ln := len_any (h.keep S0.k) x hx
  have hrng := lN_rng h x
  have PP : Aside (∀ k, k < (lN T W x).toNat → (rwI T W x).take k ++ [gV T W x (k : Int)] = (rwI T W x).take (k + 1) ∧ (rwI T W x).take k ++ [gV T W x (k : Int)] <+: rwI T W x) := fun k hk => rwI_pre hk
  have PL : Aside ((rwI T W x).length = (lN T W x).toNat) := rwI_len T W x
  have ge : Aside (∀ V, K w V → ∀ k : Int, Calls Tryz.prog 48 #[sp A.st, .int .u64 x, .int .i64 k] V fun e w' => e = .returned (.tuple #[.int .u64 (gV T W x k), .int .i64 (wE T W x k)]) ∧ K V w') := fun V kv k => get_any (h.keep kv) x k hx
  obtain ⟨c1, c2⟩ := And.intro S0.c1 S0.c2
  clear h
  generalize lE T x = er at *
  generalize hn : lN T W x = n at *
  obtain ⟨nn, rfl⟩ : ∃ nn : Nat, n = (nn : Int) := ⟨n.toNat, by omega⟩
  rw [Int.toNat_natCast] at PP PL
  clear hn
  refine callsIn_of_wp Tryz.func112 rfl trivial ?_ rfl
  simp only [Tryz.ntmps112, List.size_toArray, List.length_cons, List.length_nil, Nat.reduceAdd, Nat.reduceSub, Array.replicate_succ, Array.replicate_zero, List.push_toArray, List.append_toArray, List.nil_append, List.cons_append]
  gi_wp2
  refine ⟨trivial, fun h => (by cases h), (callsIn_wide.2 ln).mono ?_⟩
  rintro e w1 ⟨rfl, k1⟩
  have h1 := hJ _ _ _ _ h0 (k1.kept _)
  clear ln
  gi_wp2
  gi_loopw [16] (fun i wr => ∃ (k : Nat) (M : Nat → Prop), k ≤ nn ∧ i = .int .i64 (k : Int) ∧ J ((rwI T W x).take k) M wr) (fun i _ => nn - (intOf i).toNat)
  case atStart => exact ⟨0, O, Nat.zero_le _, rfl, by simpa using h1⟩
  case round =>
    clear h1 c1 c2 S0
    obtain ⟨k, M, hk, rfl, hJr⟩ := hrel
    by_cases hlt : k < nn
    · have S1 := hJS _ _ _ hJr
      obtain ⟨c1, c2⟩ := And.intro S1.c1 S1.c2
      have gk := ge.out _ S1.k (k : Int)
      obtain ⟨p1, p2⟩ := PP.out k hlt
      have hYk := fun V2 (kv : K wr V2) => hY _ (gV T W x (k : Int)) M V2 p2 (hJ _ _ _ _ hJr (kv.kept _))
      have P1 : Aside _ := And.intro p1 p2
      have HY : Aside _ := hYk
      clear p1 p2 hYk hY S1
      generalize gV T W x (k : Int) = y at *
      generalize wE T W x (k : Int) = e9 at *
      gi_wp2
      refine ⟨trivial, fun h => (by cases h), (callsIn_wide.2 gk).mono ?_⟩
      rintro e w2 ⟨rfl, k2⟩
      obtain ⟨fn, tmps, assign, body, hy, hR⟩ := HY.out w2 k2
      gi_wp2
      refine ⟨fun h => (by cases h), hR.mono ?_⟩
      rintro e w3 (⟨rfl, M3, hJ3, k3, g3⟩ | ⟨rfl, M3, hJx3, k3, g3⟩)
      · rw [P1.out.1] at hJ3
        gi_wp2
        go_roundw
        case rel => exact ⟨k + 1, M3, by omega, by go_num, hJ3⟩
        case measure => simp [intOf]; omega
      · gi_wp2
        refine bodyPost_ret (results_none rfl _ _ _) rfl ?_
        exact ⟨⟨_, rfl⟩, .inr ⟨_, M3, P1.out.2, hJx3⟩⟩
    · obtain rfl : k = nn := by omega
      have e : (rwI T W x).take k = rwI T W x := List.take_of_length_le (by rw [PL.out]; exact Nat.le_refl _)
      rw [e] at hJr
      gi_wp2
      go_end0
      exact ⟨⟨_, rfl⟩, .inl ⟨M, hJr⟩⟩

/-- The variable at B holds a row of these; M: the variable and the row. -/
abbrev mine (B : Nat) (v : Value) : Nat → Prop := fun k => k = B ∨ some k = v.ownBlock
def RowU (n₀ B : Nat) (xs : List Int) (M : Nat → Prop) (V : World) : Prop := ∃ v, Boxed V B 112 v ∧ V.ownsRow n₀ 27 1 v xs.length (xs.map Tx.encU) ∧ some B ≠ v.ownBlock ∧ n₀ ≤ B ∧ M = mine B v

theorem RowU.next {n₀ B : Nat} {xs : List Int} {M : Nat → Prop} {V V' : World} (h : RowU n₀ B xs M V) {O : Nat → Prop} (kk : Kept O V V') (hO : ∀ g, M g → ¬ O g) : RowU n₀ B xs M V' := by
  obtain ⟨v, h1, h2, h3, h4, rfl⟩ := h
  exact ⟨v, kk.boxed h1 (hO _ (.inl rfl)), Hd.ownsRow_kept h2 kk (fun g hg => hO g (.inr hg)), h3, h4, rfl⟩
theorem RowU.lt {n₀ B : Nat} {xs : List Int} {M : Nat → Prop} {V : World} (h : RowU n₀ B xs M V) {k : Nat} (hk : M k) : k < V.heap.size ∧ n₀ ≤ k := by
  obtain ⟨v, h1, h2, h3, h4, rfl⟩ := h
  rcases hk with rfl | hk
  · exact ⟨h1.lt, h4⟩
  · exact ⟨(Hd.own_lt h2 hk).2, (Hd.own_lt h2 hk).1⟩

/-- What an append makes of the row, and its store into the variable. -/
theorem RowU.app {n₀ B : Nat} {xs : List Int} {v v' : Value} {V W3 : World} (h1 : Boxed V B 112 v) (h3 : some B ≠ v.ownBlock) (h4 : n₀ ≤ B) {o : Obj} {y : Int}
    (hown : W3.ownsRow n₀ 27 1 v' (xs.length + 1) (xs.map Tx.encU ++ [Tx.encU y])) (hg : (V.alloc o).grownBy W3 v.ownBlock) (hat : v'.ownBlock = v.ownBlock ∨ v'.ownBlock = some (V.alloc o).heap.size) :
    Boxed W3 B 112 v ∧ Kept (mine B v) V (W3.setCell ⟨B, 0, none⟩ v') ∧ RowU n₀ B (xs ++ [y]) (mine B v') (W3.setCell ⟨B, 0, none⟩ v') ∧ Grows (mine B v) (mine B v') V := by
  have hBlt := h1.lt
  have hb3 : Boxed W3 B 112 v := (((Hp.K.refl V).alloc o).boxed h1).kept hg h3
  have hsz := hg.size
  simp at hsz
  have k3 : Kept (mine B v) V W3 := ⟨hg.os, hg.tape, hg.output, by omega, fun j hj hn => by
    rw [hg.block j (by simp; omega) (fun e => hn (.inr e)), Below.heap_alloc V o j hj]⟩
  have hne : some B ≠ v'.ownBlock := by
    rcases hat with e | e
    · rw [e]; exact h3
    · rw [e]
      intro e2
      have := Option.some.inj e2
      simp at this
      omega
  refine ⟨hb3, k3.setCell (p := ⟨B, 0, none⟩) v' (.inl (.inl rfl)), ⟨v', hb3.set _, ?_, hne, h4, rfl⟩, fun k hk => ?_⟩
  · rw [List.length_append, List.map_append]
    exact Hd.ownsRow_kept hown ((Kept.refl (fun k => k = B) W3).setCell (p := ⟨B, 0, none⟩) v' (.inl rfl)) (fun g hg e => by subst e; exact hne hg)
  · rcases hk with rfl | hk
    · exact .inl (.inl rfl)
    · rcases hat with e | e
      · exact .inl (.inr (by rw [← e]; exact hk))
      · rw [e] at hk
        have := Option.some.inj hk
        simp at this
        exact .inr (by omega)

end Bb
end Go.Proofs.YtbbjfebdihepnaaGreatDoor
