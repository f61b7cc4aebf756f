/-
  Blocks of one class, one behind the other, on entries: what the freed place and the next ones are.
-/
import Derived.Test.YtlpdgomoepinjabDoorHRw
namespace Go.Proofs.YtlpdgomoepinjabDoor
open Go.RowKit
namespace Hp
variable {L : List Pg}

/-- A small block of class c, on entries. -/
def allocC (L : List Pg) (c : Int) : Int × Int × List Pg :=
  match freeB L c with
  | some (p, s) => (addrI p s, 0, updL L p.n (withT p (Bt.setI p.taken s)))
  | none => if (granted L + 1) * 64 ≤ 262144 then (addrI (smallPg (fit 1 0 L) c) 0, 0, insL (smallPg (fit 1 0 L) c) L) else (0, 3, L)
theorem allocC_eq {x : Int} (hx : 1 ≤ x ∧ x ≤ 4000) (hs : Cl.smaI x = true) (L : List Pg) : allocL 262144 L x = allocC L (Cl.clsI x) := by
  unfold allocL
  rw [if_pos hx, if_pos hs]
  rfl

/-- Entries and addresses behind so many blocks of class c. -/
def runC (c : Int) : Nat → List Pg × List Int
  | 0 => ([], [])
  | n + 1 => ((allocC (runC c n).1 c).2.2, (runC c n).2 ++ [(allocC (runC c n).1 c).1])

def okC (c : Int) (n : Nat) : Bool := (allocC (runC c n).1 c).2.1 == 0
def freeC (c : Int) (L : List Pg) (A : List Int) (n f : Nat) : Bool :=
  match findB L (A.getD f 0) with
  | none => false
  | some (p, s) =>
    let L' := dropL L p s
    decide (0 ≤ A.getD f 0) && decide (A.getD f 0 ≤ 100000) && (L'.all fun r => r.cls == c) && decide ((granted L' + 2) * 64 ≤ 262144) && (if n == 1 then L'.isEmpty else f + 1 == n || (match freeB L' c with | none => false | some (p2, s2) => addrI p2 s2 == A.getD f 0 && !(fit 1 0 L' * 64 + 2 == A.getD f 0)))
def allC (c : Int) : Nat → List Pg → List Int → Nat → Bool
  | 0, _, _, _ => true
  | k + 1, L, A, n =>
    let r := allocC L c
    r.2.1 == 0 && (let L1 := r.2.2; let A1 := A ++ [r.1]; ((List.range (n + 1)).all fun f => freeC c L1 A1 (n + 1) f) && allC c k L1 A1 (n + 1))

set_option maxRecDepth 100000 in
theorem all_0 : allC 0 40 [] [] 0 = true := by decide +kernel
set_option maxRecDepth 100000 in
theorem all_1 : allC 1 40 [] [] 0 = true := by decide +kernel
set_option maxRecDepth 100000 in
theorem all_2 : allC 2 40 [] [] 0 = true := by decide +kernel
set_option maxRecDepth 100000 in
theorem all_3 : allC 3 40 [] [] 0 = true := by decide +kernel
set_option maxRecDepth 100000 in
theorem all_4 : allC 4 40 [] [] 0 = true := by decide +kernel
set_option maxRecDepth 100000 in
theorem all_5 : allC 5 40 [] [] 0 = true := by decide +kernel
set_option maxRecDepth 100000 in
theorem all_6 : allC 6 40 [] [] 0 = true := by decide +kernel
set_option maxRecDepth 100000 in
theorem all_7 : allC 7 40 [] [] 0 = true := by decide +kernel
theorem all_c {c : Int} (h0 : 0 ≤ c) (h1 : c ≤ 7) : allC c 40 [] [] 0 = true := by
  have hc : c = 0 ∨ c = 1 ∨ c = 2 ∨ c = 3 ∨ c = 4 ∨ c = 5 ∨ c = 6 ∨ c = 7 := by omega
  rcases hc with rfl | rfl | rfl | rfl | rfl | rfl | rfl | rfl
  · exact all_0
  · exact all_1
  · exact all_2
  · exact all_3
  · exact all_4
  · exact all_5
  · exact all_6
  · exact all_7

end Hp
end Go.Proofs.YtlpdgomoepinjabDoor
