/-
  Any tree at all: what each call answers; Free of one that is not right; a node that is changed.
-/
import Derived.Test.YtbbjfebdihepnaaGreatDoorWK
import Derived.OrdersIn
namespace Go.Proofs.YtbbjfebdihepnaaGreatDoor
open Go.RowKit Go.Maps
attribute [local go_sem] Oper.semAt_some
namespace Wa
open Hp (Kept K No Pg wide outer)
open Hd (U64 findL)
open Nd (Nv encU)
open Go.Proofs.YtbbjfebdihepnaaGreatDoor.So (Ad Sb Sw Rec Rn Stp sp foot)
variable {w0 w w' : World} {A : Ad} {W : Int → Int} {T : List Hd.Sl} {x : Int} {c : Nat} {t : Tr}

set_option maxRecDepth 100000 in
set_option maxHeartbeats 2000000 in
theorem free_noI {pp : Option Addr} {r : Int} (hr : (r != 0) = true) (cc : ∀ V, K w V → Calls Tryz.prog 12 #[.pointer pp, .int .u64 x] V fun e w' => e = .returned (.int .i64 r) ∧ K V w') :
    CallsIn Fence.wide 0 Tryz.prog 23 #[.pointer pp, .int .u64 x] w fun e w' => e = .returned (.int .i64 r) ∧ K w w' := by
  have CC : Aside _ := cc
  clear cc
  refine callsIn_of_wp_marks Tryz.func23 rfl trivial ?_ rfl
  simp only [Tryz.ntmps23, List.size_toArray, List.length_cons, List.length_nil, Nat.reduceAdd, Nat.reduceSub, Array.replicate_succ, Array.replicate_zero, List.push_toArray, List.append_toArray, List.nil_append, List.cons_append]
  gi_wp2
  refine ⟨trivial, rfl, (callsIn_wide.2 (CC.out _ ((K.refl w).alloc _))).mono ?_⟩
  rintro e w1 ⟨rfl, k1⟩
  have K1 : Aside (K w w1) := ((K.refl w).alloc _).trans k1
  clear CC k1
  gi_wp2
  refine ⟨.int .i64 r, ?_, rfl, K1.out⟩
  simp [results, Tryz.f23, go_sem]
theorem free_err {pp : Option Addr} {r : Int} (hr : (r != 0) = true) (cc : ∀ V, K w V → Calls Tryz.prog 12 #[.pointer pp, .int .u64 x] V fun e w' => e = .returned (.int .i64 r) ∧ K V w') :
    Calls Tryz.prog 23 #[.pointer pp, .int .u64 x] w fun e w' => e = .returned (.int .i64 r) ∧ K w w' := callsIn_wide.1 (free_noI hr cc)
theorem free_no {st : Nat} (cc : ∀ V, K w V → Calls Tryz.prog 12 #[sp st, .int .u64 x] V fun e w' => e = .returned (.int .i64 8) ∧ K V w') :
    Calls Tryz.prog 23 #[sp st, .int .u64 x] w fun e w' => e = .returned (.int .i64 8) ∧ K w w' := free_err rfl cc

/-- What all calls answer of any tree. -/
structure Wng (w : World) (A : Ad) (root : Int) : Prop where
  u : U64 root
  find : ∀ V, K w V → ∀ key, Calls Tryz.prog 14 #[sp A.st, .int .u64 root, .string key] V fun e w' => ∃ y b, e = .returned (.tuple #[.int .u64 y, .bool b]) ∧ K V w'
  rank : ∀ V, K w V → ∀ key, Calls Tryz.prog 16 #[sp A.st, .int .u64 root, .string key] V fun e w' => ∃ y, e = .returned (.int .i64 y) ∧ K V w'
  att : ∀ V, K w V → ∀ k : Int, Calls Tryz.prog 19 #[sp A.st, .int .u64 root, .int .i64 k] V fun e w' => ∃ h y, e = .returned (.tuple #[.int .u64 h, .int .i64 y]) ∧ K V w'
  all : (∃ P hd, Ans w A root P hd ∧ upP P ∧ P.length ≤ 65536) ∨ ((∀ V, K w V → Calls Tryz.prog 12 #[sp A.st, .int .u64 root] V fun e w' => e = .returned (.int .i64 8) ∧ K V w') ∧ (∀ V, K w V → Calls Tryz.prog 23 #[sp A.st, .int .u64 root] V fun e w' => e = .returned (.int .i64 8) ∧ K V w') ∧ ∀ V, K w V → Calls Tryz.prog 20 #[sp A.st, .int .u64 root] V fun e w' => ∃ v, e = .returned v ∧ K V w')
end Wa
end Go.Proofs.YtbbjfebdihepnaaGreatDoor
