/-
  The walk of the statement on List, At and Find of each place.
-/
import Derived.Test.YtbbjfebdihepnaaGreatDoorWK
namespace Go.Proofs.YtbbjfebdihepnaaGreatDoor
open Go.RowKit Go.Maps
attribute [local go_sem ↓] Go.wp_at_zero Go.wp_at_succ
namespace Wa
open Hp (Kept K No)
open Hd (U64 findL)
open Nd (Nv encU)
open Go.Proofs.YtbbjfebdihepnaaGreatDoor.So (Ad sp)

theorem run_ixH (g n cap i : Nat) (hi : i < n) (w' : World) : (Instr.indexAt 45 (.slice (some ⟨g, 0, none⟩) n cap) (.int .i64 (i : Int))).run Tryz.prog w' = .ok (.pointer (some ⟨g, i, none⟩)) w' := by
  have := So.run_ixg Tryz.underlying45 (m := 1) (by kernel_rfl) (fun w => by kernel_rfl) g 0 n cap i hi w'
  rw [Nat.mul_one, Nat.zero_add] at this
  exact this
end Wa
end Go.Proofs.YtbbjfebdihepnaaGreatDoor
