/-
  A store that is not there, or that nobody made; and the walk of the statement on it.
-/
import Derived.Test.YtbbjfebdihepnaaGreatDoorE4
namespace Go.Proofs.YtbbjfebdihepnaaGreatDoor
open Go.RowKit Go.Maps
attribute [local go_sem ↓] Go.wp_at_zero Go.wp_at_succ
namespace So
open Hp (Kept K No)
variable {w w' : World} {v : Value}

/-- No store. -/
def Un (w : World) (v : Value) : Prop := ∀ w', K w w' → Calls Tryz.prog 43 #[v] w' fun e w'' => e = .returned (.bool false) ∧ w' = w''
theorem Un.keep (h : Un w v) (k : K w w') : Un w' v := fun w2 k2 => h w2 (k.trans k2)
theorem un_nil (w : World) : Un w (.pointer none) := fun w' _ => made_nil w'
theorem find_un (h : Un w v) (x : Int) : Calls Tryz.prog 60 #[v, .int .u64 x] w fun e w' => e = .returned (.tuple #[recV 0 0, .int .i64 1]) ∧ K w w' := by
  have hm := h _ ((K.refl w).alloc (.cells #[.int .i64 0, .int .i64 0] 118))
  go_enter Tryz.func60, Tryz.ntmps60
  go_wp2_with (go_at_call 43; refine hm.mono ?_; rintro e w' ⟨rfl, rfl⟩)
  exact bodyPost_ret (v := .tuple #[recV 0 0, .int .i64 1]) (by simp [results, Tryz.results60, go_sem]) rfl ⟨rfl, (K.refl w).alloc _⟩

end So
end Go.Proofs.YtbbjfebdihepnaaGreatDoor
