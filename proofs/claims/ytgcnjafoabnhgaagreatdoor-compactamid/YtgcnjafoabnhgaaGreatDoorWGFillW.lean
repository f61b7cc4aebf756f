/-
  The walk of the statements' helper fill.
-/
import Derived.Test.YtgcnjafoabnhgaaGreatDoorWGFill
import Derived.Deep.DeepCutAuto
import Derived.Deep.CutBlock
import Derived.WalkSpells
import Derived.Deep.RegionHeld3
namespace Go.Proofs.YtgcnjafoabnhgaaGreatDoor
open Go.RowKit Go.Maps
attribute [local go_sem ↓] Go.wp_at_zero Go.wp_at_succ
namespace Co
open Hp (Kept K No Pg lt_of_cell)
open Hd (U64 findL encU)
open Go.Proofs.YtgcnjafoabnhgaaGreatDoor.So (Ad sp Script Opv)
variable {w0 w w' : World} {c : Nat} {A : Ad} {pg : List (Int × Nat)} {W : Int → Int} {v : Value}

abbrev opB (d x a h : Int) : Array Value := #[.int .i64 d, .int .i64 x, .int .i64 a, .int .u64 h]
theorem fillP_hs (A : Ad) (z : Nat → Opv) (L0 : List Pg) (T0 : List Hd.Sl) : ∀ n, (fillP A z L0 T0 n).hs.length ≤ n
  | 0 => Nat.le_refl _
  | n + 1 => by
    have ih := fillP_hs A z L0 T0 n
    show (opP A (z n) (fillP A z L0 T0 n)).hs.length ≤ n + 1
    unfold opP
    split
    · split
      · simp; omega
      · omega
    · split
      · unfold drP
        split
        · omega
        · split
          · omega
          · split
            · omega
            · show (fillP A z L0 T0 n).hs.length ≤ n + 1
              omega
      · omega
theorem drP_hs (s : P3) (x : Int) : (drP s x).hs = s.hs := by
  unfold drP
  split
  · rfl
  · split
    · rfl
    · split <;> rfl

end Co
end Go.Proofs.YtgcnjafoabnhgaaGreatDoor
