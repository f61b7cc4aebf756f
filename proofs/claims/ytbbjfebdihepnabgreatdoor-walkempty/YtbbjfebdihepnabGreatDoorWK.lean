/-
  Texts as the program holds them against each other; what ranks do.
-/
import Derived.Test.YtbbjfebdihepnabGreatDoorWJ
import Derived.Laws.Cover1
namespace Go.Proofs.YtbbjfebdihepnabGreatDoor
open Go.RowKit Go.Maps
namespace Wa
open Go.Lib (compareBytes)

end Wa
end Go.Proofs.YtbbjfebdihepnabGreatDoor
