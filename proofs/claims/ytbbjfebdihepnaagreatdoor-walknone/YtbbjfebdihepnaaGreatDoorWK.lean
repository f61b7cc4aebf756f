/-
  Texts as the program holds them against each other; what ranks do.
-/
import Derived.Test.YtbbjfebdihepnaaGreatDoorWJ
import Derived.Laws.Cover1
namespace Go.Proofs.YtbbjfebdihepnaaGreatDoor
open Go.RowKit Go.Maps
namespace Wa
open Go.Lib (compareBytes)

end Wa
end Go.Proofs.YtbbjfebdihepnaaGreatDoor
