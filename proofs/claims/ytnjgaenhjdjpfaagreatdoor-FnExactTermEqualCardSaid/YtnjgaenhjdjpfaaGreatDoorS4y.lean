/- The law of equal terms, l4At's contract being proved. -/
import Derived.Test.YtnjgaenhjdjpfaaGreatDoorS4e
import Derived.Test.YtnjgaenhjdjpfaaGreatDoorS4a
namespace Go.Proofs.YtnjgaenhjdjpfaaGreatDoor
open Go.RowKit Go.ChangeMaps

theorem lawTermEqualZ (w : World) (htab : Lib.TabIs Tryz.prog w "internal/strconv.uint64pow10" .u64 Lib.pow10Tab) (s t : List UInt8) (hs : s.length ≤ maxLen) (ht : t.length ≤ maxLen) :
    Calls Tryz.prog 6 #[S s, S t] w fun e w' => Yes w e w' := lawTermEqual at4_said w htab s t hs ht
end Go.Proofs.YtnjgaenhjdjpfaaGreatDoor
