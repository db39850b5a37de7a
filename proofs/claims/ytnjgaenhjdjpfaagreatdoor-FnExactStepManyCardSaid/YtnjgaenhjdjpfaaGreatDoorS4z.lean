/- The laws of steps, l4At's contract being proved. -/
import Derived.Test.YtnjgaenhjdjpfaaGreatDoorS4l
import Derived.Test.YtnjgaenhjdjpfaaGreatDoorS4a
namespace Go.Proofs.YtnjgaenhjdjpfaaGreatDoor
open Go.RowKit Go.ChangeMaps

theorem lawStepZ (w : World) (htab : Lib.TabIs Tryz.prog w "internal/strconv.uint64pow10" .u64 Lib.pow10Tab) (s : List UInt8) (hs : s.length ≤ maxLen) :
    Calls Tryz.prog 3 #[S s] w fun e w' => Yes w e w' := lawStep at4_said w htab s hs
theorem lawNormalOfZ (w : World) (htab : Lib.TabIs Tryz.prog w "internal/strconv.uint64pow10" .u64 Lib.pow10Tab) (s : List UInt8) (hs : s.length ≤ maxLen) :
    Calls Tryz.prog 5 #[S s] w fun e w' => Yes w e w' := lawNormalOf at4_said w htab s hs
theorem lawStepInsideZ (w : World) (htab : Lib.TabIs Tryz.prog w "internal/strconv.uint64pow10" .u64 Lib.pow10Tab) (s : List UInt8) (kk : Int) (hs : s.length ≤ maxLen) (hkk : kk ≤ 9223372036854775807) :
    Calls Tryz.prog 7 #[S s, .int .i64 kk] w fun e w' => Yes w e w' := lawStepInside at4_said w htab s kk hs hkk
theorem lawStepManyZ (w : World) (htab : Lib.TabIs Tryz.prog w "internal/strconv.uint64pow10" .u64 Lib.pow10Tab) (s : List UInt8) (n : Int) (hs : s.length ≤ maxLen) :
    Calls Tryz.prog 4 #[S s, .int .i64 n] w fun e w' => Yes w e w' := lawStepMany at4_said w htab s n hs
end Go.Proofs.YtnjgaenhjdjpfaaGreatDoor
