/- The numbers of a bit set: the iterator. -/
import Derived.Test.YticoeooeeejboaaRf
import Derived.Test.YticoeooeeejboaaRdr
import Derived.Lib.LaidTab
namespace Go.Proofs.Yticoeooeeejboaa
open Go.RowKit Go.ChangeMaps Go.Shelf

attribute [local go_sem] Oper.semAt_some

end Go.Proofs.Yticoeooeeejboaa
