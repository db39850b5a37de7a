/- Draws of one relation. -/
import Derived.Test.YticoeooeeejboaaDrr
namespace Go.Proofs.Yticoeooeeejboaa
open Go.RowKit Go.ChangeMaps Go.Shelf

theorem Byt.keep {w w' : World} {A : Option Addr} {n : Nat} (h : Byt w A n) (hf : Fr No w w') : Byt w' A n := fun j hj => by
  obtain ⟨g, o, x, e, hx, hc⟩ := h j hj
  exact ⟨g, o, x, e, hx, (hf.cell (p := ⟨g, o + j, none⟩) (World.block_lt_of_cell? w _ hc) (fun h => h)).trans hc⟩

end Go.Proofs.Yticoeooeeejboaa
