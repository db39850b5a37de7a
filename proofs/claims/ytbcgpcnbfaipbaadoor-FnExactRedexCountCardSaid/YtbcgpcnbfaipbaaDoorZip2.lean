/- What a step puts in a redex's place, in the program. -/
import Derived.Test.YtbcgpcnbfaipbaaDoorZip
import Derived.Deep.RegionHeld3
namespace Go.Proofs.YtbcgpcnbfaipbaaDoor
open Go.RowKit Go.ChangeMaps

theorem TsP.self {w : World} {T : Nat → Prop} {q : Nat} {h a : List UInt8} {d : Nat} {k : Ts} (ht : Tm w T q h a d k) : TsP T (.cons h a d k .nil) w (.returned (Ptr q)) w :=
  ⟨q, rfl, Fr.refl _ _, (ht.mono (fun _ h => .inl h) (fun _ _ => rfl) : Tm w (TN T w w) q h a d k)⟩

end Go.Proofs.YtbcgpcnbfaipbaaDoor
