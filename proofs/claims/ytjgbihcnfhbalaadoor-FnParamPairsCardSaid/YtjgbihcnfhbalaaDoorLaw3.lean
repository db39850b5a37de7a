import Derived.Test.YtjgbihcnfhbalaaDoorText
import Derived.Test.YtjgbihcnfhbalaaDoorStext
import Derived.Deep.RegionHeld3
namespace Go.Proofs.YtjgbihcnfhbalaaDoor
open Go.RowKit Go.ChangeMaps

def AnsParts (s : List UInt8) (w : World) (e : Ending) (w' : World) : Prop :=
  ∃ a b c ok, e = .returned (.tuple #[S a, S b, S c, .bool ok]) ∧ ((∃ f l r, Ty.Is s (.n f l r) ∧ a = l.text ∧ b = r.text ∧ c = [Ty.sign f] ∧ ok = true) ∨ ((∀ f l r, ¬ Ty.Is s (.n f l r)) ∧ a = [] ∧ b = [] ∧ c = [] ∧ ok = false)) ∧ Fr No w w'

theorem AnsParts.no {s : List UInt8} {w w' : World} (h : ∀ f l r, ¬ Ty.Is s (.n f l r)) (hf : Fr No w w') : AnsParts s w (.returned (.tuple #[S [], S [], S [], .bool false])) w' :=
  ⟨[], [], [], false, rfl, .inr ⟨h, rfl, rfl, rfl, rfl⟩, hf⟩
theorem AnsParts.yes {s : List UInt8} {w w' : World} {f : Bool} {l r : Ty} (h : Ty.Is s (.n f l r)) (hf : Fr No w w') : AnsParts s w (.returned (.tuple #[S l.text, S r.text, S [Ty.sign f], .bool true])) w' :=
  ⟨_, _, _, true, rfl, .inl ⟨f, l, r, h, rfl, rfl, rfl, rfl⟩, hf⟩

theorem kids_cnt (t : Ty) : t.kids.cnt ≤ 3 * t.size := by
  induction t with
  | v j => simp [Ty.kids, Fo.cnt]
  | o => simp [Ty.kids, Fo.cnt]
  | n f l r hl hr => simp only [Ty.kids_n, Fo.cnt, Ty.size]; omega

end Go.Proofs.YtjgbihcnfhbalaaDoor
