import Derived.Test.YtmpadnnpmbgdcaaText
import Derived.Test.YtmpadnnpmbgdcaaStext
import Derived.Deep.RegionHeld3
namespace Go.Proofs.Ytmpadnnpmbgdcaa
open Go.RowKit Go.ChangeMaps

def AnsParts (s : List UInt8) (w : World) (e : Ending) (w' : World) : Prop :=
  ∃ a b c ok, e = .returned (.tuple #[S a, S b, S c, .bool ok]) ∧ ((∃ f l r, Ty.Is s (.n f l r) ∧ a = l.text ∧ b = r.text ∧ c = [Ty.sign f] ∧ ok = true) ∨ ((∀ f l r, ¬ Ty.Is s (.n f l r)) ∧ a = [] ∧ b = [] ∧ c = [] ∧ ok = false)) ∧ Fr No w w'

theorem AnsParts.no {s : List UInt8} {w w' : World} (h : ∀ f l r, ¬ Ty.Is s (.n f l r)) (hf : Fr No w w') : AnsParts s w (.returned (.tuple #[S [], S [], S [], .bool false])) w' :=
  ⟨[], [], [], false, rfl, .inr ⟨h, rfl, rfl, rfl, rfl⟩, hf⟩
theorem AnsParts.yes {s : List UInt8} {w w' : World} {f : Bool} {l r : Ty} (h : Ty.Is s (.n f l r)) (hf : Fr No w w') : AnsParts s w (.returned (.tuple #[S l.text, S r.text, S [Ty.sign f], .bool true])) w' :=
  ⟨_, _, _, true, rfl, .inl ⟨f, l, r, h, rfl, rfl, rfl, rfl⟩, hf⟩

theorem kids_cnt (t : Ty) : t.kids.cnt ≤ 3 * t.size := by
  induction t with
  | v j => simp [Ty.kids, Fo.cnt]
  | o => simp [Ty.kids, Fo.cnt]
  | n f l r hl hr => simp only [Ty.kids_n, Fo.cnt, Ty.size]; omega

/-- a part's text in the model -/
theorem spec_part (t : Ty) (hl : t.lets) (hsz : t.size ≤ 40) (A : Option Addr) (c : Nat) (w : World) (T : Nat → Prop) (hT : ∀ b, T b → b < w.heap.size) (h : Sl w T A t.kids) :
    Calls Try.prog 35 #[.agg #[S t.atom, .slice A t.kids.len c]] w fun e w' => e = .returned (S t.text) ∧ Fr No w w' := by
  have hp := (parsed_is (s := t.text) ⟨rfl, hl, hsz⟩).bounds
  have htt := text_tree t hl
  have hlen := t.length_text
  have := spec_text _ t.kids (Nat.lt_succ_self _) t.atom A c w T ((treeText t.atom t.kids).length + t.kids.cnt) (Nat.le_refl _) (by rw [htt]; have := kids_cnt t; omega) hp.2.2.2.1 hp.2.2.2.2 hT h
  rw [htt] at this
  exact this

end Go.Proofs.Ytmpadnnpmbgdcaa
