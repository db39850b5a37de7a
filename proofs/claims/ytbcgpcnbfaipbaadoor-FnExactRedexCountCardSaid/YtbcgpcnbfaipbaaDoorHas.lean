/- Lists of texts in memory: l1Has; a row of the call's own. -/
import Derived.Test.YtbcgpcnbfaipbaaDoorSread
namespace Go.Proofs.YtbcgpcnbfaipbaaDoor
open Go.RowKit Go.ChangeMaps

theorem ret_str {a b : ByteArray} (h : a.data.toList = b.data.toList) : Ending.returned (.string a) = .returned (.string b) := by
  have : a = b := by
    apply ByteArray.ext
    exact Array.toList_inj.1 h
  rw [this]

/-- The slice at A holds these texts. -/
def SSl (w : World) (A : Option Addr) (xs : List (List UInt8)) : Prop :=
  ∀ (j : Nat) (x : List UInt8), xs[j]? = some x → ∃ g o, A = some ⟨g, o, none⟩ ∧ w.cell? ⟨g, o + j, none⟩ = some (S x)

def HasS (xs : List (List UInt8)) (s : List UInt8) (w : World) (e : Ending) (w' : World) : Prop := ∃ b : Bool, e = .returned (.bool b) ∧ (b = true ↔ s ∈ xs) ∧ w = w'

theorem nots_more {xs : List (List UInt8)} {j : Nat} {x s : List UInt8} (h : s ∉ xs.take j) (hx : xs[j]? = some x) (hne : x ≠ s) : s ∉ xs.take (j + 1) := by
  rw [List.take_add_one, hx]
  simp [h, Ne.symm hne]

theorem SSl.of_own {w : World} {B : Nat} {xs : List (List UInt8)} {A : Option Addr} {c : Nat} (ho : w.ownsRow B 9 1 (.slice A xs.length c) xs.length (xs.map S)) : SSl w A xs := by
  intro j x hj
  have hl := (List.getElem?_eq_some_iff.1 hj).1
  rcases ho.2 with ⟨_, hn⟩ | ⟨g, cap, cur, hv, _⟩
  · omega
  · injection hv with e1 e2 e3
    refine ⟨g, 0, e1, ?_⟩
    have := ho.cells (g := g) (by rw [e1]; rfl) j (S x) (by rw [List.getElem?_map, hj]; rfl)
    rw [addr_add] at this
    exact this

theorem info_str : (Tryd.prog.info? 9).map (fun i => (i.zero, i.size, i.bytes)) = some (some (.string ⟨#[]⟩), 1, 16) := by kernel_rfl
end Go.Proofs.YtbcgpcnbfaipbaaDoor
