import Derived.Test.YtmpadnnpmbgdcaaSpec2
import Derived.Test.YtmpadnnpmbgdcaaImpl
namespace Go.Proofs.Ytmpadnnpmbgdcaa
open Go.RowKit Go.ChangeMaps

theorem Fr.kept {w w' : World} (h : Fr No w w') : Below w.heap.size w w' := h.below (Nat.le_refl _) (fun _ h => h.elim)

set_option maxHeartbeats 1000000 in
theorem specValid (w : World) (s : List UInt8) (hs : s.length ≤ maxLen) :
    Calls Try.prog 37 #[S s] w fun e w' => AnsB (∃ t, Ty.Is s t) w e w' := by
  go_enter Try.func37, Try.ntmps37
  go_wp2_with fail
  refine (type_any s _ hs).mono ?_
  rintro e w1 ⟨hf, ⟨t, A, c, hi, rfl, _⟩ | ⟨a, A, m, c, hno, rfl⟩⟩
  · go_wp2
    go_ret
    exact ⟨true, rfl, ⟨fun _ => ⟨t, hi⟩, fun _ => rfl⟩, hf.alloc _⟩
  · go_wp2
    go_ret
    exact ⟨false, rfl, ⟨fun h => (by cases h), fun ⟨t, h⟩ => (hno t h).elim⟩, hf.alloc _⟩

theorem str_S (a : ByteArray) : Value.string a = S a.data.toList := rfl
theorem str_len {a : ByteArray} (h : a.size ≤ maxLen) : a.data.toList.length ≤ maxLen := by
  rw [Array.length_toList]; exact h

/-- what a law answers -/
def Yes (w : World) (e : Ending) (w' : World) : Prop := e = .returned (.bool true) ∧ Fr No w w'

end Go.Proofs.Ytmpadnnpmbgdcaa
