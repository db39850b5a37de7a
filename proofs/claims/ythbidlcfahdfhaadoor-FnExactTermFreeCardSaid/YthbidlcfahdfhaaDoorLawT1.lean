/- The laws TermValid, TermSize, TermHead. -/
import Derived.Test.YthbidlcfahdfhaaDoorS2term
namespace Go.Proofs.YthbidlcfahdfhaaDoor
open Go.RowKit Go.ChangeMaps

theorem Fr.kept {w w' : World} (h : Fr No w w') : Below w.heap.size w w' := h.below (Nat.le_refl _) (fun _ h => h.elim)
theorem str_S (a : ByteArray) : Value.string a = S a.data.toList := rfl
theorem str_len {a : ByteArray} (h : a.size ≤ maxLen) : a.data.toList.length ≤ maxLen := by
  rw [Array.length_toList]; exact h

/-- what a law answers -/
def Yes (w : World) (e : Ending) (w' : World) : Prop := e = .returned (.bool true) ∧ Fr No w w'

theorem AnsN.same {F : List UInt8 → Fo → Int} {s : List UInt8} {n m : Int} (h1 : (∃ a k, TmOk s a k ∧ n = F a k) ∨ ((∀ a k, ¬ TmOk s a k) ∧ n = -1)) (h2 : (∃ a k, TmOk s a k ∧ m = F a k) ∨ ((∀ a k, ¬ TmOk s a k) ∧ m = -1)) : n = m := by
  rcases h1 with ⟨a, k, h1, e1⟩ | ⟨h1, e1⟩ <;> rcases h2 with ⟨a', k', h2, e2⟩ | ⟨h2, e2⟩
  · obtain ⟨rfl, rfl⟩ := h1.unique h2; rw [e1, e2]
  · exact absurd h1 (h2 a k)
  · exact absurd h2 (h1 a' k')
  · rw [e1, e2]

theorem AnsH.same {s n m : List UInt8} (h1 : (∃ a k, TmOk s a k ∧ n = ndH a k) ∨ ((∀ a k, ¬ TmOk s a k) ∧ n = [])) (h2 : (∃ a k, TmOk s a k ∧ m = ndH a k) ∨ ((∀ a k, ¬ TmOk s a k) ∧ m = [])) : n = m := by
  rcases h1 with ⟨a, k, h1, e1⟩ | ⟨h1, e1⟩ <;> rcases h2 with ⟨a', k', h2, e2⟩ | ⟨h2, e2⟩
  · obtain ⟨rfl, rfl⟩ := h1.unique h2; rw [e1, e2]
  · exact absurd h1 (h2 a k)
  · exact absurd h2 (h1 a' k')
  · rw [e1, e2]

set_option maxHeartbeats 1000000 in
theorem lawTmValid (w : World) (s : List UInt8) (hs : s.length ≤ maxLen) :
    Calls Tryd.prog 3 #[S s] w fun e w' => Yes w e w' := by
  have hs' := hs
  unfold maxLen at hs'
  by_cases hl : 1048576 < s.length
  · have hb : decide ((1048576 : Int) < (s.length : Int)) = true := by simp; omega
    go_enter Tryd.func3, Tryd.ntmps3
    go_wp2_with fail
    go_ret
    exact ⟨rfl, Fr.refl _ _⟩
  · have hb : decide ((1048576 : Int) < (s.length : Int)) = false := by simp; omega
    go_enter Tryd.func3, Tryd.ntmps3
    go_wp2_with fail
    refine (specTmValid _ s hs).mono ?_
    rintro e w1 ⟨b1, rfl, h1, hf1⟩
    go_wp2_with fail
    refine (implTmValid _ s hs).mono ?_
    rintro e w2 ⟨b2, rfl, h2, hf2⟩
    obtain rfl : b1 = b2 := Bool.eq_iff_iff.2 (h1.trans h2.symm)
    clear h1 h2
    go_wp2
    go_ret
    exact ⟨rfl, hf1.trans hf2⟩

set_option maxHeartbeats 1000000 in
theorem lawTmSize (w : World) (s : List UInt8) (hs : s.length ≤ maxLen) :
    Calls Tryd.prog 10 #[S s] w fun e w' => Yes w e w' := by
  have hs' := hs
  unfold maxLen at hs'
  by_cases hl : 1048576 < s.length
  · have hb : decide ((1048576 : Int) < (s.length : Int)) = true := by simp; omega
    go_enter Tryd.func10, Tryd.ntmps10
    go_wp2_with fail
    go_ret
    exact ⟨rfl, Fr.refl _ _⟩
  · have hb : decide ((1048576 : Int) < (s.length : Int)) = false := by simp; omega
    go_enter Tryd.func10, Tryd.ntmps10
    go_wp2_with fail
    refine (specTmSize _ s hs).mono ?_
    rintro e w1 ⟨b1, rfl, h1, hf1⟩
    go_wp2_with fail
    refine (implTmSize _ s hs).mono ?_
    rintro e w2 ⟨b2, rfl, h2, hf2⟩
    obtain rfl : b1 = b2 := AnsN.same h1 h2
    clear h1 h2
    go_wp2
    go_ret
    exact ⟨rfl, hf1.trans hf2⟩

set_option maxHeartbeats 1000000 in
theorem lawTmHead (w : World) (s : List UInt8) (hs : s.length ≤ maxLen) :
    Calls Tryd.prog 4 #[S s] w fun e w' => Yes w e w' := by
  have hs' := hs
  unfold maxLen at hs'
  by_cases hl : 1048576 < s.length
  · have hb : decide ((1048576 : Int) < (s.length : Int)) = true := by simp; omega
    go_enter Tryd.func4, Tryd.ntmps4
    go_wp2_with fail
    go_ret
    exact ⟨rfl, Fr.refl _ _⟩
  · have hb : decide ((1048576 : Int) < (s.length : Int)) = false := by simp; omega
    go_enter Tryd.func4, Tryd.ntmps4
    go_wp2_with fail
    refine (specTmHead _ s hs).mono ?_
    rintro e w1 ⟨b1, rfl, h1, hf1⟩
    go_wp2_with fail
    refine (implTmHead _ s hs).mono ?_
    rintro e w2 ⟨b2, rfl, h2, hf2⟩
    obtain rfl : b1 = b2 := AnsH.same h1 h2
    clear h1 h2
    go_wp2
    go_ret
    exact ⟨rfl, hf1.trans hf2⟩
end Go.Proofs.YthbidlcfahdfhaaDoor
