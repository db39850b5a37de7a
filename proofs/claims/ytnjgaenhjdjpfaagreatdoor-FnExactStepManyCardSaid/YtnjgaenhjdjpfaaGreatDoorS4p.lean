/- A step in the parts of a tree, part by part (for l4At). -/
import Derived.Test.YtnjgaenhjdjpfaaGreatDoorS4s
namespace Go.Proofs.YtnjgaenhjdjpfaaGreatDoor
open Go.RowKit Go.ChangeMaps

theorem at_here {f : Fo} {j i : Nat} {a h b : List UInt8} {k : Fo} (e : f.nth j = some (a, k)) (hi : innB h i = true) {n : Nat} (hn : n < cT a k) :
    atU (f.from_ j) (.kids h b i) n = .cons (atA k n) (atK k n) (f.from_ (j + 1)) ∧ grU (f.from_ j) (.kids h b i) n = grT k n := by
  have ha : a = [] := by
    by_cases ha : a = []
    · exact ha
    · simp only [cT, if_neg ha] at hn; omega
  subst ha
  have hn' : n < rxN k + cU k .top := by simpa [cT] using hn
  rw [Fo.from_nth f j [] k e]
  simp only [atU, grU, hi, and_self, if_true, if_pos hn', atA, atK, grT]
  split <;> simp

theorem at_on {f : Fo} {j i : Nat} {a h b : List UInt8} {k : Fo} (e : f.nth j = some (a, k)) {n : Nat} (hn : innB h i = true → cT a k ≤ n) :
    atU (f.from_ j) (.kids h b i) n = .cons a k (atU (f.from_ (j + 1)) (.kids h b (i + 1)) (n - (if innB h i = true then cT a k else 0))) ∧
    grU (f.from_ j) (.kids h b i) n = grU (f.from_ (j + 1)) (.kids h b (i + 1)) (n - (if innB h i = true then cT a k else 0)) := by
  rw [Fo.from_nth f j a k e]
  simp only [atU, grU]
  by_cases hi : innB h i = true
  · by_cases ha : a = []
    · subst ha
      have h0 := hn hi
      have e0 : cT [] k = rxN k + cU k .top := by simp [cT]
      rw [e0] at h0
      simp only [hi, and_self, if_true, e0]
      rw [if_neg (by omega), if_neg (by omega)]
      exact ⟨rfl, rfl⟩
    · have e0 : cT a k = 0 := by simp only [cT, if_neg ha]
      simp only [hi, ha, and_false, if_false, if_true, e0, Nat.sub_zero]
      exact ⟨trivial, trivial⟩
  · simp only [hi, false_and, if_false, Nat.sub_zero, and_self, Bool.false_eq_true]
end Go.Proofs.YtnjgaenhjdjpfaaGreatDoor
