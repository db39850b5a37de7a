/- Free names of the model; TermFree of both. · Free names of the model's terms: terms that have parts. · TermFree of the program and of the model. · The law TermFree. -/
import Derived.Test.YtbcgpcnbfaipbaaDoorTfree
import Derived.Test.YtbcgpcnbfaipbaaDoorLawT2
import Derived.Test.YtbcgpcnbfaipbaaDoorS2term
import Derived.Test.YtbcgpcnbfaipbaaDoorMark
/- Free names of the model; TermFree of both. -/
namespace Go.Proofs.YtbcgpcnbfaipbaaDoor
open Go.RowKit Go.ChangeMaps

theorem SSl.fr {w w' : World} {A : Option Addr} {xs : List (List UInt8)} {T : Nat → Prop} (h : SSl w A xs) (hf : Fr T w w') (hT : ∀ g o, A = some ⟨g, o, none⟩ → ¬ T g) : SSl w' A xs := by
  intro j x hj
  obtain ⟨g, o, e, hc⟩ := h j x hj
  exact ⟨g, o, e, (hf.cell (p := ⟨g, o + j, none⟩) (block_lt hc) (hT g o e)).trans hc⟩

theorem own_empty (w : World) (B : Nat) (h : B ≤ w.heap.size) (o : Obj) (ho : o = .cells #[] 9) : (w.alloc o).ownsRow B 9 1 (.slice (some ⟨w.heap.size, 0, none⟩) 0 0) 0 [] := by
  subst ho
  exact ⟨rfl, .inr ⟨w.heap.size, 0, #[], rfl, h, heap_alloc_new w _, Nat.le_refl _, Nat.zero_le _, rfl, rfl⟩⟩

/-- the bound names lie in a block that is there -/
def BSl (w : World) (A : Option Addr) (bd : List (List UInt8)) : Prop := SSl w A bd ∧ ∃ g o, A = some ⟨g, o, none⟩ ∧ g < w.heap.size

theorem BSl.fr {w w' : World} {A : Option Addr} {xs : List (List UInt8)} {T : Nat → Prop} (h : BSl w A xs) (hf : Fr T w w') (hT : ∀ g o, A = some ⟨g, o, none⟩ → ¬ T g) : BSl w' A xs := by
  obtain ⟨h1, g, o, e, h2⟩ := h
  exact ⟨h1.fr hf hT, g, o, e, Nat.lt_of_lt_of_le h2 hf.size⟩

end Go.Proofs.YtbcgpcnbfaipbaaDoor

/- Free names of the model's terms: terms that have parts. -/
namespace Go.Proofs.YtbcgpcnbfaipbaaDoor
open Go.RowKit Go.ChangeMaps

theorem fs_step {f : Fo} {j i : Nat} {a h b : List UInt8} {k : Fo} {bd l : List (List UInt8)} (e : f.nth j = some (a, k)) : fsU (f.from_ j) (.kids bd h b i) l = fsU (f.from_ (j + 1)) (.kids bd h b (i + 1)) (if innB h i = true then fsT a k (inB bd h b i) l else l) := by
  rw [Fo.from_nth f j a k e]
  rfl

theorem fst_len (a : List UInt8) (k : Fo) (bd l : List (List UInt8)) : (fsT a k bd l).length ≤ l.length + treeSize a k := by
  unfold fsT treeSize
  by_cases ha : a = []
  · rw [if_pos ha, if_pos ha]
    exact fs_len k _ l
  · rw [if_neg ha, if_neg ha]
    split <;> simp

end Go.Proofs.YtbcgpcnbfaipbaaDoor

/- TermFree of the program and of the model. -/
namespace Go.Proofs.YtbcgpcnbfaipbaaDoor
open Go.RowKit Go.ChangeMaps

def FreeIs (s : List UInt8) (xs : List (List UInt8)) (b : Bool) : Prop := (∃ a k, TmOk s a k ∧ xs = fsT a k [] [] ∧ b = true) ∨ ((∀ a k, ¬ TmOk s a k) ∧ xs = [] ∧ b = false)

theorem FreeIs.one {s : List UInt8} {xs xs' : List (List UInt8)} {b b' : Bool} (h : FreeIs s xs b) (h' : FreeIs s xs' b') : xs' = xs ∧ b' = b := by
  rcases h with ⟨a, k, i1, rfl, rfl⟩ | ⟨n1, rfl, rfl⟩ <;> rcases h' with ⟨a', k', i2, rfl, rfl⟩ | ⟨n2, rfl, rfl⟩
  · obtain ⟨rfl, rfl⟩ := i1.unique i2
    exact ⟨rfl, rfl⟩
  · exact absurd i1 (n2 a k)
  · exact absurd i2 (n1 a' k')
  · exact ⟨rfl, rfl⟩

theorem FreeIs.len {s : List UInt8} {xs : List (List UInt8)} {b : Bool} (h : FreeIs s xs b) : xs.length ≤ 900 := by
  rcases h with ⟨a, k, i1, rfl, rfl⟩ | ⟨n1, rfl, rfl⟩
  · have h1 := fst_len a k [] []
    have h2 := i1.2.2.2
    simp at h1
    omega
  · simp

def AnsFree (s : List UInt8) (w : World) (e : Ending) (w' : World) : Prop :=
  ∃ V vc b xs, e = .returned (.tuple #[.slice V xs.length vc, .bool b]) ∧ w'.ownsRow w.heap.size 9 1 (.slice V xs.length vc) xs.length (xs.map S) ∧ Fr No w w' ∧ FreeIs s xs b

theorem AnsFree.none_ {s : List UInt8} {w w1 : World} (hf : Fr No w w1) (hno : ∀ a k, ¬ TmOk s a k) : AnsFree s w (.returned (.tuple #[.slice (some ⟨w1.heap.size, 0, none⟩) 0 0, .bool false])) (w1.alloc (.cells #[] 9)) :=
  ⟨some ⟨w1.heap.size, 0, none⟩, 0, false, [], rfl, own_empty w1 _ hf.size _ rfl, hf.alloc _, .inr ⟨hno, rfl, rfl⟩⟩

end Go.Proofs.YtbcgpcnbfaipbaaDoor

/- The law TermFree. -/
namespace Go.Proofs.YtbcgpcnbfaipbaaDoor
open Go.RowKit Go.ChangeMaps

end Go.Proofs.YtbcgpcnbfaipbaaDoor
