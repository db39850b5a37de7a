/- TermPut: a term put for a name, in the program and in the model. -/
import Derived.Test.YtnjgaenhjdjpfaaGreatDoorTpb
import Derived.Test.YtnjgaenhjdjpfaaGreatDoorS2put
import Derived.Test.YtnjgaenhjdjpfaaGreatDoorS2canon
import Derived.Test.YtnjgaenhjdjpfaaGreatDoorLawT2
namespace Go.Proofs.YtnjgaenhjdjpfaaGreatDoor
open Go.RowKit Go.ChangeMaps

/-- a tree's text is read as the tree -/
theorem text_read {a : List UInt8} {k : Fo} (h : OkT a k) {a' : List UInt8} {k' : Fo} (h' : TmOk (treeText a k) a' k') : a' = a ∧ k' = k := by
  have hi := h'.2
  have hg := isTm_good h.at_ h.wf h.tm
  have hg' := isTm_good hi.wf.1 hi.wf.2 hi.2.1
  obtain ⟨d, hd⟩ : ∃ d, d = treeDeep a k + treeDeep a' k' + 1 := ⟨_, rfl⟩
  have r1 := rd_good d a k [] hg (by omega) (fun x y e => by cases e)
  have r2 := rd_good d a' k' [] hg' (by omega) (fun x y e => by cases e)
  rw [← hi.text, List.append_nil] at r2
  rw [List.append_nil] at r1
  have := r1.symm.trans r2
  simp only [Option.some.injEq, Prod.mk.injEq, and_true] at this
  exact ⟨this.1.symm, this.2.symm⟩

theorem text_ok {a : List UInt8} {k : Fo} (h : OkT a k) (hs : treeSize a k ≤ 300) : TmOk (treeText a k) a k := by
  have hg := isTm_good h.at_ h.wf h.tm
  have hd := isTm_deep h.tm
  have hl := text_len h.tm h.wf
  have r1 := rd_good 301 a k [] hg (by omega) (fun x y e => by cases e)
  rw [List.append_nil] at r1
  exact ⟨by omega, r1, h.tm, hs⟩

/-- the canonical text of a tree, or none if it is too large -/
theorem canon_is {a : List UInt8} {k : Fo} (h : OkT a k) {r : List UInt8} {b : Bool} (hc : CanonIs (treeText a k) r b) : (treeSize a k ≤ 300 ∧ r = cnT a k ∧ b = true) ∨ (300 < treeSize a k ∧ r = [] ∧ b = false) := by
  rcases hc with ⟨a', k', h1, h2, h3⟩ | ⟨h1, h2, h3⟩
  · obtain ⟨rfl, rfl⟩ := text_read h h1
    exact .inl ⟨h1.2.2.2, h2, h3⟩
  · refine .inr ⟨?_, h2, h3⟩
    rcases Nat.lt_or_ge 300 (treeSize a k) with hq | hq
    · exact hq
    · exact absurd (text_ok h hq) (h1 a k)

/-- the program's text of a term that is alike to a tree -/
theorem canon_er (w : World) (B : Nat) (T : Nat → Prop) (p : Nat) (h a : List UInt8) (d : Nat) (k : Ts) (hT : ∀ b, T b → b < w.heap.size) (ht : Tm w T p h a d k) (hB : B ≤ w.heap.size) (htb : Tb B w)
    {A : List UInt8} {K : Fo} (hok : OkT A K) (hs : treeSize A K ≤ 300) (hw : WfT (.cons h a d k .nil)) (he : er (.cons h a d k .nil) = er (nd [] A K)) :
    Calls Tryz.prog 23 #[Ptr p] w fun e w' => e = .returned (S (cnT A K)) ∧ Fr No w w' := by
  have co := cn_self hok.tm hok.at_ hok.wf (by omega)
  refine canonText_any w B T p h a d k hT ht hB htb A (cnK (fvs A K) A K) ?_ co.tm co.at_ co.wf (by rw [co.size]; exact hs)
  have hw2 := hok.nw []
  have e0 : frU (.cons h a d k .nil) [] = frN h a k [] := by simp only [frU, frN]
  have e1 : frN h a k [] = fvs A K := by
    rw [← e0, ← fr_er _ [] hw, he, fr_er _ [] hw2]
    exact frU_nd hok.tm hok.at_ hok.wf
  rw [e1, ← rn_er _ _ 0 hw, he, rn_er _ _ 0 hw2]
  exact co.node

theorem tms_short : ∀ (f : Fo) (sh : Option (List Bool)), f.wf → isTms sh f = true → f.short ∧ (sh = none → f.len ≤ 4) := by
  intro f
  induction f with
  | nil => intro sh _ h; exact ⟨trivial, fun _ => Nat.zero_le _⟩
  | cons a k r ihk ihr =>
    intro sh hw h
    match sh, h with
    | none, h =>
      simp only [isTms, Bool.and_eq_true] at h
      have hs : shapeOf a ≠ [] := by intro e; rw [e] at h; cases h.1
      have hk := hw.1 (shape_head hs).1
      have hl := isTms_len _ _ h.2
      have h3 := shape_short a
      refine ⟨⟨by rw [hk]; exact Nat.zero_le _, by rw [hk]; trivial, (ihr _ hw.2.2 h.2).1⟩, fun _ => ?_⟩
      simp only [Fo.len]; omega
    | some (true :: sh), h =>
      simp only [isTms, Bool.and_eq_true] at h
      refine ⟨?_, fun e => by cases e⟩
      by_cases ha : a = []
      · subst ha
        simp only [if_true] at h
        have h2 := ihk none hw.2.1 h.1
        exact ⟨by have := h2.2 rfl; omega, h2.1, (ihr _ hw.2.2 h.2).1⟩
      · have hk := hw.1 ha
        exact ⟨by rw [hk]; exact Nat.zero_le _, by rw [hk]; trivial, (ihr _ hw.2.2 h.2).1⟩
    | some (false :: sh), h =>
      simp only [isTms, Bool.and_eq_true] at h
      have hk := hw.1 (name_bytes h.1).1
      exact ⟨⟨by rw [hk]; exact Nat.zero_le _, by rw [hk]; trivial, (ihr _ hw.2.2 h.2).1⟩, fun e => by cases e⟩
    | some [], h => simp [isTms] at h

theorem term_small2 {a : List UInt8} {k : Fo} (h : OkT a k) (hs : treeSize a k ≤ 100000) : (treeText a k).length + k.cnt ≤ 1000000 ∧ k.len ≤ 100000 ∧ k.short := by
  have h1 := text_len h.tm h.wf
  have htm := h.tm
  by_cases ha : a = []
  · subst ha
    simp only [isTm, if_true] at htm
    have h3 := (cnt_tms k none h.wf htm).1
    have h4 : treeSize [] k = k.size := by simp [treeSize]
    have h5 := tms_short k none h.wf htm
    have h6 := h5.2 rfl
    exact ⟨by omega, by omega, h5.1⟩
  · obtain rfl := h.at_ ha
    have : Fo.nil.cnt = 0 := rfl
    exact ⟨by omega, Nat.zero_le _, trivial⟩

/-- what TermPut answers -/
def PutIs (s x t r : List UInt8) (b : Bool) : Prop :=
  (∃ a k ba bk, TmOk s a k ∧ TmOk t ba bk ∧ isName x = true ∧ treeSize (sbA x ba a) (sbK x a k ba bk) ≤ 300 ∧ r = cnT (sbA x ba a) (sbK x a k ba bk) ∧ b = true) ∨
  (((∀ a k, ¬ TmOk s a k) ∨ (∀ a k, ¬ TmOk t a k) ∨ isName x = false ∨ ∃ a k ba bk, TmOk s a k ∧ TmOk t ba bk ∧ 300 < treeSize (sbA x ba a) (sbK x a k ba bk)) ∧ r = [] ∧ b = false)

theorem PutIs.one {s x t r r' : List UInt8} {b b' : Bool} (h : PutIs s x t r b) (h' : PutIs s x t r' b') : r' = r ∧ b' = b := by
  have key : ∀ {r r' : List UInt8} {b b' : Bool}, (∃ a k ba bk, TmOk s a k ∧ TmOk t ba bk ∧ isName x = true ∧ treeSize (sbA x ba a) (sbK x a k ba bk) ≤ 300 ∧ r = cnT (sbA x ba a) (sbK x a k ba bk) ∧ b = true) →
      (((∀ a k, ¬ TmOk s a k) ∨ (∀ a k, ¬ TmOk t a k) ∨ isName x = false ∨ ∃ a k ba bk, TmOk s a k ∧ TmOk t ba bk ∧ 300 < treeSize (sbA x ba a) (sbK x a k ba bk)) ∧ r' = [] ∧ b' = false) → False := by
    rintro r r' b b' ⟨a, k, ba, bk, i1, i2, i3, i4, _⟩ ⟨h1 | h1 | h1 | ⟨a', k', ba', bk', j1, j2, j3⟩, _⟩
    · exact h1 a k i1
    · exact h1 ba bk i2
    · rw [i3] at h1; cases h1
    · obtain ⟨rfl, rfl⟩ := i1.unique j1
      obtain ⟨rfl, rfl⟩ := i2.unique j2
      omega
  rcases h with h | h <;> rcases h' with h' | h'
  · obtain ⟨a, k, ba, bk, i1, i2, _, _, rfl, rfl⟩ := h
    obtain ⟨a', k', ba', bk', j1, j2, _, _, rfl, rfl⟩ := h'
    obtain ⟨rfl, rfl⟩ := i1.unique j1
    obtain ⟨rfl, rfl⟩ := i2.unique j2
    exact ⟨rfl, rfl⟩
  · exact (key h h').elim
  · exact (key h' h).elim
  · rw [h.2.1, h.2.2, h'.2.1, h'.2.2]; exact ⟨rfl, rfl⟩

def AnsPut (s x t : List UInt8) (w : World) (e : Ending) (w' : World) : Prop := ∃ r b, e = .returned (.tuple #[S r, .bool b]) ∧ PutIs s x t r b ∧ Fr No w w'

theorem sized {a : List UInt8} {k : Fo} (h : OkT a k) : (((if bindsB (ndH a k) then 2 else 1) + (cv k (.parts [])).size : Nat) : Int) = (treeSize a k : Nat) := by
  have := h.size []
  simp only [nd, Ts.size, Nat.add_zero] at this
  rw [this]

end Go.Proofs.YtnjgaenhjdjpfaaGreatDoor
