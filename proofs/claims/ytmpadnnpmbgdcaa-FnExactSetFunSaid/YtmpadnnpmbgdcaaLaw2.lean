import Derived.Test.YtmpadnnpmbgdcaaSigns
namespace Go.Proofs.Ytmpadnnpmbgdcaa
open Go.RowKit Go.ChangeMaps

def VarPost (w : World) (q m : Nat) (ps : List Nat) (D : List Ty) (nm : List UInt8) (e : Ending) (w' : World) : Prop :=
  ∃ ps' D', Pool w' q m ps' D' ∧ Grew w.heap.size ps D ps' D' ∧ Fr (One m) w w' ∧
    ((∃ i p, i < 25 ∧ nm = [Ty.letter i] ∧ Has ps' D' (.v i) p ∧ e = .returned (Ptr p)) ∨ ((∀ i, i < 25 → nm ≠ [Ty.letter i]) ∧ e = .returned (.pointer none)))

set_option maxHeartbeats 1000000 in
theorem readVar_any (w : World) (q m : Nat) (ps : List Nat) (D : List Ty) (nm : List UInt8) (hP : Pool w q m ps D) (hs : nm.length ≤ maxLen) :
    Calls Try.prog 40 #[Ptr q, S nm] w fun e w' => VarPost w q m ps D nm e w' := by
  go_enter Try.func40, Try.ntmps40
  go_wp2_with fail
  refine (read_any w q m ps D nm 0 hP (by omega) hs).mono ?_
  rintro e w1 ⟨ps1, D1, hP1, hg, hf, hor⟩
  rcases hor with ⟨t, p, hi, hh, he⟩ | ⟨hno, he⟩
  · obtain rfl := he
    rw [Ty.shift_zero] at hh
    obtain ⟨x, y, k, hb, _⟩ := hh.blk hP1
    have c0 : w1.cell? ⟨p, 0, none⟩ = some (S (sgn t)) := (hb.cell 0).trans rfl
    clear hb
    rcases is_var hi with ⟨i, rfl, hi25, hnm⟩ | ⟨hsg, hno⟩
    · have HNM := Lib.hid hnm
      clear hnm
      have hsg : sgn (.v i) = [] := rfl
      rw [hsg] at c0
      clear hsg
      go_wp2
      go_ret
      exact ⟨ps1, D1, hP1, hg, hf, .inl ⟨i, p, hi25, HNM.out, hh, rfl⟩⟩
    · have hse : (sgn t).isEmpty = false := by cases h : sgn t; exact absurd h hsg; rfl
      have HNO := Lib.hid hno
      clear hno
      generalize sgn t = sg at c0 hse
      clear hsg
      go_wp2
      go_ret
      exact ⟨ps1, D1, hP1, hg, hf, .inr ⟨HNO.out, rfl⟩⟩
  · obtain rfl := he
    have HNO : Hid (∀ i, i < 25 → nm ≠ [Ty.letter i]) := fun i hi e => hno (.v i) (by rw [e]; exact var_is hi)
    clear hno
    go_wp2
    go_ret
    exact ⟨ps1, D1, hP1, hg, hf, .inr ⟨HNO.out, rfl⟩⟩

set_option maxHeartbeats 1000000 in
theorem var_any2 (a : List UInt8) (w : World) (ha : a.length ≤ maxLen) :
    Calls Try.prog 33 #[S a] w fun e w' => e = .returned (.bool (isVar a)) ∧ w = w' := by
  by_cases h : a.length ≤ 6000
  · exact var_any a w h
  · match a, h with
    | [], h => simp at h
    | [c], h => simp at h
    | c :: c' :: a, h =>
      unfold maxLen at ha
      simp at ha
      have n1 : ((a.length : Int) + 1 + 1 == 1) = false := beq_eq_false_iff_ne.2 (by omega)
      clear h
      go_enter Try.func33, Try.ntmps33
      go_wp2
      go_ret
      exact ⟨rfl, rfl⟩

def OnlyP (b : Bool) (s nm : List UInt8) : Prop := ∃ t i, Ty.Is s t ∧ i < 25 ∧ nm = [Ty.letter i] ∧ only b t i = true

end Go.Proofs.Ytmpadnnpmbgdcaa
