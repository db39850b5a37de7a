/- The program writes terms. -/
import Derived.Test.YthbidlcfahdfhaaDoorTtx
import Derived.Test.YthbidlcfahdfhaaDoorTuse
import Derived.Test.YthbidlcfahdfhaaDoorTnt
import Derived.Test.YthbidlcfahdfhaaDoorHas
import Derived.Deep.RegionHeld3
namespace Go.Proofs.YthbidlcfahdfhaaDoor
open Go.RowKit Go.ChangeMaps

/-- depths lead to names that are there -/
def Tok : Ts → List (List UInt8) → List UInt8 → List UInt8 → Nat → Prop
  | .nil, _, _, _, _ => True
  | .cons h a d k r, bs, ph, pa, i => ((h = hName ∧ a = [] → d < (insB bs ph pa i).length) ∧ Tok k (insB bs ph pa i) h a 0) ∧ Tok r bs ph pa (i + 1)

def TokN (bs : List (List UInt8)) (h a : List UInt8) (d : Nat) (k : Ts) : Prop := (h = hName ∧ a = [] → d < bs.length) ∧ Tok k bs h a 0

theorem nm_tok (bs : List (List UInt8)) (a : List UInt8) (h : isAtomTm a = true) : TokN bs (ndH a .nil) (ndA bs a .nil) (ndD bs a) (cv .nil (.parts bs)) := by
  have ha := (atom_bytes h).1
  refine ⟨?_, trivial⟩
  unfold ndH ndA ndD
  rw [if_neg ha, if_neg ha, if_neg ha]
  by_cases ht : a = tTrue ∨ a = tFalse
  · have h1 : hTruth ≠ hName := by decide
    rw [if_pos ht]
    exact fun h => absurd h.1 h1
  · rw [if_neg ht, if_neg ht, if_neg ht]
    unfold nmA
    cases hd : depOf a bs with
    | none => exact fun h => absurd h.2 ha
    | some d => exact fun _ => (dep_get hd).2

theorem tok_eq : ∀ f : Fo, f.wf →
    (∀ (bs : List (List UInt8)) (h b : List UInt8) (i c : Nat), isTms (some (List.replicate c true)) f = true → Tok (cv f (.kids bs h b i)) bs h b i) ∧
    (∀ bs : List (List UInt8), isTms none f = true → Tok (cv f (.parts bs)) bs (hd1 f) (if bindsB (hd1 f) then hd2 f else []) 0) ∧
    (∀ (bs : List (List UInt8)) (h : List UInt8) (c : Nat), isTms (some (false :: List.replicate c true)) f = true → Tok (cv f (.name bs h)) bs h (hd1 f) 0) := by
  intro f
  induction f with
  | nil => exact fun _ => ⟨fun bs h b i c _ => trivial, fun bs h => (by cases h), fun bs h c hc => (by simp [isTms] at hc)⟩
  | cons a k r ihk ihr =>
    intro hw
    have hk := ihk hw.2.1
    have hr := ihr hw.2.2
    refine ⟨?_, ?_, ?_⟩
    · intro bs h b i c hs
      cases c with
      | zero => simp [isTms] at hs
      | succ c =>
        rw [List.replicate_succ] at hs
        simp only [isTms, Bool.and_eq_true] at hs
        refine ⟨?_, hr.1 bs h b (i + 1) c hs.2⟩
        show TokN (insB bs h b i) (ndH a k) (ndA (insB bs h b i) a k) (ndD (insB bs h b i) a) (cv k (.parts (insB bs h b i)))
        by_cases ha : a = []
        · subst ha
          simp only [if_true] at hs
          have hh := hk.2.1 (insB bs h b i) hs.1
          have hne : ndH [] k ≠ hName := by
            cases k with
            | nil => exact fun e => by cases e
            | cons g _ _ =>
              simp only [ndH, if_true, hd1]
              rintro rfl
              have := hs.1
              simp only [isTms, Bool.and_eq_true] at this
              revert this; simp [shapeOf, hName, hLam, hApp, hPair, hFst, hSnd, hIf, hLet]
          refine ⟨fun e => absurd e.1 hne, ?_⟩
          simp only [ndH, ndA, if_true]
          exact hh
        · simp only [if_neg ha] at hs
          obtain rfl := hw.1 ha
          exact nm_tok _ a hs.1
    · intro bs hs
      simp only [isTms, Bool.and_eq_true] at hs
      have hs0 : shapeOf a ≠ [] := by intro e; rw [e] at hs; cases hs.1
      have eh : hd1 (.cons a k r) = a := rfl
      rw [eh]
      rcases shape_cases a with ⟨e, _⟩ | ⟨hb, e, hk1⟩ | ⟨hb, e, hk1⟩
      · exact absurd e hs0
      · rw [e] at hs
        have e1 : cv (.cons a k r) (.parts bs) = cv r (.name bs a) := by simp [cv, hb]
        have e2 : hd2 (.cons a k r) = hd1 r := by cases r <;> rfl
        rw [e1, hb, e2]
        exact hr.2.2 bs a _ hs.2
      · rw [e] at hs
        have e1 : cv (.cons a k r) (.parts bs) = cv r (.kids bs a [] 0) := by simp [cv, hb]
        rw [e1, hb]
        exact hr.1 bs a [] 0 _ hs.2
    · intro bs h c hs
      simp only [isTms, Bool.and_eq_true] at hs
      exact hr.1 bs h a 0 c hs.2

theorem flat_le {x : List UInt8} : ∀ l : List (List UInt8), x ∈ l → x.length ≤ ((l.map (32 :: ·)).flatten).length
  | [], h => by cases h
  | z :: l, h => by
    simp only [List.map_cons, List.flatten_cons, List.length_append, List.length_cons]
    rcases List.mem_cons.1 h with rfl | h
    · omega
    · have := flat_le l h
      omega

theorem spj_le {x : List UInt8} {l : List (List UInt8)} (h : x ∈ l) : x.length ≤ (spj l).length := by
  cases l with
  | nil => cases h
  | cons y l =>
    simp only [spj, List.length_append]
    rcases List.mem_cons.1 h with rfl | h
    · omega
    · have := flat_le l h
      omega

def boundB (h a : List UInt8) : Bool := h == hName && a == []

set_option maxHeartbeats 400000 in
theorem bound_is (w : World) (p : Nat) (h a : List UInt8) (V1 V2 V3 : Value) (hb : Blk w p 43 #[S h, S a, V1, V2, V3]) :
    Calls Tryd.prog 52 #[Ptr p] w fun e w' => e = .returned (.bool (boundB h a)) ∧ w = w' := by
  have c0 : w.cell? ⟨p, 0, none⟩ = some (S h) := (hb.cell 0).trans rfl
  have c1 : w.cell? ⟨p, 1, none⟩ = some (S a) := (hb.cell 1).trans rfl
  have hlt := hb.lt
  clear hb
  by_cases hh : h = [110, 97, 109, 101]
  · subst hh
    by_cases ha : a = []
    · subst ha
      go_enter Tryd.func52, Tryd.ntmps52
      go_wp2_with fail
      go_ret
      exact ⟨rfl, rfl⟩
    · have hae : a.isEmpty = false := by cases a; exact absurd rfl ha; rfl
      have hr : boundB [110, 97, 109, 101] a = false := by simp [boundB, hName, ha]
      rw [hr]
      clear hr
      go_enter Tryd.func52, Tryd.ntmps52
      go_wp2_with fail
      go_ret
      exact ⟨rfl, rfl⟩
  · have n1 : (h == [110, 97, 109, 101]) = false := beq_eq_false_iff_ne.2 hh
    have hr : boundB h a = false := by simp [boundB, hName, hh]
    rw [hr]
    clear hr hh
    go_enter Tryd.func52, Tryd.ntmps52
    go_wp2_with fail
    go_ret
    exact ⟨rfl, rfl⟩
end Go.Proofs.YthbidlcfahdfhaaDoor
