/- Texts of the program's terms: what has been read is written as it was. -/
import Derived.Test.YthbidlcfahdfhaaDoorTus
namespace Go.Proofs.YthbidlcfahdfhaaDoor
open Go.RowKit Go.ChangeMaps

/-- texts with a space between -/
def spj : List (List UInt8) → List UInt8
  | [] => []
  | x :: xs => x ++ (xs.map (32 :: ·)).flatten

/-- the texts of terms that are parts of a term with this head and this name, from a place on -/
def txL : Ts → List (List UInt8) → List UInt8 → List UInt8 → Nat → List (List UInt8)
  | .nil, _, _, _, _ => []
  | .cons h a d k r, bs, ph, pa, i =>
    (if h = hName ∧ a = [] then (insB bs ph pa i).getD ((insB bs ph pa i).length - 1 - d) []
      else if k.len = 0 then a else 40 :: (spj (h :: ((if bindsB h then [a] else []) ++ txL k (insB bs ph pa i) h a 0)) ++ [41])) :: txL r bs ph pa (i + 1)

/-- the text of a term -/
def txN (bs : List (List UInt8)) (h a : List UInt8) (d : Nat) (k : Ts) : List UInt8 :=
  if h = hName ∧ a = [] then bs.getD (bs.length - 1 - d) [] else if k.len = 0 then a else 40 :: (spj (h :: ((if bindsB h then [a] else []) ++ txL k bs h a 0)) ++ [41])

def Fo.tlist : Fo → List (List UInt8)
  | .nil => []
  | .cons a k r => treeText a k :: r.tlist

theorem stexts_list : ∀ f : Fo, f.stexts = (f.tlist.map (32 :: ·)).flatten
  | .nil => rfl
  | .cons a k r => by simp [Fo.stexts, Fo.tlist, stexts_list r]

theorem texts_list (a : List UInt8) (k r : Fo) : (Fo.cons a k r).texts = spj (Fo.cons a k r).tlist := by
  rw [Fo.texts_eq, stexts_list]
  rfl

theorem depR_get (x : List UInt8) : ∀ (l : List (List UInt8)) (i d : Nat), depR x l i = some d → i ≤ d ∧ l[d - i]? = some x
  | [], i, d, h => by cases h
  | b :: l, i, d, h => by
    simp only [depR] at h
    by_cases hb : b = x
    · rw [if_pos hb] at h
      injection h with h
      subst h; subst hb
      simp
    · rw [if_neg hb] at h
      have := depR_get x l (i + 1) d h
      refine ⟨by omega, ?_⟩
      rw [show d - i = (d - (i + 1)) + 1 by omega, List.getElem?_cons_succ]
      exact this.2

theorem dep_get {x : List UInt8} {bs : List (List UInt8)} {d : Nat} (h : depOf x bs = some d) : bs.getD (bs.length - 1 - d) [] = x ∧ d < bs.length := by
  have h1 := (depR_get x bs.reverse 0 d h).2
  rw [Nat.sub_zero] at h1
  have hlt : d < bs.length := by
    have := (List.getElem?_eq_some_iff.1 h1).1
    simpa using this
  rw [List.getElem?_reverse hlt] at h1
  refine ⟨?_, hlt⟩
  rw [List.getD_eq_getElem?_getD, h1]
  rfl

theorem nm_text (bs : List (List UInt8)) (a : List UInt8) (h : isAtomTm a = true) : txN bs (ndH a .nil) (ndA bs a .nil) (ndD bs a) (cv .nil (.parts bs)) = a := by
  have ha := (atom_bytes h).1
  have e : (cv .nil (.parts bs)).len = 0 := rfl
  unfold txN ndH ndA ndD
  rw [if_neg ha, if_neg ha, if_neg ha]
  by_cases ht : a = tTrue ∨ a = tFalse
  · have h1 : hTruth ≠ hName := by decide
    rw [if_pos ht, if_pos ht, if_neg (fun h => h1 h.1), if_pos e]
  · rw [if_neg ht, if_neg ht, if_neg ht]
    unfold nmA
    cases hd : depOf a bs with
    | none => rw [if_neg (fun h => ha h.2), if_pos e]
    | some d =>
      rw [if_pos ⟨rfl, rfl⟩]
      exact (dep_get hd).1

theorem tx_eq : ∀ f : Fo, f.wf →
    (∀ (bs : List (List UInt8)) (h b : List UInt8) (i c : Nat), isTms (some (List.replicate c true)) f = true → txL (cv f (.kids bs h b i)) bs h b i = f.tlist) ∧
    (∀ bs : List (List UInt8), isTms none f = true → 0 < (cv f (.parts bs)).len ∧ spj (hd1 f :: ((if bindsB (hd1 f) then [if bindsB (hd1 f) then hd2 f else []] else []) ++ txL (cv f (.parts bs)) bs (hd1 f) (if bindsB (hd1 f) then hd2 f else []) 0)) = f.texts) ∧
    (∀ (bs : List (List UInt8)) (h : List UInt8) (c : Nat), isTms (some (false :: List.replicate c true)) f = true → (cv f (.name bs h)).len = c ∧ hd1 f :: txL (cv f (.name bs h)) bs h (hd1 f) 0 = f.tlist) := by
  intro f
  induction f with
  | nil => exact fun _ => ⟨fun bs h b i c _ => rfl, fun bs h => (by cases h), fun bs h c hc => (by simp [isTms] at hc)⟩
  | cons a k r ihk ihr =>
    intro hw
    have hk := ihk hw.2.1
    have hr := ihr hw.2.2
    refine ⟨?_, ?_, ?_⟩
    · intro bs h b i c hs
      cases c with
      | zero => simp [isTms] at hs
      | succ c =>
        rw [List.replicate_succ] at hs
        simp only [isTms, Bool.and_eq_true] at hs
        have e1 : txL (cv (.cons a k r) (.kids bs h b i)) bs h b i = txN (insB bs h b i) (ndH a k) (ndA (insB bs h b i) a k) (ndD (insB bs h b i) a) (cv k (.parts (insB bs h b i))) :: txL (cv r (.kids bs h b (i + 1))) bs h b (i + 1) := rfl
        rw [e1, hr.1 bs h b (i + 1) c hs.2]
        show _ :: _ = treeText a k :: r.tlist
        congr 1
        by_cases ha : a = []
        · subst ha
          simp only [if_true] at hs
          have hh := hk.2.1 (insB bs h b i) hs.1
          have hne : ndH [] k ≠ hName := by
            cases k with
            | nil => exact fun e => by cases e
            | cons g _ _ =>
              simp only [ndH, if_true, hd1]
              rintro rfl
              have := hs.1
              simp only [isTms, Bool.and_eq_true] at this
              revert this; simp [shapeOf, hName, hLam, hApp, hPair, hFst, hSnd, hIf, hLet]
          unfold txN
          rw [if_neg (fun e => hne e.1), if_neg (by omega)]
          simp only [ndH, ndA, if_true, treeText]
          rw [hh.2]
        · simp only [if_neg ha] at hs
          obtain rfl := hw.1 ha
          rw [nm_text _ a hs.1]
          simp [treeText, ha]
    · intro bs hs
      simp only [isTms, Bool.and_eq_true] at hs
      have hs0 : shapeOf a ≠ [] := by intro e; rw [e] at hs; cases hs.1
      have hane := (shape_head hs0).1
      have hkn := hw.1 hane
      have eh : hd1 (.cons a k r) = a := rfl
      have et : treeText a k = a := by simp [treeText, hane]
      rw [eh, texts_list, Fo.tlist, et]
      rcases shape_cases a with ⟨e, _⟩ | ⟨hb, e, hk1⟩ | ⟨hb, e, hk1⟩
      · exact absurd e hs0
      · rw [e] at hs
        have h3 := hr.2.2 bs a _ hs.2
        have e1 : cv (.cons a k r) (.parts bs) = cv r (.name bs a) := by simp [cv, hb]
        have e2 : hd2 (.cons a k r) = hd1 r := by cases r <;> rfl
        rw [e1, hb, e2]
        simp only [if_true]
        refine ⟨by omega, ?_⟩
        rw [List.singleton_append, h3.2]
      · rw [e] at hs
        have h3 := hr.1 bs a [] 0 _ hs.2
        have e1 : cv (.cons a k r) (.parts bs) = cv r (.kids bs a [] 0) := by simp [cv, hb]
        rw [e1, hb]
        simp only [Bool.false_eq_true, if_false, List.nil_append]
        refine ⟨?_, by rw [h3]⟩
        rw [cv_kids_len, isTms_len _ _ hs.2]
        simp; omega
    · intro bs h c hs
      simp only [isTms, Bool.and_eq_true] at hs
      have hnb := (name_bytes hs.1).1
      have e1 : cv (.cons a k r) (.name bs h) = cv r (.kids bs h a 0) := rfl
      have et : treeText a k = a := by simp [treeText, hnb]
      rw [e1]
      refine ⟨by rw [cv_kids_len, isTms_len _ _ hs.2]; simp, ?_⟩
      show a :: _ = treeText a k :: r.tlist
      rw [et, show hd1 (.cons a k r) = a from rfl, hr.1 bs h a 0 c hs.2]

/-- what has been read is written as it was -/
theorem tx_term {a : List UInt8} {k : Fo} (bs : List (List UInt8)) (h : isTm a k = true) (hw : a ≠ [] → k = .nil) (hk : k.wf) : txN bs (ndH a k) (ndA bs a k) (ndD bs a) (cv k (.parts bs)) = treeText a k := by
  unfold isTm at h
  by_cases ha : a = []
  · subst ha
    simp only [if_true] at h
    have hh := (tx_eq k hk).2.1 bs h
    have hne : ndH [] k ≠ hName := by
      cases k with
      | nil => exact fun e => by cases e
      | cons g _ _ =>
        simp only [ndH, if_true, hd1]
        rintro rfl
        simp only [isTms, Bool.and_eq_true] at h
        revert h; simp [shapeOf, hName, hLam, hApp, hPair, hFst, hSnd, hIf, hLet]
    unfold txN
    rw [if_neg (fun e => hne e.1), if_neg (by omega)]
    simp only [ndH, ndA, if_true, treeText]
    rw [hh.2]
  · simp only [if_neg ha] at h
    obtain rfl := hw ha
    rw [nm_text bs a h]
    simp [treeText, ha]
end Go.Proofs.YthbidlcfahdfhaaDoor
