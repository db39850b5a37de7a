/- Free names: in the program's terms, and in trees. -/
import Derived.Test.YthbidlcfahdfhaaDoorTus
namespace Go.Proofs.YthbidlcfahdfhaaDoor
open Go.RowKit Go.ChangeMaps

/-- free names in the order in which each one stands first, behind those that are found -/
def frU : Ts → List (List UInt8) → List (List UInt8)
  | .nil, l => l
  | .cons h a _ k r, l => frU r (if h = hName ∧ a ≠ [] ∧ a ∉ l then l ++ [a] else frU k l)

def frN (h a : List UInt8) (k : Ts) (l : List (List UInt8)) : List (List UInt8) := if h = hName ∧ a ≠ [] ∧ a ∉ l then l ++ [a] else frU k l

inductive Fm where
  | kids (bd : List (List UInt8)) (h b : List UInt8) (i : Nat)
  | top (bd : List (List UInt8))

/-- what is bound in a part -/
def inB (bd : List (List UInt8)) (h b : List UInt8) (i : Nat) : List (List UInt8) := if bndB h b i = [] then bd else bd ++ [bndB h b i]

/-- free names as the model finds them -/
def fsU : Fo → Fm → List (List UInt8) → List (List UInt8)
  | .nil, _, l => l
  | .cons h _ r, .top bd, l => fsU r (.kids bd h (hd1 r) 1) l
  | .cons a k r, .kids bd h b i, l => fsU r (.kids bd h b (i + 1)) (if innB h i = true then (if a = [] then fsU k (.top (inB bd h b i)) l else if isName a = false ∨ a ∈ inB bd h b i ∨ a ∈ l then l else l ++ [a]) else l)

def fsT (a : List UInt8) (k : Fo) (bd l : List (List UInt8)) : List (List UInt8) := if a = [] then fsU k (.top bd) l else if isName a = false ∨ a ∈ bd ∨ a ∈ l then l else l ++ [a]

theorem fr_atom (bs : List (List UInt8)) (a : List UInt8) (l : List (List UInt8)) (h : isAtomTm a = true) : frN (ndH a .nil) (ndA bs a .nil) (cv .nil (.parts bs)) l = if isName a = false ∨ a ∈ bs ∨ a ∈ l then l else l ++ [a] := by
  have e : frU (cv .nil (.parts bs)) l = l := rfl
  have ha := (atom_bytes h).1
  unfold frN ndH ndA
  rw [e, if_neg ha, if_neg ha]
  by_cases ht : a = tTrue ∨ a = tFalse
  · have h1 : hTruth ≠ hName := by decide
    have h2 : isName a = false := by rcases ht with rfl | rfl <;> rfl
    rw [if_pos ht, if_neg (fun h => h1 h.1), if_pos (.inl h2)]
  · have hn : isName a = true := by
      simp only [not_or] at ht
      simpa [isAtomTm, ht.1, ht.2] using h
    rw [if_neg ht, if_neg ht, nmA_eq]
    by_cases hm : a ∈ bs
    · rw [if_pos hm, if_neg (fun h => h.2.1 rfl), if_pos (.inr (.inl hm))]
    · rw [if_neg hm]
      by_cases hl : a ∈ l
      · rw [if_neg (fun h => h.2.2 hl), if_pos (.inr (.inr hl))]
      · rw [if_pos ⟨rfl, ha, hl⟩, if_neg]
        rintro (h | h | h)
        · rw [hn] at h; cases h
        · exact hm h
        · exact hl h

theorem ins_in (bs : List (List UInt8)) (h b : List UInt8) (i : Nat) (hb : bindsB h = true → b ≠ []) (b' : List UInt8) (hbb : bindsB h = true → b' = b) (hi : i < kidsOf h) : inB bs h b' (i + if bindsB h then 2 else 1) = insB bs h b i := by
  unfold inB insB
  by_cases hbi : bindsB h = true
  · rw [hbi]
    simp only [if_true]
    rw [bnd_ins h b' i hbi hi, hbb hbi]
    by_cases hl : i + 1 = kidsOf h
    · rw [if_pos hl, if_neg (hb hbi), if_pos ⟨trivial, hl⟩]
    · rw [if_neg hl, if_pos rfl, if_neg (fun e => hl e.2)]
  · have hbf : bindsB h = false := Bool.eq_false_iff.2 hbi
    rw [bnd_none h b' _ hbf, if_pos rfl, if_neg (fun e => hbi e.1)]

theorem fr_eq : ∀ f : Fo, f.wf →
    (∀ (bs : List (List UInt8)) (h b b' : List UInt8) (i c : Nat) (l : List (List UInt8)), (bindsB h = true → b ≠ []) → (bindsB h = true → b' = b) → c + i = kidsOf h → isTms (some (List.replicate c true)) f = true →
      frU (cv f (.kids bs h b i)) l = fsU f (.kids bs h b' (i + if bindsB h then 2 else 1)) l) ∧
    (∀ (bs l : List (List UInt8)), isTms none f = true → frU (cv f (.parts bs)) l = fsU f (.top bs) l) ∧
    (∀ (bs : List (List UInt8)) (h : List UInt8) (l : List (List UInt8)), bindsB h = true → shapeOf h = false :: List.replicate (kidsOf h) true → isTms (some (false :: List.replicate (kidsOf h) true)) f = true → frU (cv f (.name bs h)) l = fsU f (.kids bs h (hd1 f) 1) l) := by
  intro f
  induction f with
  | nil => exact fun _ => ⟨fun bs h b b' i c l _ _ _ _ => rfl, fun bs l h => (by cases h), fun bs h l _ _ hc => (by simp [isTms] at hc)⟩
  | cons a k r ihk ihr =>
    intro hw
    have hk := ihk hw.2.1
    have hr := ihr hw.2.2
    refine ⟨?_, ?_, ?_⟩
    · intro bs h b b' i c l hb hbb hc hs
      cases c with
      | zero => simp [isTms] at hs
      | succ c =>
        rw [List.replicate_succ] at hs
        simp only [isTms, Bool.and_eq_true] at hs
        have hin := inn_kid h i (by omega)
        have hib := ins_in bs h b i hb b' hbb (by omega)
        have hnode : frN (ndH a k) (ndA (insB bs h b i) a k) (cv k (.parts (insB bs h b i))) l = fsT a k (insB bs h b i) l := by
          unfold fsT
          by_cases ha : a = []
          · subst ha
            simp only [if_true] at hs ⊢
            have hh := hk.2.1 (insB bs h b i) l hs.1
            have hne : ndH [] k ≠ hName := by
              cases k with
              | nil => exact fun e => by cases e
              | cons g _ _ =>
                simp only [ndH, if_true, hd1]
                rintro rfl
                have := hs.1
                simp only [isTms, Bool.and_eq_true] at this
                revert this; simp [shapeOf, hName, hLam, hApp, hPair, hFst, hSnd, hIf, hLet]
            unfold frN
            rw [if_neg (fun e => hne e.1)]
            exact hh
          · simp only [if_neg ha] at hs ⊢
            obtain rfl := hw.1 ha
            exact fr_atom _ a l hs.1
        have e1 : frU (cv (.cons a k r) (.kids bs h b i)) l = frU (cv r (.kids bs h b (i + 1))) (frN (ndH a k) (ndA (insB bs h b i) a k) (cv k (.parts (insB bs h b i))) l) := rfl
        have e2 : fsU (.cons a k r) (.kids bs h b' (i + if bindsB h then 2 else 1)) l = fsU r (.kids bs h b' (i + 1 + if bindsB h then 2 else 1)) (fsT a k (insB bs h b i) l) := by
          simp only [fsU, hin, if_true, hib]
          rw [show (i + if bindsB h then 2 else 1) + 1 = i + 1 + if bindsB h then 2 else 1 by omega]
          rfl
        rw [e1, e2, hnode]
        exact hr.1 bs h b b' (i + 1) c _ hb hbb (by omega) hs.2
    · intro bs l hs
      simp only [isTms, Bool.and_eq_true] at hs
      have hs0 : shapeOf a ≠ [] := by intro e; rw [e] at hs; cases hs.1
      rcases shape_cases a with ⟨e, _⟩ | ⟨hb, e, _⟩ | ⟨hb, e, _⟩
      · exact absurd e hs0
      · rw [e] at hs
        have e1 : cv (.cons a k r) (.parts bs) = cv r (.name bs a) := by simp [cv, hb]
        have e2 : fsU (.cons a k r) (.top bs) l = fsU r (.kids bs a (hd1 r) 1) l := rfl
        rw [e1, e2]
        exact hr.2.2 bs a l hb e hs.2
      · rw [e] at hs
        have e1 : cv (.cons a k r) (.parts bs) = cv r (.kids bs a [] 0) := by simp [cv, hb]
        have e2 : fsU (.cons a k r) (.top bs) l = fsU r (.kids bs a (hd1 r) 1) l := rfl
        rw [e1, e2]
        have := hr.1 bs a [] (hd1 r) 0 (kidsOf a) l (fun h => by rw [hb] at h; cases h) (fun h => by rw [hb] at h; cases h) (by omega) hs.2
        simpa [hb] using this
    · intro bs h l hb he hs
      simp only [isTms, Bool.and_eq_true] at hs
      have e3 : innB h 1 = false := by unfold innB; rw [he]; rfl
      have e1 : cv (.cons a k r) (.name bs h) = cv r (.kids bs h a 0) := rfl
      have e2 : fsU (.cons a k r) (.kids bs h (hd1 (.cons a k r)) 1) l = fsU r (.kids bs h a 2) l := by simp [fsU, e3, hd1]
      rw [e1, e2]
      have := hr.1 bs h a a 0 (kidsOf h) l (fun _ => (name_bytes hs.1).1) (fun _ => rfl) (by omega) hs.2
      simpa [hb] using this

/-- the free names of a whole term -/
theorem fr_term {a : List UInt8} {k : Fo} (l : List (List UInt8)) (h : isTm a k = true) (hw : a ≠ [] → k = .nil) (hk : k.wf) : frN (ndH a k) (ndA [] a k) (cv k (.parts [])) l = fsT a k [] l := by
  unfold isTm at h
  unfold fsT
  by_cases ha : a = []
  · subst ha
    simp only [if_true] at h ⊢
    have hh := (fr_eq k hk).2.1 [] l h
    have hne : ndH [] k ≠ hName := by
      cases k with
      | nil => exact fun e => by cases e
      | cons g _ _ =>
        simp only [ndH, if_true, hd1]
        rintro rfl
        simp only [isTms, Bool.and_eq_true] at h
        revert h; simp [shapeOf, hName, hLam, hApp, hPair, hFst, hSnd, hIf, hLet]
    unfold frN
    rw [if_neg (fun e => hne e.1)]
    exact hh
  · simp only [if_neg ha] at h ⊢
    obtain rfl := hw ha
    exact fr_atom [] a l h

/-- no more names than parts -/
theorem fr_len : ∀ (f : Ts) (l : List (List UInt8)), (frU f l).length ≤ l.length + f.size
  | .nil, l => Nat.le_refl _
  | .cons h a d k r, l => by
    have h1 := fr_len k l
    have h2 := fr_len r (if h = hName ∧ a ≠ [] ∧ a ∉ l then l ++ [a] else frU k l)
    simp only [frU, Ts.size]
    by_cases hc : h = hName ∧ a ≠ [] ∧ a ∉ l
    · rw [if_pos hc] at h2 ⊢
      simp only [List.length_append, List.length_singleton] at h2
      split <;> omega
    · rw [if_neg hc] at h2 ⊢
      split <;> omega

theorem fr_nlen (h a : List UInt8) (k : Ts) (l : List (List UInt8)) : (frN h a k l).length ≤ l.length + k.size + 1 := by
  have := fr_len k l
  unfold frN
  split <;> simp <;> omega

theorem fs_len : ∀ (f : Fo) (m : Fm) (l : List (List UInt8)), (fsU f m l).length ≤ l.length + f.size
  | .nil, _, l => Nat.le_refl _
  | .cons h k r, .top bd, l => by
    have := fs_len r (.kids bd h (hd1 r) 1) l
    simp only [fsU, Fo.size]
    omega
  | .cons a k r, .kids bd h b i, l => by
    have h1 := fs_len k (.top (inB bd h b i)) l
    simp only [fsU, Fo.size]
    refine Nat.le_trans (fs_len r (.kids bd h b (i + 1)) _) ?_
    split
    · split
      · omega
      · split <;> simp <;> omega
    · omega
end Go.Proofs.YthbidlcfahdfhaaDoor
