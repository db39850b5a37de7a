/- Free names: in the program's terms, and in trees. · Free names of the program's terms. · Texts of the program's terms: what has been read is written as it was. · The program writes terms. -/
import Derived.Test.YtbcgpcnbfaipbaaDoorTuse
import Derived.Test.YtbcgpcnbfaipbaaDoorHas
import Derived.Test.YtbcgpcnbfaipbaaDoorTimpl
import Derived.Deep.RegionHeld3
/- Free names: in the program's terms, and in trees. -/
namespace Go.Proofs.YtbcgpcnbfaipbaaDoor
open Go.RowKit Go.ChangeMaps

/-- free names in the order in which each one stands first, behind those that are found -/
def frU : Ts → List (List UInt8) → List (List UInt8)
  | .nil, l => l
  | .cons h a _ k r, l => frU r (if h = hName ∧ a ≠ [] ∧ a ∉ l then l ++ [a] else frU k l)

def frN (h a : List UInt8) (k : Ts) (l : List (List UInt8)) : List (List UInt8) := if h = hName ∧ a ≠ [] ∧ a ∉ l then l ++ [a] else frU k l

inductive Fm where
  | kids (bd : List (List UInt8)) (h b : List UInt8) (i : Nat)
  | top (bd : List (List UInt8))

/-- what is bound in a part -/
def inB (bd : List (List UInt8)) (h b : List UInt8) (i : Nat) : List (List UInt8) := if bndB h b i = [] then bd else bd ++ [bndB h b i]

/-- free names as the model finds them -/
def fsU : Fo → Fm → List (List UInt8) → List (List UInt8)
  | .nil, _, l => l
  | .cons h _ r, .top bd, l => fsU r (.kids bd h (hd1 r) 1) l
  | .cons a k r, .kids bd h b i, l => fsU r (.kids bd h b (i + 1)) (if innB h i = true then (if a = [] then fsU k (.top (inB bd h b i)) l else if isName a = false ∨ a ∈ inB bd h b i ∨ a ∈ l then l else l ++ [a]) else l)

def fsT (a : List UInt8) (k : Fo) (bd l : List (List UInt8)) : List (List UInt8) := if a = [] then fsU k (.top bd) l else if isName a = false ∨ a ∈ bd ∨ a ∈ l then l else l ++ [a]

theorem fr_atom (bs : List (List UInt8)) (a : List UInt8) (l : List (List UInt8)) (h : isAtomTm a = true) : frN (ndH a .nil) (ndA bs a .nil) (cv .nil (.parts bs)) l = if isName a = false ∨ a ∈ bs ∨ a ∈ l then l else l ++ [a] := by
  have e : frU (cv .nil (.parts bs)) l = l := rfl
  have ha := (atom_bytes h).1
  unfold frN ndH ndA
  rw [e, if_neg ha, if_neg ha]
  by_cases ht : a = tTrue ∨ a = tFalse
  · have h1 : hTruth ≠ hName := by decide
    have h2 : isName a = false := by rcases ht with rfl | rfl <;> rfl
    rw [if_pos ht, if_neg (fun h => h1 h.1), if_pos (.inl h2)]
  · have hn : isName a = true := by
      simp only [not_or] at ht
      simpa [isAtomTm, ht.1, ht.2] using h
    rw [if_neg ht, if_neg ht, nmA_eq]
    by_cases hm : a ∈ bs
    · rw [if_pos hm, if_neg (fun h => h.2.1 rfl), if_pos (.inr (.inl hm))]
    · rw [if_neg hm]
      by_cases hl : a ∈ l
      · rw [if_neg (fun h => h.2.2 hl), if_pos (.inr (.inr hl))]
      · rw [if_pos ⟨rfl, ha, hl⟩, if_neg]
        rintro (h | h | h)
        · rw [hn] at h; cases h
        · exact hm h
        · exact hl h

theorem ins_in (bs : List (List UInt8)) (h b : List UInt8) (i : Nat) (hb : bindsB h = true → b ≠ []) (b' : List UInt8) (hbb : bindsB h = true → b' = b) (hi : i < kidsOf h) : inB bs h b' (i + if bindsB h then 2 else 1) = insB bs h b i := by
  unfold inB insB
  by_cases hbi : bindsB h = true
  · rw [hbi]
    simp only [if_true]
    rw [bnd_ins h b' i hbi hi, hbb hbi]
    by_cases hl : i + 1 = kidsOf h
    · rw [if_pos hl, if_neg (hb hbi), if_pos ⟨trivial, hl⟩]
    · rw [if_neg hl, if_pos rfl, if_neg (fun e => hl e.2)]
  · have hbf : bindsB h = false := Bool.eq_false_iff.2 hbi
    rw [bnd_none h b' _ hbf, if_pos rfl, if_neg (fun e => hbi e.1)]

theorem fr_eq : ∀ f : Fo, f.wf →
    (∀ (bs : List (List UInt8)) (h b b' : List UInt8) (i c : Nat) (l : List (List UInt8)), (bindsB h = true → b ≠ []) → (bindsB h = true → b' = b) → c + i = kidsOf h → isTms (some (List.replicate c true)) f = true →
      frU (cv f (.kids bs h b i)) l = fsU f (.kids bs h b' (i + if bindsB h then 2 else 1)) l) ∧
    (∀ (bs l : List (List UInt8)), isTms none f = true → frU (cv f (.parts bs)) l = fsU f (.top bs) l) ∧
    (∀ (bs : List (List UInt8)) (h : List UInt8) (l : List (List UInt8)), bindsB h = true → shapeOf h = false :: List.replicate (kidsOf h) true → isTms (some (false :: List.replicate (kidsOf h) true)) f = true → frU (cv f (.name bs h)) l = fsU f (.kids bs h (hd1 f) 1) l) := by
  intro f
  induction f with
  | nil => exact fun _ => ⟨fun bs h b b' i c l _ _ _ _ => rfl, fun bs l h => (by cases h), fun bs h l _ _ hc => (by simp [isTms] at hc)⟩
  | cons a k r ihk ihr =>
    intro hw
    have hk := ihk hw.2.1
    have hr := ihr hw.2.2
    refine ⟨?_, ?_, ?_⟩
    · intro bs h b b' i c l hb hbb hc hs
      cases c with
      | zero => simp [isTms] at hs
      | succ c =>
        rw [List.replicate_succ] at hs
        simp only [isTms, Bool.and_eq_true] at hs
        have hin := inn_kid h i (by omega)
        have hib := ins_in bs h b i hb b' hbb (by omega)
        have hnode : frN (ndH a k) (ndA (insB bs h b i) a k) (cv k (.parts (insB bs h b i))) l = fsT a k (insB bs h b i) l := by
          unfold fsT
          by_cases ha : a = []
          · subst ha
            simp only [if_true] at hs ⊢
            have hh := hk.2.1 (insB bs h b i) l hs.1
            have hne : ndH [] k ≠ hName := by
              cases k with
              | nil => exact fun e => by cases e
              | cons g _ _ =>
                simp only [ndH, if_true, hd1]
                rintro rfl
                have := hs.1
                simp only [isTms, Bool.and_eq_true] at this
                revert this; simp [shapeOf, hName, hLam, hApp, hPair, hFst, hSnd, hIf, hLet]
            unfold frN
            rw [if_neg (fun e => hne e.1)]
            exact hh
          · simp only [if_neg ha] at hs ⊢
            obtain rfl := hw.1 ha
            exact fr_atom _ a l hs.1
        have e1 : frU (cv (.cons a k r) (.kids bs h b i)) l = frU (cv r (.kids bs h b (i + 1))) (frN (ndH a k) (ndA (insB bs h b i) a k) (cv k (.parts (insB bs h b i))) l) := rfl
        have e2 : fsU (.cons a k r) (.kids bs h b' (i + if bindsB h then 2 else 1)) l = fsU r (.kids bs h b' (i + 1 + if bindsB h then 2 else 1)) (fsT a k (insB bs h b i) l) := by
          simp only [fsU, hin, if_true, hib]
          rw [show (i + if bindsB h then 2 else 1) + 1 = i + 1 + if bindsB h then 2 else 1 by omega]
          rfl
        rw [e1, e2, hnode]
        exact hr.1 bs h b b' (i + 1) c _ hb hbb (by omega) hs.2
    · intro bs l hs
      simp only [isTms, Bool.and_eq_true] at hs
      have hs0 : shapeOf a ≠ [] := by intro e; rw [e] at hs; cases hs.1
      rcases shape_cases a with ⟨e, _⟩ | ⟨hb, e, _⟩ | ⟨hb, e, _⟩
      · exact absurd e hs0
      · rw [e] at hs
        have e1 : cv (.cons a k r) (.parts bs) = cv r (.name bs a) := by simp [cv, hb]
        have e2 : fsU (.cons a k r) (.top bs) l = fsU r (.kids bs a (hd1 r) 1) l := rfl
        rw [e1, e2]
        exact hr.2.2 bs a l hb e hs.2
      · rw [e] at hs
        have e1 : cv (.cons a k r) (.parts bs) = cv r (.kids bs a [] 0) := by simp [cv, hb]
        have e2 : fsU (.cons a k r) (.top bs) l = fsU r (.kids bs a (hd1 r) 1) l := rfl
        rw [e1, e2]
        have := hr.1 bs a [] (hd1 r) 0 (kidsOf a) l (fun h => by rw [hb] at h; cases h) (fun h => by rw [hb] at h; cases h) (by omega) hs.2
        simpa [hb] using this
    · intro bs h l hb he hs
      simp only [isTms, Bool.and_eq_true] at hs
      have e3 : innB h 1 = false := by unfold innB; rw [he]; rfl
      have e1 : cv (.cons a k r) (.name bs h) = cv r (.kids bs h a 0) := rfl
      have e2 : fsU (.cons a k r) (.kids bs h (hd1 (.cons a k r)) 1) l = fsU r (.kids bs h a 2) l := by simp [fsU, e3, hd1]
      rw [e1, e2]
      have := hr.1 bs h a a 0 (kidsOf h) l (fun _ => (name_bytes hs.1).1) (fun _ => rfl) (by omega) hs.2
      simpa [hb] using this

/-- the free names of a whole term -/
theorem fr_term {a : List UInt8} {k : Fo} (l : List (List UInt8)) (h : isTm a k = true) (hw : a ≠ [] → k = .nil) (hk : k.wf) : frN (ndH a k) (ndA [] a k) (cv k (.parts [])) l = fsT a k [] l := by
  unfold isTm at h
  unfold fsT
  by_cases ha : a = []
  · subst ha
    simp only [if_true] at h ⊢
    have hh := (fr_eq k hk).2.1 [] l h
    have hne : ndH [] k ≠ hName := by
      cases k with
      | nil => exact fun e => by cases e
      | cons g _ _ =>
        simp only [ndH, if_true, hd1]
        rintro rfl
        simp only [isTms, Bool.and_eq_true] at h
        revert h; simp [shapeOf, hName, hLam, hApp, hPair, hFst, hSnd, hIf, hLet]
    unfold frN
    rw [if_neg (fun e => hne e.1)]
    exact hh
  · simp only [if_neg ha] at h ⊢
    obtain rfl := hw ha
    exact fr_atom [] a l h

/-- no more names than parts -/
theorem fr_len : ∀ (f : Ts) (l : List (List UInt8)), (frU f l).length ≤ l.length + f.size
  | .nil, l => Nat.le_refl _
  | .cons h a d k r, l => by
    have h1 := fr_len k l
    have h2 := fr_len r (if h = hName ∧ a ≠ [] ∧ a ∉ l then l ++ [a] else frU k l)
    simp only [frU, Ts.size]
    by_cases hc : h = hName ∧ a ≠ [] ∧ a ∉ l
    · rw [if_pos hc] at h2 ⊢
      simp only [List.length_append, List.length_singleton] at h2
      split <;> omega
    · rw [if_neg hc] at h2 ⊢
      split <;> omega

theorem fr_nlen (h a : List UInt8) (k : Ts) (l : List (List UInt8)) : (frN h a k l).length ≤ l.length + k.size + 1 := by
  have := fr_len k l
  unfold frN
  split <;> simp <;> omega

theorem fs_len : ∀ (f : Fo) (m : Fm) (l : List (List UInt8)), (fsU f m l).length ≤ l.length + f.size
  | .nil, _, l => Nat.le_refl _
  | .cons h k r, .top bd, l => by
    have := fs_len r (.kids bd h (hd1 r) 1) l
    simp only [fsU, Fo.size]
    omega
  | .cons a k r, .kids bd h b i, l => by
    have h1 := fs_len k (.top (inB bd h b i)) l
    simp only [fsU, Fo.size]
    refine Nat.le_trans (fs_len r (.kids bd h b (i + 1)) _) ?_
    split
    · split
      · omega
      · split <;> simp <;> omega
    · omega
end Go.Proofs.YtbcgpcnbfaipbaaDoor

/- Free names of the program's terms. -/
namespace Go.Proofs.YtbcgpcnbfaipbaaDoor
open Go.RowKit Go.ChangeMaps

/-- texts in a row of the call's own; of what lies below B nothing turns; the row is the old one or new -/
def AddL (B : Nat) (xs : List (List UInt8)) (w : World) (v : Value) (e : Ending) (w' : World) : Prop :=
  ∃ A c, e = .returned (.slice A xs.length c) ∧ Fr (fun b => v.ownBlock = some b) w w' ∧ w'.ownsRow B 9 1 (.slice A xs.length c) xs.length (xs.map S) ∧
    ((Value.slice A xs.length c).ownBlock = v.ownBlock ∨ ∀ b, (Value.slice A xs.length c).ownBlock = some b → w.heap.size ≤ b)

/-- one text more, behind a world that has only laid blocks -/
theorem AddL.snoc {B : Nat} {w wa w2 : World} {l : List (List UInt8)} {x : List UInt8} {V : Option Addr} {vc : Nat} {v' : Value} (hfa : Fr (fun b => (Value.slice V l.length vc).ownBlock = some b) w wa) (h1 : w2.ownsRow B 9 1 v' (l.length + 1) (l.map S ++ [S x])) (h2 : wa.grownBy w2 (Value.slice V l.length vc).ownBlock)
    (h3 : v'.ownBlock = (Value.slice V l.length vc).ownBlock ∨ v'.ownBlock = some wa.heap.size) : AddL B (l ++ [x]) w (.slice V l.length vc) (.returned v') w2 := by
  obtain ⟨A', c', rfl⟩ := own_form h1
  have e1 : l.map S ++ [S x] = (l ++ [x]).map S := by simp
  have e2 : (l ++ [x]).length = l.length + 1 := by simp
  rw [e1] at h1
  refine ⟨A', c', by rw [e2], ?_, by rw [e2]; exact h1, ?_⟩
  · exact hfa.grown h2 (fun k hk => .inl hk)
  · rw [e2]
    rcases h3 with h3 | h3
    · exact .inl h3
    · refine .inr (fun b hb => ?_)
      have hb' : some wa.heap.size = some b := h3.symm.trans hb
      injection hb' with hb'
      rw [← hb']; exact hfa.size

theorem frN_not {h a : List UInt8} {k : Ts} {l : List (List UInt8)} (hq : freeB h a = false ∨ a ∈ l) : frN h a k l = frU k l := by
  unfold frN
  rw [if_neg]
  rintro ⟨h1, h2, h3⟩
  rcases hq with hq | hq
  · simp [freeB, h1, h2] at hq
  · exact h3 hq

theorem frN_yes {h a : List UInt8} {k : Ts} {l : List (List UInt8)} (hq : freeB h a = true) (hm : a ∉ l) : frN h a k l = l ++ [a] := by
  unfold frN
  rw [if_pos]
  simp [freeB] at hq
  exact ⟨hq.1, hq.2, hm⟩

theorem fr_step {f : Ts} {j : Nat} {h a : List UInt8} {d : Nat} {k : Ts} (e : f.nth j = some (h, a, d, k)) (l : List (List UInt8)) : frU (f.from_ j) l = frU (f.from_ (j + 1)) (frN h a k l) := by
  rw [Ts.from_nth f j h a d k e]
  rfl

end Go.Proofs.YtbcgpcnbfaipbaaDoor

/- Texts of the program's terms: what has been read is written as it was. -/
namespace Go.Proofs.YtbcgpcnbfaipbaaDoor
open Go.RowKit Go.ChangeMaps

/-- texts with a space between -/
def spj : List (List UInt8) → List UInt8
  | [] => []
  | x :: xs => x ++ (xs.map (32 :: ·)).flatten

/-- the texts of terms that are parts of a term with this head and this name, from a place on -/
def txL : Ts → List (List UInt8) → List UInt8 → List UInt8 → Nat → List (List UInt8)
  | .nil, _, _, _, _ => []
  | .cons h a d k r, bs, ph, pa, i =>
    (if h = hName ∧ a = [] then (insB bs ph pa i).getD ((insB bs ph pa i).length - 1 - d) []
      else if k.len = 0 then a else 40 :: (spj (h :: ((if bindsB h then [a] else []) ++ txL k (insB bs ph pa i) h a 0)) ++ [41])) :: txL r bs ph pa (i + 1)

/-- the text of a term -/
def txN (bs : List (List UInt8)) (h a : List UInt8) (d : Nat) (k : Ts) : List UInt8 :=
  if h = hName ∧ a = [] then bs.getD (bs.length - 1 - d) [] else if k.len = 0 then a else 40 :: (spj (h :: ((if bindsB h then [a] else []) ++ txL k bs h a 0)) ++ [41])

def Fo.tlist : Fo → List (List UInt8)
  | .nil => []
  | .cons a k r => treeText a k :: r.tlist

theorem stexts_list : ∀ f : Fo, f.stexts = (f.tlist.map (32 :: ·)).flatten
  | .nil => rfl
  | .cons a k r => by simp [Fo.stexts, Fo.tlist, stexts_list r]

theorem texts_list (a : List UInt8) (k r : Fo) : (Fo.cons a k r).texts = spj (Fo.cons a k r).tlist := by
  rw [Fo.texts_eq, stexts_list]
  rfl

theorem depR_get (x : List UInt8) : ∀ (l : List (List UInt8)) (i d : Nat), depR x l i = some d → i ≤ d ∧ l[d - i]? = some x
  | [], i, d, h => by cases h
  | b :: l, i, d, h => by
    simp only [depR] at h
    by_cases hb : b = x
    · rw [if_pos hb] at h
      injection h with h
      subst h; subst hb
      simp
    · rw [if_neg hb] at h
      have := depR_get x l (i + 1) d h
      refine ⟨by omega, ?_⟩
      rw [show d - i = (d - (i + 1)) + 1 by omega, List.getElem?_cons_succ]
      exact this.2

theorem dep_get {x : List UInt8} {bs : List (List UInt8)} {d : Nat} (h : depOf x bs = some d) : bs.getD (bs.length - 1 - d) [] = x ∧ d < bs.length := by
  have h1 := (depR_get x bs.reverse 0 d h).2
  rw [Nat.sub_zero] at h1
  have hlt : d < bs.length := by
    have := (List.getElem?_eq_some_iff.1 h1).1
    simpa using this
  rw [List.getElem?_reverse hlt] at h1
  refine ⟨?_, hlt⟩
  rw [List.getD_eq_getElem?_getD, h1]
  rfl

theorem nm_text (bs : List (List UInt8)) (a : List UInt8) (h : isAtomTm a = true) : txN bs (ndH a .nil) (ndA bs a .nil) (ndD bs a) (cv .nil (.parts bs)) = a := by
  have ha := (atom_bytes h).1
  have e : (cv .nil (.parts bs)).len = 0 := rfl
  unfold txN ndH ndA ndD
  rw [if_neg ha, if_neg ha, if_neg ha]
  by_cases ht : a = tTrue ∨ a = tFalse
  · have h1 : hTruth ≠ hName := by decide
    rw [if_pos ht, if_pos ht, if_neg (fun h => h1 h.1), if_pos e]
  · rw [if_neg ht, if_neg ht, if_neg ht]
    unfold nmA
    cases hd : depOf a bs with
    | none => rw [if_neg (fun h => ha h.2), if_pos e]
    | some d =>
      rw [if_pos ⟨rfl, rfl⟩]
      exact (dep_get hd).1

theorem tx_eq : ∀ f : Fo, f.wf →
    (∀ (bs : List (List UInt8)) (h b : List UInt8) (i c : Nat), isTms (some (List.replicate c true)) f = true → txL (cv f (.kids bs h b i)) bs h b i = f.tlist) ∧
    (∀ bs : List (List UInt8), isTms none f = true → 0 < (cv f (.parts bs)).len ∧ spj (hd1 f :: ((if bindsB (hd1 f) then [if bindsB (hd1 f) then hd2 f else []] else []) ++ txL (cv f (.parts bs)) bs (hd1 f) (if bindsB (hd1 f) then hd2 f else []) 0)) = f.texts) ∧
    (∀ (bs : List (List UInt8)) (h : List UInt8) (c : Nat), isTms (some (false :: List.replicate c true)) f = true → (cv f (.name bs h)).len = c ∧ hd1 f :: txL (cv f (.name bs h)) bs h (hd1 f) 0 = f.tlist) := by
  intro f
  induction f with
  | nil => exact fun _ => ⟨fun bs h b i c _ => rfl, fun bs h => (by cases h), fun bs h c hc => (by simp [isTms] at hc)⟩
  | cons a k r ihk ihr =>
    intro hw
    have hk := ihk hw.2.1
    have hr := ihr hw.2.2
    refine ⟨?_, ?_, ?_⟩
    · intro bs h b i c hs
      cases c with
      | zero => simp [isTms] at hs
      | succ c =>
        rw [List.replicate_succ] at hs
        simp only [isTms, Bool.and_eq_true] at hs
        have e1 : txL (cv (.cons a k r) (.kids bs h b i)) bs h b i = txN (insB bs h b i) (ndH a k) (ndA (insB bs h b i) a k) (ndD (insB bs h b i) a) (cv k (.parts (insB bs h b i))) :: txL (cv r (.kids bs h b (i + 1))) bs h b (i + 1) := rfl
        rw [e1, hr.1 bs h b (i + 1) c hs.2]
        show _ :: _ = treeText a k :: r.tlist
        congr 1
        by_cases ha : a = []
        · subst ha
          simp only [if_true] at hs
          have hh := hk.2.1 (insB bs h b i) hs.1
          have hne : ndH [] k ≠ hName := by
            cases k with
            | nil => exact fun e => by cases e
            | cons g _ _ =>
              simp only [ndH, if_true, hd1]
              rintro rfl
              have := hs.1
              simp only [isTms, Bool.and_eq_true] at this
              revert this; simp [shapeOf, hName, hLam, hApp, hPair, hFst, hSnd, hIf, hLet]
          unfold txN
          rw [if_neg (fun e => hne e.1), if_neg (by omega)]
          simp only [ndH, ndA, if_true, treeText]
          rw [hh.2]
        · simp only [if_neg ha] at hs
          obtain rfl := hw.1 ha
          rw [nm_text _ a hs.1]
          simp [treeText, ha]
    · intro bs hs
      simp only [isTms, Bool.and_eq_true] at hs
      have hs0 : shapeOf a ≠ [] := by intro e; rw [e] at hs; cases hs.1
      have hane := (shape_head hs0).1
      have hkn := hw.1 hane
      have eh : hd1 (.cons a k r) = a := rfl
      have et : treeText a k = a := by simp [treeText, hane]
      rw [eh, texts_list, Fo.tlist, et]
      rcases shape_cases a with ⟨e, _⟩ | ⟨hb, e, hk1⟩ | ⟨hb, e, hk1⟩
      · exact absurd e hs0
      · rw [e] at hs
        have h3 := hr.2.2 bs a _ hs.2
        have e1 : cv (.cons a k r) (.parts bs) = cv r (.name bs a) := by simp [cv, hb]
        have e2 : hd2 (.cons a k r) = hd1 r := by cases r <;> rfl
        rw [e1, hb, e2]
        simp only [if_true]
        refine ⟨by omega, ?_⟩
        rw [List.singleton_append, h3.2]
      · rw [e] at hs
        have h3 := hr.1 bs a [] 0 _ hs.2
        have e1 : cv (.cons a k r) (.parts bs) = cv r (.kids bs a [] 0) := by simp [cv, hb]
        rw [e1, hb]
        simp only [Bool.false_eq_true, if_false, List.nil_append]
        refine ⟨?_, by rw [h3]⟩
        rw [cv_kids_len, isTms_len _ _ hs.2]
        simp; omega
    · intro bs h c hs
      simp only [isTms, Bool.and_eq_true] at hs
      have hnb := (name_bytes hs.1).1
      have e1 : cv (.cons a k r) (.name bs h) = cv r (.kids bs h a 0) := rfl
      have et : treeText a k = a := by simp [treeText, hnb]
      rw [e1]
      refine ⟨by rw [cv_kids_len, isTms_len _ _ hs.2]; simp, ?_⟩
      show a :: _ = treeText a k :: r.tlist
      rw [et, show hd1 (.cons a k r) = a from rfl, hr.1 bs h a 0 c hs.2]

/-- what has been read is written as it was -/
theorem tx_term {a : List UInt8} {k : Fo} (bs : List (List UInt8)) (h : isTm a k = true) (hw : a ≠ [] → k = .nil) (hk : k.wf) : txN bs (ndH a k) (ndA bs a k) (ndD bs a) (cv k (.parts bs)) = treeText a k := by
  unfold isTm at h
  by_cases ha : a = []
  · subst ha
    simp only [if_true] at h
    have hh := (tx_eq k hk).2.1 bs h
    have hne : ndH [] k ≠ hName := by
      cases k with
      | nil => exact fun e => by cases e
      | cons g _ _ =>
        simp only [ndH, if_true, hd1]
        rintro rfl
        simp only [isTms, Bool.and_eq_true] at h
        revert h; simp [shapeOf, hName, hLam, hApp, hPair, hFst, hSnd, hIf, hLet]
    unfold txN
    rw [if_neg (fun e => hne e.1), if_neg (by omega)]
    simp only [ndH, ndA, if_true, treeText]
    rw [hh.2]
  · simp only [if_neg ha] at h
    obtain rfl := hw ha
    rw [nm_text bs a h]
    simp [treeText, ha]
end Go.Proofs.YtbcgpcnbfaipbaaDoor

/- The program writes terms. -/
namespace Go.Proofs.YtbcgpcnbfaipbaaDoor
open Go.RowKit Go.ChangeMaps

/-- depths lead to names that are there -/
def Tok : Ts → List (List UInt8) → List UInt8 → List UInt8 → Nat → Prop
  | .nil, _, _, _, _ => True
  | .cons h a d k r, bs, ph, pa, i => ((h = hName ∧ a = [] → d < (insB bs ph pa i).length) ∧ Tok k (insB bs ph pa i) h a 0) ∧ Tok r bs ph pa (i + 1)

def TokN (bs : List (List UInt8)) (h a : List UInt8) (d : Nat) (k : Ts) : Prop := (h = hName ∧ a = [] → d < bs.length) ∧ Tok k bs h a 0

theorem nm_tok (bs : List (List UInt8)) (a : List UInt8) (h : isAtomTm a = true) : TokN bs (ndH a .nil) (ndA bs a .nil) (ndD bs a) (cv .nil (.parts bs)) := by
  have ha := (atom_bytes h).1
  refine ⟨?_, trivial⟩
  unfold ndH ndA ndD
  rw [if_neg ha, if_neg ha, if_neg ha]
  by_cases ht : a = tTrue ∨ a = tFalse
  · have h1 : hTruth ≠ hName := by decide
    rw [if_pos ht]
    exact fun h => absurd h.1 h1
  · rw [if_neg ht, if_neg ht, if_neg ht]
    unfold nmA
    cases hd : depOf a bs with
    | none => exact fun h => absurd h.2 ha
    | some d => exact fun _ => (dep_get hd).2

theorem tok_eq : ∀ f : Fo, f.wf →
    (∀ (bs : List (List UInt8)) (h b : List UInt8) (i c : Nat), isTms (some (List.replicate c true)) f = true → Tok (cv f (.kids bs h b i)) bs h b i) ∧
    (∀ bs : List (List UInt8), isTms none f = true → Tok (cv f (.parts bs)) bs (hd1 f) (if bindsB (hd1 f) then hd2 f else []) 0) ∧
    (∀ (bs : List (List UInt8)) (h : List UInt8) (c : Nat), isTms (some (false :: List.replicate c true)) f = true → Tok (cv f (.name bs h)) bs h (hd1 f) 0) := by
  intro f
  induction f with
  | nil => exact fun _ => ⟨fun bs h b i c _ => trivial, fun bs h => (by cases h), fun bs h c hc => (by simp [isTms] at hc)⟩
  | cons a k r ihk ihr =>
    intro hw
    have hk := ihk hw.2.1
    have hr := ihr hw.2.2
    refine ⟨?_, ?_, ?_⟩
    · intro bs h b i c hs
      cases c with
      | zero => simp [isTms] at hs
      | succ c =>
        rw [List.replicate_succ] at hs
        simp only [isTms, Bool.and_eq_true] at hs
        refine ⟨?_, hr.1 bs h b (i + 1) c hs.2⟩
        show TokN (insB bs h b i) (ndH a k) (ndA (insB bs h b i) a k) (ndD (insB bs h b i) a) (cv k (.parts (insB bs h b i)))
        by_cases ha : a = []
        · subst ha
          simp only [if_true] at hs
          have hh := hk.2.1 (insB bs h b i) hs.1
          have hne : ndH [] k ≠ hName := by
            cases k with
            | nil => exact fun e => by cases e
            | cons g _ _ =>
              simp only [ndH, if_true, hd1]
              rintro rfl
              have := hs.1
              simp only [isTms, Bool.and_eq_true] at this
              revert this; simp [shapeOf, hName, hLam, hApp, hPair, hFst, hSnd, hIf, hLet]
          refine ⟨fun e => absurd e.1 hne, ?_⟩
          simp only [ndH, ndA, if_true]
          exact hh
        · simp only [if_neg ha] at hs
          obtain rfl := hw.1 ha
          exact nm_tok _ a hs.1
    · intro bs hs
      simp only [isTms, Bool.and_eq_true] at hs
      have hs0 : shapeOf a ≠ [] := by intro e; rw [e] at hs; cases hs.1
      have eh : hd1 (.cons a k r) = a := rfl
      rw [eh]
      rcases shape_cases a with ⟨e, _⟩ | ⟨hb, e, hk1⟩ | ⟨hb, e, hk1⟩
      · exact absurd e hs0
      · rw [e] at hs
        have e1 : cv (.cons a k r) (.parts bs) = cv r (.name bs a) := by simp [cv, hb]
        have e2 : hd2 (.cons a k r) = hd1 r := by cases r <;> rfl
        rw [e1, hb, e2]
        exact hr.2.2 bs a _ hs.2
      · rw [e] at hs
        have e1 : cv (.cons a k r) (.parts bs) = cv r (.kids bs a [] 0) := by simp [cv, hb]
        rw [e1, hb]
        exact hr.1 bs a [] 0 _ hs.2
    · intro bs h c hs
      simp only [isTms, Bool.and_eq_true] at hs
      exact hr.1 bs h a 0 c hs.2

theorem flat_le {x : List UInt8} : ∀ l : List (List UInt8), x ∈ l → x.length ≤ ((l.map (32 :: ·)).flatten).length
  | [], h => by cases h
  | z :: l, h => by
    simp only [List.map_cons, List.flatten_cons, List.length_append, List.length_cons]
    rcases List.mem_cons.1 h with rfl | h
    · omega
    · have := flat_le l h
      omega

theorem spj_le {x : List UInt8} {l : List (List UInt8)} (h : x ∈ l) : x.length ≤ (spj l).length := by
  cases l with
  | nil => cases h
  | cons y l =>
    simp only [spj, List.length_append]
    rcases List.mem_cons.1 h with rfl | h
    · omega
    · have := flat_le l h
      omega

def boundB (h a : List UInt8) : Bool := h == hName && a == []

end Go.Proofs.YtbcgpcnbfaipbaaDoor
