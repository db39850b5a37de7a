/- Terms as trees: their texts, their reading, that a text has one reading. -/
import Derived.Test.YtnjgaenhjdjpfaaGreatDoorTree
namespace Go.Proofs.YtnjgaenhjdjpfaaGreatDoor

def isSep (c : UInt8) : Bool := c == 32 || c == 40 || c == 41
def isDig (c : UInt8) : Bool := decide (48 ≤ c.toNat) && decide (c.toNat ≤ 57)
def isName (a : List UInt8) : Bool := match a with | [] => false | c :: r => decide (r.length ≤ 3) && (decide (97 ≤ c.toNat) && decide (c.toNat ≤ 122)) && r.all isDig

def tTrue : List UInt8 := [116, 114, 117, 101]
def tFalse : List UInt8 := [102, 97, 108, 115, 101]
def hLam : List UInt8 := [108, 97, 109]
def hApp : List UInt8 := [97, 112, 112]
def hPair : List UInt8 := [112, 97, 105, 114]
def hFst : List UInt8 := [102, 115, 116]
def hSnd : List UInt8 := [115, 110, 100]
def hIf : List UInt8 := [105, 102]
def hLet : List UInt8 := [108, 101, 116]
def hName : List UInt8 := [110, 97, 109, 101]
def hTruth : List UInt8 := [116, 114, 117, 116, 104]

def isAtomTm (a : List UInt8) : Bool := a == tTrue || a == tFalse || isName a

/-- what stands behind a head: a term, or a name -/
def shapeOf (h : List UInt8) : List Bool :=
  if h = hLam then [false, true] else if h = hApp then [true, true] else if h = hPair then [true, true] else if h = hFst then [true] else if h = hSnd then [true]
  else if h = hIf then [true, true, true] else if h = hLet then [false, true, true] else []

def bindsB (h : List UInt8) : Bool := h == hLam || h == hLet
def kidsOf (h : List UInt8) : Nat := if bindsB h then (shapeOf h).length - 1 else (shapeOf h).length

theorem shape_cases (h : List UInt8) : (shapeOf h = [] ∧ kidsOf h = 0) ∨ (bindsB h = true ∧ shapeOf h = false :: List.replicate (kidsOf h) true ∧ 1 ≤ kidsOf h) ∨ (bindsB h = false ∧ shapeOf h = List.replicate (kidsOf h) true ∧ 1 ≤ kidsOf h) := by
  by_cases h1 : h = hLam
  · subst h1; right; left; decide
  by_cases h2 : h = hApp
  · subst h2; right; right; decide
  by_cases h3 : h = hPair
  · subst h3; right; right; decide
  by_cases h4 : h = hFst
  · subst h4; right; right; decide
  by_cases h5 : h = hSnd
  · subst h5; right; right; decide
  by_cases h6 : h = hIf
  · subst h6; right; right; decide
  by_cases h7 : h = hLet
  · subst h7; right; left; decide
  left
  have e : shapeOf h = [] := by simp [shapeOf, h1, h2, h3, h4, h5, h6, h7]
  refine ⟨e, ?_⟩
  simp [kidsOf, e]

theorem shape_head {h : List UInt8} (hh : shapeOf h ≠ []) : h ≠ [] ∧ h.all isByte = true ∧ h.length ≤ 4 := by
  by_cases h1 : h = hLam
  · subst h1; decide
  by_cases h2 : h = hApp
  · subst h2; decide
  by_cases h3 : h = hPair
  · subst h3; decide
  by_cases h4 : h = hFst
  · subst h4; decide
  by_cases h5 : h = hSnd
  · subst h5; decide
  by_cases h6 : h = hIf
  · subst h6; decide
  by_cases h7 : h = hLet
  · subst h7; decide
  exact absurd (by simp [shapeOf, h1, h2, h3, h4, h5, h6, h7]) hh

/-- a list of trees as terms, in this shape; without a shape: a head, and what stands behind it -/
def isTms : Option (List Bool) → Fo → Bool
  | none, .cons h _ r => !(shapeOf h).isEmpty && isTms (some (shapeOf h)) r
  | some [], .nil => true
  | some (true :: sh), .cons a k r => (if a = [] then isTms none k else isAtomTm a) && isTms (some sh) r
  | some (false :: sh), .cons a _ r => isName a && isTms (some sh) r
  | _, _ => false

def isTm (a : List UInt8) (k : Fo) : Bool := if a = [] then isTms none k else isAtomTm a

namespace Fo
def app : Fo → Fo → Fo
  | nil, g => g
  | cons a k r, g => cons a k (r.app g)

theorem snoc_app (f : Fo) (a : List UInt8) (k : Fo) (g : Fo) : (f.snoc a k).app g = f.app (cons a k g) := by
  induction f with
  | nil => rfl
  | cons b j r _ ih => simp [snoc, app, ih]

theorem app_nil (f : Fo) : f.app nil = f := by
  induction f with
  | nil => rfl
  | cons b j r _ ih => simp [app, ih]

theorem len_app (f g : Fo) : (f.app g).len = f.len + g.len := by
  induction f with
  | nil => simp [app, len]
  | cons b j r _ ih => simp [app, len, ih]; omega

theorem size_app (f g : Fo) : (f.app g).size = f.size + g.size := by
  induction f with
  | nil => simp [app, size]
  | cons b j r _ ih => simp [app, size, ih]; omega

theorem wf_app {f g : Fo} (hf : f.wf) (hg : g.wf) : (f.app g).wf := by
  induction f with
  | nil => exact hg
  | cons b j r _ ih => exact ⟨hf.1, hf.2.1, ih hf.2.2⟩

/-- the texts, each behind a space -/
def stexts : Fo → List UInt8
  | nil => []
  | cons a k r => 32 :: (treeText a k ++ r.stexts)

theorem texts_eq (a : List UInt8) (k r : Fo) : (cons a k r).texts = treeText a k ++ r.stexts := by
  induction r generalizing a k with
  | nil => simp [texts, stexts, treeText]
  | cons b j r _ ih =>
    have := ih b j
    simp only [texts, stexts, treeText] at this ⊢
    rw [this]

theorem stexts_app (f g : Fo) : (f.app g).stexts = f.stexts ++ g.stexts := by
  induction f with
  | nil => rfl
  | cons b j r _ ih => simp [app, stexts, ih]

/-- atoms of atom bytes; what has parts has some -/
def good : Fo → Prop
  | nil => True
  | cons a k r => (if a = [] then k ≠ nil ∧ k.good else k = nil ∧ a.all isByte = true) ∧ r.good

def deep : Fo → Nat
  | nil => 0
  | cons a k r => max (if a = [] then k.deep + 1 else 0) r.deep
end Fo

def treeDeep (a : List UInt8) (k : Fo) : Nat := if a = [] then k.deep + 1 else 0
def treeGood (a : List UInt8) (k : Fo) : Prop := if a = [] then k ≠ .nil ∧ k.good else k = .nil ∧ a.all isByte = true

theorem take_all {p : UInt8 → Bool} : ∀ (a r : List UInt8), a.all p = true → (∀ x y, r = x :: y → p x = false) → (a ++ r).takeWhile p = a ∧ (a ++ r).dropWhile p = r
  | [], [], _, _ => by simp
  | [], x :: y, _, h => by simp [h x y rfl]
  | c :: a, r, ha, h => by
    simp only [List.all_cons, Bool.and_eq_true] at ha
    have := take_all a r ha.2 h
    simp [ha.1, this.1, this.2]

theorem rd_loop_good (d : Nat) (hd : ∀ a k r, treeGood a k → treeDeep a k + 1 ≤ d → (∀ x y, r = x :: y → isByte x = false) → rdTree d (treeText a k ++ r) = some (a, k, r)) :
    ∀ (g : Fo) (a : List UInt8) (k : Fo) (n : Nat) (r : List UInt8) (acc : Fo), (Fo.cons a k g).good → (Fo.cons a k g).deep + 1 ≤ d → g.len < n →
      rdLoop (rdTree d) n ((Fo.cons a k g).texts ++ 41 :: r) acc = some ([], acc.app (.cons a k g), r) := by
  intro g
  induction g with
  | nil =>
    intro a k n r acc hg hdp hn
    obtain ⟨n, rfl⟩ : ∃ m, n = m + 1 := ⟨n - 1, by omega⟩
    rw [Fo.texts_eq, Fo.stexts, List.append_nil]
    rw [rdLoop, hd a k (41 :: r) hg.1 (by simp only [Fo.deep] at hdp; unfold treeDeep; omega) (fun x y e => by injection e with e _; rw [← e]; exact byte_close)]
    simp only [if_true]
    rw [← Fo.snoc_app, Fo.app_nil]
  | cons b j g _ ih =>
    intro a k n r acc hg hdp hn
    obtain ⟨n, rfl⟩ : ∃ m, n = m + 1 := ⟨n - 1, by omega⟩
    simp only [Fo.len] at hn
    have e : (Fo.cons a k (.cons b j g)).texts ++ 41 :: r = treeText a k ++ 32 :: ((Fo.cons b j g).texts ++ 41 :: r) := by
      rw [Fo.texts_eq, Fo.texts_eq, Fo.stexts]; simp
    simp only [Fo.deep] at hdp
    rw [e, rdLoop, hd a k _ hg.1 (by unfold treeDeep; omega) (fun x y e => by injection e with e _; rw [← e]; exact byte_space)]
    have e1 : ¬ ((32 : UInt8) = 41) := by decide
    simp only [if_true, if_neg e1]
    rw [ih b j n r (acc.snoc a k) hg.2 (by simp only [Fo.deep]; omega) (by omega), Fo.snoc_app]

/-- what is good is read from its text -/
theorem rd_good (d : Nat) : ∀ a k r, treeGood a k → treeDeep a k + 1 ≤ d → (∀ x y, r = x :: y → isByte x = false) → rdTree d (treeText a k ++ r) = some (a, k, r) := by
  induction d with
  | zero => intro a k r _ h; omega
  | succ d ih =>
    intro a k r hg hd hr
    unfold treeGood at hg
    unfold treeDeep at hd
    by_cases ha : a = []
    · subst ha
      simp only [if_true] at hg hd
      cases k with
      | nil => exact absurd rfl hg.1
      | cons b j g =>
        have e : treeText [] (.cons b j g) ++ r = 40 :: ((Fo.cons b j g).texts ++ 41 :: r) := by simp [treeText]
        rw [e, rdTree, if_pos rfl]
        refine rd_loop_good d ih g b j _ r .nil hg.2 (by omega) ?_
        have hlen : ∀ f : Fo, f.len ≤ f.stexts.length := by
          intro f
          induction f with
          | nil => simp [Fo.len]
          | cons c l f _ ihf => simp only [Fo.len, Fo.stexts, List.length_cons, List.length_append]; omega
        rw [Fo.texts_eq]
        have := hlen g
        simp only [List.length_append, List.length_cons]
        omega
    · rw [if_neg ha] at hg
      obtain ⟨rfl, hb⟩ := hg
      have h1 := take_all a r hb hr
      cases a with
      | nil => exact absurd rfl ha
      | cons c a =>
        have hc : c ≠ 40 := by
          rintro rfl
          simp only [List.all_cons, Bool.and_eq_true] at hb
          have : isByte 40 = false := by decide
          rw [this] at hb; cases hb.1
        simp only [treeText, if_neg ha]
        simp only [List.cons_append] at h1 ⊢
        rw [rdTree, if_neg hc, h1.1, h1.2, if_neg ha]

theorem dig_byte {c : UInt8} (h : isDig c = true) : isByte c = true ∧ isSep c = false := by
  unfold isDig at h
  simp only [Bool.and_eq_true, decide_eq_true_eq] at h
  refine ⟨by unfold isByte; simp [h.1, h.2], ?_⟩
  unfold isSep
  simp only [Bool.or_eq_false_iff, beq_eq_false_iff_ne]
  refine ⟨⟨?_, ?_⟩, ?_⟩ <;> (rintro rfl; revert h; decide)

theorem low_byte {c : UInt8} (h : 97 ≤ c.toNat ∧ c.toNat ≤ 122) : isByte c = true ∧ isSep c = false := by
  refine ⟨by unfold isByte; simp [h.1, h.2], ?_⟩
  unfold isSep
  simp only [Bool.or_eq_false_iff, beq_eq_false_iff_ne]
  refine ⟨⟨?_, ?_⟩, ?_⟩ <;> (rintro rfl; revert h; decide)

theorem name_bytes {a : List UInt8} (h : isName a = true) : a ≠ [] ∧ a.all isByte = true ∧ a.all (fun c => !isSep c) = true ∧ a.length ≤ 4 := by
  match a, h with
  | c :: r, h =>
    simp only [isName, Bool.and_eq_true, decide_eq_true_eq] at h
    obtain ⟨⟨h1, h2⟩, h3⟩ := h
    have := low_byte h2
    refine ⟨by simp, ?_, ?_, by simp; omega⟩
    · simp only [List.all_cons, this.1, Bool.true_and]
      rw [List.all_eq_true] at h3 ⊢
      exact fun x hx => (dig_byte (h3 x hx)).1
    · simp only [List.all_cons, this.2, Bool.not_false, Bool.true_and]
      rw [List.all_eq_true] at h3 ⊢
      exact fun x hx => by simp [(dig_byte (h3 x hx)).2]

theorem atom_bytes {a : List UInt8} (h : isAtomTm a = true) : a ≠ [] ∧ a.all isByte = true ∧ a.all (fun c => !isSep c) = true ∧ a.length ≤ 5 := by
  unfold isAtomTm at h
  simp only [Bool.or_eq_true, beq_iff_eq] at h
  rcases h with (rfl | rfl) | h
  · decide
  · decide
  · have := name_bytes h; exact ⟨this.1, this.2.1, this.2.2.1, by omega⟩

theorem isTms_good : ∀ (f : Fo) (sh : Option (List Bool)), f.wf → isTms sh f = true → f.good ∧ (sh = none → f ≠ .nil) := by
  intro f
  induction f with
  | nil => intro sh _ h; exact ⟨trivial, fun e => by subst e; cases h⟩
  | cons a k r ihk ihr =>
    intro sh hw h
    refine ⟨?_, fun _ => by simp⟩
    match sh, h with
    | none, h =>
      simp only [isTms, Bool.and_eq_true] at h
      obtain ⟨h1, h2⟩ := h
      have hs : shapeOf a ≠ [] := by intro e; rw [e] at h1; cases h1
      have hh := shape_head hs
      exact ⟨by rw [if_neg hh.1]; exact ⟨hw.1 hh.1, hh.2.1⟩, (ihr _ hw.2.2 h2).1⟩
    | some (true :: sh), h =>
      simp only [isTms, Bool.and_eq_true] at h
      refine ⟨?_, (ihr _ hw.2.2 h.2).1⟩
      by_cases ha : a = []
      · subst ha
        simp only [if_true] at h ⊢
        have := ihk none hw.2.1 h.1
        exact ⟨this.2 rfl, this.1⟩
      · simp only [if_neg ha] at h ⊢
        exact ⟨hw.1 ha, (atom_bytes h.1).2.1⟩
    | some (false :: sh), h =>
      simp only [isTms, Bool.and_eq_true] at h
      have hn := name_bytes h.1
      refine ⟨?_, (ihr _ hw.2.2 h.2).1⟩
      rw [if_neg hn.1]
      exact ⟨hw.1 hn.1, hn.2.1⟩
    | some [], h => simp [isTms] at h

theorem isTm_good {a : List UInt8} {k : Fo} (hw : a ≠ [] → k = .nil) (hk : k.wf) (h : isTm a k = true) : treeGood a k := by
  unfold isTm at h
  unfold treeGood
  by_cases ha : a = []
  · subst ha
    simp only [if_true] at h ⊢
    have := isTms_good k none hk h
    exact ⟨this.2 rfl, this.1⟩
  · simp only [if_neg ha] at h ⊢
    exact ⟨hw ha, (atom_bytes h).2.1⟩

theorem isTms_deep : ∀ (f : Fo) (sh : Option (List Bool)), isTms sh f = true → f.deep ≤ f.size ∧ (sh = none → f.deep + 1 ≤ f.size) := by
  intro f
  induction f with
  | nil => intro sh h; exact ⟨Nat.le_refl _, fun e => by subst e; cases h⟩
  | cons a k r ihk ihr =>
    intro sh h
    match sh, h with
    | none, h =>
      simp only [isTms, Bool.and_eq_true] at h
      obtain ⟨h1, h2⟩ := h
      have hs : shapeOf a ≠ [] := by intro e; rw [e] at h1; cases h1
      have hh := (shape_head hs).1
      have := (ihr _ h2).1
      simp only [Fo.deep, Fo.size, if_neg hh]
      omega
    | some (true :: sh), h =>
      simp only [isTms, Bool.and_eq_true] at h
      have h2 := (ihr _ h.2).1
      by_cases ha : a = []
      · subst ha
        simp only [if_true] at h
        have := (ihk none h.1).2 rfl
        simp only [Fo.deep, Fo.size, if_true]
        exact ⟨by omega, fun e => by cases e⟩
      · simp only [Fo.deep, Fo.size, if_neg ha]
        exact ⟨by omega, fun e => by cases e⟩
    | some (false :: sh), h =>
      simp only [isTms, Bool.and_eq_true] at h
      have hn := (name_bytes h.1).1
      have h2 := (ihr _ h.2).1
      simp only [Fo.deep, Fo.size, if_neg hn]
      exact ⟨by omega, fun e => by cases e⟩
    | some [], h => simp [isTms] at h

theorem isTm_deep {a : List UInt8} {k : Fo} (h : isTm a k = true) : treeDeep a k ≤ treeSize a k := by
  unfold isTm at h
  unfold treeDeep treeSize
  by_cases ha : a = []
  · subst ha
    simp only [if_true] at h ⊢
    exact (isTms_deep k none h).2 rfl
  · simp only [if_neg ha]; omega

theorem isTm_size {a : List UInt8} {k : Fo} (h : isTm a k = true) : 1 ≤ treeSize a k := by
  unfold isTm at h
  unfold treeSize
  by_cases ha : a = []
  · subst ha
    simp only [if_true] at h ⊢
    have := (isTms_deep k none h).2 rfl
    omega
  · simp only [if_neg ha]; omega

/-! The program's way of reading. -/
def wordOf (u : List UInt8) : List UInt8 := u.takeWhile (fun c => !isSep c)
def behind (u : List UInt8) : List UInt8 := u.dropWhile (fun c => !isSep c)

abbrev TR := Option (List UInt8 × Fo × List UInt8 × Nat)

/-- so many terms, each behind a space -/
def rdKids (rd : List UInt8 → Nat → TR) : Nat → List UInt8 → Nat → Fo → Option (Fo × List UInt8 × Nat)
  | 0, u, n, acc => some (acc, u, n)
  | c + 1, u, n, acc => match u with
    | 32 :: u => match rd u n with
      | some (a, k, r, n') => rdKids rd c r n' (acc.snoc a k)
      | none => none
    | _ => none

def rdClose : Option (Fo × List UInt8 × Nat) → TR
  | some (k, 41 :: r, n) => some ([], k, r, n)
  | _ => none

/-- a term's parts behind its bracket -/
def rdParts (rd : List UInt8 → Nat → TR) (u : List UInt8) (n : Nat) : TR :=
  if 300 < n + 1 then none
  else if kidsOf (wordOf u) = 0 then none
  else if bindsB (wordOf u) then
    match behind u with
    | 32 :: v => if 300 < n + 2 then none else if isName (wordOf v) then rdClose (rdKids rd (kidsOf (wordOf u)) (behind v) (n + 2) (.cons (wordOf u) .nil (.cons (wordOf v) .nil .nil))) else none
    | _ => none
  else rdClose (rdKids rd (kidsOf (wordOf u)) (behind u) (n + 1) (.cons (wordOf u) .nil .nil))

def tmRd : Nat → List UInt8 → Nat → TR
  | 0, _, _ => none
  | f + 1, u, n => match u with
    | 40 :: u => rdParts (tmRd f) u n
    | u => if 300 < n + 1 then none else if isAtomTm (wordOf u) then some (wordOf u, .nil, behind u, n + 1) else none

/-- no atom goes on here -/
def Stop (r : List UInt8) : Prop := ∀ x y, r = x :: y → isSep x = true

theorem stop_behind (u : List UInt8) : Stop (behind u) := by
  intro x y e
  unfold behind at e
  induction u with
  | nil => cases e
  | cons c u ih =>
    rw [List.dropWhile_cons] at e
    split at e
    · exact ih e
    · rename_i h
      injection e with e1 _
      subst e1
      simpa using h

theorem word_behind (u : List UInt8) : u = wordOf u ++ behind u := (List.takeWhile_append_dropWhile).symm

theorem word_of {a r : List UInt8} (ha : a.all (fun c => !isSep c) = true) (hr : Stop r) : wordOf (a ++ r) = a ∧ behind (a ++ r) = r :=
  take_all a r ha (fun x y e => by simp [hr x y e])

theorem stop_space (u : List UInt8) : Stop (32 :: u) := fun x y e => by injection e with e _; rw [← e]; rfl
theorem stop_close (u : List UInt8) : Stop (41 :: u) := fun x y e => by injection e with e _; rw [← e]; rfl
theorem stop_byte {r : List UInt8} (h : Stop r) : ∀ x y, r = x :: y → isByte x = false := by
  intro x y e
  have := h x y e
  unfold isSep at this
  simp only [Bool.or_eq_true, beq_iff_eq] at this
  rcases this with (rfl | rfl) | rfl <;> decide

/-- what is read is a term's text -/
def Sound (u : List UInt8) (n : Nat) (a : List UInt8) (k : Fo) (r : List UInt8) (n' : Nat) : Prop :=
  u = treeText a k ++ r ∧ isTm a k = true ∧ n' = n + treeSize a k ∧ n' ≤ 300 ∧ (a ≠ [] → k = .nil) ∧ k.wf ∧ (a ≠ [] → Stop r)

theorem rdKids_sound (rd : List UInt8 → Nat → TR) (hrd : ∀ u n a k r n', rd u n = some (a, k, r, n') → Sound u n a k r n') :
    ∀ (c : Nat) (u : List UInt8) (n : Nat) (acc g : Fo) (r : List UInt8) (n' : Nat), rdKids rd c u n acc = some (g, r, n') →
      ∃ g', g = acc.app g' ∧ u = g'.stexts ++ r ∧ isTms (some (List.replicate c true)) g' = true ∧ n' = n + g'.size ∧ (c ≠ 0 → n' ≤ 300) ∧ g'.wf := by
  intro c
  induction c with
  | zero =>
    intro u n acc g r n' h
    simp only [rdKids, Option.some.injEq, Prod.mk.injEq] at h
    obtain ⟨rfl, rfl, rfl⟩ := h
    exact ⟨.nil, (Fo.app_nil _).symm, rfl, rfl, rfl, fun h => absurd rfl h, trivial⟩
  | succ c ih =>
    intro u n acc g r n' h
    unfold rdKids at h
    split at h
    · rename_i v
      rcases hv : rd v n with _ | ⟨a, k, r1, n1⟩
      · rw [hv] at h; cases h
      · rw [hv] at h
        obtain ⟨s1, s2, s3, s4, s5, s6, s7⟩ := hrd _ _ _ _ _ _ hv
        obtain ⟨g', e1, e2, e3, e4, e5, e6⟩ := ih _ _ _ _ _ _ h
        refine ⟨.cons a k g', ?_, ?_, ?_, ?_, ?_, s5, s6, e6⟩
        · rw [e1, Fo.snoc_app]
        · rw [s1, e2]; simp [Fo.stexts]
        · rw [List.replicate_succ]
          simp only [isTms, Bool.and_eq_true]
          exact ⟨s2, e3⟩
        · have : (Fo.cons a k g').size = treeSize a k + g'.size := rfl
          rw [this]; omega
        · intro _
          by_cases hc : c = 0
          · subst hc
            cases g' with
            | nil => simp only [Fo.size] at e4; omega
            | cons => simp [isTms] at e3
          · exact e5 hc
    · cases h

theorem isTms_len : ∀ (g : Fo) (sh : List Bool), isTms (some sh) g = true → g.len = sh.length
  | .nil, [], _ => rfl
  | .nil, true :: sh, h => by simp [isTms] at h
  | .nil, false :: sh, h => by simp [isTms] at h
  | .cons a k r, [], h => by simp [isTms] at h
  | .cons a k r, true :: sh, h => by
    simp only [isTms, Bool.and_eq_true] at h
    simp [Fo.len, isTms_len r sh h.2]
  | .cons a k r, false :: sh, h => by
    simp only [isTms, Bool.and_eq_true] at h
    simp [Fo.len, isTms_len r sh h.2]

theorem close_some {x : Option (Fo × List UInt8 × Nat)} {a : List UInt8} {k : Fo} {r : List UInt8} {n : Nat} (h : rdClose x = some (a, k, r, n)) : a = [] ∧ x = some (k, 41 :: r, n) := by
  unfold rdClose at h
  split at h
  · simp only [Option.some.injEq, Prod.mk.injEq] at h
    obtain ⟨rfl, rfl, rfl, rfl⟩ := h
    exact ⟨rfl, rfl⟩
  · cases h

theorem rdParts_sound (rd : List UInt8 → Nat → TR) (hrd : ∀ u n a k r n', rd u n = some (a, k, r, n') → Sound u n a k r n') (u : List UInt8) (n : Nat) (a : List UInt8) (k : Fo) (r : List UInt8) (n' : Nat)
    (h : rdParts rd u n = some (a, k, r, n')) : Sound (40 :: u) n a k r n' := by
  unfold rdParts at h
  split at h
  · cases h
  rename_i hn
  split at h
  · cases h
  rename_i hk
  have hc := shape_cases (wordOf u)
  have hs0 : shapeOf (wordOf u) ≠ [] := by
    rcases hc with ⟨_, e⟩ | ⟨_, e, _⟩ | ⟨_, e, hl⟩
    · exact absurd e hk
    · rw [e]; simp
    · rw [e]; intro h0
      have := congrArg List.length h0
      simp at this; omega
  have hw := shape_head hs0
  have hse : (!(shapeOf (wordOf u)).isEmpty) = true := by cases hx : shapeOf (wordOf u) <;> simp_all
  split at h
  · rename_i hb
    have hsh : shapeOf (wordOf u) = false :: List.replicate (kidsOf (wordOf u)) true := by
      rcases hc with ⟨_, e⟩ | ⟨_, e, _⟩ | ⟨e, _, _⟩
      · exact absurd e hk
      · exact e
      · rw [hb] at e; cases e
    split at h
    · rename_i v hv
      split at h
      · cases h
      split at h
      · rename_i hnm
        obtain ⟨ea, hx⟩ := close_some h
        subst ea
        obtain ⟨g', e1, e2, e3, e4, e5, e6⟩ := rdKids_sound rd hrd _ _ _ _ _ _ _ hx
        have hnb := name_bytes hnm
        have ek : k = .cons (wordOf u) .nil (.cons (wordOf v) .nil g') := by rw [e1]; rfl
        subst ek
        refine ⟨?_, ?_, ?_, e5 (by omega), fun h => absurd rfl h, ⟨fun _ => rfl, trivial, fun _ => rfl, trivial, e6⟩, fun h => absurd rfl h⟩
        · rw [treeText, if_pos rfl, Fo.texts_eq, Fo.stexts, treeText, if_neg hw.1, treeText, if_neg hnb.1]
          have hu := word_behind u
          have hv2 := word_behind v
          rw [hv] at hu
          rw [e2] at hv2
          generalize wordOf u = x at *
          generalize wordOf v = y at *
          rw [hu, hv2]
          simp
        · unfold isTm
          rw [if_pos rfl]
          simp only [isTms, Bool.and_eq_true]
          refine ⟨hse, ?_⟩
          rw [hsh]
          simp only [isTms, Bool.and_eq_true]
          exact ⟨hnm, e3⟩
        · rw [e4, treeSize, if_pos rfl, Fo.size, if_neg hw.1, Fo.size, if_neg hnb.1]; omega
      · cases h
    · cases h
  · rename_i hb
    have hsh : shapeOf (wordOf u) = List.replicate (kidsOf (wordOf u)) true := by
      rcases hc with ⟨_, e⟩ | ⟨e, _, _⟩ | ⟨_, e, _⟩
      · exact absurd e hk
      · exact absurd e hb
      · exact e
    obtain ⟨ea, hx⟩ := close_some h
    subst ea
    obtain ⟨g', e1, e2, e3, e4, e5, e6⟩ := rdKids_sound rd hrd _ _ _ _ _ _ _ hx
    have ek : k = .cons (wordOf u) .nil g' := by rw [e1]; rfl
    subst ek
    refine ⟨?_, ?_, ?_, e5 (by omega), fun h => absurd rfl h, ⟨fun _ => rfl, trivial, e6⟩, fun h => absurd rfl h⟩
    · rw [treeText, if_pos rfl, Fo.texts_eq, treeText, if_neg hw.1]
      have hu := word_behind u
      rw [e2] at hu
      generalize wordOf u = x at *
      rw [hu]
      simp
    · unfold isTm
      rw [if_pos rfl]
      simp only [isTms, Bool.and_eq_true]
      refine ⟨hse, ?_⟩
      rw [hsh]
      exact e3
    · rw [e4, treeSize, if_pos rfl, Fo.size, if_neg hw.1]; omega

theorem tmRd_sound (f : Nat) : ∀ u n a k r n', tmRd f u n = some (a, k, r, n') → Sound u n a k r n' := by
  induction f with
  | zero => intro u n a k r n' h; cases h
  | succ f ih =>
    intro u n a k r n' h
    unfold tmRd at h
    split at h
    · exact rdParts_sound _ ih _ _ _ _ _ _ h
    · split at h
      · cases h
      split at h
      · rename_i ha
        simp only [Option.some.injEq, Prod.mk.injEq] at h
        obtain ⟨rfl, rfl, rfl, rfl⟩ := h
        have hb := atom_bytes ha
        refine ⟨?_, ?_, ?_, by omega, fun _ => rfl, trivial, fun _ => stop_behind u⟩
        · rw [treeText, if_neg hb.1]; exact word_behind u
        · unfold isTm; rw [if_neg hb.1]; exact ha
        · rw [treeSize, if_neg hb.1]
      · cases h

/-- every term's text is read -/
def Compl (rd : List UInt8 → Nat → TR) (f : Nat) : Prop := ∀ a k r n, isTm a k = true → (a ≠ [] → k = .nil) → k.wf → n + treeSize a k ≤ 300 → (a ≠ [] → Stop r) → (treeText a k ++ r).length < f →
  rd (treeText a k ++ r) n = some (a, k, r, n + treeSize a k)

theorem rdKids_compl (rd : List UInt8 → Nat → TR) (f : Nat) (hrd : Compl rd f) : ∀ (g : Fo) (c : Nat) (r : List UInt8) (n : Nat) (acc : Fo), isTms (some (List.replicate c true)) g = true → g.wf → n + g.size ≤ 300 → Stop r → (g.stexts ++ r).length < f →
    rdKids rd c (g.stexts ++ r) n acc = some (acc.app g, r, n + g.size) := by
  intro g
  induction g with
  | nil =>
    intro c r n acc h _ _ _ _
    have := isTms_len _ _ h
    simp [Fo.len] at this
    subst this
    simp [rdKids, Fo.stexts, Fo.app_nil, Fo.size]
  | cons a k g _ ih =>
    intro c r n acc h hw hn hr hl
    have hc := isTms_len _ _ h
    simp [Fo.len] at hc
    obtain ⟨c, rfl⟩ : ∃ m, c = m + 1 := ⟨c - 1, by omega⟩
    rw [List.replicate_succ] at h
    simp only [isTms, Bool.and_eq_true] at h
    have e : (Fo.cons a k g).stexts ++ r = 32 :: (treeText a k ++ (g.stexts ++ r)) := by simp [Fo.stexts]
    have es : (Fo.cons a k g).size = treeSize a k + g.size := rfl
    rw [es] at hn ⊢
    rw [e] at hl ⊢
    have hst : Stop (g.stexts ++ r) := by
      cases g with
      | nil => exact hr
      | cons => exact stop_space _
    simp only [List.length_cons] at hl
    have h1 := hrd a k (g.stexts ++ r) n h.1 hw.1 hw.2.1 (by omega) (fun _ => hst) (by omega)
    rw [rdKids]
    simp only [h1]
    rw [ih c r _ _ h.2 hw.2.2 (by omega) hr (by simp only [List.length_append] at hl ⊢; omega), Fo.snoc_app]
    simp; omega

theorem rdParts_compl (rd : List UInt8 → Nat → TR) (f : Nat) (hrd : Compl rd f) (k : Fo) (r : List UInt8) (n : Nat) (h : isTms none k = true) (hw : k.wf) (hn : n + k.size ≤ 300) (hl : (k.texts ++ 41 :: r).length < f) :
    rdParts rd (k.texts ++ 41 :: r) n = some ([], k, r, n + k.size) := by
  cases k with
  | nil => cases h
  | cons a j g =>
    simp only [isTms, Bool.and_eq_true] at h
    obtain ⟨h1, h2⟩ := h
    have hs : shapeOf a ≠ [] := by intro e; rw [e] at h1; cases h1
    have hh := shape_head hs
    obtain rfl := hw.1 hh.1
    have hab : a.all (fun c => !isSep c) = true := by
      rw [List.all_eq_true]
      intro x hx
      have := List.all_eq_true.1 hh.2.1 x hx
      rcases hsx : isSep x with _ | _
      · rfl
      · have h3 := stop_byte (r := [x]) (fun y z e => by injection e with e _; rw [← e]; exact hsx) x [] rfl
        rw [this] at h3; cases h3
    have es : (Fo.cons a .nil g).size = 1 + g.size := by simp [Fo.size, hh.1]
    rw [es] at hn ⊢
    have et : (Fo.cons a .nil g).texts ++ 41 :: r = a ++ (g.stexts ++ 41 :: r) := by
      rw [Fo.texts_eq, treeText, if_neg hh.1]; simp
    rw [et] at hl ⊢
    have hst : Stop (g.stexts ++ 41 :: r) := by
      cases g with
      | nil => exact stop_close _
      | cons => exact stop_space _
    obtain ⟨w1, w2⟩ := word_of hab hst
    unfold rdParts
    rw [w1, w2, if_neg (by omega)]
    have hc := shape_cases a
    rcases hc with ⟨e, _⟩ | ⟨hb, e, hk1⟩ | ⟨hb, e, hk1⟩
    · exact absurd e hs
    · rw [if_neg (by omega), if_pos hb]
      rw [e] at h2
      cases g with
      | nil => simp [isTms] at h2
      | cons b j g =>
        simp only [isTms, Bool.and_eq_true] at h2
        have hnb := name_bytes h2.1
        obtain rfl := hw.2.2.1 hnb.1
        have eg : (Fo.cons b .nil g).stexts ++ 41 :: r = 32 :: (b ++ (g.stexts ++ 41 :: r)) := by simp [Fo.stexts, treeText, hnb.1]
        have esg : (Fo.cons b .nil g).size = 1 + g.size := by simp [Fo.size, hnb.1]
        rw [esg] at hn ⊢
        rw [eg] at hl ⊢
        have hst2 : Stop (g.stexts ++ 41 :: r) := by
          cases g with
          | nil => exact stop_close _
          | cons => exact stop_space _
        obtain ⟨v1, v2⟩ := word_of hnb.2.2.1 hst2
        simp only
        rw [v1, v2, if_neg (by omega), if_pos h2.1]
        rw [rdKids_compl rd f hrd g _ (41 :: r) (n + 2) _ h2.2 hw.2.2.2.2 (by omega) (stop_close _) (by simp only [List.length_append, List.length_cons] at hl ⊢; omega)]
        simp only [rdClose, Fo.app]
        congr 4; omega
    · rw [if_neg (by omega), if_neg (by rw [hb]; decide)]
      rw [e] at h2
      rw [rdKids_compl rd f hrd g _ (41 :: r) (n + 1) _ h2 hw.2.2 (by omega) (stop_close _) (by simp only [List.length_append, List.length_cons] at hl ⊢; omega)]
      simp only [rdClose, Fo.app]
      congr 4; omega

theorem tmRd_compl (f : Nat) : Compl (tmRd f) f := by
  induction f with
  | zero => intro a k r n _ _ _ _ _ h; omega
  | succ f ih =>
    intro a k r n h hw hk hn hr hl
    unfold isTm at h
    by_cases ha : a = []
    · subst ha
      simp only [if_true] at h
      have e : treeText [] k ++ r = 40 :: (k.texts ++ 41 :: r) := by simp [treeText]
      have es : treeSize [] k = k.size := rfl
      rw [es] at hn ⊢
      rw [e] at hl ⊢
      rw [tmRd]
      simp only [List.length_cons] at hl
      exact rdParts_compl (tmRd f) f ih k r n h hk hn (by omega)
    · rw [if_neg ha] at h
      obtain rfl := hw ha
      have hb := atom_bytes h
      have es : treeSize a .nil = 1 := by simp [treeSize, ha]
      rw [es] at hn ⊢
      have et : treeText a .nil = a := by simp [treeText, ha]
      rw [et]
      obtain ⟨w1, w2⟩ := word_of hb.2.2.1 (hr ha)
      cases a with
      | nil => exact absurd rfl ha
      | cons c a =>
        have hc : c ≠ 40 := by
          rintro rfl
          have := hb.2.1
          simp only [List.all_cons, Bool.and_eq_true] at this
          have h40 : isByte 40 = false := by decide
          rw [h40] at this; cases this.1
        rw [List.cons_append] at w1 w2 ⊢
        unfold tmRd
        split
        · rename_i heq
          injection heq with h1 _
          exact absurd h1 hc
        · rw [if_neg (by omega), w1, if_pos h, w2]

/-- What a text is as a term. -/
def TmIs (s : List UInt8) (a : List UInt8) (k : Fo) : Prop := rdTree 301 s = some (a, k, []) ∧ isTm a k = true ∧ treeSize a k ≤ 300

theorem TmIs.wf {s a : List UInt8} {k : Fo} (h : TmIs s a k) : (a ≠ [] → k = .nil) ∧ k.wf := rd_wf _ _ _ _ _ h.1
theorem TmIs.text {s a : List UInt8} {k : Fo} (h : TmIs s a k) : s = treeText a k := by
  have := rd_text _ _ _ _ _ h.1
  simpa using this

theorem tm_iff (s a : List UInt8) (k : Fo) (n f : Nat) (hf : s.length < f) : tmRd f s 0 = some (a, k, [], n) ↔ TmIs s a k ∧ n = treeSize a k := by
  constructor
  · intro h
    obtain ⟨h1, h2, h3, h4, h5, h6, _⟩ := tmRd_sound _ _ _ _ _ _ _ h
    have hd := isTm_deep h2
    have hg := rd_good 301 a k [] (isTm_good h5 h6 h2) (by omega) (fun x y e => by cases e)
    rw [List.append_nil] at h1 hg
    exact ⟨⟨by rw [h1]; exact hg, h2, by omega⟩, by omega⟩
  · rintro ⟨h, rfl⟩
    have hw := h.wf
    have := tmRd_compl f a k [] 0 h.2.1 hw.1 hw.2 (by have := h.2.2; omega) (fun _ x y e => by cases e) (by rw [List.append_nil, ← h.text]; exact hf)
    rw [List.append_nil, ← h.text] at this
    simpa using this
end Go.Proofs.YtnjgaenhjdjpfaaGreatDoor
