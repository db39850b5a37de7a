/- TermKids of the model. · termText of the program. · TermKids of the program. · The law TermKids. -/
import Derived.Test.YtbcgpcnbfaipbaaDoorStext
import Derived.Test.YtbcgpcnbfaipbaaDoorS2free
import Derived.Test.YtbcgpcnbfaipbaaDoorTfree
import Derived.Test.YtbcgpcnbfaipbaaDoorShelf
import Derived.BigQuiet
import Derived.Deep.AppendLies
import Derived.Test.YtbcgpcnbfaipbaaDoorS2term
import Derived.Test.YtbcgpcnbfaipbaaDoorMark
/- TermKids of the model. -/
namespace Go.Proofs.YtbcgpcnbfaipbaaDoor
open Go.RowKit Go.ChangeMaps

theorem cnt_tms : ∀ (f : Fo) (sh : Option (List Bool)), f.wf → isTms sh f = true → f.cnt ≤ 2 * f.size ∧ (sh = none → f.cnt + 1 ≤ 2 * f.size) := by
  intro f
  induction f with
  | nil => intro sh _ h; exact ⟨Nat.le_refl _, fun e => by subst e; cases h⟩
  | cons a k r ihk ihr =>
    intro sh hw h
    match sh, h with
    | none, h =>
      simp only [isTms, Bool.and_eq_true] at h
      obtain ⟨h1, h2⟩ := h
      have hs : shapeOf a ≠ [] := by intro e; rw [e] at h1; cases h1
      have hh := (shape_head hs).1
      obtain rfl := hw.1 hh
      have := (ihr _ hw.2.2 h2).1
      simp only [Fo.cnt, Fo.size, if_neg hh]
      omega
    | some (true :: sh), h =>
      simp only [isTms, Bool.and_eq_true] at h
      have h2 := (ihr _ hw.2.2 h.2).1
      by_cases ha : a = []
      · subst ha
        simp only [if_true] at h
        have := (ihk none hw.2.1 h.1).2 rfl
        simp only [Fo.cnt, Fo.size, if_true]
        exact ⟨by omega, fun e => by cases e⟩
      · obtain rfl := hw.1 ha
        simp only [Fo.cnt, Fo.size, if_neg ha]
        exact ⟨by omega, fun e => by cases e⟩
    | some (false :: sh), h =>
      simp only [isTms, Bool.and_eq_true] at h
      have hn := (name_bytes h.1).1
      have h2 := (ihr _ hw.2.2 h.2).1
      obtain rfl := hw.1 hn
      simp only [Fo.cnt, Fo.size, if_neg hn]
      exact ⟨by omega, fun e => by cases e⟩
    | some [], h => simp [isTms] at h

theorem cnt_nth {f : Fo} {j : Nat} {a : List UInt8} {k : Fo} (h : f.nth j = some (a, k)) : k.cnt < f.cnt := Fo.nth_cnt f j a k h

/-- the texts of the parts that are terms, as the model takes them -/
def skU (h : List UInt8) : Fo → Nat → List (List UInt8)
  | .nil, _ => []
  | .cons a k r, i => (if innB h i = true then [treeText a k] else []) ++ skU h r (i + 1)

def kidL (a : List UInt8) (k : Fo) : List (List UInt8) := match a, k with
  | [], .cons h _ r => skU h r 1
  | _, _ => []

theorem sk_step {f : Fo} {j i : Nat} {a h : List UInt8} {k : Fo} (e : f.nth j = some (a, k)) : skU h (f.from_ j) i = (if innB h i = true then [treeText a k] else []) ++ skU h (f.from_ (j + 1)) (i + 1) := by
  rw [Fo.from_nth f j a k e]
  rfl

theorem sk_len (h : List UInt8) : ∀ (f : Fo) (i : Nat), (skU h f i).length ≤ f.len
  | .nil, _ => Nat.le_refl _
  | .cons a k r, i => by
    have := sk_len h r (i + 1)
    simp only [skU, List.length_append, Fo.len]
    split <;> simp <;> omega

def KidsIs (s : List UInt8) (xs : List (List UInt8)) (b : Bool) : Prop := (∃ a k, TmOk s a k ∧ xs = kidL a k ∧ b = true) ∨ ((∀ a k, ¬ TmOk s a k) ∧ xs = [] ∧ b = false)

theorem KidsIs.one {s : List UInt8} {xs xs' : List (List UInt8)} {b b' : Bool} (h : KidsIs s xs b) (h' : KidsIs s xs' b') : xs' = xs ∧ b' = b := by
  rcases h with ⟨a, k, i1, rfl, rfl⟩ | ⟨n1, rfl, rfl⟩ <;> rcases h' with ⟨a', k', i2, rfl, rfl⟩ | ⟨n2, rfl, rfl⟩
  · obtain ⟨rfl, rfl⟩ := i1.unique i2
    exact ⟨rfl, rfl⟩
  · exact absurd i1 (n2 a k)
  · exact absurd i2 (n1 a' k')
  · exact ⟨rfl, rfl⟩

theorem kidL_len {s a : List UInt8} {k : Fo} (h : TmOk s a k) : (kidL a k).length ≤ 3 := by
  unfold kidL
  split
  · rename_i g k0 r
    have htm := h.2.2.1
    simp only [isTm, if_true, isTms, Bool.and_eq_true] at htm
    have h1 := isTms_len _ _ htm.2
    have h2 := sk_len g r 1
    have h3 := shape_short g
    omega
  · simp

theorem KidsIs.len {s : List UInt8} {xs : List (List UInt8)} {b : Bool} (h : KidsIs s xs b) : xs.length ≤ 900 := by
  rcases h with ⟨a, k, i1, rfl, rfl⟩ | ⟨n1, rfl, rfl⟩
  · have := kidL_len i1
    omega
  · simp

def AnsKids (s : List UInt8) (w : World) (e : Ending) (w' : World) : Prop :=
  ∃ V vc b xs, e = .returned (.tuple #[.slice V xs.length vc, .bool b]) ∧ w'.ownsRow w.heap.size 9 1 (.slice V xs.length vc) xs.length (xs.map S) ∧ Fr No w w' ∧ KidsIs s xs b

end Go.Proofs.YtbcgpcnbfaipbaaDoor

/- termText of the program. -/
namespace Go.Proofs.YtbcgpcnbfaipbaaDoor
open Go.RowKit Go.ChangeMaps

theorem tx_step {f : Ts} {j i : Nat} {h a ph pa : List UInt8} {d : Nat} {k : Ts} {bs : List (List UInt8)} (e : f.nth j = some (h, a, d, k)) : txL (f.from_ j) bs ph pa i = txN (insB bs ph pa i) h a d k :: txL (f.from_ (j + 1)) bs ph pa (i + 1) := by
  rw [Ts.from_nth f j h a d k e]
  rfl

theorem tok_at : ∀ (f : Ts) (j i : Nat) (h a ph pa : List UInt8) (d : Nat) (k : Ts) (bs : List (List UInt8)), Tok f bs ph pa i → f.nth j = some (h, a, d, k) → TokN (insB bs ph pa (i + j)) h a d k
  | .nil, _, _, _, _, _, _, _, _, _, _, e => by cases e
  | .cons h a d k r, 0, i, h', a', ph, pa, d', k', bs, ht, e => by
    simp only [Ts.nth, Option.some.injEq, Prod.mk.injEq] at e
    obtain ⟨rfl, rfl, rfl, rfl⟩ := e
    exact ht.1
  | .cons h a d k r, j + 1, i, h', a', ph, pa, d', k', bs, ht, e => by
    have := tok_at r j (i + 1) h' a' ph pa d' k' bs ht.2 e
    rw [show i + (j + 1) = i + 1 + j by omega]
    exact this

theorem ins_len (bs : List (List UInt8)) (h b : List UInt8) (i : Nat) : (insB bs h b i).length ≤ bs.length + 1 := by
  unfold insB
  split <;> simp

theorem txL_len : ∀ (f : Ts) (bs : List (List UInt8)) (h a : List UInt8) (i : Nat), (txL f bs h a i).length = f.len
  | .nil, _, _, _, _ => rfl
  | .cons h' a' d k r, bs, h, a, i => by simp [txL, Ts.len, txL_len r]

end Go.Proofs.YtbcgpcnbfaipbaaDoor

/- TermKids of the program. -/
namespace Go.Proofs.YtbcgpcnbfaipbaaDoor
open Go.RowKit Go.ChangeMaps

/-- the model's texts of the parts that are terms are those of the program's parts -/
theorem sk_kids (h : List UInt8) : ∀ (f : Fo) (i c : Nat), c + i = kidsOf h → isTms (some (List.replicate c true)) f = true → skU h f (i + if bindsB h then 2 else 1) = f.tlist
  | .nil, _, _, _, _ => rfl
  | .cons a k r, i, 0, _, hs => by simp [isTms] at hs
  | .cons a k r, i, c + 1, hc, hs => by
    rw [List.replicate_succ] at hs
    simp only [isTms, Bool.and_eq_true] at hs
    have hin := inn_kid h i (by omega)
    have := sk_kids h r (i + 1) c (by omega) hs.2
    simp only [skU, hin, if_true, Fo.tlist, List.singleton_append]
    rw [show (i + if bindsB h then 2 else 1) + 1 = i + 1 + if bindsB h then 2 else 1 by omega, this]

theorem kid_texts {a : List UInt8} {k : Fo} (h : isTm a k = true) (hw : a ≠ [] → k = .nil) (hk : k.wf) : txL (cv k (.parts [])) [] (ndH a k) (ndA [] a k) 0 = kidL a k := by
  by_cases ha : a = []
  · subst ha
    cases k with
    | nil => simp [isTm, isTms] at h
    | cons g k0 r =>
      have hs : isTms none (.cons g k0 r) = true := by simpa [isTm] using h
      simp only [isTms, Bool.and_eq_true] at hs
      have hs0 : shapeOf g ≠ [] := by intro e; rw [e] at hs; cases hs.1
      have e0 : kidL [] (.cons g k0 r) = skU g r 1 := rfl
      have eH : ndH [] (.cons g k0 r) = g := rfl
      rw [e0, eH]
      rcases shape_cases g with ⟨e, _⟩ | ⟨hb, e, hk1⟩ | ⟨hb, e, hk1⟩
      · exact absurd e hs0
      · rw [e] at hs
        cases r with
        | nil => simp [isTms] at hs
        | cons b nk r' =>
          have eA : ndA [] [] (.cons g k0 (.cons b nk r')) = b := by simp [ndA, hd1, hd2, hb]
          have e1 : cv (.cons g k0 (.cons b nk r')) (.parts []) = cv r' (.kids [] g b 0) := by simp [cv, hb]
          simp only [isTms, Bool.and_eq_true] at hs
          have h1 := ((tx_eq r' hk.2.2.2.2).1 [] g b 0 _ hs.2.2)
          have h2 := sk_kids g r' 0 _ (by omega) hs.2.2
          rw [hb] at h2
          have e3 : innB g 1 = false := by unfold innB; rw [e]; rfl
          rw [eA, e1, h1, ← h2]
          simp [skU, e3]
      · rw [e] at hs
        have eA : ndA [] [] (.cons g k0 r) = [] := by simp [ndA, hd1, hb]
        have e1 : cv (.cons g k0 r) (.parts []) = cv r (.kids [] g [] 0) := by simp [cv, hb]
        have h1 := ((tx_eq r hk.2.2).1 [] g [] 0 _ hs.2)
        have h2 := sk_kids g r 0 _ (by omega) hs.2
        rw [hb] at h2
        rw [eA, e1, h1, ← h2]
        rfl
  · obtain rfl := hw ha
    cases a
    · exact absurd rfl ha
    · rfl

theorem AnsKids.none_ {s : List UInt8} {w w1 : World} {A : Option Addr} {c : Nat} (ho : w1.ownsRow w.heap.size 9 1 (.slice A 0 c) 0 []) (hf : Fr No w w1) (hno : ∀ a k, ¬ TmOk s a k) : AnsKids s w (.returned (.tuple #[.slice A 0 c, .bool false])) w1 :=
  ⟨A, c, false, [], rfl, ho, hf, .inr ⟨hno, rfl, rfl⟩⟩

theorem tok_term {a : List UInt8} {k : Fo} (h : isTm a k = true) (hw : a ≠ [] → k = .nil) (hk : k.wf) : Tok (cv k (.parts [])) [] (ndH a k) (ndA [] a k) 0 := by
  by_cases ha : a = []
  · subst ha
    have h2 : isTms none k = true := by simpa [isTm] using h
    simp only [ndH, ndA, if_true]
    exact (tok_eq k hk).2.1 [] h2
  · obtain rfl := hw ha
    trivial

end Go.Proofs.YtbcgpcnbfaipbaaDoor

/- The law TermKids. -/
namespace Go.Proofs.YtbcgpcnbfaipbaaDoor
open Go.RowKit Go.ChangeMaps

end Go.Proofs.YtbcgpcnbfaipbaaDoor
