/- Redexes and steps: in the program's terms, and in trees. -/
import Derived.Test.YtnjgaenhjdjpfaaGreatDoorTrn
namespace Go.Proofs.YtnjgaenhjdjpfaaGreatDoor
open Go.RowKit Go.ChangeMaps

namespace Ts
def hd : Ts → List UInt8
  | nil => []
  | cons h _ _ _ _ => h
def at1 : Ts → List UInt8
  | nil => []
  | cons _ a _ _ _ => a
def kids1 : Ts → Ts
  | nil => nil
  | cons _ _ _ k _ => k
def one : Ts → Nat → Ts
  | nil, _ => nil
  | cons h a d k _, 0 => cons h a d k nil
  | cons _ _ _ _ r, j + 1 => r.one j
end Ts

/-- a step can replace the term as a whole -/
def rxT (h : List UInt8) (k : Ts) : Bool := h == hLet || (h == hApp && k.hd == hLam) || ((h == hFst || h == hSnd) && k.hd == hPair) || (h == hIf && k.hd == hTruth)

/-- what stands in its place -/
def rdT (h : List UInt8) (k : Ts) : Ts :=
  if h = hLet then pbK (k.one 0) (k.one 1) 0 [] 0
  else if h = hApp then pbK (k.one 1) (k.kids1.one 0) 0 [] 0
  else if h = hFst then k.kids1.one 0
  else if h = hSnd then k.kids1.one 1
  else if k.at1 = tTrue then k.one 1 else k.one 2

def rx1 (h : List UInt8) (k : Ts) : Nat := if rxT h k = true then 1 else 0

/-- how many parts are redexes -/
def cR : Ts → Nat
  | .nil => 0
  | .cons h _ _ k r => rx1 h k + cR k + cR r

/-- a step at the redex with an index -/
def stF : Ts → Nat → Ts
  | .nil, _ => .nil
  | .cons h a d k r, n =>
    if n < rx1 h k + cR k then
      (if rxT h k = true ∧ n = 0 then (rdT h k).app r else .cons h a d (stF k (n - rx1 h k)) r)
    else .cons h a d k (stF r (n - (rx1 h k + cR k)))

theorem er_hd (t : Ts) : (er t).hd = t.hd := by cases t <;> rfl
theorem er_kids1 (t : Ts) : (er t).kids1 = er t.kids1 := by cases t <;> rfl
theorem er_one : ∀ (t : Ts) (j : Nat), (er t).one j = er (t.one j)
  | .nil, _ => rfl
  | .cons h a d k r, 0 => by simp only [er, Ts.one]
  | .cons h a d k r, j + 1 => er_one r j

theorem wf_kids1 {t : Ts} (h : WfT t) : WfT t.kids1 := by
  cases t with
  | nil => trivial
  | cons => exact h.2.2.1
theorem wf_one : ∀ (t : Ts) (j : Nat), WfT t → WfT (t.one j)
  | .nil, _, _ => trivial
  | .cons _ _ _ _ _, 0, h => ⟨h.1, h.2.1, h.2.2.1, trivial⟩
  | .cons _ _ _ _ r, j + 1, h => wf_one r j h.2.2.2
theorem one_len : ∀ (t : Ts) (j : Nat), j < t.len → (t.one j).len = 1
  | .nil, _, h => by simp [Ts.len] at h
  | .cons _ _ _ _ _, 0, _ => rfl
  | .cons _ _ _ _ r, j + 1, h => one_len r j (by simp only [Ts.len] at h; omega)

theorem rx_er (h : List UInt8) (k : Ts) : rxT h (er k) = rxT h k := by simp only [rxT, er_hd]
theorem rx1_er (h : List UInt8) (k : Ts) : rx1 h (er k) = rx1 h k := by simp only [rx1, rx_er]

theorem cR_er : ∀ t : Ts, cR (er t) = cR t
  | .nil => rfl
  | .cons h a d k r => by simp only [er, cR, rx1_er, cR_er k, cR_er r]

theorem rx_cases {h : List UInt8} {k : Ts} (hx : rxT h k = true) : h = hLet ∨ (h = hApp ∧ k.hd = hLam) ∨ (h = hFst ∧ k.hd = hPair) ∨ (h = hSnd ∧ k.hd = hPair) ∨ (h = hIf ∧ k.hd = hTruth) := by
  simp only [rxT, Bool.or_eq_true, Bool.and_eq_true, beq_iff_eq] at hx
  rcases hx with ((h1 | h1) | ⟨h1 | h1, h2⟩) | h1
  · exact .inl h1
  · exact .inr (.inl h1)
  · exact .inr (.inr (.inl ⟨h1, h2⟩))
  · exact .inr (.inr (.inr (.inl ⟨h1, h2⟩)))
  · exact .inr (.inr (.inr (.inr h1)))

theorem k_let : kidsOf hLet = 2 := by decide
theorem k_app : kidsOf hApp = 2 := by decide
theorem k_lam : kidsOf hLam = 1 := by decide
theorem k_pair : kidsOf hPair = 2 := by decide
theorem k_fst : kidsOf hFst = 1 := by decide
theorem k_snd : kidsOf hSnd = 1 := by decide
theorem k_if : kidsOf hIf = 3 := by decide

theorem kids1_len {k : Ts} (hw : WfT k) (h0 : k.len ≠ 0) : k.kids1.len = kidsOf k.hd := by
  cases k with
  | nil => exact absurd rfl h0
  | cons h a d k r => exact hw.1

/-- what is put in a redex's place is one term -/
theorem rd_ok {h : List UInt8} {k : Ts} (hw : WfT k) (hk : k.len = kidsOf h) (hx : rxT h k = true) : WfT (rdT h k) ∧ (rdT h k).len = 1 ∧ rdT h (er k) = er (rdT h k) := by
  have n1 : ¬ hApp = hLet := by decide
  have n2 : ¬ hFst = hLet := by decide
  have n3 : ¬ hFst = hApp := by decide
  have n4 : ¬ hSnd = hLet := by decide
  have n5 : ¬ hSnd = hApp := by decide
  have n6 : ¬ hSnd = hFst := by decide
  have n7 : ¬ hIf = hLet := by decide
  have n8 : ¬ hIf = hApp := by decide
  have n9 : ¬ hIf = hFst := by decide
  have n10 : ¬ hIf = hSnd := by decide
  rcases rx_cases hx with rfl | ⟨rfl, h2⟩ | ⟨rfl, h2⟩ | ⟨rfl, h2⟩ | ⟨rfl, h2⟩
  · rw [k_let] at hk
    have l0 := one_len k 0 (by omega)
    have l1 := one_len k 1 (by omega)
    have w0 := wf_one k 0 hw
    have w1 := wf_one k 1 hw
    simp only [rdT, if_true, er_one]
    exact ⟨wf_pb _ l0 w0 _ _ _ _ w1, by rw [pb_len _ l0]; exact l1, (er_pb _ l0 w0 _ _ _ _ w1).symm⟩
  · rw [k_app] at hk
    have e := kids1_len hw (by omega)
    rw [h2, k_lam] at e
    have l0 := one_len k 1 (by omega)
    have l1 := one_len k.kids1 0 (by omega)
    have w0 := wf_one k 1 hw
    have w1 := wf_one _ 0 (wf_kids1 hw)
    simp only [rdT, if_neg n1, if_true, er_kids1, er_one]
    exact ⟨wf_pb _ l0 w0 _ _ _ _ w1, by rw [pb_len _ l0]; exact l1, (er_pb _ l0 w0 _ _ _ _ w1).symm⟩
  · rw [k_fst] at hk
    have e := kids1_len hw (by omega)
    rw [h2, k_pair] at e
    simp only [rdT, if_neg n2, if_neg n3, if_true, er_kids1, er_one]
    exact ⟨wf_one _ 0 (wf_kids1 hw), one_len _ 0 (by omega), trivial⟩
  · rw [k_snd] at hk
    have e := kids1_len hw (by omega)
    rw [h2, k_pair] at e
    simp only [rdT, if_neg n4, if_neg n5, if_neg n6, if_true, er_kids1, er_one]
    exact ⟨wf_one _ 1 (wf_kids1 hw), one_len _ 1 (by omega), trivial⟩
  · rw [k_if] at hk
    have e := kids1_len hw (by omega)
    rw [h2, kids_truth] at e
    have ea : (er k).at1 = k.at1 := by
      cases k with
      | nil => rfl
      | cons h a d k r =>
        simp only [Ts.kids1] at e
        simp only [er, Ts.at1, e, if_true]
    simp only [rdT, if_neg n7, if_neg n8, if_neg n9, if_neg n10, er_one, ea]
    split
    · exact ⟨wf_one _ 1 hw, one_len _ 1 (by omega), rfl⟩
    · exact ⟨wf_one _ 2 hw, one_len _ 2 (by omega), rfl⟩

theorem st_len : ∀ (t : Ts) (n : Nat), WfT t → (stF t n).len = t.len
  | .nil, _, _ => rfl
  | .cons h a d k r, n, hw => by
    simp only [stF]
    split
    · split
      · rename_i hx
        rw [app_len, (rd_ok hw.2.2.1 hw.1 hx.1).2.1, Ts.len]; omega
      · simp only [Ts.len]
    · simp only [Ts.len, st_len r _ hw.2.2.2]

theorem wf_st : ∀ (t : Ts) (n : Nat), WfT t → WfT (stF t n)
  | .nil, _, _ => trivial
  | .cons h a d k r, n, hw => by
    simp only [stF]
    split
    · split
      · rename_i hx
        exact ts_wf_app _ _ (rd_ok hw.2.2.1 hw.1 hx.1).1 hw.2.2.2
      · exact ⟨by rw [st_len _ _ hw.2.2.1]; exact hw.1, by rw [st_len _ _ hw.2.2.1]; exact hw.2.1, wf_st k _ hw.2.2.1, hw.2.2.2⟩
    · exact ⟨hw.1, hw.2.1, hw.2.2.1, wf_st r _ hw.2.2.2⟩

theorem er_st : ∀ (t : Ts) (n : Nat), WfT t → er (stF t n) = stF (er t) n
  | .nil, _, _ => rfl
  | .cons h a d k r, n, hw => by
    simp only [er, stF, rx1_er, cR_er, rx_er]
    split
    · split
      · rename_i hx
        rw [er_app, (rd_ok hw.2.2.1 hw.1 hx.1).2.2]
      · simp only [er, st_len _ _ hw.2.2.1, er_st k _ hw.2.2.1]
    · simp only [er, er_st r _ hw.2.2.2]

/-- trees: what has parts can be replaced as a whole -/
def rxF : Fo → Bool
  | .cons h _ (.cons a k _) => h == hLet || (h == hApp && (a == [] && hd1 k == hLam)) || ((h == hFst || h == hSnd) && (a == [] && hd1 k == hPair)) || (h == hIf && (a == tTrue || a == tFalse))
  | _ => false

namespace Fo
def atomN : Fo → Nat → List UInt8
  | nil, _ => []
  | cons a _ _, 0 => a
  | cons _ _ r, j + 1 => r.atomN j
def kidN : Fo → Nat → Fo
  | nil, _ => nil
  | cons _ k _, 0 => k
  | cons _ _ r, j + 1 => r.kidN j
end Fo

/-- what stands in a redex's place -/
def rdFA (k : Fo) : List UInt8 :=
  if hd1 k = hLet then sbA (k.atomN 1) (k.atomN 2) (k.atomN 3)
  else if hd1 k = hApp then sbA ((k.kidN 1).atomN 1) (k.atomN 2) ((k.kidN 1).atomN 2)
  else if hd1 k = hFst then (k.kidN 1).atomN 1
  else if hd1 k = hSnd then (k.kidN 1).atomN 2
  else if k.atomN 1 = tTrue then k.atomN 2 else k.atomN 3
def rdFK (k : Fo) : Fo :=
  if hd1 k = hLet then sbK (k.atomN 1) (k.atomN 3) (k.kidN 3) (k.atomN 2) (k.kidN 2)
  else if hd1 k = hApp then sbK ((k.kidN 1).atomN 1) ((k.kidN 1).atomN 2) ((k.kidN 1).kidN 2) (k.atomN 2) (k.kidN 2)
  else if hd1 k = hFst then (k.kidN 1).kidN 1
  else if hd1 k = hSnd then (k.kidN 1).kidN 2
  else if k.atomN 1 = tTrue then k.kidN 2 else k.kidN 3
/-- whether it is too large -/
def grF (k : Fo) : Bool :=
  if hd1 k = hLet then decide (300 < treeSize (k.atomN 3) (k.kidN 3) + usT (k.atomN 1) (k.atomN 3) (k.kidN 3) * (treeSize (k.atomN 2) (k.kidN 2) - 1))
  else if hd1 k = hApp then decide (300 < treeSize ((k.kidN 1).atomN 2) ((k.kidN 1).kidN 2) + usT ((k.kidN 1).atomN 1) ((k.kidN 1).atomN 2) ((k.kidN 1).kidN 2) * (treeSize (k.atomN 2) (k.kidN 2) - 1))
  else false

theorem inv2 {f : Fo} (h : isTms (some [true, true]) f = true) : ∃ a k b j, f = .cons a k (.cons b j .nil) ∧ isTm a k = true ∧ isTm b j = true := by
  cases f with
  | nil => simp [isTms] at h
  | cons a k f =>
    simp only [isTms, Bool.and_eq_true] at h
    cases f with
    | nil => simp [isTms] at h
    | cons b j f =>
      simp only [isTms, Bool.and_eq_true] at h
      cases f with
      | cons => simp [isTms] at h
      | nil => exact ⟨a, k, b, j, rfl, h.1, h.2.1⟩
theorem inv1 {f : Fo} (h : isTms (some [true]) f = true) : ∃ a k, f = .cons a k .nil ∧ isTm a k = true := by
  cases f with
  | nil => simp [isTms] at h
  | cons a k f =>
    simp only [isTms, Bool.and_eq_true] at h
    cases f with
    | cons => simp [isTms] at h
    | nil => exact ⟨a, k, rfl, h.1⟩
theorem inv3 {f : Fo} (h : isTms (some [true, true, true]) f = true) : ∃ a k g, f = .cons a k g ∧ isTm a k = true ∧ isTms (some [true, true]) g = true := by
  cases f with
  | nil => simp [isTms] at h
  | cons a k f =>
    simp only [isTms, Bool.and_eq_true] at h
    exact ⟨a, k, f, rfl, h.1, h.2⟩
theorem invx {f : Fo} {sh : List Bool} (h : isTms (some (false :: sh)) f = true) : ∃ a k g, f = .cons a k g ∧ isName a = true ∧ isTms (some sh) g = true := by
  cases f with
  | nil => simp [isTms] at h
  | cons a k f =>
    simp only [isTms, Bool.and_eq_true] at h
    exact ⟨a, k, f, rfl, h.1, h.2⟩
theorem invh {f : Fo} (h : isTms none f = true) : ∃ g k r, f = .cons g k r ∧ isTms (some (shapeOf g)) r = true ∧ shapeOf g ≠ [] := by
  cases f with
  | nil => simp [isTms] at h
  | cons g k r =>
    simp only [isTms, Bool.and_eq_true] at h
    exact ⟨g, k, r, rfl, h.2, fun e => by rw [e] at h; cases h.1⟩

theorem s_let : shapeOf hLet = [false, true, true] := by decide
theorem s_app : shapeOf hApp = [true, true] := by decide
theorem s_lam : shapeOf hLam = [false, true] := by decide
theorem s_pair : shapeOf hPair = [true, true] := by decide
theorem s_fst : shapeOf hFst = [true] := by decide
theorem s_snd : shapeOf hSnd = [true] := by decide
theorem s_if : shapeOf hIf = [true, true, true] := by decide

/-- a term with parts: its kinds -/
inductive Kd : Fo → Prop where
  | let_ (x : List UInt8) (k1 : Fo) (a2 : List UInt8) (k2 : Fo) (a3 : List UInt8) (k3 : Fo) : isName x = true → OkT a2 k2 → OkT a3 k3 → Kd (.cons hLet .nil (.cons x k1 (.cons a2 k2 (.cons a3 k3 .nil))))
  | lam (x : List UInt8) (k1 : Fo) (a2 : List UInt8) (k2 : Fo) : isName x = true → OkT a2 k2 → Kd (.cons hLam .nil (.cons x k1 (.cons a2 k2 .nil)))
  | two (h : List UInt8) (a1 : List UInt8) (k1 : Fo) (a2 : List UInt8) (k2 : Fo) : h = hApp ∨ h = hPair → OkT a1 k1 → OkT a2 k2 → Kd (.cons h .nil (.cons a1 k1 (.cons a2 k2 .nil)))
  | one (h : List UInt8) (a1 : List UInt8) (k1 : Fo) : h = hFst ∨ h = hSnd → OkT a1 k1 → Kd (.cons h .nil (.cons a1 k1 .nil))
  | if_ (a1 : List UInt8) (k1 : Fo) (a2 : List UInt8) (k2 : Fo) (a3 : List UInt8) (k3 : Fo) : OkT a1 k1 → OkT a2 k2 → OkT a3 k3 → Kd (.cons hIf .nil (.cons a1 k1 (.cons a2 k2 (.cons a3 k3 .nil))))

theorem kd_of {k : Fo} (hk : k.wf) (h : isTms none k = true) : Kd k := by
  obtain ⟨g, k0, r, rfl, hs, hne⟩ := invh h
  obtain rfl := hk.1 (shape_head hne).1
  have hr := hk.2.2
  by_cases h7 : g = hLet
  · subst h7
    rw [s_let] at hs
    obtain ⟨x, kx, f, rfl, hx, hs⟩ := invx hs
    obtain ⟨a, j, b, l, rfl, t1, t2⟩ := inv2 hs
    exact .let_ _ _ _ _ _ _ hx ⟨t1, hr.2.2.1, hr.2.2.2.1⟩ ⟨t2, hr.2.2.2.2.1, hr.2.2.2.2.2.1⟩
  by_cases h1 : g = hLam
  · subst h1
    rw [s_lam] at hs
    obtain ⟨x, kx, f, rfl, hx, hs⟩ := invx hs
    obtain ⟨a, j, rfl, t1⟩ := inv1 hs
    exact .lam _ _ _ _ hx ⟨t1, hr.2.2.1, hr.2.2.2.1⟩
  by_cases h2 : g = hApp ∨ g = hPair
  · have : shapeOf g = [true, true] := by rcases h2 with rfl | rfl <;> decide
    rw [this] at hs
    obtain ⟨a, j, b, l, rfl, t1, t2⟩ := inv2 hs
    exact .two _ _ _ _ _ h2 ⟨t1, hr.1, hr.2.1⟩ ⟨t2, hr.2.2.1, hr.2.2.2.1⟩
  by_cases h3 : g = hFst ∨ g = hSnd
  · have : shapeOf g = [true] := by rcases h3 with rfl | rfl <;> decide
    rw [this] at hs
    obtain ⟨a, j, rfl, t1⟩ := inv1 hs
    exact .one _ _ _ h3 ⟨t1, hr.1, hr.2.1⟩
  by_cases h4 : g = hIf
  · subst h4
    rw [s_if] at hs
    obtain ⟨a, j, f, rfl, t1, hs⟩ := inv3 hs
    obtain ⟨b, l, c, m, rfl, t2, t3⟩ := inv2 hs
    exact .if_ _ _ _ _ _ _ ⟨t1, hr.1, hr.2.1⟩ ⟨t2, hr.2.2.1, hr.2.2.2.1⟩ ⟨t3, hr.2.2.2.2.1, hr.2.2.2.2.2.1⟩
  refine absurd ?_ hne
  simp only [not_or] at h2 h3
  simp [shapeOf, h1, h2, h3, h4, h7]

theorem size_pos {a : List UInt8} {k : Fo} (h : OkT a k) : 1 ≤ treeSize a k := isTm_size h.tm

/-- a term's head in the program -/
theorem hd_nd {a : List UInt8} {k : Fo} (h : OkT a k) (bs : List (List UInt8)) : (nd bs a k).hd = hTruth ↔ (a = tTrue ∨ a = tFalse) := by
  have e : (nd bs a k).hd = ndH a k := rfl
  rw [e]
  by_cases ha : a = []
  · subst ha
    have htm := h.tm
    simp only [isTm, if_true] at htm
    simp only [ndH, if_true]
    refine ⟨fun e => ?_, fun e => by rcases e with e | e <;> cases e⟩
    have := top_len [] h.wf htm
    have h2 := ((wf_cv k h.wf).2.1 [] htm).2
    rw [h2, e] at this
    exact absurd kids_truth this
  · simp only [ndH, if_neg ha]
    by_cases ht : a = tTrue ∨ a = tFalse
    · rw [if_pos ht]
      exact ⟨fun _ => ht, fun _ => rfl⟩
    · rw [if_neg ht]
      exact ⟨fun e => absurd e (by decide), fun e => absurd e ht⟩

theorem hd_is {a : List UInt8} {k : Fo} (bs : List (List UInt8)) (g : List UInt8) (hg : g = hLam ∨ g = hPair) : (nd bs a k).hd = g ↔ (a = [] ∧ hd1 k = g) := by
  have e : (nd bs a k).hd = ndH a k := rfl
  rw [e]
  unfold ndH
  by_cases ha : a = []
  · rw [if_pos ha]
    exact ⟨fun e => ⟨ha, e⟩, fun e => e.2⟩
  · rw [if_neg ha]
    refine ⟨fun e => ?_, fun e => absurd e.1 ha⟩
    rcases hg with rfl | rfl
    · split at e <;> exact absurd e (by decide)
    · split at e <;> exact absurd e (by decide)

/- A step of a tree is a step of the program's term. -/

theorem cv_let (bs : List (List UInt8)) (x : List UInt8) (k1 : Fo) (a2 : List UInt8) (k2 : Fo) (a3 : List UInt8) (k3 : Fo) :
    cv (.cons hLet .nil (.cons x k1 (.cons a2 k2 (.cons a3 k3 .nil)))) (.parts bs) = (nd bs a2 k2).app (nd (bs ++ [x]) a3 k3) := rfl
theorem cv_lam (bs : List (List UInt8)) (x : List UInt8) (k1 : Fo) (a2 : List UInt8) (k2 : Fo) :
    cv (.cons hLam .nil (.cons x k1 (.cons a2 k2 .nil))) (.parts bs) = nd (bs ++ [x]) a2 k2 := rfl
theorem cv_two (bs : List (List UInt8)) (h : List UInt8) (hh : h = hApp ∨ h = hPair) (a1 : List UInt8) (k1 : Fo) (a2 : List UInt8) (k2 : Fo) :
    cv (.cons h .nil (.cons a1 k1 (.cons a2 k2 .nil))) (.parts bs) = (nd bs a1 k1).app (nd bs a2 k2) := by
  rcases hh with rfl | rfl <;> rfl
theorem cv_one (bs : List (List UInt8)) (h : List UInt8) (hh : h = hFst ∨ h = hSnd) (a1 : List UInt8) (k1 : Fo) :
    cv (.cons h .nil (.cons a1 k1 .nil)) (.parts bs) = nd bs a1 k1 := by
  rcases hh with rfl | rfl <;> rfl
theorem cv_if (bs : List (List UInt8)) (a1 : List UInt8) (k1 : Fo) (a2 : List UInt8) (k2 : Fo) (a3 : List UInt8) (k3 : Fo) :
    cv (.cons hIf .nil (.cons a1 k1 (.cons a2 k2 (.cons a3 k3 .nil)))) (.parts bs) = (nd bs a1 k1).app ((nd bs a2 k2).app (nd bs a3 k3)) := rfl

theorem nd_cons (bs : List (List UInt8)) (a : List UInt8) (k : Fo) : nd bs a k = .cons (ndH a k) (ndA bs a k) (ndD bs a) (cv k (.parts bs)) .nil := rfl

structure RdOk (bs : List (List UInt8)) (k : Fo) : Prop where
  ok : OkT (rdFA k) (rdFK k)
  eb : er (nd bs (rdFA k) (rdFK k)) = er (rdT (hd1 k) (cv k (.parts bs)))
  gr : grF k = true → 300 < treeSize (rdFA k) (rdFK k)

theorem kdT {k : Fo} (h : OkT [] k) : Kd k := kd_of h.wf (by have := h.tm; simpa only [isTm, if_true] using this)

theorem lam_of {k : Fo} (h : OkT [] k) (e : hd1 k = hLam) : ∃ x k1 a2 k2, k = .cons hLam .nil (.cons x k1 (.cons a2 k2 .nil)) ∧ isName x = true ∧ OkT a2 k2 := by
  cases kdT h with
  | let_ => exact absurd e (show ¬ hLet = hLam by decide)
  | lam x k1 a2 k2 hx h2 => exact ⟨x, k1, a2, k2, rfl, hx, h2⟩
  | two g a1 k1 a2 k2 hg => rcases hg with rfl | rfl <;> exact absurd e (show ¬ _ = _ from by simp only [hd1]; decide)
  | one g a1 k1 hg => rcases hg with rfl | rfl <;> exact absurd e (show ¬ _ = _ from by simp only [hd1]; decide)
  | if_ => exact absurd e (show ¬ hIf = hLam by decide)

theorem pair_of {k : Fo} (h : OkT [] k) (e : hd1 k = hPair) : ∃ a1 k1 a2 k2, k = .cons hPair .nil (.cons a1 k1 (.cons a2 k2 .nil)) ∧ OkT a1 k1 ∧ OkT a2 k2 := by
  cases kdT h with
  | let_ => exact absurd e (show ¬ hLet = hPair by decide)
  | lam => exact absurd e (show ¬ hLam = hPair by decide)
  | two g a1 k1 a2 k2 hg h1 h2 =>
    have : g = hPair := e
    subst this
    exact ⟨a1, k1, a2, k2, rfl, h1, h2⟩
  | one g a1 k1 hg => rcases hg with rfl | rfl <;> exact absurd e (show ¬ _ = _ from by simp only [hd1]; decide)
  | if_ => exact absurd e (show ¬ hIf = hPair by decide)

theorem atom_isT {a : List UInt8} {k : Fo} (h : OkT a k) (bs : List (List UInt8)) (ht : a = tTrue ∨ a = tFalse) : (nd bs a k).at1 = a := by
  have e : (nd bs a k).at1 = ndA bs a k := rfl
  have hane : a ≠ [] := by rcases ht with rfl | rfl <;> decide
  rw [e]
  simp only [ndA, if_neg hane, if_pos ht]

/-- the same terms are redexes -/
theorem rx_eq (bs : List (List UInt8)) {k : Fo} (hk : Kd k) : rxF k = rxT (hd1 k) (cv k (.parts bs)) := by
  cases hk with
  | let_ => rfl
  | lam => rfl
  | two g a1 k1 a2 k2 hg h1 h2 =>
    rcases hg with rfl | rfl
    · rw [cv_two bs _ (.inl rfl), Bool.eq_iff_iff]
      have e := hd_is (k := k1) (a := a1) bs hLam (.inl rfl)
      have e1 : ((nd bs a1 k1).app (nd bs a2 k2)).hd = (nd bs a1 k1).hd := rfl
      have e2 : rxF (.cons hApp .nil (.cons a1 k1 (.cons a2 k2 .nil))) = (a1 == [] && hd1 k1 == hLam) := by
        simp only [rxF, show (hApp == hLet) = false from by decide, show (hApp == hApp) = true from by decide, show (hApp == hFst) = false from by decide, show (hApp == hSnd) = false from by decide, show (hApp == hIf) = false from by decide, Bool.false_or, Bool.true_and, Bool.false_and, Bool.or_false]
      have e3 : ∀ t : Ts, rxT hApp t = (t.hd == hLam) := fun t => by
        simp only [rxT, show (hApp == hLet) = false from by decide, show (hApp == hApp) = true from by decide, show (hApp == hFst) = false from by decide, show (hApp == hSnd) = false from by decide, show (hApp == hIf) = false from by decide, Bool.false_or, Bool.true_and, Bool.false_and, Bool.or_false]
      rw [e2, show hd1 (.cons hApp .nil (.cons a1 k1 (.cons a2 k2 .nil))) = hApp from rfl, e3, e1]
      simp only [Bool.and_eq_true, beq_iff_eq, e]
    · rfl
  | one g a1 k1 hg h1 =>
    have key : ∀ g, (g = hFst ∨ g = hSnd) → rxF (.cons g .nil (.cons a1 k1 .nil)) = (a1 == [] && hd1 k1 == hPair) ∧ ∀ t : Ts, rxT g t = (t.hd == hPair) := by
      rintro g (rfl | rfl)
      · refine ⟨?_, fun t => ?_⟩
        · simp only [rxF, show (hFst == hLet) = false from by decide, show (hFst == hApp) = false from by decide, show (hFst == hFst) = true from by decide, show (hFst == hIf) = false from by decide, Bool.false_or, Bool.true_and, Bool.false_and, Bool.or_false, Bool.true_or]
        · simp only [rxT, show (hFst == hLet) = false from by decide, show (hFst == hApp) = false from by decide, show (hFst == hFst) = true from by decide, show (hFst == hIf) = false from by decide, Bool.false_or, Bool.true_and, Bool.false_and, Bool.or_false, Bool.true_or]
      · refine ⟨?_, fun t => ?_⟩
        · simp only [rxF, show (hSnd == hLet) = false from by decide, show (hSnd == hApp) = false from by decide, show (hSnd == hFst) = false from by decide, show (hSnd == hSnd) = true from by decide, show (hSnd == hIf) = false from by decide, Bool.false_or, Bool.true_and, Bool.false_and, Bool.or_false]
        · simp only [rxT, show (hSnd == hLet) = false from by decide, show (hSnd == hApp) = false from by decide, show (hSnd == hFst) = false from by decide, show (hSnd == hSnd) = true from by decide, show (hSnd == hIf) = false from by decide, Bool.false_or, Bool.true_and, Bool.false_and, Bool.or_false]
    obtain ⟨e2, e3⟩ := key g hg
    have e := hd_is (k := k1) (a := a1) bs hPair (.inr rfl)
    rw [cv_one bs _ hg, Bool.eq_iff_iff, e2, show hd1 (.cons g .nil (.cons a1 k1 .nil)) = g from rfl, e3]
    simp only [Bool.and_eq_true, beq_iff_eq, e]
  | if_ a1 k1 a2 k2 a3 k3 h1 h2 h3 =>
    rw [cv_if bs, Bool.eq_iff_iff]
    have e := hd_nd h1 bs
    have e2 : rxF (.cons hIf .nil (.cons a1 k1 (.cons a2 k2 (.cons a3 k3 .nil)))) = (a1 == tTrue || a1 == tFalse) := by
      simp only [rxF, show (hIf == hLet) = false from by decide, show (hIf == hApp) = false from by decide, show (hIf == hFst) = false from by decide, show (hIf == hSnd) = false from by decide, show (hIf == hIf) = true from by decide, Bool.false_or, Bool.true_and, Bool.false_and, Bool.or_false]
    have e3 : ∀ t : Ts, rxT hIf t = (t.hd == hTruth) := fun t => by
      simp only [rxT, show (hIf == hLet) = false from by decide, show (hIf == hApp) = false from by decide, show (hIf == hFst) = false from by decide, show (hIf == hSnd) = false from by decide, show (hIf == hIf) = true from by decide, Bool.false_or, Bool.true_and, Bool.false_and, Bool.or_false]
    have e1 : ((nd bs a1 k1).app ((nd bs a2 k2).app (nd bs a3 k3))).hd = (nd bs a1 k1).hd := rfl
    rw [e2, show hd1 (.cons hIf .nil (.cons a1 k1 (.cons a2 k2 (.cons a3 k3 .nil)))) = hIf from rfl, e3, e1]
    simp only [Bool.or_eq_true, beq_iff_eq, e]

theorem app_one0 (bs : List (List UInt8)) (a : List UInt8) (k : Fo) (t : Ts) : ((nd bs a k).app t).one 0 = nd bs a k := rfl
theorem app_one1 (bs : List (List UInt8)) (a : List UInt8) (k : Fo) (t : Ts) (j : Nat) : ((nd bs a k).app t).one (j + 1) = t.one j := rfl
theorem nd_one0 (bs : List (List UInt8)) (a : List UInt8) (k : Fo) : (nd bs a k).one 0 = nd bs a k := rfl

theorem rd_eq (bs : List (List UInt8)) {k : Fo} (hk : Kd k) (hx : rxF k = true) (hs : k.size ≤ 300) : RdOk bs k := by
  cases hk with
  | let_ x k1 a2 k2 a3 k3 hn h2 h3 =>
    have s2 := size_pos h2
    have hs' : treeSize a2 k2 ≤ 300 ∧ treeSize a3 k3 ≤ 300 := by
      simp only [Fo.size] at hs
      unfold treeSize
      omega
    have S := sub_nd h3 h2 hn hs'.2 hs'.1
    refine ⟨S.ok, ?_, fun hg => ?_⟩
    · rw [cv_let]
      exact S.eb bs
    · have hg' : 300 < treeSize a3 k3 + usT x a3 k3 * (treeSize a2 k2 - 1) := by
        have := hg
        simp only [grF, hd1, if_true] at this
        exact of_decide_eq_true this
      have hz := S.size
      rw [Nat.mul_sub, Nat.mul_one] at hg'
      have : usT x a3 k3 ≤ usT x a3 k3 * treeSize a2 k2 := Nat.le_mul_of_pos_right _ s2
      show 300 < treeSize (sbA x a2 a3) (sbK x a3 k3 a2 k2)
      omega
  | lam => exact absurd hx (show ¬ (false = true) by decide)
  | two g a1 k1 a2 k2 hg h1 h2 =>
    rcases hg with rfl | rfl
    · have hx2 : a1 = [] ∧ hd1 k1 = hLam := by
        have := hx
        simp only [rxF, show (hApp == hLet) = false from by decide, show (hApp == hApp) = true from by decide, show (hApp == hFst) = false from by decide, show (hApp == hSnd) = false from by decide, show (hApp == hIf) = false from by decide, Bool.false_or, Bool.true_and, Bool.false_and, Bool.or_false, Bool.and_eq_true, beq_iff_eq] at this
        exact this
      obtain ⟨rfl, hl⟩ := hx2
      obtain ⟨x, kx, am, km, rfl, hn, hm⟩ := lam_of h1 hl
      have s2 := size_pos h2
      have hs' : treeSize a2 k2 ≤ 300 ∧ treeSize am km ≤ 300 := by
        simp only [Fo.size, if_true] at hs
        unfold treeSize
        omega
      have S := sub_nd hm h2 hn hs'.2 hs'.1
      refine ⟨S.ok, ?_, fun hg => ?_⟩
      · rw [cv_two bs _ (.inl rfl)]
        exact S.eb bs
      · have hg' : 300 < treeSize am km + usT x am km * (treeSize a2 k2 - 1) := by
          have := hg
          simp only [grF, hd1, if_neg (show ¬ hApp = hLet from by decide), if_true] at this
          exact of_decide_eq_true this
        have hz := S.size
        rw [Nat.mul_sub, Nat.mul_one] at hg'
        have : usT x am km ≤ usT x am km * treeSize a2 k2 := Nat.le_mul_of_pos_right _ s2
        show 300 < treeSize (sbA x a2 am) (sbK x am km a2 k2)
        omega
    · exact absurd hx (show ¬ (rxF (.cons hPair .nil _) = true) from by simp [rxF, hPair, hLet, hApp, hFst, hSnd, hIf])
  | one g a1 k1 hg h1 =>
    have hx2 : a1 = [] ∧ hd1 k1 = hPair := by
      have := hx
      rcases hg with rfl | rfl
      · simp only [rxF, show (hFst == hLet) = false from by decide, show (hFst == hApp) = false from by decide, show (hFst == hFst) = true from by decide, show (hFst == hIf) = false from by decide, Bool.false_or, Bool.true_and, Bool.false_and, Bool.or_false, Bool.true_or, Bool.and_eq_true, beq_iff_eq] at this
        exact this
      · simp only [rxF, show (hSnd == hLet) = false from by decide, show (hSnd == hApp) = false from by decide, show (hSnd == hFst) = false from by decide, show (hSnd == hSnd) = true from by decide, show (hSnd == hIf) = false from by decide, Bool.false_or, Bool.true_and, Bool.false_and, Bool.or_false, Bool.and_eq_true, beq_iff_eq] at this
        exact this
    obtain ⟨rfl, hl⟩ := hx2
    obtain ⟨b1, j1, b2, j2, rfl, q1, q2⟩ := pair_of h1 hl
    rcases hg with rfl | rfl
    · exact ⟨q1, rfl, fun h => absurd h (show ¬ ((if hFst = hLet then _ else if hFst = hApp then _ else false) = true) from by rw [if_neg (by decide), if_neg (by decide)]; decide)⟩
    · exact ⟨q2, rfl, fun h => absurd h (show ¬ ((if hSnd = hLet then _ else if hSnd = hApp then _ else false) = true) from by rw [if_neg (by decide), if_neg (by decide)]; decide)⟩
  | if_ a1 k1 a2 k2 a3 k3 h1 h2 h3 =>
    have hx2 : a1 = tTrue ∨ a1 = tFalse := by
      have := hx
      simp only [rxF, show (hIf == hLet) = false from by decide, show (hIf == hApp) = false from by decide, show (hIf == hFst) = false from by decide, show (hIf == hSnd) = false from by decide, show (hIf == hIf) = true from by decide, Bool.false_or, Bool.true_and, Bool.false_and, Bool.or_false, Bool.or_eq_true, beq_iff_eq] at this
      exact this
    have ea : (nd bs a1 k1).at1 = a1 := atom_isT h1 bs hx2
    have hgr : ∀ k, hd1 k = hIf → ¬ grF k = true := fun k e => by
      unfold grF
      rw [e, if_neg (by decide), if_neg (by decide)]
      decide
    have e3 : ∀ k : Fo, hd1 k = hIf → rdFA k = (if k.atomN 1 = tTrue then k.atomN 2 else k.atomN 3) ∧ rdFK k = (if k.atomN 1 = tTrue then k.kidN 2 else k.kidN 3) := fun k e => by
      unfold rdFA rdFK
      simp only [e, if_neg (show ¬ hIf = hLet from by decide), if_neg (show ¬ hIf = hApp from by decide), if_neg (show ¬ hIf = hFst from by decide), if_neg (show ¬ hIf = hSnd from by decide), and_self]
    have e4 : ∀ t : Ts, rdT hIf t = if t.at1 = tTrue then t.one 1 else t.one 2 := fun t => by
      unfold rdT
      simp only [if_neg (show ¬ hIf = hLet from by decide), if_neg (show ¬ hIf = hApp from by decide), if_neg (show ¬ hIf = hFst from by decide), if_neg (show ¬ hIf = hSnd from by decide)]
    have e5 := e3 _ (show hd1 (.cons hIf .nil (.cons a1 k1 (.cons a2 k2 (.cons a3 k3 .nil)))) = hIf from rfl)
    have e6 : hd1 (.cons hIf .nil (.cons a1 k1 (.cons a2 k2 (.cons a3 k3 .nil)))) = hIf := rfl
    have ea2 : ((nd bs a1 k1).app ((nd bs a2 k2).app (nd bs a3 k3))).at1 = a1 := ea
    by_cases ht : a1 = tTrue
    · refine ⟨?_, ?_, fun h => absurd h (hgr _ rfl)⟩
      · rw [e5.1, e5.2]
        show OkT (if a1 = tTrue then a2 else a3) (if a1 = tTrue then k2 else k3)
        rw [if_pos ht, if_pos ht]
        exact h2
      · rw [e5.1, e5.2, e6, e4, cv_if, ea2]
        show er (nd bs (if a1 = tTrue then a2 else a3) (if a1 = tTrue then k2 else k3)) = _
        rw [if_pos ht, if_pos ht, if_pos ht]
        rfl
    · refine ⟨?_, ?_, fun h => absurd h (hgr _ rfl)⟩
      · rw [e5.1, e5.2]
        show OkT (if a1 = tTrue then a2 else a3) (if a1 = tTrue then k2 else k3)
        rw [if_neg ht, if_neg ht]
        exact h3
      · rw [e5.1, e5.2, e6, e4, cv_if, ea2]
        show er (nd bs (if a1 = tTrue then a2 else a3) (if a1 = tTrue then k2 else k3)) = _
        rw [if_neg ht, if_neg ht, if_neg ht]
        rfl

/- A step of a tree, at any of its redexes. -/

def rxN (k : Fo) : Nat := if rxF k = true then 1 else 0

/-- how many parts are redexes -/
def cU : Fo → Um → Nat
  | .nil, _ => 0
  | .cons h _ r, .top => cU r (.kids h [] 1)
  | .cons a k r, .kids h b i => (if innB h i = true ∧ a = [] then rxN k + cU k .top else 0) + cU r (.kids h b (i + 1))
def cT (a : List UInt8) (k : Fo) : Nat := if a = [] then rxN k + cU k .top else 0

/-- a step at the redex with an index, in the parts -/
def atU : Fo → Um → Nat → Fo
  | .nil, _, _ => .nil
  | .cons h k r, .top, n => .cons h k (atU r (.kids h [] 1) n)
  | .cons a k r, .kids h b i, n =>
    if innB h i = true ∧ a = [] then
      (if n < rxN k + cU k .top then
        (if rxF k = true ∧ n = 0 then .cons (rdFA k) (rdFK k) r else .cons [] (atU k .top (n - rxN k)) r)
      else .cons a k (atU r (.kids h b (i + 1)) (n - (rxN k + cU k .top))))
    else .cons a k (atU r (.kids h b (i + 1)) n)

/-- whether what the step puts is too large -/
def grU : Fo → Um → Nat → Bool
  | .nil, _, _ => false
  | .cons h _ r, .top, n => grU r (.kids h [] 1) n
  | .cons a k r, .kids h b i, n =>
    if innB h i = true ∧ a = [] then
      (if n < rxN k + cU k .top then
        (if rxF k = true ∧ n = 0 then grF k else grU k .top (n - rxN k))
      else grU r (.kids h b (i + 1)) (n - (rxN k + cU k .top)))
    else grU r (.kids h b (i + 1)) n

def atA (k : Fo) (n : Nat) : List UInt8 := if rxF k = true ∧ n = 0 then rdFA k else []
def atK (k : Fo) (n : Nat) : Fo := if rxF k = true ∧ n = 0 then rdFK k else atU k .top (n - rxN k)
def grT (k : Fo) (n : Nat) : Bool := if rxF k = true ∧ n = 0 then grF k else grU k .top (n - rxN k)

theorem rx1_eq (bs : List (List UInt8)) {k : Fo} (hk : k.wf) (h : isTms none k = true) : rx1 (ndH [] k) (cv k (.parts bs)) = rxN k := by
  have e : ndH [] k = hd1 k := by simp [ndH]
  unfold rx1 rxN
  rw [e, rx_eq bs (kd_of hk h)]

structure StT (bs : List (List UInt8)) (f : Fo) (n : Nat) : Prop where
  eb : er (cv (atU f .top n) (.parts bs)) = stF (er (cv f (.parts bs))) n
  is : isTms none (atU f .top n) = true
  wf : (atU f .top n).wf
  h1 : hd1 (atU f .top n) = hd1 f
  h2 : bindsB (hd1 f) = true → hd2 (atU f .top n) = hd2 f
  gr : grU f .top n = true → 300 < (atU f .top n).size

/-- one part: with the step in it -/
structure St1 (bs : List (List UInt8)) (k : Fo) (n : Nat) : Prop where
  eb : er (nd bs (atA k n) (atK k n)) = stF (er (nd bs [] k)) n
  ok : OkT (atA k n) (atK k n)
  gr : grT k n = true → 300 < treeSize (atA k n) (atK k n)

theorem st_one {bs : List (List UInt8)} {k : Fo} {n : Nat} (hk : k.wf) (h : isTms none k = true) (hs : k.size ≤ 300) (hn : n < rxN k + cU k .top) (hc : cU k .top = cR (cv k (.parts bs)))
    (ih : n - rxN k < cU k .top → StT bs k (n - rxN k)) : St1 bs k n := by
  have e0 : ndH [] k = hd1 k := by simp [ndH]
  have hx := rx_eq bs (kd_of hk h)
  have e1 := rx1_eq bs hk h
  have hrx : rxT (ndH [] k) (er (cv k (.parts bs))) = rxF k := by rw [rx_er, e0, hx]
  have hlt : n < rx1 (ndH [] k) (er (cv k (.parts bs))) + cR (er (cv k (.parts bs))) := by rw [rx1_er, cR_er, e1, ← hc]; exact hn
  by_cases hq : rxF k = true ∧ n = 0
  · have R := rd_eq bs (kd_of hk h) hq.1 hs
    have eA : atA k n = rdFA k := by simp only [atA, if_pos hq]
    have eK : atK k n = rdFK k := by simp only [atK, if_pos hq]
    refine ⟨?_, by rw [eA, eK]; exact R.ok, fun hg => ?_⟩
    · rw [eA, eK, R.eb]
      simp only [nd_cons, er, stF]
      rw [if_pos hlt, if_pos ⟨hrx.trans hq.1, hq.2⟩, ts_app_nil, ← e0]
      exact ((rd_ok ((wf_cv k hk).2.1 bs h).1 (by rw [e0]; exact ((wf_cv k hk).2.1 bs h).2) (by rw [e0, ← hx]; exact hq.1)).2.2).symm
    · rw [eA, eK]
      simp only [grT, if_pos hq] at hg
      exact R.gr hg
  · have hm : n - rxN k < cU k .top := by
      unfold rxN at hn ⊢
      by_cases hr : rxF k = true
      · rw [if_pos hr] at hn ⊢
        have : n ≠ 0 := fun e => hq ⟨hr, e⟩
        omega
      · rw [if_neg hr] at hn ⊢
        omega
    have S := ih hm
    have eA : atA k n = [] := by simp only [atA, if_neg hq]
    have eK : atK k n = atU k .top (n - rxN k) := by simp only [atK, if_neg hq]
    have hok : OkT [] (atU k .top (n - rxN k)) := ⟨by simp only [isTm, if_true]; exact S.is, fun h => absurd rfl h, S.wf⟩
    refine ⟨?_, by rw [eA, eK]; exact hok, fun hg => ?_⟩
    · rw [eA, eK]
      simp only [nd_cons, er, stF]
      have l1 : (cv (atU k .top (n - rxN k)) (.parts bs)).len ≠ 0 := top_len bs S.wf S.is
      have l2 : (cv k (.parts bs)).len ≠ 0 := top_len bs hk h
      rw [if_neg l1, if_neg l2, if_pos hlt, if_neg (fun c => hq ⟨hrx.symm.trans c.1, c.2⟩), rx1_er, e1, S.eb]
      have eH : ndH [] (atU k .top (n - rxN k)) = ndH [] k := by simp only [ndH, if_true, S.h1]
      rw [eH]
    · rw [eA, eK]
      simp only [grT, if_neg hq] at hg
      simp only [treeSize, if_true]
      exact S.gr hg

theorem st_eq : ∀ f : Fo, f.wf →
    (∀ (bs : List (List UInt8)) (h b b' : List UInt8) (i c n : Nat), c + i = kidsOf h → isTms (some (List.replicate c true)) f = true → f.size ≤ 300 →
      cU f (.kids h b' (i + if bindsB h then 2 else 1)) = cR (cv f (.kids bs h b i)) ∧
      (n < cU f (.kids h b' (i + if bindsB h then 2 else 1)) →
        er (cv (atU f (.kids h b' (i + if bindsB h then 2 else 1)) n) (.kids bs h b i)) = stF (er (cv f (.kids bs h b i))) n ∧
        isTms (some (List.replicate c true)) (atU f (.kids h b' (i + if bindsB h then 2 else 1)) n) = true ∧ (atU f (.kids h b' (i + if bindsB h then 2 else 1)) n).wf ∧
        (grU f (.kids h b' (i + if bindsB h then 2 else 1)) n = true → 300 < (atU f (.kids h b' (i + if bindsB h then 2 else 1)) n).size))) ∧
    (∀ (bs : List (List UInt8)) (n : Nat), isTms none f = true → f.size ≤ 300 → cU f .top = cR (cv f (.parts bs)) ∧ (n < cU f .top → StT bs f n)) ∧
    (∀ (bs : List (List UInt8)) (h : List UInt8) (n : Nat), bindsB h = true → innB h 1 = false → isTms (some (false :: List.replicate (kidsOf h) true)) f = true → f.size ≤ 300 →
      cU f (.kids h [] 1) = cR (cv f (.name bs h)) ∧ (n < cU f (.kids h [] 1) →
        er (cv (atU f (.kids h [] 1) n) (.name bs h)) = stF (er (cv f (.name bs h))) n ∧ isTms (some (false :: List.replicate (kidsOf h) true)) (atU f (.kids h [] 1) n) = true ∧ (atU f (.kids h [] 1) n).wf ∧ hd1 (atU f (.kids h [] 1) n) = hd1 f ∧
        (grU f (.kids h [] 1) n = true → 300 < (atU f (.kids h [] 1) n).size))) := by
  intro f
  induction f with
  | nil => exact fun _ => ⟨fun bs h b b' i c n _ hs _ => ⟨rfl, fun hn => absurd hn (by simp [cU])⟩, fun bs n h => (by cases h), fun bs h n _ _ hs => (by simp [isTms] at hs)⟩
  | cons a k r ihk ihr =>
    intro hw
    have hk := ihk hw.2.1
    have hr := ihr hw.2.2
    have kids : ∀ (bs : List (List UInt8)) (h b b' : List UInt8) (i c n : Nat), c + i = kidsOf h → isTms (some (List.replicate c true)) (.cons a k r) = true → (Fo.cons a k r).size ≤ 300 →
      cU (.cons a k r) (.kids h b' (i + if bindsB h then 2 else 1)) = cR (cv (.cons a k r) (.kids bs h b i)) ∧
      (n < cU (.cons a k r) (.kids h b' (i + if bindsB h then 2 else 1)) →
        er (cv (atU (.cons a k r) (.kids h b' (i + if bindsB h then 2 else 1)) n) (.kids bs h b i)) = stF (er (cv (.cons a k r) (.kids bs h b i))) n ∧
        isTms (some (List.replicate c true)) (atU (.cons a k r) (.kids h b' (i + if bindsB h then 2 else 1)) n) = true ∧ (atU (.cons a k r) (.kids h b' (i + if bindsB h then 2 else 1)) n).wf ∧
        (grU (.cons a k r) (.kids h b' (i + if bindsB h then 2 else 1)) n = true → 300 < (atU (.cons a k r) (.kids h b' (i + if bindsB h then 2 else 1)) n).size)) := by
      intro bs h b b' i c n hci hs hz
      cases c with
      | zero => simp [isTms] at hs
      | succ c =>
        rw [List.replicate_succ] at hs ⊢
        simp only [isTms, Bool.and_eq_true] at hs
        simp only [Fo.size] at hz
        have hik : i < kidsOf h := by omega
        have hinn := inn_kid h i hik
        obtain ⟨m, hm⟩ : ∃ m, m = i + if bindsB h then 2 else 1 := ⟨_, rfl⟩
        have hm1 : (i + 1) + (if bindsB h then 2 else 1) = m + 1 := by omega
        have hr1 := fun n => hr.1 bs h b b' (i + 1) c n (by omega) hs.2 (by omega)
        rw [hm1] at hr1
        rw [← hm] at hinn ⊢
        obtain ⟨L, hL⟩ : ∃ L, L = insB bs h b i := ⟨_, rfl⟩
        have ecv : ∀ a k r, cv (.cons a k r) (.kids bs h b i) = (nd L a k).app (cv r (.kids bs h b (i + 1))) := fun a k r => by rw [hL]; rfl
        by_cases ha : a = []
        · subst ha
          simp only [if_true] at hs hz
          have hk1 := fun n => hk.2.1 L n hs.1 (by omega)
          have hc := (hk1 0).1
          have e1 := rx1_eq L hw.2.1 hs.1
          have ec : cR (nd L [] k) = rxN k + cU k .top := by simp only [nd_cons, cR, e1, hc, Nat.add_zero]
          have hc2 : cU (.cons [] k r) (.kids h b' m) = rxN k + cU k .top + cU r (.kids h b' (m + 1)) := by
            simp only [cU]; rw [if_pos ⟨hinn, trivial⟩]
          have ec3 : cR (cv (.cons [] k r) (.kids bs h b i)) = rxN k + cU k .top + cU r (.kids h b' (m + 1)) := by
            rw [(hr1 0).1]
            simp only [cv, cR, ← hL, e1, hc]
          refine ⟨hc2.trans ec3.symm, fun hn => ?_⟩
          rw [hc2] at hn
          have ecv2 : er (cv (.cons [] k r) (.kids bs h b i)) = (er (nd L [] k)).app (er (cv r (.kids bs h b (i + 1)))) := by rw [ecv, er_app]
          have hap : ∀ (t : Ts) (g : Ts) (n : Nat), t.len = 1 → n < cR t → stF (t.app g) n = (stF t n).app g := by
            intro t g n ht hn
            obtain ⟨h, a, d, k, rfl⟩ := single ht
            simp only [cR, Nat.add_zero] at hn
            simp only [Ts.app, stF, if_pos hn]
            split
            · rw [ts_app_nil]
            · rfl
          have hap2 : ∀ (t : Ts) (g : Ts) (n : Nat), t.len = 1 → ¬ n < cR t → stF (t.app g) n = t.app (stF g (n - cR t)) := by
            intro t g n ht hn
            obtain ⟨h, a, d, k, rfl⟩ := single ht
            simp only [cR, Nat.add_zero] at hn ⊢
            simp only [Ts.app, stF, if_neg hn]
          have lnd : (er (nd L [] k)).len = 1 := by rw [er_len]; rfl
          by_cases hlt : n < rxN k + cU k .top
          · have S := st_one hw.2.1 hs.1 (by omega) hlt hc (fun h => (hk1 _).2 h)
            have eat : atU (.cons [] k r) (.kids h b' m) n = .cons (atA k n) (atK k n) r := by
              simp only [atU]
              rw [if_pos ⟨hinn, trivial⟩, if_pos hlt]
              unfold atA atK
              split <;> rfl
            have egr : grU (.cons [] k r) (.kids h b' m) n = grT k n := by
              simp only [grU]
              rw [if_pos ⟨hinn, trivial⟩, if_pos hlt]
              rfl
            rw [eat, egr, ecv, er_app, ecv2, hap _ _ _ lnd (by rw [cR_er, ec]; exact hlt), S.eb]
            refine ⟨rfl, ?_, ⟨S.ok.at_, S.ok.wf, hw.2.2⟩, fun hg => ?_⟩
            · simp only [isTms, Bool.and_eq_true]
              exact ⟨S.ok.tm, hs.2⟩
            · have := S.gr hg
              unfold treeSize at this
              simp only [Fo.size]
              omega
          · obtain ⟨p1, p2, p3, p4⟩ := (hr1 (n - (rxN k + cU k .top))).2 (by omega)
            have eat : atU (.cons [] k r) (.kids h b' m) n = .cons [] k (atU r (.kids h b' (m + 1)) (n - (rxN k + cU k .top))) := by
              simp only [atU]
              rw [if_pos ⟨hinn, trivial⟩, if_neg hlt]
            have egr : grU (.cons [] k r) (.kids h b' m) n = grU r (.kids h b' (m + 1)) (n - (rxN k + cU k .top)) := by
              simp only [grU]
              rw [if_pos ⟨hinn, trivial⟩, if_neg hlt]
            rw [eat, egr, ecv, er_app, ecv2, hap2 _ _ _ lnd (by rw [cR_er, ec]; exact hlt), cR_er, ec, p1]
            refine ⟨rfl, ?_, ⟨fun h => absurd rfl h, hw.2.1, p3⟩, fun hg => ?_⟩
            · simp only [isTms, if_true, Bool.and_eq_true]
              exact ⟨hs.1, p2⟩
            · have := p4 hg
              simp only [Fo.size]
              omega
        · obtain rfl := hw.1 ha
          simp only [if_neg ha] at hs hz
          have hcond : ¬ (innB h m = true ∧ a = []) := fun c => ha c.2
          have hc2 : cU (.cons a .nil r) (.kids h b' m) = cU r (.kids h b' (m + 1)) := by
            simp only [cU]; rw [if_neg hcond, Nat.zero_add]
          have erx : rx1 (ndH a .nil) (cv .nil (.parts L)) = 0 := by
            unfold rx1
            rw [if_neg]
            have e : cv .nil (.parts L) = .nil := rfl
            rw [e]
            intro hq
            unfold ndH at hq
            rw [if_neg ha] at hq
            split at hq <;> exact absurd hq (by decide)
          have ec : cR (cv (.cons a .nil r) (.kids bs h b i)) = cR (cv r (.kids bs h b (i + 1))) := by
            simp only [cv, cR, ← hL]
            have e : cv .nil (.parts L) = .nil := rfl
            rw [e] at erx
            rw [erx]; omega
          refine ⟨by rw [hc2, ec, (hr1 0).1], fun hn => ?_⟩
          rw [hc2] at hn
          obtain ⟨p1, p2, p3, p4⟩ := (hr1 n).2 hn
          have eat : atU (.cons a .nil r) (.kids h b' m) n = .cons a .nil (atU r (.kids h b' (m + 1)) n) := by
            simp only [atU]
            rw [if_neg hcond]
          have egr : grU (.cons a .nil r) (.kids h b' m) n = grU r (.kids h b' (m + 1)) n := by
            simp only [grU]
            rw [if_neg hcond]
          rw [eat, egr]
          refine ⟨?_, ?_, ⟨fun _ => rfl, trivial, p3⟩, fun hg => ?_⟩
          · have e : ∀ bs, cv .nil (.parts bs) = .nil := fun _ => rfl
            simp only [cv, er, stF, p1, ← hL]
            rw [e] at erx
            have e2 : cR (er Ts.nil) = 0 := rfl
            simp only [er] at e2 ⊢
            rw [erx, e2]
            simp
          · simp only [isTms, if_neg ha, Bool.and_eq_true]
            exact ⟨hs.1, p2⟩
          · have := p4 hg
            simp only [Fo.size]
            omega
    refine ⟨kids, ?_, ?_⟩
    · intro bs n hs hz
      simp only [isTms, Bool.and_eq_true] at hs
      have hs0 : shapeOf a ≠ [] := by intro e; rw [e] at hs; cases hs.1
      have hane := (shape_head hs0).1
      obtain rfl := hw.1 hane
      simp only [Fo.size, if_neg hane] at hz
      have eat : atU (.cons a .nil r) .top n = .cons a .nil (atU r (.kids a [] 1) n) := rfl
      have ecu : cU (.cons a .nil r) .top = cU r (.kids a [] 1) := rfl
      have egr : grU (.cons a .nil r) .top n = grU r (.kids a [] 1) n := rfl
      rcases shape_cases a with ⟨e, _⟩ | ⟨hb, e, hk1⟩ | ⟨hb, e, hk1⟩
      · exact absurd e hs0
      · have hs2 := hs.2
        rw [e] at hs2
        have hi1 : innB a 1 = false := by
          simp only [innB, e]
          rfl
        have e1 : ∀ g, cv (.cons a .nil g) (.parts bs) = cv g (.name bs a) := fun g => by simp [cv, hb]
        have e2 : ∀ g, hd2 (.cons a .nil g) = hd1 g := fun g => by cases g <;> rfl
        obtain ⟨q1, q2⟩ := hr.2.2 bs a n hb hi1 hs2 (by omega)
        refine ⟨by rw [ecu, q1, e1], fun hn => ?_⟩
        obtain ⟨p1, p2, p3, p4, p5⟩ := q2 hn
        refine ⟨by rw [eat, e1, e1, p1], ?_, by rw [eat]; exact ⟨fun _ => rfl, trivial, p3⟩, by rw [eat]; rfl, fun _ => by rw [eat, e2, e2, p4], ?_⟩
        · rw [eat, isTms, e, p2]
          rfl
        · intro hg
          rw [egr] at hg
          have := p5 hg
          rw [eat]
          simp only [Fo.size]
          omega
      · have hs2 := hs.2
        rw [e] at hs2
        have e1 : ∀ g, cv (.cons a .nil g) (.parts bs) = cv g (.kids bs a [] 0) := fun g => by simp [cv, hb]
        have hr2 := hr.1 bs a [] [] 0 _ n (Nat.add_zero _) hs2 (by omega)
        simp only [hb, Bool.false_eq_true, if_false, Nat.zero_add] at hr2
        obtain ⟨q1, q2⟩ := hr2
        refine ⟨by rw [ecu, q1, e1], fun hn => ?_⟩
        obtain ⟨p1, p2, p3, p4⟩ := q2 hn
        refine ⟨by rw [eat, e1, e1, p1], ?_, ⟨fun _ => rfl, trivial, p3⟩, rfl, fun h => ?_, ?_⟩
        · rw [eat, isTms, e, p2]
          cases hkk : kidsOf a with
          | zero => omega
          | succ n => rfl
        · rw [show hd1 (.cons a .nil r) = a from rfl, hb] at h; cases h
        · intro hg
          rw [egr] at hg
          have := p4 hg
          rw [eat]
          simp only [Fo.size]
          omega
    · intro bs h n hb hi1 hs hz
      simp only [isTms, Bool.and_eq_true] at hs
      have hane := (name_bytes hs.1).1
      obtain rfl := hw.1 hane
      simp only [Fo.size, if_neg hane] at hz
      have econd : ¬ (innB h 1 = true ∧ a = []) := fun c => by rw [hi1] at c; exact absurd c.1 (by decide)
      have a1 : atU (.cons a .nil r) (.kids h [] 1) n = .cons a .nil (atU r (.kids h [] 2) n) := by simp only [atU]; rw [if_neg econd]
      have a2 : cU (.cons a .nil r) (.kids h [] 1) = cU r (.kids h [] 2) := by simp only [cU]; rw [if_neg econd, Nat.zero_add]
      have a3 : grU (.cons a .nil r) (.kids h [] 1) n = grU r (.kids h [] 2) n := by simp only [grU]; rw [if_neg econd]
      have e1 : ∀ g, cv (.cons a .nil g) (.name bs h) = cv g (.kids bs h a 0) := fun g => rfl
      have hr2 := hr.1 bs h a [] 0 _ n (Nat.add_zero _) hs.2 (by omega)
      simp only [hb, if_true, Nat.zero_add] at hr2
      obtain ⟨q1, q2⟩ := hr2
      refine ⟨by rw [a2, q1, e1], fun hn => ?_⟩
      rw [a2] at hn
      obtain ⟨p1, p2, p3, p4⟩ := q2 hn
      refine ⟨by rw [a1, e1, e1, p1], ?_, by rw [a1]; exact ⟨fun _ => rfl, trivial, p3⟩, by rw [a1]; rfl, fun hg => ?_⟩
      · rw [a1]
        simp only [isTms, hs.1, p2, Bool.and_true]
      · rw [a3] at hg
        have := p4 hg
        rw [a1]
        simp only [Fo.size]
        omega

/-- a step at the redex with an index: of a whole term -/
theorem st_term {k : Fo} {n : Nat} (h : OkT [] k) (hs : k.size ≤ 300) (bs : List (List UInt8)) : cT [] k = cR (nd bs [] k) ∧ (n < cT [] k → St1 bs k n) := by
  have htm := h.tm
  simp only [isTm, if_true] at htm
  have H := fun n => (st_eq k h.wf).2.1 bs n htm hs
  have e1 := rx1_eq bs h.wf htm
  have e : cT [] k = rxN k + cU k .top := by simp [cT]
  refine ⟨?_, fun hn => ?_⟩
  · rw [e, nd_cons, cR, e1, (H 0).1, cR]
    omega
  · rw [e] at hn
    exact st_one h.wf htm hs hn (H 0).1 (fun h => (H _).2 h)

theorem ct_atom {a : List UInt8} {k : Fo} (h : OkT a k) (ha : a ≠ []) (bs : List (List UInt8)) : cT a k = 0 ∧ cR (nd bs a k) = 0 := by
  obtain rfl := h.at_ ha
  refine ⟨by simp only [cT, if_neg ha], ?_⟩
  simp only [nd_cons, cv, cR, Nat.add_zero]
  unfold rx1
  rw [if_neg]
  intro hq
  unfold ndH at hq
  rw [if_neg ha] at hq
  split at hq <;> exact absurd hq (by decide)

end Go.Proofs.YtnjgaenhjdjpfaaGreatDoor
