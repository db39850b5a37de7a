/- Uses of a name: in the program's terms, and in trees. · Uses of a name in the program. -/
import Derived.Test.YtnjgaenhjdjpfaaGreatDoorTimpl
/- Uses of a name: in the program's terms, and in trees. -/
namespace Go.Proofs.YtnjgaenhjdjpfaaGreatDoor
open Go.RowKit Go.ChangeMaps

/-- how often a name stands free in terms of the program -/
def cntU (x : List UInt8) : Ts → Nat
  | .nil => 0
  | .cons h a _ k r => (if h = hName ∧ a ≠ [] ∧ a = x then 1 else cntU x k) + cntU x r

/-- in one term -/
def cntN (x h a : List UInt8) (k : Ts) : Nat := if h = hName ∧ a ≠ [] ∧ a = x then 1 else cntU x k

theorem cnt_size (x : List UInt8) : ∀ f : Ts, cntU x f ≤ f.size
  | .nil => Nat.le_refl _
  | .cons h a d k r => by
    have h1 := cnt_size x k
    have h2 := cnt_size x r
    simp only [cntU, Ts.size]
    split <;> split <;> omega

def innB (h : List UInt8) (i : Nat) : Bool := (shapeOf h)[i - 1]? == some true
def bndB (h b : List UInt8) (i : Nat) : List UInt8 := if h = hLam ∨ (h = hLet ∧ i = 3) then b else []

inductive Um where
  | kids (h b : List UInt8) (i : Nat)
  | top

/-- how often a name stands free in trees, as the model counts -/
def usU (x : List UInt8) : Fo → Um → Nat
  | .nil, _ => 0
  | .cons h _ r, .top => usU x r (.kids h (hd1 r) 1)
  | .cons a k r, .kids h b i => (if innB h i = true ∧ bndB h b i ≠ x then (if a = [] then usU x k .top else if a = x then 1 else 0) else 0) + usU x r (.kids h b (i + 1))

def usT (x a : List UInt8) (k : Fo) : Nat := if a = [] then usU x k .top else if a = x then 1 else 0

theorem us_size (x : List UInt8) : ∀ (f : Fo) (m : Um), usU x f m ≤ f.size
  | .nil, _ => by simp [usU, Fo.size]
  | .cons h k r, .top => by
    have := us_size x r (.kids h (hd1 r) 1)
    simp only [usU, Fo.size]
    omega
  | .cons a k r, .kids h b i => by
    have h1 := us_size x r (.kids h b (i + 1))
    have h2 := us_size x k .top
    simp only [usU, Fo.size]
    split <;> split <;> (try split) <;> omega

theorem depR_mem (x : List UInt8) : ∀ (l : List (List UInt8)) (i : Nat), (depR x l i = none ↔ x ∉ l)
  | [], i => by simp [depR]
  | b :: l, i => by
    have := depR_mem x l (i + 1)
    simp only [depR]
    by_cases hb : b = x
    · simp [hb]
    · simp only [if_neg hb, this, List.mem_cons, not_or]
      exact ⟨fun h => ⟨fun e => hb e.symm, h⟩, fun h => h.2⟩

theorem nmA_eq (bs : List (List UInt8)) (x : List UInt8) : nmA bs x = if x ∈ bs then [] else x := by
  have h := depR_mem x bs.reverse 0
  rw [List.mem_reverse] at h
  unfold nmA depOf
  by_cases hx : x ∈ bs
  · rw [if_pos hx]
    cases hd : depR x bs.reverse 0 with
    | none => exact absurd hx (h.1 hd)
    | some _ => rfl
  · rw [if_neg hx, h.2 hx]

theorem bnd_ins (h b : List UInt8) (i : Nat) (hb : bindsB h = true) (hi : i < kidsOf h) : bndB h b (i + 2) = if i + 1 = kidsOf h then b else [] := by
  by_cases h1 : h = hLam
  · subst h1
    have hk : kidsOf hLam = 1 := by decide
    rw [hk] at hi ⊢
    have : i = 0 := by omega
    subst this
    simp [bndB]
  · have h2 : h = hLet := by simpa [bindsB, h1] using hb
    subst h2
    have hk : kidsOf hLet = 2 := by decide
    rw [hk] at hi ⊢
    unfold bndB
    have e : hLet ≠ hLam := by decide
    simp only [e, false_or, true_and]
    by_cases hi1 : i = 1
    · subst hi1; rfl
    · rw [if_neg (by omega), if_neg (by omega)]

theorem bnd_none (h b : List UInt8) (i : Nat) (hb : bindsB h = false) : bndB h b i = [] := by
  unfold bndB
  rw [if_neg]
  rintro (e | ⟨e, _⟩) <;> (subst e; revert hb; decide)

theorem inn_kid (h : List UInt8) (i : Nat) (hi : i < kidsOf h) : innB h (i + if bindsB h then 2 else 1) = true := by
  rcases shape_cases h with ⟨_, e⟩ | ⟨hb, e, _⟩ | ⟨hb, e, _⟩
  · omega
  · unfold innB
    rw [hb, e]
    simp only [if_true]
    rw [show i + 2 - 1 = i + 1 by omega, List.getElem?_cons_succ, List.getElem?_replicate_of_lt hi]
    rfl
  · unfold innB
    rw [hb, e]
    simp only [Bool.false_eq_true, if_false]
    rw [show i + 1 - 1 = i by omega, List.getElem?_replicate_of_lt hi]
    rfl

theorem mem_ins {bs : List (List UInt8)} {h b x : List UInt8} {i : Nat} : x ∈ insB bs h b i ↔ x ∈ bs ∨ (bindsB h = true ∧ i + 1 = kidsOf h ∧ x = b) := by
  unfold insB
  split
  · rename_i hc
    simp [hc]
  · rename_i hc
    constructor
    · exact .inl
    · rintro (h | ⟨h1, h2, _⟩)
      · exact h
      · exact absurd ⟨h1, h2⟩ hc

/-- both counts: nothing is counted of a name that is bound around -/
def Cnt (x : List UInt8) (bs : List (List UInt8)) (n m : Nat) : Prop := (x ∈ bs → n = 0) ∧ (x ∉ bs → n = m)

theorem cnt_atom (x : List UInt8) (hx : isName x = true) (bs : List (List UInt8)) (a : List UInt8) (ha : a ≠ []) : Cnt x bs (cntN x (ndH a .nil) (ndA bs a .nil) (cv .nil (.parts bs))) (if a = x then 1 else 0) := by
  have e : cntU x (cv .nil (.parts bs)) = 0 := rfl
  unfold cntN ndH ndA
  rw [e, if_neg ha, if_neg ha]
  by_cases ht : a = tTrue ∨ a = tFalse
  · rw [if_pos ht]
    have h1 : hTruth ≠ hName := by decide
    have h2 : a ≠ x := by
      rintro rfl
      rcases ht with rfl | rfl <;> (revert hx; decide)
    rw [if_neg (fun h => h1 h.1), if_neg h2]
    exact ⟨fun _ => rfl, fun _ => rfl⟩
  · rw [if_neg ht, if_neg ht, nmA_eq]
    by_cases hm : a ∈ bs
    · rw [if_pos hm, if_neg (fun h => h.2.1 rfl)]
      refine ⟨fun _ => rfl, fun h => ?_⟩
      rw [if_neg (by rintro rfl; exact h hm)]
    · rw [if_neg hm]
      by_cases hax : a = x
      · subst hax
        exact ⟨fun h => absurd h hm, fun _ => by simp [ha]⟩
      · rw [if_neg (fun h => hax h.2.2), if_neg hax]
        exact ⟨fun _ => rfl, fun _ => rfl⟩

theorem cnt_eq (x : List UInt8) (hx : isName x = true) : ∀ f : Fo, f.wf →
    (∀ (bs : List (List UInt8)) (h b b' : List UInt8) (i c : Nat), (bindsB h = true → b' = b) → c + i = kidsOf h → isTms (some (List.replicate c true)) f = true → Cnt x bs (cntU x (cv f (.kids bs h b i))) (usU x f (.kids h b' (i + if bindsB h then 2 else 1)))) ∧
    (∀ bs : List (List UInt8), isTms none f = true → Cnt x bs (cntU x (cv f (.parts bs))) (usU x f .top)) ∧
    (∀ (bs : List (List UInt8)) (h : List UInt8), bindsB h = true → shapeOf h = false :: List.replicate (kidsOf h) true → isTms (some (false :: List.replicate (kidsOf h) true)) f = true → Cnt x bs (cntU x (cv f (.name bs h))) (usU x f (.kids h (hd1 f) 1))) := by
  intro f
  induction f with
  | nil => exact fun _ => ⟨fun bs h b b' i c _ _ _ => ⟨fun _ => rfl, fun _ => rfl⟩, fun bs h => (by cases h), fun bs h _ _ hc => (by simp [isTms] at hc)⟩
  | cons a k r ihk ihr =>
    intro hw
    have hk := ihk hw.2.1
    have hr := ihr hw.2.2
    have hx0 : x ≠ [] := (name_bytes hx).1
    refine ⟨?_, ?_, ?_⟩
    · intro bs h b b' i c hb hc hs
      cases c with
      | zero => simp [isTms] at hs
      | succ c =>
        rw [List.replicate_succ] at hs
        simp only [isTms, Bool.and_eq_true] at hs
        have hin := inn_kid h i (by omega)
        obtain ⟨r1, r2⟩ := hr.1 bs h b b' (i + 1) c hb (by omega) hs.2
        have hnode : Cnt x (insB bs h b i) (cntN x (ndH a k) (ndA (insB bs h b i) a k) (cv k (.parts (insB bs h b i)))) (if a = [] then usU x k .top else if a = x then 1 else 0) := by
          by_cases ha : a = []
          · subst ha
            simp only [if_true] at hs ⊢
            have hh := hk.2.1 (insB bs h b i) hs.1
            have hne : ndH [] k ≠ hName := by
              cases k with
              | nil => exact fun e => by cases e
              | cons g _ _ =>
                simp only [ndH, if_true, hd1]
                rintro rfl
                have := hs.1
                simp only [isTms, Bool.and_eq_true] at this
                revert this; simp [shapeOf, hName, hLam, hApp, hPair, hFst, hSnd, hIf, hLet]
            unfold cntN
            rw [if_neg (fun e => hne e.1)]
            exact hh
          · simp only [if_neg ha]
            obtain rfl := hw.1 ha
            exact cnt_atom x hx _ a ha
        have e1 : cntU x (cv (.cons a k r) (.kids bs h b i)) = cntN x (ndH a k) (ndA (insB bs h b i) a k) (cv k (.parts (insB bs h b i))) + cntU x (cv r (.kids bs h b (i + 1))) := rfl
        have e2 : usU x (.cons a k r) (.kids h b' (i + if bindsB h then 2 else 1)) = (if bndB h b' (i + if bindsB h then 2 else 1) ≠ x then (if a = [] then usU x k .top else if a = x then 1 else 0) else 0) + usU x r (.kids h b' (i + 1 + if bindsB h then 2 else 1)) := by
          simp only [usU, hin, true_and]
          rw [show (i + if bindsB h then 2 else 1) + 1 = i + 1 + if bindsB h then 2 else 1 by omega]
        rw [e1, e2]
        obtain ⟨n1, n2⟩ := hnode
        refine ⟨fun hm => ?_, fun hm => ?_⟩
        · rw [r1 hm, n1 (mem_ins.2 (.inl hm))]
        · rw [r2 hm]
          congr 1
          by_cases hbi : bindsB h = true
          · rw [hbi]
            simp only [if_true]
            rw [bnd_ins h b' i hbi (by omega), hb hbi]
            by_cases hl : i + 1 = kidsOf h
            · rw [if_pos hl]
              by_cases hbx : b = x
              · rw [if_neg (fun e => e hbx)]
                exact n1 (mem_ins.2 (.inr ⟨hbi, hl, hbx.symm⟩))
              · rw [if_pos hbx]
                exact n2 (fun e => by rcases mem_ins.1 e with e | ⟨_, _, e⟩; exact hm e; exact hbx e.symm)
            · rw [if_neg hl, if_pos (fun e => hx0 e.symm)]
              exact n2 (fun e => by rcases mem_ins.1 e with e | ⟨_, e, _⟩; exact hm e; exact hl e)
          · have hbf : bindsB h = false := Bool.eq_false_iff.2 hbi
            rw [bnd_none h b' _ hbf, if_pos (fun e => hx0 e.symm)]
            exact n2 (fun e => by rcases mem_ins.1 e with e | ⟨e, _⟩; exact hm e; exact hbi e)
    · intro bs hs
      simp only [isTms, Bool.and_eq_true] at hs
      have hs0 : shapeOf a ≠ [] := by intro e; rw [e] at hs; cases hs.1
      rcases shape_cases a with ⟨e, _⟩ | ⟨hb, e, _⟩ | ⟨hb, e, _⟩
      · exact absurd e hs0
      · rw [e] at hs
        have e1 : cv (.cons a k r) (.parts bs) = cv r (.name bs a) := by simp [cv, hb]
        have e2 : usU x (.cons a k r) .top = usU x r (.kids a (hd1 r) 1) := rfl
        rw [e1, e2]
        exact hr.2.2 bs a hb e hs.2
      · rw [e] at hs
        have e1 : cv (.cons a k r) (.parts bs) = cv r (.kids bs a [] 0) := by simp [cv, hb]
        have e2 : usU x (.cons a k r) .top = usU x r (.kids a (hd1 r) 1) := rfl
        rw [e1, e2]
        have := hr.1 bs a [] (hd1 r) 0 (kidsOf a) (fun h => by rw [hb] at h; cases h) (by omega) hs.2
        simpa [hb] using this
    · intro bs h hb he hs
      simp only [isTms, Bool.and_eq_true] at hs
      have e3 : innB h 1 = false := by unfold innB; rw [he]; rfl
      have e1 : cv (.cons a k r) (.name bs h) = cv r (.kids bs h a 0) := rfl
      have e2 : usU x (.cons a k r) (.kids h (hd1 (.cons a k r)) 1) = usU x r (.kids h a 2) := by simp [usU, e3, hd1]
      rw [e1, e2]
      have := hr.1 bs h a a 0 (kidsOf h) (fun _ => rfl) (by omega) hs.2
      simpa [hb] using this

/-- the counts of a whole term -/
theorem cnt_term {x : List UInt8} (hx : isName x = true) {a : List UInt8} {k : Fo} (h : isTm a k = true) (hw : a ≠ [] → k = .nil) (hk : k.wf) : cntN x (ndH a k) (ndA [] a k) (cv k (.parts [])) = usT x a k := by
  unfold isTm at h
  unfold usT
  by_cases ha : a = []
  · subst ha
    simp only [if_true] at h ⊢
    have hh := ((cnt_eq x hx k hk).2.1 [] h).2 (by simp)
    have hne : ndH [] k ≠ hName := by
      cases k with
      | nil => exact fun e => by cases e
      | cons g _ _ =>
        simp only [ndH, if_true, hd1]
        rintro rfl
        simp only [isTms, Bool.and_eq_true] at h
        revert h; simp [shapeOf, hName, hLam, hApp, hPair, hFst, hSnd, hIf, hLet]
    unfold cntN
    rw [if_neg (fun e => hne e.1)]
    exact hh
  · simp only [if_neg ha]
    obtain rfl := hw ha
    exact (cnt_atom x hx [] a ha).2 (by simp)
end Go.Proofs.YtnjgaenhjdjpfaaGreatDoor

/- Uses of a name in the program. -/
namespace Go.Proofs.YtnjgaenhjdjpfaaGreatDoor
open Go.RowKit Go.ChangeMaps

theorem ret_num {a b : Int} (h : a = b) : Ending.returned (.int .i64 a) = .returned (.int .i64 b) := by rw [h]

namespace Ts
def from_ : Ts → Nat → Ts
  | f, 0 => f
  | nil, _ + 1 => nil
  | cons _ _ _ _ r, j + 1 => r.from_ j

theorem from_zero (f : Ts) : f.from_ 0 = f := by cases f <;> rfl

theorem from_nth : ∀ (f : Ts) (j : Nat) (h a : List UInt8) (d : Nat) (k : Ts), f.nth j = some (h, a, d, k) → f.from_ j = cons h a d k (f.from_ (j + 1))
  | nil, _, _, _, _, _, e => by cases e
  | cons h a d k r, 0, h', a', d', k', e => by
    simp only [nth, Option.some.injEq, Prod.mk.injEq] at e
    obtain ⟨rfl, rfl, rfl, rfl⟩ := e
    show cons h a d k r = cons h a d k (r.from_ 0)
    rw [from_zero]
  | cons h a d k r, j + 1, h', a', d', k', e => from_nth r j h' a' d' k' e

theorem from_len : ∀ f : Ts, f.from_ f.len = nil
  | nil => rfl
  | cons _ _ _ _ r => from_len r

theorem nth_small : ∀ (f : Ts) (j : Nat) (h a : List UInt8) (d : Nat) (k : Ts), f.nth j = some (h, a, d, k) → SizeOf.sizeOf k < SizeOf.sizeOf f
  | nil, _, _, _, _, _, e => by cases e
  | cons h a d k r, 0, h', a', d', k', e => by
    simp only [nth, Option.some.injEq, Prod.mk.injEq] at e
    obtain ⟨rfl, rfl, rfl, rfl⟩ := e
    simp; omega
  | cons h a d k r, j + 1, h', a', d', k', e => by
    have := nth_small r j h' a' d' k' e
    simp; omega

theorem nth_size {f : Ts} {j : Nat} {h a : List UInt8} {d : Nat} {k : Ts} (e : f.nth j = some (h, a, d, k)) : k.size + 1 ≤ f.size := by
  have h1 := sizeTo_succ f j h a d k e
  have h2 := sizeTo_le f (j + 1)
  split at h1 <;> omega

theorem len_size : ∀ f : Ts, f.len ≤ f.size
  | nil => Nat.le_refl _
  | cons h _ _ k r => by
    have := len_size r
    simp only [len, size]
    split <;> omega
end Ts

theorem cnt_step (x : List UInt8) {f : Ts} {j : Nat} {h a : List UInt8} {d : Nat} {k : Ts} (e : f.nth j = some (h, a, d, k)) : cntU x (f.from_ j) = cntN x h a k + cntU x (f.from_ (j + 1)) := by
  rw [Ts.from_nth f j h a d k e]
  rfl

theorem cnt_n (x h a : List UInt8) (k : Ts) : cntN x h a k ≤ k.size + 1 := by
  have := cnt_size x k
  unfold cntN
  split <;> omega

def freeB (h a : List UInt8) : Bool := h == hName && a != []

set_option maxHeartbeats 400000 in
theorem free_any (w : World) (p : Nat) (h a : List UInt8) (V1 V2 V3 : Value) (hb : Blk w p 78 #[S h, S a, V1, V2, V3]) :
    Calls Tryz.prog 79 #[Ptr p] w fun e w' => e = .returned (.bool (freeB h a)) ∧ w = w' := by
  have c0 : w.cell? ⟨p, 0, none⟩ = some (S h) := (hb.cell 0).trans rfl
  have c1 : w.cell? ⟨p, 1, none⟩ = some (S a) := (hb.cell 1).trans rfl
  have hlt := hb.lt
  clear hb
  by_cases hh : h = [110, 97, 109, 101]
  · subst hh
    by_cases ha : a = []
    · subst ha
      go_enter Tryz.func79, Tryz.ntmps79
      go_wp2_with fail
      go_ret
      exact ⟨rfl, rfl⟩
    · have hae : a.isEmpty = false := by cases a; exact absurd rfl ha; rfl
      have hr : freeB [110, 97, 109, 101] a = true := by simp [freeB, hName, ha]
      rw [hr]
      clear hr
      go_enter Tryz.func79, Tryz.ntmps79
      go_wp2_with fail
      go_ret
      exact ⟨rfl, rfl⟩
  · have n1 : (h == [110, 97, 109, 101]) = false := beq_eq_false_iff_ne.2 hh
    have hr : freeB h a = false := by simp [freeB, hName, hh]
    rw [hr]
    clear hr hh
    go_enter Tryz.func79, Tryz.ntmps79
    go_wp2_with fail
    go_ret
    exact ⟨rfl, rfl⟩

theorem cntN_free {x h a : List UInt8} {k : Ts} (hq : freeB h a = true) (hx : a = x) : cntN x h a k = 1 := by
  unfold cntN
  rw [if_pos]
  simpa [freeB, hx] using hq

theorem cntN_not {x h a : List UInt8} {k : Ts} (hq : freeB h a = false ∨ a ≠ x) : cntN x h a k = cntU x k := by
  unfold cntN
  rw [if_neg]
  rintro ⟨h1, h2, h3⟩
  rcases hq with hq | hq
  · simp [freeB, h1, h2] at hq
  · exact hq h3

/-- names of any length -/
theorem nameIs_all (a : List UInt8) (w : World) (ha : a.length ≤ maxLen) :
    Calls Tryz.prog 52 #[S a] w fun e w' => e = .returned (.bool (isName a)) ∧ Fr No w w' := by
  by_cases hl : a.length ≤ 6000
  · exact nameIs_any a w hl
  · unfold maxLen at ha
    have hae : a.isEmpty = false := by cases a; simp at hl; rfl
    have hn : isName a = false := by
      cases a with
      | nil => simp at hl
      | cons c r => simp [isName]; intro h; simp at hl; omega
    have hd : decide ((4 : Int) < (a.length : Int)) = true := by simp; omega
    rw [hn]
    clear hn hl
    go_enter Tryz.func52, Tryz.ntmps52
    go_wp2_with fail
    go_ret
    exact ⟨rfl, Fr.refl _ _⟩

/-- how often a name stands free, or -1 -/
def AnsU (s x : List UInt8) (w : World) (e : Ending) (w' : World) : Prop :=
  ∃ n : Int, e = .returned (.int .i64 n) ∧ ((∃ a k, TmOk s a k ∧ isName x = true ∧ n = (usT x a k : Nat)) ∨ (((∀ a k, ¬ TmOk s a k) ∨ isName x = false) ∧ n = -1)) ∧ Fr No w w'

end Go.Proofs.YtnjgaenhjdjpfaaGreatDoor
