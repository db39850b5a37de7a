import Derived.Test.YthbidlcfahdfhaaLaw1
import Derived.Test.YthbidlcfahdfhaaPtr
namespace Go.Proofs.Ythbidlcfahdfhaa
open Go.RowKit Go.ChangeMaps

/-- a variable stands nowhere negative (true), or nowhere positive (false) -/
def only : Bool → Ty → Nat → Bool
  | b, .v j, i => b || j != i
  | _, .o, _ => true
  | b, .n f l r, i => only (if f then !b else b) l i && only b r i

/-- it stands positive somewhere, and negative somewhere -/
def signs : Ty → Nat → Bool × Bool
  | .v j, i => (j == i, false)
  | .o, _ => (false, false)
  | .n f l r, i => if f then ((signs l i).2 || (signs r i).1, (signs l i).1 || (signs r i).2) else ((signs l i).1 || (signs r i).1, (signs l i).2 || (signs r i).2)

theorem only_signs (t : Ty) (i : Nat) : only true t i = !(signs t i).2 ∧ only false t i = !(signs t i).1 := by
  induction t with
  | v j => simp [only, signs, bne]
  | o => simp [only, signs]
  | n f l r hl hr => cases f <;> simp [only, signs, hl, hr]

theorem var_iff (nm : List UInt8) : isVar nm = true ↔ ∃ i, i < 25 ∧ nm = [Ty.letter i] := by
  constructor
  · intro h
    match nm, h with
    | [c], h =>
      have ha : isAtomTy [c] = true := by rw [atom_var, h]; simp
      obtain ⟨t, h1, h2, h3, _⟩ := atom_ty ha
      cases t with
      | v i => exact ⟨i, h1, h2⟩
      | o =>
        simp [Ty.atom] at h2
        subst h2
        simp [isVar] at h
      | n f l r => cases h3
  · rintro ⟨i, hi, rfl⟩
    have h1 := Ty.letter_range hi
    have h2 := (Ty.letter_ne hi).1
    simp [isVar, h1.1, h1.2.1, h2]

theorem is_var {nm : List UInt8} {t : Ty} (h : Ty.Is nm t) : (∃ i, t = .v i ∧ i < 25 ∧ nm = [Ty.letter i]) ∨ (sgn t ≠ [] ∧ ∀ i, i < 25 → nm ≠ [Ty.letter i]) := by
  obtain ⟨h1, h2, h3⟩ := h
  cases t with
  | v i => exact .inl ⟨i, rfl, h2, h1⟩
  | o =>
    refine .inr ⟨by simp [sgn], fun i hi e => ?_⟩
    rw [h1] at e
    simp [Ty.text] at e
    exact (Ty.letter_ne hi).1 e.symm
  | n f l r =>
    refine .inr ⟨by simp [sgn], fun i hi e => ?_⟩
    rw [h1] at e
    simp [Ty.text] at e

theorem var_is {i : Nat} (hi : i < 25) : Ty.Is [Ty.letter i] (.v i) := ⟨rfl, hi, by simp [Ty.size]⟩

/-- one pointer, one type -/
theorem Has.inj {w : World} {q m : Nat} {ps : List Nat} {D : List Ty} {t t' : Ty} {p p' : Nat} (hP : Pool w q m ps D) (h : Has ps D t p) (h' : Has ps D t' p') : p = p' ↔ t = t' := by
  obtain ⟨i, h1, h2⟩ := h
  obtain ⟨i', h1', h2'⟩ := h'
  constructor
  · rintro rfl
    obtain ⟨x, y, b, _⟩ := hP.node i t p h1 h2
    obtain ⟨x', y', b', _⟩ := hP.node i' t' p h1' h2'
    have e := (Blk.eq b b').2
    simp at e
    have : i = i' := by omega
    subst this
    rw [h1] at h1'
    injection h1'
  · rintro rfl
    have : i = i' := (List.getElem?_inj (List.getElem?_eq_some_iff.1 h1).1 hP.nodup).1 (h1.trans h1'.symm)
    subst this
    rw [h2] at h2'
    injection h2'

/-- the parts of a type in the pool -/
theorem Has.kids {w : World} {q m : Nat} {ps : List Nat} {D : List Ty} {f : Bool} {l r : Ty} {p : Nat} (hP : Pool w q m ps D) (h : Has ps D (.n f l r) p) :
    ∃ pl pr i, Blk w p 72 #[S [Ty.sign f], .int .i64 0, Ptr pl, Ptr pr, .int .i64 (Ty.n f l r).size, .int .i64 i] ∧ Has ps D l pl ∧ Has ps D r pr := by
  obtain ⟨x, y, i, hb, il, ir, pl, pr, h1, h2, h3, h4, rfl, rfl⟩ := h.blk hP
  exact ⟨pl, pr, i, hb, ⟨il, h1, h3⟩, ⟨ir, h2, h4⟩⟩

set_option maxHeartbeats 400000 in
theorem compound_yes (w : World) (p : Nat) (a b : Value) (pl : Nat) (pr c d : Value) (h : Blk w p 72 #[a, b, Ptr pl, pr, c, d]) :
    Calls Try.prog 68 #[Ptr p] w fun e w' => e = .returned (.bool true) ∧ w = w' := by
  have c2 : w.cell? ⟨p, 2, none⟩ = some (Ptr pl) := (h.cell 2).trans rfl
  go_enter Try.func68, Try.ntmps68
  go_wp2
  go_ret
  exact ⟨rfl, rfl⟩

set_option maxHeartbeats 400000 in
theorem compound_no (w : World) (p : Nat) (a b pr c d : Value) (h : Blk w p 72 #[a, b, .pointer none, pr, c, d]) :
    Calls Try.prog 68 #[Ptr p] w fun e w' => e = .returned (.bool false) ∧ w = w' := by
  have c2 : w.cell? ⟨p, 2, none⟩ = some (.pointer none) := (h.cell 2).trans rfl
  go_enter Try.func68, Try.ntmps68
  go_wp2
  go_ret
  exact ⟨rfl, rfl⟩

set_option maxRecDepth 100000 in
set_option maxHeartbeats 1000000 in
theorem only_any (w : World) (q m : Nat) (ps : List Nat) (D : List Ty) (i pv : Nat) (hP : Pool w q m ps D) (hv : Has ps D (.v i) pv) (t : Ty) : ∀ (b : Bool) (p : Nat), Has ps D t p →
    Calls Try.prog 61 #[.bool b, Ptr p, Ptr pv] w fun e w' => e = .returned (.bool (only b t i)) ∧ w = w' := by
  induction t with
  | v j =>
    intro b p h
    obtain ⟨x, y, k, hb, rfl, rfl⟩ := h.blk hP
    obtain ⟨x', y', k', hbv, _⟩ := hv.blk hP
    have hrun := run_neq_node hb hbv
    have hne := Has.inj hP h hv
    have HB := Lib.hid hb
    clear hb hbv
    cases b
    · by_cases hij : j = i
      · have hpp : p = pv := hne.2 (by rw [hij])
        subst hpp
        have he : only false (.v j) i = false := by simp [only, hij]
        rw [show (!(p == p)) = false by simp] at hrun
        rw [he]
        clear he hne hij
        go_enter Try.func61, Try.ntmps61
        go_wp2_with fail
        refine (compound_no _ _ _ _ _ _ _ HB.out).mono ?_
        rintro e w' ⟨rfl, rfl⟩
        go_wp2
        go_ret
        exact ⟨rfl, rfl⟩
      · have hpp : p ≠ pv := fun e => hij (by have := hne.1 e; injection this)
        have he : only false (.v j) i = true := by simp [only, hij]
        rw [he]
        clear he hne hij
        have hpp' : (p == pv) = false := by simpa using hpp
        rw [hpp', Bool.not_false] at hrun
        clear hpp hpp'
        go_enter Try.func61, Try.ntmps61
        go_wp2_with fail
        refine (compound_no _ _ _ _ _ _ _ HB.out).mono ?_
        rintro e w' ⟨rfl, rfl⟩
        go_wp2
        go_ret
        exact ⟨rfl, rfl⟩
    · have he : only true (.v j) i = true := by simp [only]
      rw [he]
      clear he hne
      go_enter Try.func61, Try.ntmps61
      go_wp2_with fail
      refine (compound_no _ _ _ _ _ _ _ HB.out).mono ?_
      rintro e w' ⟨rfl, rfl⟩
      go_wp2
      go_ret
      exact ⟨rfl, rfl⟩
  | o =>
    intro b p h
    obtain ⟨x, y, k, hb, rfl, rfl⟩ := h.blk hP
    obtain ⟨x', y', k', hbv, _⟩ := hv.blk hP
    have hrun := run_neq_node hb hbv
    have hne := Has.inj hP h hv
    have HB := Lib.hid hb
    clear hb hbv
    have hpp : p ≠ pv := fun e => by have := hne.1 e; cases this
    have hpp' : (p == pv) = false := by simpa using hpp
    rw [show only b .o i = true by cases b <;> rfl]
    rw [hpp', Bool.not_false] at hrun
    clear hne hpp hpp'
    cases b
    all_goals
      go_enter Try.func61, Try.ntmps61
      go_wp2_with fail
      refine (compound_no _ _ _ _ _ _ _ HB.out).mono ?_
      rintro e w' ⟨rfl, rfl⟩
      go_wp2
      go_ret
      exact ⟨rfl, rfl⟩
  | n f l r ihl ihr =>
    intro b p h
    obtain ⟨pl, pr, k, hb, hl, hr⟩ := h.kids hP
    have IL : Hid (∀ b, Calls Try.prog 61 #[.bool b, Ptr pl, Ptr pv] w fun e w' => e = .returned (.bool (only b l i)) ∧ w = w') := fun b => ihl b pl hl
    have IR : Hid (∀ b, Calls Try.prog 61 #[.bool b, Ptr pr, Ptr pv] w fun e w' => e = .returned (.bool (only b r i)) ∧ w = w') := fun b => ihr b pr hr
    clear ihl ihr
    have c0 : w.cell? ⟨p, 0, none⟩ = some (S [Ty.sign f]) := (hb.cell 0).trans rfl
    have c2 : w.cell? ⟨p, 2, none⟩ = some (Ptr pl) := (hb.cell 2).trans rfl
    have c3 : w.cell? ⟨p, 3, none⟩ = some (Ptr pr) := (hb.cell 3).trans rfl
    have HB := Lib.hid hb
    clear hb
    have fin : ∀ x y : Bool, x = only (if f then !b else b) l i → y = only b r i → Hid ((x && y) = only b (.n f l r) i) := by
      intro x y hx hy; rw [hx, hy]; rfl
    have FIN := Lib.hid fin
    clear fin
    cases f
    all_goals
      go_enter Try.func61, Try.ntmps61
      go_wp2_with fail
      refine (compound_yes _ _ _ _ _ _ _ _ HB.out).mono ?_
      rintro e w' ⟨rfl, rfl⟩
      go_wp2_with fail
      refine (IL.out _).mono ?_
      rintro e w' ⟨rfl, rfl⟩
      generalize hx : only _ l i = x
      have HX := Lib.hid hx
      clear hx
      cases x
      · go_wp2
        go_ret
        exact ⟨ret_bool (FIN.out false _ HX.out.symm rfl).out, rfl⟩
      · go_wp2_with fail
        refine (IR.out _).mono ?_
        rintro e w' ⟨rfl, rfl⟩
        go_wp2
        go_ret
        exact ⟨ret_bool (FIN.out true _ HX.out.symm rfl).out, rfl⟩

set_option maxRecDepth 100000 in
set_option maxHeartbeats 1000000 in
theorem signs_any (i : Nat) (hi : i < 25) (t : Ty) : t.lets → ∀ (A : Option Addr) (c : Nat) (w : World) (T : Nat → Prop), (∀ b, T b → b < w.heap.size) → Sl w T A t.kids →
    Calls Try.prog 63 #[.agg #[S t.atom, .slice A t.kids.len c], S [Ty.letter i]] w fun e w' => e = .returned (.tuple #[.bool (signs t i).1, .bool (signs t i).2]) ∧ Fr No w w' := by
  induction t with
  | v j =>
    intro hj A c w T _ _
    have hj' : j < 25 := hj
    have e1 : signs (.v j) i = (j == i, false) := rfl
    rw [e1]
    have hb1 : (Ty.letter j == Ty.letter i) = (j == i) := by
      by_cases h : j = i
      · subst h; simp
      · have : Ty.letter j ≠ Ty.letter i := fun e => h (Ty.letter_inj hj' hi e)
        rw [beq_eq_false_iff_ne.2 this, beq_eq_false_iff_ne.2 h]
    simp only [Ty.atom, Ty.kids, Fo.len]
    have hb2 : ([Ty.letter j] == [Ty.letter i]) = (j == i) := by
      rw [← hb1]; by_cases h : Ty.letter j = Ty.letter i <;> simp [h]
    generalize (j == i) = b at hb1 hb2 ⊢
    generalize Ty.letter j = x at hb1 hb2 ⊢
    generalize Ty.letter i = y at hb1 hb2 ⊢
    clear hj hj' e1
    go_enter Try.func63, Try.ntmps63
    go_wp2
    go_ret2
    exact ⟨rfl, (Fr.refl _ _).alloc _⟩
  | o =>
    intro _ A c w T _ _
    have hn := (Ty.letter_ne hi).1
    rw [show signs .o i = (false, false) from rfl]
    simp only [Ty.atom, Ty.kids, Fo.len]
    generalize Ty.letter i = y at hn ⊢
    have hb1 : ((111 : UInt8) == y) = false := by simpa using fun e => hn e.symm
    have hb2 : (([111] : List UInt8) == [y]) = false := by simpa using fun e => hn e.symm
    clear hn
    go_enter Try.func63, Try.ntmps63
    go_wp2
    go_ret2
    exact ⟨rfl, (Fr.refl _ _).alloc _⟩
  | n f l r ihl ihr =>
    intro hlr A c w T hT h
    rw [Ty.kids_n] at h
    obtain ⟨g, o, A0, c0, A1, c1, A2, c2, rfl, hg, q0, q1, q2, q3, q4, q5, s0, s1, s2, hl⟩ := h.three
    have H3 : Hid (∀ w' : World, Fr No w w' → w'.cell? ⟨g, o, none⟩ = some (S [Ty.sign f]) ∧ w'.cell? ⟨g, o + 2, none⟩ = some (S l.atom) ∧ w'.cell? ⟨g, o + 3, none⟩ = some (.slice A1 l.kids.len c1) ∧ w'.cell? ⟨g, o + 4, none⟩ = some (S r.atom) ∧
        w'.cell? ⟨g, o + 5, none⟩ = some (.slice A2 r.kids.len c2) ∧ g < w'.heap.size) :=
      fun w' hf => ⟨(hf.cell (p := ⟨g, o, none⟩) hl (fun h => h)).trans q0, (hf.cell (p := ⟨g, o + 2, none⟩) hl (fun h => h)).trans q2, (hf.cell (p := ⟨g, o + 3, none⟩) hl (fun h => h)).trans q3, (hf.cell (p := ⟨g, o + 4, none⟩) hl (fun h => h)).trans q4,
        (hf.cell (p := ⟨g, o + 5, none⟩) hl (fun h => h)).trans q5, Nat.lt_of_lt_of_le hl hf.size⟩
    have IL : Hid (∀ w', Fr No w w' → Calls Try.prog 63 #[.agg #[S l.atom, .slice A1 l.kids.len c1], S [Ty.letter i]] w' fun e w2 => e = .returned (.tuple #[.bool (signs l i).1, .bool (signs l i).2]) ∧ Fr No w' w2) :=
      fun w' hf => ihl hlr.1 A1 c1 w' T (fun b hb => Nat.lt_of_lt_of_le (hT b hb) hf.size) (s1.fr hT hf)
    have IR : Hid (∀ w', Fr No w w' → Calls Try.prog 63 #[.agg #[S r.atom, .slice A2 r.kids.len c2], S [Ty.letter i]] w' fun e w2 => e = .returned (.tuple #[.bool (signs r i).1, .bool (signs r i).2]) ∧ Fr No w' w2) :=
      fun w' hf => ihr hlr.2 A2 c2 w' T (fun b hb => Nat.lt_of_lt_of_le (hT b hb) hf.size) (s2.fr hT hf)
    have hkl : (Ty.n f l r).kids.len = 3 := rfl
    rw [hkl, Ty.atom_n]
    have fin : signs (.n f l r) i = if f then ((signs l i).2 || (signs r i).1, (signs l i).1 || (signs r i).2) else ((signs l i).1 || (signs r i).1, (signs l i).2 || (signs r i).2) := rfl
    rw [fin]
    clear ihl ihr fin hkl s0 s1 s2 h
    generalize (signs l i).1 = x1 at IL ⊢
    generalize (signs l i).2 = x2 at IL ⊢
    generalize (signs r i).1 = y1 at IR ⊢
    generalize (signs r i).2 = y2 at IR ⊢
    have b0 := Blk.new w 49 #[S [], .slice (some ⟨g, o, none⟩) 3 c]
    obtain ⟨p0, p2, p3, p4, p5, p6⟩ := H3.out (w.alloc (.cells #[S [], .slice (some ⟨g, o, none⟩) 3 c] 49)) ((Fr.refl _ _).alloc _)
    clear q0 q1 q2 q3 q4 q5
    go_enter Try.func63, Try.ntmps63
    go_wp2_with fail
    refine (IL.out _ ((Fr.refl _ _).alloc _)).mono ?_
    rintro e w1 ⟨rfl, hf1⟩
    have hf1' : Fr No w w1 := ((Fr.refl No w).alloc _).trans hf1
    have b1 := b0.fr hf1 (fun h => h)
    have d1 : w1.cell? ⟨w.heap.size, 1, none⟩ = some (.slice (some ⟨g, o, none⟩) 3 c) := (b1.cell 1).trans rfl
    clear p0 p2 p3 p4 p5 p6
    obtain ⟨p0, p2, p3, p4, p5, p6⟩ := H3.out w1 hf1'
    go_wp2_with fail
    refine (IR.out _ hf1').mono ?_
    rintro e w2 ⟨rfl, hf2⟩
    have hf2' : Fr No w w2 := hf1'.trans hf2
    have b2 := b1.fr hf2 (fun h => h)
    have d2 : w2.cell? ⟨w.heap.size, 1, none⟩ = some (.slice (some ⟨g, o, none⟩) 3 c) := (b2.cell 1).trans rfl
    clear p0 p2 p3 p4 p5 p6 d1
    obtain ⟨p0, p2, p3, p4, p5, p6⟩ := H3.out w2 hf2'
    cases f
    all_goals
      cases x1 <;> cases x2
    all_goals
      go_wp2
      go_ret2
      exact ⟨rfl, hf2'⟩
end Go.Proofs.Ythbidlcfahdfhaa
