/- Law1 · Signs · Law2 -/
import Derived.Test.YtloecimlimoanaaDoorSpec2
import Derived.Test.YtloecimlimoanaaDoorRead
import Derived.Test.YtloecimlimoanaaDoorPtr
/- Law1 -/
namespace Go.Proofs.YtloecimlimoanaaDoor
open Go.RowKit Go.ChangeMaps

theorem Fr.kept {w w' : World} (h : Fr No w w') : Below w.heap.size w w' := h.below (Nat.le_refl _) (fun _ h => h.elim)

theorem str_S (a : ByteArray) : Value.string a = S a.data.toList := rfl
theorem str_len {a : ByteArray} (h : a.size ≤ maxLen) : a.data.toList.length ≤ maxLen := by
  rw [Array.length_toList]; exact h

end Go.Proofs.YtloecimlimoanaaDoor

/- Signs -/
namespace Go.Proofs.YtloecimlimoanaaDoor
open Go.RowKit Go.ChangeMaps

/-- a variable stands nowhere negative (true), or nowhere positive (false) -/
def only : Bool → Ty → Nat → Bool
  | b, .v j, i => b || j != i
  | _, .o, _ => true
  | b, .n f l r, i => only (if f then !b else b) l i && only b r i

/-- it stands positive somewhere, and negative somewhere -/
def signs : Ty → Nat → Bool × Bool
  | .v j, i => (j == i, false)
  | .o, _ => (false, false)
  | .n f l r, i => if f then ((signs l i).2 || (signs r i).1, (signs l i).1 || (signs r i).2) else ((signs l i).1 || (signs r i).1, (signs l i).2 || (signs r i).2)

theorem only_signs (t : Ty) (i : Nat) : only true t i = !(signs t i).2 ∧ only false t i = !(signs t i).1 := by
  induction t with
  | v j => simp [only, signs, bne]
  | o => simp [only, signs]
  | n f l r hl hr => cases f <;> simp [only, signs, hl, hr]

theorem var_iff (nm : List UInt8) : isVar nm = true ↔ ∃ i, i < 25 ∧ nm = [Ty.letter i] := by
  constructor
  · intro h
    match nm, h with
    | [c], h =>
      have ha : isAtomTy [c] = true := by rw [atom_var, h]; simp
      obtain ⟨t, h1, h2, h3, _⟩ := atom_ty ha
      cases t with
      | v i => exact ⟨i, h1, h2⟩
      | o =>
        simp [Ty.atom] at h2
        subst h2
        simp [isVar] at h
      | n f l r => cases h3
  · rintro ⟨i, hi, rfl⟩
    have h1 := Ty.letter_range hi
    have h2 := (Ty.letter_ne hi).1
    simp [isVar, h1.1, h1.2.1, h2]

theorem is_var {nm : List UInt8} {t : Ty} (h : Ty.Is nm t) : (∃ i, t = .v i ∧ i < 25 ∧ nm = [Ty.letter i]) ∨ (sgn t ≠ [] ∧ ∀ i, i < 25 → nm ≠ [Ty.letter i]) := by
  obtain ⟨h1, h2, h3⟩ := h
  cases t with
  | v i => exact .inl ⟨i, rfl, h2, h1⟩
  | o =>
    refine .inr ⟨by simp [sgn], fun i hi e => ?_⟩
    rw [h1] at e
    simp [Ty.text] at e
    exact (Ty.letter_ne hi).1 e.symm
  | n f l r =>
    refine .inr ⟨by simp [sgn], fun i hi e => ?_⟩
    rw [h1] at e
    simp [Ty.text] at e

theorem var_is {i : Nat} (hi : i < 25) : Ty.Is [Ty.letter i] (.v i) := ⟨rfl, hi, by simp [Ty.size]⟩

/-- one pointer, one type -/
theorem Has.inj {w : World} {q m : Nat} {ps : List Nat} {D : List Ty} {t t' : Ty} {p p' : Nat} (hP : Pool w q m ps D) (h : Has ps D t p) (h' : Has ps D t' p') : p = p' ↔ t = t' := by
  obtain ⟨i, h1, h2⟩ := h
  obtain ⟨i', h1', h2'⟩ := h'
  constructor
  · rintro rfl
    obtain ⟨x, y, b, _⟩ := hP.node i t p h1 h2
    obtain ⟨x', y', b', _⟩ := hP.node i' t' p h1' h2'
    have e := (Blk.eq b b').2
    simp at e
    have : i = i' := by omega
    subst this
    rw [h1] at h1'
    injection h1'
  · rintro rfl
    have : i = i' := (List.getElem?_inj (List.getElem?_eq_some_iff.1 h1).1 hP.nodup).1 (h1.trans h1'.symm)
    subst this
    rw [h2] at h2'
    injection h2'

/-- the parts of a type in the pool -/
theorem Has.kids {w : World} {q m : Nat} {ps : List Nat} {D : List Ty} {f : Bool} {l r : Ty} {p : Nat} (hP : Pool w q m ps D) (h : Has ps D (.n f l r) p) :
    ∃ pl pr i, Blk w p 146 #[S [Ty.sign f], .int .i64 0, Ptr pl, Ptr pr, .int .i64 (Ty.n f l r).size, .int .i64 i] ∧ Has ps D l pl ∧ Has ps D r pr := by
  obtain ⟨x, y, i, hb, il, ir, pl, pr, h1, h2, h3, h4, rfl, rfl⟩ := h.blk hP
  exact ⟨pl, pr, i, hb, ⟨il, h1, h3⟩, ⟨ir, h2, h4⟩⟩

set_option maxHeartbeats 400000 in
theorem compound_yes (w : World) (p : Nat) (a b : Value) (pl : Nat) (pr c d : Value) (h : Blk w p 146 #[a, b, Ptr pl, pr, c, d]) :
    Calls Tryd.prog 112 #[Ptr p] w fun e w' => e = .returned (.bool true) ∧ w = w' := by
  have c2 : w.cell? ⟨p, 2, none⟩ = some (Ptr pl) := (h.cell 2).trans rfl
  go_enter Tryd.func112, Tryd.ntmps112
  go_wp2
  go_ret
  exact ⟨rfl, rfl⟩

set_option maxHeartbeats 400000 in
theorem compound_no (w : World) (p : Nat) (a b pr c d : Value) (h : Blk w p 146 #[a, b, .pointer none, pr, c, d]) :
    Calls Tryd.prog 112 #[Ptr p] w fun e w' => e = .returned (.bool false) ∧ w = w' := by
  have c2 : w.cell? ⟨p, 2, none⟩ = some (.pointer none) := (h.cell 2).trans rfl
  go_enter Tryd.func112, Tryd.ntmps112
  go_wp2
  go_ret
  exact ⟨rfl, rfl⟩

set_option maxRecDepth 100000 in
set_option maxHeartbeats 1000000 in
theorem only_any (w : World) (q m : Nat) (ps : List Nat) (D : List Ty) (i pv : Nat) (hP : Pool w q m ps D) (hv : Has ps D (.v i) pv) (t : Ty) : ∀ (b : Bool) (p : Nat), Has ps D t p →
    Calls Tryd.prog 75 #[.bool b, Ptr p, Ptr pv] w fun e w' => e = .returned (.bool (only b t i)) ∧ w = w' := by
  induction t with
  | v j =>
    intro b p h
    obtain ⟨x, y, k, hb, rfl, rfl⟩ := h.blk hP
    obtain ⟨x', y', k', hbv, _⟩ := hv.blk hP
    have hrun := run_neq_node hb hbv
    have hne := Has.inj hP h hv
    have HB := Lib.hid hb
    clear hb hbv
    cases b
    · by_cases hij : j = i
      · have hpp : p = pv := hne.2 (by rw [hij])
        subst hpp
        have he : only false (.v j) i = false := by simp [only, hij]
        rw [show (!(p == p)) = false by simp] at hrun
        rw [he]
        clear he hne hij
        go_enter Tryd.func75, Tryd.ntmps75
        go_wp2_with fail
        refine (compound_no _ _ _ _ _ _ _ HB.out).mono ?_
        rintro e w' ⟨rfl, rfl⟩
        go_wp2
        go_ret
        exact ⟨rfl, rfl⟩
      · have hpp : p ≠ pv := fun e => hij (by have := hne.1 e; injection this)
        have he : only false (.v j) i = true := by simp [only, hij]
        rw [he]
        clear he hne hij
        have hpp' : (p == pv) = false := by simpa using hpp
        rw [hpp', Bool.not_false] at hrun
        clear hpp hpp'
        go_enter Tryd.func75, Tryd.ntmps75
        go_wp2_with fail
        refine (compound_no _ _ _ _ _ _ _ HB.out).mono ?_
        rintro e w' ⟨rfl, rfl⟩
        go_wp2
        go_ret
        exact ⟨rfl, rfl⟩
    · have he : only true (.v j) i = true := by simp [only]
      rw [he]
      clear he hne
      go_enter Tryd.func75, Tryd.ntmps75
      go_wp2_with fail
      refine (compound_no _ _ _ _ _ _ _ HB.out).mono ?_
      rintro e w' ⟨rfl, rfl⟩
      go_wp2
      go_ret
      exact ⟨rfl, rfl⟩
  | o =>
    intro b p h
    obtain ⟨x, y, k, hb, rfl, rfl⟩ := h.blk hP
    obtain ⟨x', y', k', hbv, _⟩ := hv.blk hP
    have hrun := run_neq_node hb hbv
    have hne := Has.inj hP h hv
    have HB := Lib.hid hb
    clear hb hbv
    have hpp : p ≠ pv := fun e => by have := hne.1 e; cases this
    have hpp' : (p == pv) = false := by simpa using hpp
    rw [show only b .o i = true by cases b <;> rfl]
    rw [hpp', Bool.not_false] at hrun
    clear hne hpp hpp'
    cases b
    all_goals
      go_enter Tryd.func75, Tryd.ntmps75
      go_wp2_with fail
      refine (compound_no _ _ _ _ _ _ _ HB.out).mono ?_
      rintro e w' ⟨rfl, rfl⟩
      go_wp2
      go_ret
      exact ⟨rfl, rfl⟩
  | n f l r ihl ihr =>
    intro b p h
    obtain ⟨pl, pr, k, hb, hl, hr⟩ := h.kids hP
    have IL : Hid (∀ b, Calls Tryd.prog 75 #[.bool b, Ptr pl, Ptr pv] w fun e w' => e = .returned (.bool (only b l i)) ∧ w = w') := fun b => ihl b pl hl
    have IR : Hid (∀ b, Calls Tryd.prog 75 #[.bool b, Ptr pr, Ptr pv] w fun e w' => e = .returned (.bool (only b r i)) ∧ w = w') := fun b => ihr b pr hr
    clear ihl ihr
    have c0 : w.cell? ⟨p, 0, none⟩ = some (S [Ty.sign f]) := (hb.cell 0).trans rfl
    have c2 : w.cell? ⟨p, 2, none⟩ = some (Ptr pl) := (hb.cell 2).trans rfl
    have c3 : w.cell? ⟨p, 3, none⟩ = some (Ptr pr) := (hb.cell 3).trans rfl
    have HB := Lib.hid hb
    clear hb
    have fin : ∀ x y : Bool, x = only (if f then !b else b) l i → y = only b r i → Hid ((x && y) = only b (.n f l r) i) := by
      intro x y hx hy; rw [hx, hy]; rfl
    have FIN := Lib.hid fin
    clear fin
    cases f
    all_goals
      go_enter Tryd.func75, Tryd.ntmps75
      go_wp2_with fail
      refine (compound_yes _ _ _ _ _ _ _ _ HB.out).mono ?_
      rintro e w' ⟨rfl, rfl⟩
      go_wp2_with fail
      refine (IL.out _).mono ?_
      rintro e w' ⟨rfl, rfl⟩
      generalize hx : only _ l i = x
      have HX := Lib.hid hx
      clear hx
      cases x
      · go_wp2
        go_ret
        exact ⟨ret_bool (FIN.out false _ HX.out.symm rfl).out, rfl⟩
      · go_wp2_with fail
        refine (IR.out _).mono ?_
        rintro e w' ⟨rfl, rfl⟩
        go_wp2
        go_ret
        exact ⟨ret_bool (FIN.out true _ HX.out.symm rfl).out, rfl⟩

end Go.Proofs.YtloecimlimoanaaDoor

/- Law2 -/
namespace Go.Proofs.YtloecimlimoanaaDoor
open Go.RowKit Go.ChangeMaps

def VarPost (w : World) (q m : Nat) (ps : List Nat) (D : List Ty) (nm : List UInt8) (e : Ending) (w' : World) : Prop :=
  ∃ ps' D', Pool w' q m ps' D' ∧ Grew w.heap.size ps D ps' D' ∧ Fr (One m) w w' ∧
    ((∃ i p, i < 25 ∧ nm = [Ty.letter i] ∧ Has ps' D' (.v i) p ∧ e = .returned (Ptr p)) ∨ ((∀ i, i < 25 → nm ≠ [Ty.letter i]) ∧ e = .returned (.pointer none)))

set_option maxHeartbeats 1000000 in
theorem readVar_any (w : World) (q m : Nat) (ps : List Nat) (D : List Ty) (nm : List UInt8) (hP : Pool w q m ps D) (hs : nm.length ≤ maxLen) :
    Calls Tryd.prog 74 #[Ptr q, S nm] w fun e w' => VarPost w q m ps D nm e w' := by
  go_enter Tryd.func74, Tryd.ntmps74
  go_wp2_with fail
  refine (read_any w q m ps D nm 0 hP (by omega) hs).mono ?_
  rintro e w1 ⟨ps1, D1, hP1, hg, hf, hor⟩
  rcases hor with ⟨t, p, hi, hh, he⟩ | ⟨hno, he⟩
  · obtain rfl := he
    rw [Ty.shift_zero] at hh
    obtain ⟨x, y, k, hb, _⟩ := hh.blk hP1
    have c0 : w1.cell? ⟨p, 0, none⟩ = some (S (sgn t)) := (hb.cell 0).trans rfl
    clear hb
    rcases is_var hi with ⟨i, rfl, hi25, hnm⟩ | ⟨hsg, hno⟩
    · have HNM := Lib.hid hnm
      clear hnm
      have hsg : sgn (.v i) = [] := rfl
      rw [hsg] at c0
      clear hsg
      go_wp2
      go_ret
      exact ⟨ps1, D1, hP1, hg, hf, .inl ⟨i, p, hi25, HNM.out, hh, rfl⟩⟩
    · have hse : (sgn t).isEmpty = false := by cases h : sgn t; exact absurd h hsg; rfl
      have HNO := Lib.hid hno
      clear hno
      generalize sgn t = sg at c0 hse
      clear hsg
      go_wp2
      go_ret
      exact ⟨ps1, D1, hP1, hg, hf, .inr ⟨HNO.out, rfl⟩⟩
  · obtain rfl := he
    have HNO : Hid (∀ i, i < 25 → nm ≠ [Ty.letter i]) := fun i hi e => hno (.v i) (by rw [e]; exact var_is hi)
    clear hno
    go_wp2
    go_ret
    exact ⟨ps1, D1, hP1, hg, hf, .inr ⟨HNO.out, rfl⟩⟩

set_option maxHeartbeats 1000000 in
theorem var_any2 (a : List UInt8) (w : World) (ha : a.length ≤ maxLen) :
    Calls Tryd.prog 133 #[S a] w fun e w' => e = .returned (.bool (isVar a)) ∧ w = w' := by
  by_cases h : a.length ≤ 6000
  · exact var_any a w h
  · match a, h with
    | [], h => simp at h
    | [c], h => simp at h
    | c :: c' :: a, h =>
      unfold maxLen at ha
      simp at ha
      have n1 : ((a.length : Int) + 1 + 1 == 1) = false := beq_eq_false_iff_ne.2 (by omega)
      clear h
      go_enter Tryd.func133, Tryd.ntmps133
      go_wp2
      go_ret
      exact ⟨rfl, rfl⟩

def OnlyP (b : Bool) (s nm : List UInt8) : Prop := ∃ t i, Ty.Is s t ∧ i < 25 ∧ nm = [Ty.letter i] ∧ only b t i = true

set_option maxRecDepth 100000 in
set_option maxHeartbeats 1000000 in
theorem implPositive (w : World) (s nm : List UInt8) (hs : s.length ≤ maxLen) (hn : nm.length ≤ maxLen) :
    Calls Tryd.prog 23 #[S s, S nm] w fun e w' => AnsB (OnlyP true s nm) w e w' := by
  go_enter Tryd.func23, Tryd.ntmps23
  go_wp2_with fail
  refine (newPool_any _).mono ?_
  rintro e w1 ⟨rfl, rfl⟩
  have hP := pool_start w
  have hf0 : Fr No w ((w.alloc (.map #[] 0)).alloc (.cells #[.map (some w.heap.size)] 163)) := ((Fr.refl _ _).alloc _).alloc _
  generalize (w.alloc (.map #[] 0)).alloc (.cells #[.map (some w.heap.size)] 163) = w1 at hP hf0 ⊢
  go_wp2_with fail
  refine (read_any w1 _ _ [] [] s 0 hP (by omega) hs).mono ?_
  rintro e w2 ⟨ps, D, hP2, hg, hf, hor⟩
  have hfr : Fr No w w2 := hf0.then_ hf (fun i hi e => by unfold One at e; omega)
  have hret : ∃ v, e = .returned v := by rcases hor with ⟨t', p, _, _, he⟩ | ⟨_, he⟩ <;> exact ⟨_, he⟩
  obtain ⟨v, rfl⟩ := hret
  go_wp2_with fail
  refine (readVar_any w2 _ _ ps D nm hP2 hn).mono ?_
  rintro e w3 ⟨ps3, D3, hP3, hg3, hf3, hor3⟩
  have hfr3 : Fr No w w3 := hfr.then_ hf3 (fun i hi e => by unfold One at e; omega)
  have hret : ∃ v, e = .returned v := by rcases hor3 with ⟨i, p, _, _, _, he⟩ | ⟨_, he⟩ <;> exact ⟨_, he⟩
  obtain ⟨u, rfl⟩ := hret
  rcases hor with ⟨t, p, hi, hh, he⟩ | ⟨hno, he⟩
  · obtain rfl : v = Ptr p := by injection he
    rcases hor3 with ⟨i, pv, hi25, hnm, hhv, he3⟩ | ⟨hnv, he3⟩
    · obtain rfl : u = Ptr pv := by injection he3
      rw [Ty.shift_zero] at hh
      have HNM := Lib.hid hnm
      clear hnm he he3
      go_wp2_with fail
      refine (only_any w3 _ _ ps3 D3 i pv hP3 hhv t true p (hh.grew hg3)).mono ?_
      rintro e w4 ⟨rfl, rfl⟩
      go_wp2
      go_ret
      refine ⟨only true t i, rfl, ⟨fun h => ⟨t, i, hi, hi25, HNM.out, h⟩, fun ⟨t', i', h1, h2, h3, h4⟩ => ?_⟩, hfr3⟩
      obtain rfl := hi.unique h1
      have : i = i' := Ty.letter_inj hi25 h2 (by have := HNM.out.symm.trans h3; simpa using this)
      subst this
      exact h4
    · obtain rfl : u = .pointer none := by injection he3
      clear he he3
      have HNO : Hid (¬ OnlyP true s nm) := fun ⟨t', i', h1, h2, h3, h4⟩ => hnv i' h2 h3
      clear hnv
      go_wp2
      go_ret
      exact ⟨false, rfl, ⟨fun h => (by cases h), fun h => (HNO.out h).elim⟩, hfr3⟩
  · obtain rfl : v = .pointer none := by injection he
    clear he hor3
    have HNO : Hid (¬ OnlyP true s nm) := fun ⟨t', i', h1, h2, h3, h4⟩ => hno t' h1
    clear hno
    go_wp2
    go_ret
    exact ⟨false, rfl, ⟨fun h => (by cases h), fun h => (HNO.out h).elim⟩, hfr3⟩

end Go.Proofs.YtloecimlimoanaaDoor
