import Derived.Test.YthbidlcfahdfhaaSigns
namespace Go.Proofs.Ythbidlcfahdfhaa
open Go.RowKit Go.ChangeMaps

def VarPost (w : World) (q m : Nat) (ps : List Nat) (D : List Ty) (nm : List UInt8) (e : Ending) (w' : World) : Prop :=
  ∃ ps' D', Pool w' q m ps' D' ∧ Grew w.heap.size ps D ps' D' ∧ Fr (One m) w w' ∧
    ((∃ i p, i < 25 ∧ nm = [Ty.letter i] ∧ Has ps' D' (.v i) p ∧ e = .returned (Ptr p)) ∨ ((∀ i, i < 25 → nm ≠ [Ty.letter i]) ∧ e = .returned (.pointer none)))

set_option maxHeartbeats 1000000 in
theorem readVar_any (w : World) (q m : Nat) (ps : List Nat) (D : List Ty) (nm : List UInt8) (hP : Pool w q m ps D) (hs : nm.length ≤ maxLen) :
    Calls Try.prog 60 #[Ptr q, S nm] w fun e w' => VarPost w q m ps D nm e w' := by
  go_enter Try.func60, Try.ntmps60
  go_wp2_with fail
  refine (read_any w q m ps D nm 0 hP (by omega) hs).mono ?_
  rintro e w1 ⟨ps1, D1, hP1, hg, hf, hor⟩
  rcases hor with ⟨t, p, hi, hh, he⟩ | ⟨hno, he⟩
  · obtain rfl := he
    rw [Ty.shift_zero] at hh
    obtain ⟨x, y, k, hb, _⟩ := hh.blk hP1
    have c0 : w1.cell? ⟨p, 0, none⟩ = some (S (sgn t)) := (hb.cell 0).trans rfl
    clear hb
    rcases is_var hi with ⟨i, rfl, hi25, hnm⟩ | ⟨hsg, hno⟩
    · have HNM := Lib.hid hnm
      clear hnm
      have hsg : sgn (.v i) = [] := rfl
      rw [hsg] at c0
      clear hsg
      go_wp2
      go_ret
      exact ⟨ps1, D1, hP1, hg, hf, .inl ⟨i, p, hi25, HNM.out, hh, rfl⟩⟩
    · have hse : (sgn t).isEmpty = false := by cases h : sgn t; exact absurd h hsg; rfl
      have HNO := Lib.hid hno
      clear hno
      generalize sgn t = sg at c0 hse
      clear hsg
      go_wp2
      go_ret
      exact ⟨ps1, D1, hP1, hg, hf, .inr ⟨HNO.out, rfl⟩⟩
  · obtain rfl := he
    have HNO : Hid (∀ i, i < 25 → nm ≠ [Ty.letter i]) := fun i hi e => hno (.v i) (by rw [e]; exact var_is hi)
    clear hno
    go_wp2
    go_ret
    exact ⟨ps1, D1, hP1, hg, hf, .inr ⟨HNO.out, rfl⟩⟩

set_option maxHeartbeats 1000000 in
theorem var_any2 (a : List UInt8) (w : World) (ha : a.length ≤ maxLen) :
    Calls Try.prog 62 #[S a] w fun e w' => e = .returned (.bool (isVar a)) ∧ w = w' := by
  by_cases h : a.length ≤ 6000
  · exact var_any a w h
  · match a, h with
    | [], h => simp at h
    | [c], h => simp at h
    | c :: c' :: a, h =>
      unfold maxLen at ha
      simp at ha
      have n1 : ((a.length : Int) + 1 + 1 == 1) = false := beq_eq_false_iff_ne.2 (by omega)
      clear h
      go_enter Try.func62, Try.ntmps62
      go_wp2
      go_ret
      exact ⟨rfl, rfl⟩

def OnlyP (b : Bool) (s nm : List UInt8) : Prop := ∃ t i, Ty.Is s t ∧ i < 25 ∧ nm = [Ty.letter i] ∧ only b t i = true

set_option maxRecDepth 100000 in
set_option maxHeartbeats 1000000 in
theorem implPositive (w : World) (s nm : List UInt8) (hs : s.length ≤ maxLen) (hn : nm.length ≤ maxLen) :
    Calls Try.prog 23 #[S s, S nm] w fun e w' => AnsB (OnlyP true s nm) w e w' := by
  go_enter Try.func23, Try.ntmps23
  go_wp2_with fail
  refine (newPool_any _).mono ?_
  rintro e w1 ⟨rfl, rfl⟩
  have hP := pool_start w
  have hf0 : Fr No w ((w.alloc (.map #[] 0)).alloc (.cells #[.map (some w.heap.size)] 86)) := ((Fr.refl _ _).alloc _).alloc _
  generalize (w.alloc (.map #[] 0)).alloc (.cells #[.map (some w.heap.size)] 86) = w1 at hP hf0 ⊢
  go_wp2_with fail
  refine (read_any w1 _ _ [] [] s 0 hP (by omega) hs).mono ?_
  rintro e w2 ⟨ps, D, hP2, hg, hf, hor⟩
  have hfr : Fr No w w2 := hf0.then_ hf (fun i hi e => by unfold One at e; omega)
  have hret : ∃ v, e = .returned v := by rcases hor with ⟨t', p, _, _, he⟩ | ⟨_, he⟩ <;> exact ⟨_, he⟩
  obtain ⟨v, rfl⟩ := hret
  go_wp2_with fail
  refine (readVar_any w2 _ _ ps D nm hP2 hn).mono ?_
  rintro e w3 ⟨ps3, D3, hP3, hg3, hf3, hor3⟩
  have hfr3 : Fr No w w3 := hfr.then_ hf3 (fun i hi e => by unfold One at e; omega)
  have hret : ∃ v, e = .returned v := by rcases hor3 with ⟨i, p, _, _, _, he⟩ | ⟨_, he⟩ <;> exact ⟨_, he⟩
  obtain ⟨u, rfl⟩ := hret
  rcases hor with ⟨t, p, hi, hh, he⟩ | ⟨hno, he⟩
  · obtain rfl : v = Ptr p := by injection he
    rcases hor3 with ⟨i, pv, hi25, hnm, hhv, he3⟩ | ⟨hnv, he3⟩
    · obtain rfl : u = Ptr pv := by injection he3
      rw [Ty.shift_zero] at hh
      have HNM := Lib.hid hnm
      clear hnm he he3
      go_wp2_with fail
      refine (only_any w3 _ _ ps3 D3 i pv hP3 hhv t true p (hh.grew hg3)).mono ?_
      rintro e w4 ⟨rfl, rfl⟩
      go_wp2
      go_ret
      refine ⟨only true t i, rfl, ⟨fun h => ⟨t, i, hi, hi25, HNM.out, h⟩, fun ⟨t', i', h1, h2, h3, h4⟩ => ?_⟩, hfr3⟩
      obtain rfl := hi.unique h1
      have : i = i' := Ty.letter_inj hi25 h2 (by have := HNM.out.symm.trans h3; simpa using this)
      subst this
      exact h4
    · obtain rfl : u = .pointer none := by injection he3
      clear he he3
      have HNO : Hid (¬ OnlyP true s nm) := fun ⟨t', i', h1, h2, h3, h4⟩ => hnv i' h2 h3
      clear hnv
      go_wp2
      go_ret
      exact ⟨false, rfl, ⟨fun h => (by cases h), fun h => (HNO.out h).elim⟩, hfr3⟩
  · obtain rfl : v = .pointer none := by injection he
    clear he hor3
    have HNO : Hid (¬ OnlyP true s nm) := fun ⟨t', i', h1, h2, h3, h4⟩ => hno t' h1
    clear hno
    go_wp2
    go_ret
    exact ⟨false, rfl, ⟨fun h => (by cases h), fun h => (HNO.out h).elim⟩, hfr3⟩

set_option maxHeartbeats 1000000 in
theorem specPositive (w : World) (s nm : List UInt8) (hs : s.length ≤ maxLen) (hn : nm.length ≤ maxLen) :
    Calls Try.prog 24 #[S s, S nm] w fun e w' => AnsB (OnlyP true s nm) w e w' := by
  go_enter Try.func24, Try.ntmps24
  go_wp2_with fail
  refine (type_any s _ hs).mono ?_
  rintro e w1 ⟨hf, ⟨t, A, c, hi, rfl, hsl⟩ | ⟨a, A, m, c, hno, rfl⟩⟩
  · have b0 := Blk.new w1 49 #[S t.atom, .slice A t.kids.len c]
    have HSL : Hid (∀ o : Obj, Sl (w1.alloc o) (New w w1) A t.kids) := fun o => hsl.fr (fun b hb => hb.2) ((Fr.refl _ _).alloc o)
    have HT : Hid (∀ (o : Obj) b, New w w1 b → b < (w1.alloc o).heap.size) := fun o b hb => by have := hb.2; simp; omega
    clear hsl
    by_cases hv : ∃ i, i < 25 ∧ nm = [Ty.letter i]
    · have hv' := (var_iff nm).2 hv
      obtain ⟨i, hi25, rfl⟩ := hv
      have HV := Lib.hid hv'
      clear hv'
      go_wp2_with fail
      refine (var_any2 _ _ hn).mono ?_
      rintro e w2 ⟨rfl, rfl⟩
      rw [HV.out]
      go_wp2_with fail
      refine (signs_any i hi25 t hi.2.1 A c _ (New w w1) (HT.out _) (HSL.out _)).mono ?_
      rintro e w2 ⟨rfl, hf2⟩
      have ho := only_signs t i
      generalize hx : (signs t i).1 = x at ho ⊢
      generalize hy : (signs t i).2 = y at ho ⊢
      have HO := Lib.hid ho
      clear ho hx hy
      go_wp2
      go_ret
      refine ⟨_, rfl, ⟨fun h => ⟨t, i, hi, hi25, rfl, HO.out.1.trans h⟩, fun ⟨t', i', h1, h2, h3, h4⟩ => ?_⟩, (hf.alloc _).trans hf2⟩
      obtain rfl := hi.unique h1
      have : i = i' := Ty.letter_inj hi25 h2 (by simpa using h3)
      subst this
      exact HO.out.1.symm.trans h4
    · have hv' : isVar nm = false := Bool.eq_false_iff.2 (fun h => hv ((var_iff nm).1 h))
      have HV := Lib.hid hv'
      have HNO : Hid (¬ OnlyP true s nm) := fun ⟨t', i', h1, h2, h3, h4⟩ => hv ⟨i', h2, h3⟩
      clear hv hv'
      go_wp2_with fail
      refine (var_any2 _ _ hn).mono ?_
      rintro e w2 ⟨rfl, rfl⟩
      rw [HV.out]
      go_wp2
      go_ret
      exact ⟨false, rfl, ⟨fun h => (by cases h), fun h => (HNO.out h).elim⟩, hf.alloc _⟩
  · have HNO : Hid (¬ OnlyP true s nm) := fun ⟨t', i', h1, h2, h3, h4⟩ => hno t' h1
    clear hno
    go_wp2
    go_ret
    exact ⟨false, rfl, ⟨fun h => (by cases h), fun h => (HNO.out h).elim⟩, hf.alloc _⟩

set_option maxHeartbeats 1000000 in
theorem lawPositive (w : World) (s nm : List UInt8) (hs : s.length ≤ maxLen) (hn : nm.length ≤ maxLen) :
    Calls Try.prog 14 #[S s, S nm] w fun e w' => Yes w e w' := by
  have hs' := hs
  have hn' := hn
  unfold maxLen at hs' hn'
  by_cases hl : 1048576 < s.length
  · have hb : decide ((1048576 : Int) < (s.length : Int)) = true := by simp; omega
    go_enter Try.func14, Try.ntmps14
    go_wp2_with fail
    go_ret
    exact ⟨rfl, Fr.refl _ _⟩
  · have hb : decide ((1048576 : Int) < (s.length : Int)) = false := by simp; omega
    by_cases hl2 : 1048576 < nm.length
    · have hb2 : decide ((1048576 : Int) < (nm.length : Int)) = true := by simp; omega
      go_enter Try.func14, Try.ntmps14
      go_wp2_with fail
      go_ret
      exact ⟨rfl, Fr.refl _ _⟩
    · have hb2 : decide ((1048576 : Int) < (nm.length : Int)) = false := by simp; omega
      go_enter Try.func14, Try.ntmps14
      go_wp2_with fail
      refine (specPositive _ s nm hs hn).mono ?_
      rintro e w1 ⟨b1, rfl, h1, hf1⟩
      go_wp2_with fail
      refine (implPositive _ s nm hs hn).mono ?_
      rintro e w2 ⟨b2, rfl, h2, hf2⟩
      obtain rfl : b1 = b2 := Bool.eq_iff_iff.2 (h1.trans h2.symm)
      clear h1 h2
      go_wp2
      go_ret
      exact ⟨rfl, hf1.trans hf2⟩

set_option maxRecDepth 100000 in
set_option maxHeartbeats 1000000 in
theorem implNegative (w : World) (s nm : List UInt8) (hs : s.length ≤ maxLen) (hn : nm.length ≤ maxLen) :
    Calls Try.prog 26 #[S s, S nm] w fun e w' => AnsB (OnlyP false s nm) w e w' := by
  go_enter Try.func26, Try.ntmps26
  go_wp2_with fail
  refine (newPool_any _).mono ?_
  rintro e w1 ⟨rfl, rfl⟩
  have hP := pool_start w
  have hf0 : Fr No w ((w.alloc (.map #[] 0)).alloc (.cells #[.map (some w.heap.size)] 86)) := ((Fr.refl _ _).alloc _).alloc _
  generalize (w.alloc (.map #[] 0)).alloc (.cells #[.map (some w.heap.size)] 86) = w1 at hP hf0 ⊢
  go_wp2_with fail
  refine (read_any w1 _ _ [] [] s 0 hP (by omega) hs).mono ?_
  rintro e w2 ⟨ps, D, hP2, hg, hf, hor⟩
  have hfr : Fr No w w2 := hf0.then_ hf (fun i hi e => by unfold One at e; omega)
  have hret : ∃ v, e = .returned v := by rcases hor with ⟨t', p, _, _, he⟩ | ⟨_, he⟩ <;> exact ⟨_, he⟩
  obtain ⟨v, rfl⟩ := hret
  go_wp2_with fail
  refine (readVar_any w2 _ _ ps D nm hP2 hn).mono ?_
  rintro e w3 ⟨ps3, D3, hP3, hg3, hf3, hor3⟩
  have hfr3 : Fr No w w3 := hfr.then_ hf3 (fun i hi e => by unfold One at e; omega)
  have hret : ∃ v, e = .returned v := by rcases hor3 with ⟨i, p, _, _, _, he⟩ | ⟨_, he⟩ <;> exact ⟨_, he⟩
  obtain ⟨u, rfl⟩ := hret
  rcases hor with ⟨t, p, hi, hh, he⟩ | ⟨hno, he⟩
  · obtain rfl : v = Ptr p := by injection he
    rcases hor3 with ⟨i, pv, hi25, hnm, hhv, he3⟩ | ⟨hnv, he3⟩
    · obtain rfl : u = Ptr pv := by injection he3
      rw [Ty.shift_zero] at hh
      have HNM := Lib.hid hnm
      clear hnm he he3
      go_wp2_with fail
      refine (only_any w3 _ _ ps3 D3 i pv hP3 hhv t false p (hh.grew hg3)).mono ?_
      rintro e w4 ⟨rfl, rfl⟩
      go_wp2
      go_ret
      refine ⟨only false t i, rfl, ⟨fun h => ⟨t, i, hi, hi25, HNM.out, h⟩, fun ⟨t', i', h1, h2, h3, h4⟩ => ?_⟩, hfr3⟩
      obtain rfl := hi.unique h1
      have : i = i' := Ty.letter_inj hi25 h2 (by have := HNM.out.symm.trans h3; simpa using this)
      subst this
      exact h4
    · obtain rfl : u = .pointer none := by injection he3
      clear he he3
      have HNO : Hid (¬ OnlyP false s nm) := fun ⟨t', i', h1, h2, h3, h4⟩ => hnv i' h2 h3
      clear hnv
      go_wp2
      go_ret
      exact ⟨false, rfl, ⟨fun h => (by cases h), fun h => (HNO.out h).elim⟩, hfr3⟩
  · obtain rfl : v = .pointer none := by injection he
    clear he hor3
    have HNO : Hid (¬ OnlyP false s nm) := fun ⟨t', i', h1, h2, h3, h4⟩ => hno t' h1
    clear hno
    go_wp2
    go_ret
    exact ⟨false, rfl, ⟨fun h => (by cases h), fun h => (HNO.out h).elim⟩, hfr3⟩

set_option maxHeartbeats 1000000 in
theorem specNegative (w : World) (s nm : List UInt8) (hs : s.length ≤ maxLen) (hn : nm.length ≤ maxLen) :
    Calls Try.prog 45 #[S s, S nm] w fun e w' => AnsB (OnlyP false s nm) w e w' := by
  go_enter Try.func45, Try.ntmps45
  go_wp2_with fail
  refine (type_any s _ hs).mono ?_
  rintro e w1 ⟨hf, ⟨t, A, c, hi, rfl, hsl⟩ | ⟨a, A, m, c, hno, rfl⟩⟩
  · have b0 := Blk.new w1 49 #[S t.atom, .slice A t.kids.len c]
    have HSL : Hid (∀ o : Obj, Sl (w1.alloc o) (New w w1) A t.kids) := fun o => hsl.fr (fun b hb => hb.2) ((Fr.refl _ _).alloc o)
    have HT : Hid (∀ (o : Obj) b, New w w1 b → b < (w1.alloc o).heap.size) := fun o b hb => by have := hb.2; simp; omega
    clear hsl
    by_cases hv : ∃ i, i < 25 ∧ nm = [Ty.letter i]
    · have hv' := (var_iff nm).2 hv
      obtain ⟨i, hi25, rfl⟩ := hv
      have HV := Lib.hid hv'
      clear hv'
      go_wp2_with fail
      refine (var_any2 _ _ hn).mono ?_
      rintro e w2 ⟨rfl, rfl⟩
      rw [HV.out]
      go_wp2_with fail
      refine (signs_any i hi25 t hi.2.1 A c _ (New w w1) (HT.out _) (HSL.out _)).mono ?_
      rintro e w2 ⟨rfl, hf2⟩
      have ho := only_signs t i
      generalize hx : (signs t i).1 = x at ho ⊢
      generalize hy : (signs t i).2 = y at ho ⊢
      have HO := Lib.hid ho
      clear ho hx hy
      go_wp2
      go_ret
      refine ⟨_, rfl, ⟨fun h => ⟨t, i, hi, hi25, rfl, HO.out.2.trans h⟩, fun ⟨t', i', h1, h2, h3, h4⟩ => ?_⟩, (hf.alloc _).trans hf2⟩
      obtain rfl := hi.unique h1
      have : i = i' := Ty.letter_inj hi25 h2 (by simpa using h3)
      subst this
      exact HO.out.2.symm.trans h4
    · have hv' : isVar nm = false := Bool.eq_false_iff.2 (fun h => hv ((var_iff nm).1 h))
      have HV := Lib.hid hv'
      have HNO : Hid (¬ OnlyP false s nm) := fun ⟨t', i', h1, h2, h3, h4⟩ => hv ⟨i', h2, h3⟩
      clear hv hv'
      go_wp2_with fail
      refine (var_any2 _ _ hn).mono ?_
      rintro e w2 ⟨rfl, rfl⟩
      rw [HV.out]
      go_wp2
      go_ret
      exact ⟨false, rfl, ⟨fun h => (by cases h), fun h => (HNO.out h).elim⟩, hf.alloc _⟩
  · have HNO : Hid (¬ OnlyP false s nm) := fun ⟨t', i', h1, h2, h3, h4⟩ => hno t' h1
    clear hno
    go_wp2
    go_ret
    exact ⟨false, rfl, ⟨fun h => (by cases h), fun h => (HNO.out h).elim⟩, hf.alloc _⟩

set_option maxHeartbeats 1000000 in
theorem lawNegative (w : World) (s nm : List UInt8) (hs : s.length ≤ maxLen) (hn : nm.length ≤ maxLen) :
    Calls Try.prog 15 #[S s, S nm] w fun e w' => Yes w e w' := by
  have hs' := hs
  have hn' := hn
  unfold maxLen at hs' hn'
  by_cases hl : 1048576 < s.length
  · have hb : decide ((1048576 : Int) < (s.length : Int)) = true := by simp; omega
    go_enter Try.func15, Try.ntmps15
    go_wp2_with fail
    go_ret
    exact ⟨rfl, Fr.refl _ _⟩
  · have hb : decide ((1048576 : Int) < (s.length : Int)) = false := by simp; omega
    by_cases hl2 : 1048576 < nm.length
    · have hb2 : decide ((1048576 : Int) < (nm.length : Int)) = true := by simp; omega
      go_enter Try.func15, Try.ntmps15
      go_wp2_with fail
      go_ret
      exact ⟨rfl, Fr.refl _ _⟩
    · have hb2 : decide ((1048576 : Int) < (nm.length : Int)) = false := by simp; omega
      go_enter Try.func15, Try.ntmps15
      go_wp2_with fail
      refine (specNegative _ s nm hs hn).mono ?_
      rintro e w1 ⟨b1, rfl, h1, hf1⟩
      go_wp2_with fail
      refine (implNegative _ s nm hs hn).mono ?_
      rintro e w2 ⟨b2, rfl, h2, hf2⟩
      obtain rfl : b1 = b2 := Bool.eq_iff_iff.2 (h1.trans h2.symm)
      clear h1 h2
      go_wp2
      go_ret
      exact ⟨rfl, hf1.trans hf2⟩

end Go.Proofs.Ythbidlcfahdfhaa
