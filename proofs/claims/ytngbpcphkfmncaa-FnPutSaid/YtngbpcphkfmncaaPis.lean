/- What two lists put for variables; how the program puts. -/
import Derived.Test.YtngbpcphkfmncaaScan
import Derived.Test.YtngbpcphkfmncaaSlz
/- What two lists put. -/
namespace Go.Proofs.Ytngbpcphkfmncaa
structure PutIs (ns : List (List UInt8)) (bs : List (List UInt8)) (ms : List (Nat × Ty)) : Prop where
  names : ns = ms.map fun p => [Ty.letter p.1]
  bys : bs = ms.map fun p => p.2.text
  ok : ∀ p ∈ ms, p.1 < 25 ∧ p.2.lets ∧ p.2.size ≤ 40
  nodup : (ms.map Prod.fst).Nodup
  few : ms.length ≤ 26

theorem PutIs.nil : PutIs [] [] [] := ⟨rfl, rfl, fun _ h => (by cases h), List.nodup_nil, by simp⟩

theorem PutIs.more {ns bs : List (List UInt8)} {ms : List (Nat × Ty)} {j n : Nat} {b : List UInt8} {t : Ty} (h : PutIs (ns.take j) (bs.take j) ms) (hn : ns[j]? = some [Ty.letter n]) (hb : bs[j]? = some b) (h25 : n < 25) (hi : Ty.Is b t)
    (hno : asg ms n = none) (hl : ns.length ≤ 26) : PutIs (ns.take (j + 1)) (bs.take (j + 1)) (ms ++ [(n, t)]) := by
  have hlen := congrArg List.length h.names
  simp at hlen
  have hj := (List.getElem?_eq_some_iff.1 hn).1
  refine ⟨?_, ?_, ?_, ?_, ?_⟩
  · rw [List.take_add_one, hn, h.names]; simp
  · rw [List.take_add_one, hb, h.bys, hi.1]; simp
  · intro p hp
    rcases List.mem_append.1 hp with hp | hp
    · exact h.ok p hp
    · simp at hp; subst hp; exact ⟨h25, hi.2⟩
  · rw [List.map_append, List.nodup_append]
    refine ⟨h.nodup, by simp, fun a ha b hb => ?_⟩
    simp at hb
    subst hb
    obtain ⟨p, hp, rfl⟩ := List.mem_map.1 ha
    exact asg_none.1 hno p hp
  · simp; omega

theorem PutIs.unique {ns : List (List UInt8)} {bs : List (List UInt8)} {ms ms' : List (Nat × Ty)} (h : PutIs ns bs ms) (h' : PutIs ns bs ms') : ms = ms' := by
  have e1 := h.names.symm.trans h'.names
  have e2 := h.bys.symm.trans h'.bys
  apply List.ext_getElem?
  intro i
  have g1 := congrArg (·[i]?) e1
  have g2 := congrArg (·[i]?) e2
  simp only [List.getElem?_map] at g1 g2
  rcases a : ms[i]? with _ | p <;> rcases b : ms'[i]? with _ | q
  · rfl
  · simp [a, b] at g1
  · simp [a, b] at g1
  · simp only [a, b, Option.map_some, Option.some.injEq, List.cons.injEq, and_true] at g1 g2
    have k1 := Ty.letter_inj (h.ok p (List.mem_of_getElem? a)).1 (h'.ok q (List.mem_of_getElem? b)).1 g1
    have k2 : p.2 = q.2 := Ty.text_inj (h.ok p (List.mem_of_getElem? a)).2.1 (h'.ok q (List.mem_of_getElem? b)).2.1 g2
    rw [show p = q from Prod.ext k1 k2]

theorem PutIs.take {ns : List (List UInt8)} {bs : List (List UInt8)} {ms : List (Nat × Ty)} (h : PutIs ns bs ms) (j : Nat) : PutIs (ns.take j) (bs.take j) (ms.take j) := by
  refine ⟨by rw [h.names, List.map_take], by rw [h.bys, List.map_take], fun p hp => h.ok p (List.mem_of_mem_take hp), ?_, by have := h.few; simp; omega⟩
  rw [List.map_take]
  exact h.nodup.sublist (List.take_sublist _ _)

theorem PutIs.at_ {ns bs : List (List UInt8)} {ms ms' : List (Nat × Ty)} {j : Nat} (h : PutIs ns bs ms') (hj : j < ns.length) (h' : PutIs (ns.take j) (bs.take j) ms) :
    ∃ (n : Nat) (b : List UInt8) (t : Ty), n < 25 ∧ ns[j]? = some [Ty.letter n] ∧ bs[j]? = some b ∧ Ty.Is b t ∧ asg ms n = none := by
  have e := h'.unique (h.take j)
  have hl : j < ms'.length := by have := congrArg List.length h.names; simp at this; omega
  obtain ⟨p, hp⟩ : ∃ p, ms'[j]? = some p := ⟨_, List.getElem?_eq_getElem hl⟩
  have hok := h.ok p (List.mem_of_getElem? hp)
  refine ⟨p.1, p.2.text, p.2, hok.1, by rw [h.names, List.getElem?_map, hp]; rfl, by rw [h.bys, List.getElem?_map, hp]; rfl, ⟨rfl, hok.2⟩, ?_⟩
  rw [e, asg_none]
  intro q hq e1
  obtain ⟨i, hi⟩ := List.getElem?_of_mem hq
  rw [List.getElem?_take] at hi
  split at hi
  · have g1 : (ms'.map Prod.fst)[i]? = some q.1 := by rw [List.getElem?_map, hi]; rfl
    have g2 : (ms'.map Prod.fst)[j]? = some p.1 := by rw [List.getElem?_map, hp]; rfl
    have := (List.getElem?_inj (List.getElem?_eq_some_iff.1 g1).1 h.nodup).1 (g1.trans ((congrArg some e1).trans g2.symm))
    omega
  · cases hi

theorem PutIs.len {ns : List (List UInt8)} {bs : List (List UInt8)} {ms : List (Nat × Ty)} (h : PutIs ns bs ms) : ns.length = bs.length ∧ ns.length ≤ 26 := by
  rw [h.names, h.bys]
  simp [h.few]


/-- as the model asks -/
def BysOk (bs : List (List UInt8)) (k : Nat) (ts : List Ty) : Prop := ts.length = k ∧ ∀ i b, i < k → bs[i]? = some b → ∃ t, ts[i]? = some t ∧ Ty.Is b t

theorem names_of_put {ns bs : List (List UInt8)} {ms : List (Nat × Ty)} (h : PutIs ns bs ms) : ns = namesOf ms := h.names

theorem put_size (t : Ty) (σ : Nat → Option Ty) (h : ∀ n u, σ n = some u → u.size ≤ 40) : (t.put σ).size ≤ 40 * t.size := by
  induction t with
  | v n =>
    simp only [Ty.put, Ty.size]
    rcases hs : σ n with _ | u
    · simp [Ty.size]
    · have := h n u hs; simp; omega
  | o => simp [Ty.put, Ty.size]
  | n f l r hl hr => simp only [Ty.put, Ty.size]; omega

theorem PutIs.sizes {ns bs : List (List UInt8)} {ms : List (Nat × Ty)} (h : PutIs ns bs ms) : ∀ n u, asg ms n = some u → u.size ≤ 40 := fun _ _ hu => (h.ok _ (asg_mem hu)).2.2

theorem PutIs.put_lets {ns bs : List (List UInt8)} {ms : List (Nat × Ty)} (h : PutIs ns bs ms) {t : Ty} (ht : t.lets) : (t.put (asg ms)).lets := by
  refine t.put_lets fun n hn => ?_
  rcases hs : asg ms n with _ | u
  · exact (Ty.lets_has t).1 ht n hn
  · exact (h.ok _ (asg_mem hs)).2.1

/-- what TypePut answers -/
def PtR (s : List UInt8) (ns bs : List (List UInt8)) (a : List UInt8) (ok : Bool) : Prop :=
  (∃ t ms, Ty.Is s t ∧ PutIs ns bs ms ∧ (t.put (asg ms)).size ≤ 40 ∧ a = (t.put (asg ms)).text ∧ ok = true) ∨ ((∀ t ms, Ty.Is s t → PutIs ns bs ms → 40 < (t.put (asg ms)).size) ∧ a = [] ∧ ok = false)

theorem PtR.one {s a a' : List UInt8} {ns bs : List (List UInt8)} {b b' : Bool} (h : PtR s ns bs a b) (h' : PtR s ns bs a' b') : a' = a ∧ b' = b := by
  rcases h with ⟨t, ms, i1, p1, z1, rfl, rfl⟩ | ⟨n1, rfl, rfl⟩ <;> rcases h' with ⟨t', ms', i2, p2, z2, rfl, rfl⟩ | ⟨n2, rfl, rfl⟩
  · have := i1.unique i2
    subst this
    have := p1.unique p2
    subst this
    exact ⟨rfl, rfl⟩
  · have := n2 t ms i1 p1; omega
  · have := n1 t' ms' i2 p2; omega
  · exact ⟨rfl, rfl⟩

end Go.Proofs.Ytngbpcphkfmncaa
