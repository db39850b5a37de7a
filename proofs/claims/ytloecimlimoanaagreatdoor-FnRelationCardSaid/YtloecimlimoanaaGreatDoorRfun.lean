/- Relations that are functions: pure. · RelFun of the program. -/
import Derived.Test.YtloecimlimoanaaGreatDoorRdr
import Derived.Test.YtloecimlimoanaaGreatDoorCol
/- Relations that are functions: pure. -/
namespace Go.Proofs.YtloecimlimoanaaGreatDoor

theorem elems_asc (r : Nat) (P : Nat → Bool) : (elems r P).Pairwise (· < ·) := (sorted_range r).filter _

theorem elems_mem {r : Nat} {P : Nat → Bool} {j : Nat} : j ∈ elems r P ↔ j < r ∧ P j = true := by
  unfold elems
  rw [List.mem_filter, List.mem_range]

theorem elems_single {r a : Nat} {P : Nat → Bool} (h : a < r) (hP : ∀ j, j < r → P j = decide (j = a)) : elems r P = [a] := by
  refine asc_ext (lt := (· < ·)) (fun a => Nat.lt_irrefl a) (fun a b h1 h2 => by omega) (elems_asc r P) (by simp) fun j => ?_
  rw [elems_mem, List.mem_singleton]
  constructor
  · rintro ⟨h1, h2⟩
    rw [hP j h1] at h2
    simpa using h2
  · rintro rfl
    exact ⟨h, by rw [hP j h]; simp⟩

theorem elems_one {r : Nat} {P : Nat → Bool} (h : (elems r P).length = 1) : ∃ a, a < r ∧ elems r P = [a] := by
  obtain ⟨a, ha⟩ := List.length_eq_one_iff.1 h
  have hm : a ∈ elems r P := by rw [ha]; simp
  exact ⟨a, (elems_mem.1 hm).1, ha⟩

theorem pairsOf_single {r : Nat} {R : Nat → Nat → Bool} {f : Nat → Nat} : ∀ l, (∀ i, i < l → elems r (R i) = [f i]) → pairsOf l r R = (List.range l).map fun i => i * r + f i := by
  intro l
  induction l with
  | zero => intro _; simp [pairsOf]
  | succ l ih =>
    intro h
    rw [pairsOf_succ, ih (fun i hi => h i (by omega)), h l (by omega), List.range_succ, List.map_append]
    rfl

/-- a relation is a function -/
def FunOk (L R : Int) (ps : List Int) : Prop := RelOk L R ps ∧ (ps.length : Int) = L ∧ ∀ (k : Nat) (z : Int), ps[k]? = some z → z / R = k

open Classical in
noncomputable def funO (L R : Int) (ps : List Int) : Option (List Int) := if FunOk L R ps then some (ps.map (· % R)) else none

/-- all rows have one number: the relation is a function, and this its list -/
theorem fun_of_rows {l r : Nat} {ps : List Int} (hok : RelOk l r ps) {f : Nat → Nat} (h : ∀ i, i < l → f i < r ∧ elems r (memR r ps i) = [f i]) : funO l r ps = some ((List.range l).map fun i => ((f i : Nat) : Int)) := by
  have hr : (0 : Int) < r := by have := hok.right; omega
  have hps : ps = (List.range l).map fun i => ((i * r + f i : Nat) : Int) := by
    have h1 := hok.pairs
    rw [pairsOf_single l (fun i hi => (h i hi).2), List.map_map] at h1
    exact h1
  have hat : ∀ (k : Nat) (z : Int), ps[k]? = some z → k < l ∧ z = ((k * r + f k : Nat) : Int) := by
    intro k z hz
    rw [hps] at hz
    have hk : k < l := by
      have := (List.getElem?_eq_some_iff.1 hz).1
      simpa using this
    rw [List.getElem?_map, List.getElem?_range hk] at hz
    exact ⟨hk, by injection hz with hz; exact hz.symm⟩
  have hfk : FunOk l r ps := by
    refine ⟨hok, ?_, fun k z hz => ?_⟩
    · rw [hps]; simp
    · obtain ⟨hk, rfl⟩ := hat k z hz
      have h2 := (h k hk).1
      rw [← Int.natCast_ediv, Nat.mul_comm, Nat.mul_add_div (by omega), Nat.div_eq_of_lt h2, Nat.add_zero]
  unfold funO
  rw [if_pos hfk]
  congr 1
  apply List.ext_getElem?
  intro k
  rw [List.getElem?_map]
  by_cases hk : k < l
  · obtain ⟨z, hz⟩ : ∃ z, ps[k]? = some z := ⟨_, List.getElem?_eq_getElem (by rw [hps]; simpa using hk)⟩
    obtain ⟨_, rfl⟩ := hat k z hz
    have h2 := (h k hk).1
    rw [hz, List.getElem?_map, List.getElem?_range hk, Option.map_some, Option.map_some, ← Int.natCast_emod, Nat.mul_comm, Nat.mul_add_mod, Nat.mod_eq_of_lt h2]
  · rw [List.getElem?_eq_none (by rw [hps]; simpa using hk), List.getElem?_eq_none (by simpa using hk)]
    rfl

/-- where it is a function each row has one number -/
theorem FunOk.row {l r : Nat} {ps : List Int} (h : FunOk l r ps) {i : Nat} (hi : i < l) : (elems r (memR r ps i)).length = 1 := by
  obtain ⟨hok, hlen, hdiv⟩ := h
  have hr : (0 : Int) < r := by have := hok.right; omega
  obtain ⟨z, hz⟩ : ∃ z, ps[i]? = some z := ⟨_, List.getElem?_eq_getElem (by omega)⟩
  have hz0 := hok.bnd z (List.mem_of_getElem? hz)
  obtain ⟨m, rfl⟩ : ∃ m : Nat, z = m := ⟨z.toNat, by omega⟩
  have hm : m / r = i := by
    have := hdiv i m hz
    rw [← Int.natCast_ediv] at this
    omega
  have hlt : m % r < r := Nat.mod_lt _ (by omega)
  rw [elems_single (a := m % r) hlt fun j hj => ?_]
  · rfl
  · unfold memR
    refine decide_eq_decide.2 ⟨fun hmem => ?_, fun e => ?_⟩
    · obtain ⟨k, hk, e⟩ := List.getElem_of_mem hmem
      have hk2 : ps[k]? = some ((i * r + j : Nat) : Int) := by rw [List.getElem?_eq_getElem hk, e]
      have h3 := hdiv k _ hk2
      rw [← Int.natCast_ediv, Nat.mul_comm, Nat.mul_add_div (by omega), Nat.div_eq_of_lt hj, Nat.add_zero] at h3
      have : k = i := by omega
      subst this
      rw [hz] at hk2
      injection hk2 with hk2
      have hk2 : m = k * r + j := by omega
      rw [hk2, Nat.mul_comm, Nat.mul_add_mod, Nat.mod_eq_of_lt hj]
    · have : i * r + j = m := by
        rw [e, ← hm]; exact Nat.div_add_mod' m r
      rw [this]
      exact List.mem_of_getElem? hz

theorem funO_no {L R : Int} {ps : List Int} (h : ¬ FunOk L R ps) : funO L R ps = none := if_neg h
theorem funO_yes {L R : Int} {ps : List Int} (h : FunOk L R ps) : funO L R ps = some (ps.map (· % R)) := if_pos h
end Go.Proofs.YtloecimlimoanaaGreatDoor

/- RelFun of the program. -/
namespace Go.Proofs.YtloecimlimoanaaGreatDoor
open Go.RowKit Go.ChangeMaps Go.Shelf

/-- a list, and whether there is one, is returned -/
def AnsI (o : Option (List Int)) (w : World) (e : Ending) (w' : World) : Prop :=
  ∃ A n c, e = .returned (.tuple #[.slice A n c, .bool o.isSome]) ∧ Fr No w w' ∧ OR w' w.heap.size A n c (o.getD [])

theorem AnsI.none_ {w w' : World} (hf : Fr No w w') : AnsI none w (.returned (.tuple #[.slice none 0 0, .bool false])) w' := ⟨none, 0, 0, rfl, hf, rfl, rfl, .inl ⟨rfl, rfl⟩⟩

/-- a relation stays where rows of integers change -/
theorem RelAt.frO {w w' : World} {b l r B : Nat} {R : Nat → Nat → Bool} {T : Nat → Prop} (h : RelAt w b l r B R) (hf : Fr T w w') (hT : ∀ g t cs, Blk w g t cs → t ≠ 3 → ¬ T g) : RelAt w' b l r B R := by
  obtain ⟨h0, Rb, gs, h1, h2⟩ := h
  exact ⟨h0, Rb, gs, h1.fr hf (hT _ _ _ h1 (by decide)), h2.rows.fr hf (hT _ _ _ h2.rows (by decide)), h2.low, fun i hi => ⟨(h2.each i hi).1, by
    obtain ⟨ws, h3, h4⟩ := (h2.each i hi).2
    exact ⟨ws, h3.fr hf (hT _ _ _ h3 (by decide)), h4⟩⟩, h2.inj⟩

/-- an own row without elements, new -/
theorem or_new (w : World) : OR (w.alloc (.cells #[] 3)) w.heap.size (some ⟨w.heap.size, 0, none⟩) 0 0 [] :=
  ⟨rfl, rfl, .inr ⟨_, 0, #[], rfl, Nat.le_refl _, Blk.new _ _ _, Nat.le_refl _, Nat.zero_le _, rfl, rfl⟩⟩

/-- one element more -/
theorem or_more {W W1 w1 : World} {B m c : Nat} {x : Int} {A : Option Addr} {ps : List Int} {v' : Value} (hor : OR W B A m c ps) (hfa : Fr No W W1)
    (ho : w1.ownsRow B 3 1 v' (m + 1) (ps.map (Value.int .i64) ++ [.int .i64 x])) (hg : W1.grownBy w1 (Value.slice A m c).ownBlock) :
    ∃ g' cap', v' = .slice (some ⟨g', 0, none⟩) (m + 1) cap' ∧ Fr (Own A) W w1 ∧ OR w1 B (some ⟨g', 0, none⟩) (m + 1) cap' (ps ++ [x]) := by
  obtain ⟨g', cap', rfl⟩ := ownsRow_succ ho
  refine ⟨g', cap', rfl, (hfa.mono (fun _ _ h => h.elim)).grown hg (fun k hk => .inl ?_), by rw [hor.1]; simp, by simpa using ho⟩
  unfold Value.ownBlock at hk
  cases A with
  | none => cases hk
  | some a => exact ⟨a, rfl, by injection hk⟩

end Go.Proofs.YtloecimlimoanaaGreatDoor
