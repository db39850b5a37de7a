/- Relations that are functions: pure. -/
import Derived.Test.YtkofjodadcchhaaDoorBs
namespace Go.Proofs.YtkofjodadcchhaaDoor

theorem elems_asc (r : Nat) (P : Nat → Bool) : (elems r P).Pairwise (· < ·) := (sorted_range r).filter _

theorem elems_mem {r : Nat} {P : Nat → Bool} {j : Nat} : j ∈ elems r P ↔ j < r ∧ P j = true := by
  unfold elems
  rw [List.mem_filter, List.mem_range]

theorem elems_single {r a : Nat} {P : Nat → Bool} (h : a < r) (hP : ∀ j, j < r → P j = decide (j = a)) : elems r P = [a] := by
  refine asc_ext (lt := (· < ·)) (fun a => Nat.lt_irrefl a) (fun a b h1 h2 => by omega) (elems_asc r P) (by simp) fun j => ?_
  rw [elems_mem, List.mem_singleton]
  constructor
  · rintro ⟨h1, h2⟩
    rw [hP j h1] at h2
    simpa using h2
  · rintro rfl
    exact ⟨h, by rw [hP j h]; simp⟩

theorem elems_one {r : Nat} {P : Nat → Bool} (h : (elems r P).length = 1) : ∃ a, a < r ∧ elems r P = [a] := by
  obtain ⟨a, ha⟩ := List.length_eq_one_iff.1 h
  have hm : a ∈ elems r P := by rw [ha]; simp
  exact ⟨a, (elems_mem.1 hm).1, ha⟩

theorem pairsOf_single {r : Nat} {R : Nat → Nat → Bool} {f : Nat → Nat} : ∀ l, (∀ i, i < l → elems r (R i) = [f i]) → pairsOf l r R = (List.range l).map fun i => i * r + f i := by
  intro l
  induction l with
  | zero => intro _; simp [pairsOf]
  | succ l ih =>
    intro h
    rw [pairsOf_succ, ih (fun i hi => h i (by omega)), h l (by omega), List.range_succ, List.map_append]
    rfl

/-- a relation is a function -/
def FunOk (L R : Int) (ps : List Int) : Prop := RelOk L R ps ∧ (ps.length : Int) = L ∧ ∀ (k : Nat) (z : Int), ps[k]? = some z → z / R = k

open Classical in
noncomputable def funO (L R : Int) (ps : List Int) : Option (List Int) := if FunOk L R ps then some (ps.map (· % R)) else none

/-- all rows have one number: the relation is a function, and this its list -/
theorem fun_of_rows {l r : Nat} {ps : List Int} (hok : RelOk l r ps) {f : Nat → Nat} (h : ∀ i, i < l → f i < r ∧ elems r (memR r ps i) = [f i]) : funO l r ps = some ((List.range l).map fun i => ((f i : Nat) : Int)) := by
  have hr : (0 : Int) < r := by have := hok.right; omega
  have hps : ps = (List.range l).map fun i => ((i * r + f i : Nat) : Int) := by
    have h1 := hok.pairs
    rw [pairsOf_single l (fun i hi => (h i hi).2), List.map_map] at h1
    exact h1
  have hat : ∀ (k : Nat) (z : Int), ps[k]? = some z → k < l ∧ z = ((k * r + f k : Nat) : Int) := by
    intro k z hz
    rw [hps] at hz
    have hk : k < l := by
      have := (List.getElem?_eq_some_iff.1 hz).1
      simpa using this
    rw [List.getElem?_map, List.getElem?_range hk] at hz
    exact ⟨hk, by injection hz with hz; exact hz.symm⟩
  have hfk : FunOk l r ps := by
    refine ⟨hok, ?_, fun k z hz => ?_⟩
    · rw [hps]; simp
    · obtain ⟨hk, rfl⟩ := hat k z hz
      have h2 := (h k hk).1
      rw [← Int.natCast_ediv, Nat.mul_comm, Nat.mul_add_div (by omega), Nat.div_eq_of_lt h2, Nat.add_zero]
  unfold funO
  rw [if_pos hfk]
  congr 1
  apply List.ext_getElem?
  intro k
  rw [List.getElem?_map]
  by_cases hk : k < l
  · obtain ⟨z, hz⟩ : ∃ z, ps[k]? = some z := ⟨_, List.getElem?_eq_getElem (by rw [hps]; simpa using hk)⟩
    obtain ⟨_, rfl⟩ := hat k z hz
    have h2 := (h k hk).1
    rw [hz, List.getElem?_map, List.getElem?_range hk, Option.map_some, Option.map_some, ← Int.natCast_emod, Nat.mul_comm, Nat.mul_add_mod, Nat.mod_eq_of_lt h2]
  · rw [List.getElem?_eq_none (by rw [hps]; simpa using hk), List.getElem?_eq_none (by simpa using hk)]
    rfl

/-- where it is a function each row has one number -/
theorem FunOk.row {l r : Nat} {ps : List Int} (h : FunOk l r ps) {i : Nat} (hi : i < l) : (elems r (memR r ps i)).length = 1 := by
  obtain ⟨hok, hlen, hdiv⟩ := h
  have hr : (0 : Int) < r := by have := hok.right; omega
  obtain ⟨z, hz⟩ : ∃ z, ps[i]? = some z := ⟨_, List.getElem?_eq_getElem (by omega)⟩
  have hz0 := hok.bnd z (List.mem_of_getElem? hz)
  obtain ⟨m, rfl⟩ : ∃ m : Nat, z = m := ⟨z.toNat, by omega⟩
  have hm : m / r = i := by
    have := hdiv i m hz
    rw [← Int.natCast_ediv] at this
    omega
  have hlt : m % r < r := Nat.mod_lt _ (by omega)
  rw [elems_single (a := m % r) hlt fun j hj => ?_]
  · rfl
  · unfold memR
    refine decide_eq_decide.2 ⟨fun hmem => ?_, fun e => ?_⟩
    · obtain ⟨k, hk, e⟩ := List.getElem_of_mem hmem
      have hk2 : ps[k]? = some ((i * r + j : Nat) : Int) := by rw [List.getElem?_eq_getElem hk, e]
      have h3 := hdiv k _ hk2
      rw [← Int.natCast_ediv, Nat.mul_comm, Nat.mul_add_div (by omega), Nat.div_eq_of_lt hj, Nat.add_zero] at h3
      have : k = i := by omega
      subst this
      rw [hz] at hk2
      injection hk2 with hk2
      have hk2 : m = k * r + j := by omega
      rw [hk2, Nat.mul_comm, Nat.mul_add_mod, Nat.mod_eq_of_lt hj]
    · have : i * r + j = m := by
        rw [e, ← hm]; exact Nat.div_add_mod' m r
      rw [this]
      exact List.mem_of_getElem? hz

theorem funO_no {L R : Int} {ps : List Int} (h : ¬ FunOk L R ps) : funO L R ps = none := if_neg h
theorem funO_yes {L R : Int} {ps : List Int} (h : FunOk L R ps) : funO L R ps = some (ps.map (· % R)) := if_pos h
end Go.Proofs.YtkofjodadcchhaaDoor
