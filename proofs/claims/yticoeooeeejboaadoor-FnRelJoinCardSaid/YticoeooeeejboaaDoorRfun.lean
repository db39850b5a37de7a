/- Relations that are functions: pure. · RelFun of the program. -/
import Derived.Test.YticoeooeeejboaaDoorBs
import Derived.Test.YticoeooeeejboaaDoorRdr
import Derived.Test.YticoeooeeejboaaDoorCol
/- Relations that are functions: pure. -/
namespace Go.Proofs.YticoeooeeejboaaDoor

theorem elems_asc (r : Nat) (P : Nat → Bool) : (elems r P).Pairwise (· < ·) := (sorted_range r).filter _

theorem elems_mem {r : Nat} {P : Nat → Bool} {j : Nat} : j ∈ elems r P ↔ j < r ∧ P j = true := by
  unfold elems
  rw [List.mem_filter, List.mem_range]

theorem elems_single {r a : Nat} {P : Nat → Bool} (h : a < r) (hP : ∀ j, j < r → P j = decide (j = a)) : elems r P = [a] := by
  refine asc_ext (lt := (· < ·)) (fun a => Nat.lt_irrefl a) (fun a b h1 h2 => by omega) (elems_asc r P) (by simp) fun j => ?_
  rw [elems_mem, List.mem_singleton]
  constructor
  · rintro ⟨h1, h2⟩
    rw [hP j h1] at h2
    simpa using h2
  · rintro rfl
    exact ⟨h, by rw [hP j h]; simp⟩

theorem elems_one {r : Nat} {P : Nat → Bool} (h : (elems r P).length = 1) : ∃ a, a < r ∧ elems r P = [a] := by
  obtain ⟨a, ha⟩ := List.length_eq_one_iff.1 h
  have hm : a ∈ elems r P := by rw [ha]; simp
  exact ⟨a, (elems_mem.1 hm).1, ha⟩

theorem pairsOf_single {r : Nat} {R : Nat → Nat → Bool} {f : Nat → Nat} : ∀ l, (∀ i, i < l → elems r (R i) = [f i]) → pairsOf l r R = (List.range l).map fun i => i * r + f i := by
  intro l
  induction l with
  | zero => intro _; simp [pairsOf]
  | succ l ih =>
    intro h
    rw [pairsOf_succ, ih (fun i hi => h i (by omega)), h l (by omega), List.range_succ, List.map_append]
    rfl

/-- a relation is a function -/
def FunOk (L R : Int) (ps : List Int) : Prop := RelOk L R ps ∧ (ps.length : Int) = L ∧ ∀ (k : Nat) (z : Int), ps[k]? = some z → z / R = k

open Classical in
noncomputable def funO (L R : Int) (ps : List Int) : Option (List Int) := if FunOk L R ps then some (ps.map (· % R)) else none

/-- all rows have one number: the relation is a function, and this its list -/
theorem fun_of_rows {l r : Nat} {ps : List Int} (hok : RelOk l r ps) {f : Nat → Nat} (h : ∀ i, i < l → f i < r ∧ elems r (memR r ps i) = [f i]) : funO l r ps = some ((List.range l).map fun i => ((f i : Nat) : Int)) := by
  have hr : (0 : Int) < r := by have := hok.right; omega
  have hps : ps = (List.range l).map fun i => ((i * r + f i : Nat) : Int) := by
    have h1 := hok.pairs
    rw [pairsOf_single l (fun i hi => (h i hi).2), List.map_map] at h1
    exact h1
  have hat : ∀ (k : Nat) (z : Int), ps[k]? = some z → k < l ∧ z = ((k * r + f k : Nat) : Int) := by
    intro k z hz
    rw [hps] at hz
    have hk : k < l := by
      have := (List.getElem?_eq_some_iff.1 hz).1
      simpa using this
    rw [List.getElem?_map, List.getElem?_range hk] at hz
    exact ⟨hk, by injection hz with hz; exact hz.symm⟩
  have hfk : FunOk l r ps := by
    refine ⟨hok, ?_, fun k z hz => ?_⟩
    · rw [hps]; simp
    · obtain ⟨hk, rfl⟩ := hat k z hz
      have h2 := (h k hk).1
      rw [← Int.natCast_ediv, Nat.mul_comm, Nat.mul_add_div (by omega), Nat.div_eq_of_lt h2, Nat.add_zero]
  unfold funO
  rw [if_pos hfk]
  congr 1
  apply List.ext_getElem?
  intro k
  rw [List.getElem?_map]
  by_cases hk : k < l
  · obtain ⟨z, hz⟩ : ∃ z, ps[k]? = some z := ⟨_, List.getElem?_eq_getElem (by rw [hps]; simpa using hk)⟩
    obtain ⟨_, rfl⟩ := hat k z hz
    have h2 := (h k hk).1
    rw [hz, List.getElem?_map, List.getElem?_range hk, Option.map_some, Option.map_some, ← Int.natCast_emod, Nat.mul_comm, Nat.mul_add_mod, Nat.mod_eq_of_lt h2]
  · rw [List.getElem?_eq_none (by rw [hps]; simpa using hk), List.getElem?_eq_none (by simpa using hk)]
    rfl

/-- where it is a function each row has one number -/
theorem FunOk.row {l r : Nat} {ps : List Int} (h : FunOk l r ps) {i : Nat} (hi : i < l) : (elems r (memR r ps i)).length = 1 := by
  obtain ⟨hok, hlen, hdiv⟩ := h
  have hr : (0 : Int) < r := by have := hok.right; omega
  obtain ⟨z, hz⟩ : ∃ z, ps[i]? = some z := ⟨_, List.getElem?_eq_getElem (by omega)⟩
  have hz0 := hok.bnd z (List.mem_of_getElem? hz)
  obtain ⟨m, rfl⟩ : ∃ m : Nat, z = m := ⟨z.toNat, by omega⟩
  have hm : m / r = i := by
    have := hdiv i m hz
    rw [← Int.natCast_ediv] at this
    omega
  have hlt : m % r < r := Nat.mod_lt _ (by omega)
  rw [elems_single (a := m % r) hlt fun j hj => ?_]
  · rfl
  · unfold memR
    refine decide_eq_decide.2 ⟨fun hmem => ?_, fun e => ?_⟩
    · obtain ⟨k, hk, e⟩ := List.getElem_of_mem hmem
      have hk2 : ps[k]? = some ((i * r + j : Nat) : Int) := by rw [List.getElem?_eq_getElem hk, e]
      have h3 := hdiv k _ hk2
      rw [← Int.natCast_ediv, Nat.mul_comm, Nat.mul_add_div (by omega), Nat.div_eq_of_lt hj, Nat.add_zero] at h3
      have : k = i := by omega
      subst this
      rw [hz] at hk2
      injection hk2 with hk2
      have hk2 : m = k * r + j := by omega
      rw [hk2, Nat.mul_comm, Nat.mul_add_mod, Nat.mod_eq_of_lt hj]
    · have : i * r + j = m := by
        rw [e, ← hm]; exact Nat.div_add_mod' m r
      rw [this]
      exact List.mem_of_getElem? hz

theorem funO_no {L R : Int} {ps : List Int} (h : ¬ FunOk L R ps) : funO L R ps = none := if_neg h
theorem funO_yes {L R : Int} {ps : List Int} (h : FunOk L R ps) : funO L R ps = some (ps.map (· % R)) := if_pos h
end Go.Proofs.YticoeooeeejboaaDoor

/- RelFun of the program. -/
namespace Go.Proofs.YticoeooeeejboaaDoor
open Go.RowKit Go.ChangeMaps Go.Shelf

/-- a list, and whether there is one, is returned -/
def AnsI (o : Option (List Int)) (w : World) (e : Ending) (w' : World) : Prop :=
  ∃ A n c, e = .returned (.tuple #[.slice A n c, .bool o.isSome]) ∧ Fr No w w' ∧ OR w' w.heap.size A n c (o.getD [])

theorem AnsI.none_ {w w' : World} (hf : Fr No w w') : AnsI none w (.returned (.tuple #[.slice none 0 0, .bool false])) w' := ⟨none, 0, 0, rfl, hf, rfl, rfl, .inl ⟨rfl, rfl⟩⟩

/-- a relation stays where rows of integers change -/
theorem RelAt.frO {w w' : World} {b l r B : Nat} {R : Nat → Nat → Bool} {T : Nat → Prop} (h : RelAt w b l r B R) (hf : Fr T w w') (hT : ∀ g t cs, Blk w g t cs → t ≠ 3 → ¬ T g) : RelAt w' b l r B R := by
  obtain ⟨h0, Rb, gs, h1, h2⟩ := h
  exact ⟨h0, Rb, gs, h1.fr hf (hT _ _ _ h1 (by decide)), h2.rows.fr hf (hT _ _ _ h2.rows (by decide)), h2.low, fun i hi => ⟨(h2.each i hi).1, by
    obtain ⟨ws, h3, h4⟩ := (h2.each i hi).2
    exact ⟨ws, h3.fr hf (hT _ _ _ h3 (by decide)), h4⟩⟩, h2.inj⟩

/-- an own row without elements, new -/
theorem or_new (w : World) : OR (w.alloc (.cells #[] 3)) w.heap.size (some ⟨w.heap.size, 0, none⟩) 0 0 [] :=
  ⟨rfl, rfl, .inr ⟨_, 0, #[], rfl, Nat.le_refl _, Blk.new _ _ _, Nat.le_refl _, Nat.zero_le _, rfl, rfl⟩⟩

/-- one element more -/
theorem or_more {W W1 w1 : World} {B m c : Nat} {x : Int} {A : Option Addr} {ps : List Int} {v' : Value} (hor : OR W B A m c ps) (hfa : Fr No W W1)
    (ho : w1.ownsRow B 3 1 v' (m + 1) (ps.map (Value.int .i64) ++ [.int .i64 x])) (hg : W1.grownBy w1 (Value.slice A m c).ownBlock) :
    ∃ g' cap', v' = .slice (some ⟨g', 0, none⟩) (m + 1) cap' ∧ Fr (Own A) W w1 ∧ OR w1 B (some ⟨g', 0, none⟩) (m + 1) cap' (ps ++ [x]) := by
  obtain ⟨g', cap', rfl⟩ := ownsRow_succ ho
  refine ⟨g', cap', rfl, (hfa.mono (fun _ _ h => h.elim)).grown hg (fun k hk => .inl ?_), by rw [hor.1]; simp, by simpa using ho⟩
  unfold Value.ownBlock at hk
  cases A with
  | none => cases hk
  | some a => exact ⟨a, rfl, by injection hk⟩

set_option maxRecDepth 100000 in
set_option maxHeartbeats 4000000 in
theorem implRelFun (w : World) (L R : Int) (A0 : Option Addr) (c0 : Nat) (ps : List Int) (hp : ISl w A0 ps) (hn : ps.length ≤ 2000000) (hT : TZt w) :
    Calls Tryd.prog 17 #[RV L R A0 ps.length c0] w fun e w' => AnsI (funO L R ps) w e w' := by
  have HFB : Hid (Fr No w (w.alloc (.cells #[.int .i64 L, .int .i64 R, .slice A0 ps.length c0] 25))) := (Fr.refl No w).alloc _
  have RD : Hid (∀ W, Fr No w W → Calls Tryd.prog 29 #[RV L R A0 ps.length c0] W fun e w' => ReadR L R ps W e w') := fun W hf => readRelation_any W L R A0 c0 ps (hp.keep hf (fun _ h => h.elim)) hn
  have HT := Lib.hid hT
  obtain ⟨i0, hi0, hz0, hz1, hz2⟩ := info_parts info_int
  clear hp hT
  go_enter Tryd.func17, Tryd.ntmps17
  go_wp2_with fail
  refine (RD.out _ HFB.out).mono ?_
  rintro e w1 ⟨hf, hr⟩
  have HF := Lib.hid (HFB.out.trans hf)
  rcases hr with ⟨l, r, b, rfl, rfl, hok, rfl, hrel⟩ | ⟨hno, rfl⟩
  · have HOK := Lib.hid hok
    obtain ⟨⟨l0, l1⟩, ⟨r0, r1⟩, _, _⟩ := hok
    obtain ⟨hB, Rb, gs, hbb, hrows⟩ := hrel
    have HREL : Hid (RelAt w1 b l r w.heap.size (memR r ps)) := ⟨Nat.le_trans HFB.out.size hB, Rb, gs, hbb, hrows.base HFB.out.size⟩
    have e1 : w1.cell? ⟨b, 1, none⟩ = some (.slice (some ⟨Rb, 0, none⟩) l l) := (hbb.cell 1).trans rfl
    have HBB := Lib.hid hbb
    have HROWS := Lib.hid hrows
    have HSB : Hid (w.heap.size ≤ w1.heap.size) := HF.out.size
    have HFA : Hid (Fr No w1 (w1.alloc (.cells #[] 3))) := (Fr.refl No w1).alloc _
    have HOA : Hid (OR (w1.alloc (.cells #[] 3)) w.heap.size (some ⟨w1.heap.size, 0, none⟩) 0 0 []) := (or_new w1).low HSB.out
    have e1' : (w1.alloc (.cells #[] 3)).cell? ⟨b, 1, none⟩ = some (.slice (some ⟨Rb, 0, none⟩) l l) := ((HBB.out.fr HFA.out (fun h => h)).cell 1).trans rfl
    clear hf hbb hrows hB
    go_wp2_with fail
    generalize w1.alloc (.cells #[] 3) = w2 at *
    go_loopw [5, 19] (fun s u wr => ∃ (i m c : Nat) (A : Option Addr) (f : Nat → Nat), i ≤ l ∧ u = .int .i64 i ∧ s = .slice A m c ∧ Fr No w wr ∧ (∀ g t cs, Blk w2 g t cs → t ≠ 3 → Blk wr g t cs) ∧ OR wr w.heap.size A m c ((List.range i).map fun k => ((f k : Nat) : Int)) ∧ ∀ k, k < i → f k < r ∧ elems r (memR r ps k) = [f k]) (fun _ u _ => l - (intOf u).toNat)
    case atStart => exact ⟨0, 0, 0, _, fun _ => 0, Nat.zero_le _, rfl, rfl, HF.out.trans HFA.out, fun _ _ _ h _ => h, HOA.out, fun k hk => by omega⟩
    case round =>
      obtain ⟨i, m, c, A, f, hi, rfl, rfl, hfr, hkeep, hor, hall⟩ := hrel
      have HFR := Lib.hid hfr
      have HKEEP := Lib.hid hkeep
      have HOR := Lib.hid hor
      have HALL := Lib.hid hall
      have HML : Hid (m = i) := by show _ = _; rw [hor.1]; simp
      clear hfr hkeep hor hall e1'
      by_cases hlt : i < l
      · have hrows := HROWS.out
        obtain ⟨_, ws, hws, hbits⟩ := hrows.each i hlt
        have hra : Blk wr Rb 52 (RA gs l r l) := HKEEP.out _ _ _ (hrows.rows.fr HFA.out (fun h => h)) (by decide)
        have hwa : Blk wr (gs i) 68 (WV ws) := HKEEP.out _ _ _ (hws.fr HFA.out (fun h => h)) (by decide)
        have e2 : wr.cell? ⟨Rb, i, none⟩ = some (.slice (some ⟨gs i, 0, none⟩) (nw r) (nw r)) := by rw [hra.cell, RA_at hlt, if_pos hlt]
        have COL : Hid (Calls Tryd.prog 43 #[.func (.func 35) #[.slice (some ⟨gs i, 0, none⟩) (nw r) (nw r)] #[]] wr fun e w' => ColP r (memR r ps i) wr e w') := collect_any wr _ r _ ws hwa hbits (by omega) (HT.out.fr HFR.out (fun h => h))
        have hiI : (i : Int) < (l : Int) := by omega
        clear hrows hws hbits hra hwa
        go_wp2_with fail
        refine COL.out.mono ?_
        rintro e w3 ⟨A', n', c', rfl, hf3, hor3⟩
        have HF3 := Lib.hid hf3
        have HOR3 := Lib.hid hor3
        by_cases hone : n' = 1
        · have HONE : Hid ((elems r (memR r ps i)).length = 1) := by
            have := hor3.1
            rw [List.length_map] at this
            show _ = _
            omega
          obtain ⟨a, har, hae⟩ := elems_one HONE.out
          have HAE := Lib.hid hae
          obtain ⟨g1, o1, rfl, hc1⟩ := hor3.isl 0 (a : Int) (by rw [hae]; rfl)
          have hc1' : w3.cell? ⟨g1, o1, none⟩ = some (.int .i64 (a : Int)) := hc1
          have hown := (HOR.out.no hf3).2
          have hml : m + 1 ≤ 100000 := by have := HML.out; omega
          have hsz3 : w.heap.size ≤ w3.heap.size := (HFR.out.trans hf3).size
          have ARM : Hid (∀ (v' : Value) (w4 : World), w4.ownsRow w.heap.size 3 1 v' (m + 1) ((((List.range i).map fun k => ((f k : Nat) : Int)).map (Value.int .i64)) ++ [.int .i64 (a : Int)]) → (w3.alloc (.cells #[.int .i64 (a : Int)] 3)).grownBy w4 (Value.slice A m c).ownBlock →
              ∃ g' cap', v' = .slice (some ⟨g', 0, none⟩) (m + 1) cap' ∧ Hid (Fr No w w4 ∧ (∀ g t cs, Blk w2 g t cs → t ≠ 3 → Blk w4 g t cs) ∧ OR w4 w.heap.size (some ⟨g', 0, none⟩) (m + 1) cap' ((List.range (i + 1)).map fun k => (((if k = i then a else f k) : Nat) : Int)) ∧ ∀ k, k < i + 1 → (if k = i then a else f k) < r ∧ elems r (memR r ps k) = [if k = i then a else f k])) := by
            intro v' w4 ho hg
            obtain ⟨g', cap', rfl, h1, h2⟩ := or_more (HOR.out.no HF3.out) ((Fr.refl No w3).alloc _) ho hg
            refine ⟨g', cap', rfl, (HFR.out.trans HF3.out).then_ h1 (fun b hb h => by have := (HOR.out.bounds h).1; omega), fun g t cs hb ht => ?_, ?_, fun k hk => ?_⟩
            · have hb3 := (HKEEP.out g t cs hb ht).fr HF3.out (fun h => h)
              exact hb3.fr h1 ((HOR.out.no HF3.out).other hb3 ht)
            · rw [List.range_succ, List.map_append]
              have e : ((List.range i).map fun k => (((if k = i then a else f k) : Nat) : Int)) = (List.range i).map fun k => ((f k : Nat) : Int) := by
                refine List.map_congr_left fun k hk => ?_
                have := List.mem_range.1 hk
                rw [if_neg (by omega)]
              rw [e]
              simpa using h2
            · by_cases e : k = i
              · subst e; rw [if_pos rfl]; exact ⟨har, HAE.out⟩
              · rw [if_neg e]; exact HALL.out k (by omega)
          subst hone
          clear hf3 hor3 hc1 hae
          go_wp2_with (at_builtin; refine wpList_append_own _ rfl _ _ 23 rfl w.heap.size 3 i0 (.int .i64 0) 1 8 Tryd.underlying23 hi0 hz0 hz1 hz2 rfl (by decide) _ _ _ rfl (hown.alloc _) ⟨w3.heap.size, 0, none⟩ 1 1 [.int .i64 (a : Int)] rfl rfl (cell_one_new _ _ _) (by simp [Value.oneCell']) (by unfold maxLen; omega) (by omega) (by simp; omega) ?_; intro v' w4 hown' hgrow _; obtain ⟨g', cap', rfl, n4⟩ := ARM.out v' w4 hown' hgrow; clear hown' hgrow)
          clear hown ARM hc1'
          go_wp2_with fail
          go_roundw
          case rel => exact ⟨i + 1, m + 1, cap', _, fun k => if k = i then a else f k, by omega, by go_num, rfl, n4.out⟩
          case measure => simp [intOf]; omega
        · have HNO : Hid (funO l r ps = none) := funO_no (fun h => hone (by have h2 := h.row hlt; have := hor3.1; rw [List.length_map] at this; omega))
          have HE := Lib.hid (AnsI.none_ (HFR.out.trans hf3))
          have hneI : ((n' : Int) != 1) = true := by simp; omega
          clear hf3 hor3
          go_wp2_with fail
          go_ret2
          rw [HNO.out]
          exact HE.out
      · have hil : i = l := by omega
        have HE : Hid (AnsI (funO l r ps) w (.returned (.tuple #[.slice A m c, .bool true])) wr) := by
          have h := fun_of_rows HOK.out (f := f) (fun k hk => HALL.out k (by omega))
          have ho := HOR.out
          rw [hil] at ho
          rw [h]
          exact ⟨A, m, c, rfl, HFR.out, ho⟩
        have hnlt : ¬ (i : Int) < (l : Int) := by omega
        clear hil
        go_wp2_with fail
        go_ret2
        exact HE.out
  · have HNO : Hid (funO L R ps = none) := funO_no (fun h => hno h.1)
    have HE := Lib.hid (AnsI.none_ HF.out)
    clear hf hno
    go_wp2_with fail
    go_ret2
    rw [HNO.out]
    exact HE.out
end Go.Proofs.YticoeooeeejboaaDoor
