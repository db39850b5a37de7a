/- Relations by their numbers. · Relations by their numbers, in the model. -/
import Derived.Test.YticoeooeeejboaaCol
import Derived.Test.YticoeooeeejboaaIn6
/- Relations by their numbers. -/
namespace Go.Proofs.Yticoeooeeejboaa
open Go.RowKit Go.ChangeMaps

/-- a relation, and whether there is one, is returned -/
def AnsR (o : Option (Int × Int × List Int)) (w : World) (e : Ending) (w' : World) : Prop :=
  ∃ A n c, e = .returned (.tuple #[RV (o.getD (0, 0, [])).1 (o.getD (0, 0, [])).2.1 A n c, .bool o.isSome]) ∧ Fr No w w' ∧ OR w' w.heap.size A n c (o.getD (0, 0, [])).2.2

theorem AnsR.none_ {w w' : World} (hf : Fr No w w') : AnsR none w (.returned (.tuple #[RV 0 0 none 0 0, .bool false])) w' := ⟨none, 0, 0, rfl, hf, rfl, rfl, .inl ⟨rfl, rfl⟩⟩

/-- the result's cell is filled -/
theorem ans_store {w w3 : World} {k B : Nat} {A : Option Addr} {m c : Nat} {ps : List Int} {cs : Array Value} (hk : w.heap.size ≤ k) (hf : Fr No w w3) (hb : Blk w3 k 25 cs) (hor : OR w3 B A m c ps) (hB : w.heap.size ≤ B) (v0 v1 v2 : Value) :
    Fr No w (((w3.setCell ⟨k, 0, none⟩ v0).setCell ⟨k, 1, none⟩ v1).setCell ⟨k, 2, none⟩ v2) ∧ OR (((w3.setCell ⟨k, 0, none⟩ v0).setCell ⟨k, 1, none⟩ v1).setCell ⟨k, 2, none⟩ v2) w.heap.size A m c ps := by
  have hn := hor.other hb (by decide)
  have h1 : Fr (One k) w3 (((w3.setCell ⟨k, 0, none⟩ v0).setCell ⟨k, 1, none⟩ v1).setCell ⟨k, 2, none⟩ v2) := (((Fr.refl (One k) w3).setCell (p := ⟨k, 0, none⟩) (.inl rfl) _).setCell (p := ⟨k, 1, none⟩) (.inl rfl) _).setCell (p := ⟨k, 2, none⟩) (.inl rfl) _
  refine ⟨hf.then_ h1 (fun b hb h => by have h : b = k := h; omega), (hor.fr h1 (fun b ho h => ?_)).low hB⟩
  have h : b = k := h
  subst h
  exact hn ho

/-- there is a relation with this number -/
def NumOk (l r n : Int) : Prop := 1 ≤ l ∧ 1 ≤ r ∧ l * r ≤ 16 ∧ 0 ≤ n ∧ n < 2 ^ (l * r).toNat

open Classical in
noncomputable def relNumO (l r n : Int) : Option (Int × Int × List Int) := if NumOk l r n then some (l, r, (elems (l * r).toNat n.toNat.testBit).map Int.ofNat) else none

theorem relNumO_no {l r n : Int} (h : ¬ NumOk l r n) : relNumO l r n = none := if_neg h
theorem relNumO_yes {l r n : Int} (h : NumOk l r n) : relNumO l r n = some (l, r, (elems (l * r).toNat n.toNat.testBit).map Int.ofNat) := if_pos h

theorem prod_bounds {l r : Int} (hl : 1 ≤ l) (hl2 : l ≤ 128) (hr : 1 ≤ r) (hr2 : r ≤ 128) : 1 ≤ l * r ∧ l * r ≤ 16384 := by
  obtain ⟨a, rfl⟩ : ∃ a : Nat, l = a := ⟨l.toNat, by omega⟩
  obtain ⟨b, rfl⟩ : ∃ b : Nat, r = b := ⟨r.toNat, by omega⟩
  have h1 := Nat.mul_le_mul (show a ≤ 128 by omega) (show b ≤ 128 by omega)
  have h2 := Nat.mul_le_mul (show 1 ≤ a by omega) (show 1 ≤ b by omega)
  rw [← Int.natCast_mul]
  omega

theorem prod_le {l r : Int} (hl : 1 ≤ l) (hr : 1 ≤ r) (h : l * r ≤ 16) : l ≤ 16 ∧ r ≤ 16 := by
  obtain ⟨a, rfl⟩ : ∃ a : Nat, l = a := ⟨l.toNat, by omega⟩
  obtain ⟨b, rfl⟩ : ∃ b : Nat, r = b := ⟨r.toNat, by omega⟩
  rw [← Int.natCast_mul] at h
  have h1 : a ≤ a * b := Nat.le_mul_of_pos_right _ (by omega)
  have h2 : b ≤ a * b := Nat.le_mul_of_pos_left _ (by omega)
  omega

theorem pow_bound {p : Nat} (h : p ≤ 16) : (1 : Int) ≤ 2 ^ p ∧ (2 : Int) ^ p ≤ 65536 := by
  have h1 : 2 ^ p ≤ 2 ^ 16 := Nat.pow_le_pow_right (by decide) h
  have h2 : 1 ≤ 2 ^ p := Nat.one_le_two_pow
  have e : ((2 : Int) ^ p) = ((2 ^ p : Nat) : Int) := by rw [Int.natCast_pow]; rfl
  rw [e]
  omega

/-- one word is the set of a small number's bits -/
theorem bits_one {N m : Nat} (h1 : 1 ≤ N) (h2 : N ≤ 16) (hm : m < 2 ^ N) : BitsIs [m] N m.testBit := by
  have hp : 2 ^ N ≤ 2 ^ 16 := Nat.pow_le_pow_right (by decide) h2
  refine ⟨by unfold nw; simp; omega, by intro x hx; have := List.mem_singleton.1 hx; omega, fun j => ?_⟩
  unfold hasW
  by_cases h64 : j < 64
  · rw [show j / 64 = 0 by omega, show j % 64 = j by omega]
    show m.testBit j = _
    by_cases hj : j < N
    · simp [hj]
    · have : m.testBit j = false := Nat.testBit_lt_two_pow (Nat.lt_of_lt_of_le hm (Nat.pow_le_pow_right (by decide) (by omega)))
      simp [hj, this]
  · have : ([m] : List Nat).getD (j / 64) 0 = 0 := by
      rw [List.getD_eq_getElem?_getD, List.getElem?_eq_none (by simp; omega)]; rfl
    rw [this]
    have hj : ¬ j < N := by omega
    simp [hj]

end Go.Proofs.Yticoeooeeejboaa

/- Relations by their numbers, in the model. -/
namespace Go.Proofs.Yticoeooeeejboaa
open Go.RowKit Go.ChangeMaps Go.Shelf

/-- one pair more in a relation under way -/
theorem app_fin {W W1 w1 : World} {ob B m c g' cap' : Nat} {L R x : Int} {A : Option Addr} {ps : List Int} (hob : Blk W ob 25 #[.int .i64 L, .int .i64 R, .slice A m c]) (hor : OR W B A m c ps) (hfa : Fr No W W1)
    (ho : w1.ownsRow B 3 1 (.slice (some ⟨g', 0, none⟩) (m + 1) cap') (m + 1) (ps.map (Value.int .i64) ++ [.int .i64 x])) (hg : W1.grownBy w1 (Value.slice A m c).ownBlock) :
    Blk w1 ob 25 #[.int .i64 L, .int .i64 R, .slice A m c] ∧ Fr (fun b => Own A b ∨ b = ob) W (w1.setCell ⟨ob, 2, none⟩ (.slice (some ⟨g', 0, none⟩) (m + 1) cap')) ∧
    Blk (w1.setCell ⟨ob, 2, none⟩ (.slice (some ⟨g', 0, none⟩) (m + 1) cap')) ob 25 #[.int .i64 L, .int .i64 R, .slice (some ⟨g', 0, none⟩) (m + 1) cap'] ∧
    OR (w1.setCell ⟨ob, 2, none⟩ (.slice (some ⟨g', 0, none⟩) (m + 1) cap')) B (some ⟨g', 0, none⟩) (m + 1) cap' (ps ++ [x]) := by
  have hf1 : Fr (Own A) W w1 := (hfa.mono (fun _ _ h => h.elim)).grown hg (fun k hk => .inl (by
    unfold Value.ownBlock at hk
    cases A with
    | none => cases hk
    | some a => exact ⟨a, rfl, by injection hk⟩))
  have hb1 : Blk w1 ob 25 #[.int .i64 L, .int .i64 R, .slice A m c] := hob.fr hf1 (hor.other hob (by decide))
  have hor1 : OR w1 B (some ⟨g', 0, none⟩) (m + 1) cap' (ps ++ [x]) := ⟨by rw [hor.1]; simp, by simpa using ho⟩
  refine ⟨hb1, (hf1.mono (fun _ _ h => .inl h)).setCell (p := ⟨ob, 2, none⟩) (.inl (.inr rfl)) _, hb1.set_ 2 _, hor1.fr ((Fr.refl (One ob) w1).setCell (p := ⟨ob, 2, none⟩) (.inl rfl) _) (fun b hb h => ?_)⟩
  have h : b = ob := h
  subst h
  exact hor1.other hb1 (by decide) hb

/-- a relation without pairs, under way: the result's cell, the row, the box -/
theorem start_rel (w : World) (L R : Int) : ∃ W, W = (((w.alloc (.cells #[.int .i64 0, .int .i64 0, .slice none 0 0] 25)).alloc (.cells #[] 3)).alloc (.cells #[.int .i64 L, .int .i64 R, .slice (some ⟨w.heap.size + 1, 0, none⟩) 0 0] 25)) ∧
    Fr No w W ∧ Blk W w.heap.size 25 #[.int .i64 0, .int .i64 0, .slice none 0 0] ∧ Blk W (w.heap.size + 1 + 1) 25 #[.int .i64 L, .int .i64 R, .slice (some ⟨w.heap.size + 1, 0, none⟩) 0 0] ∧ OR W (w.heap.size + 1) (some ⟨w.heap.size + 1, 0, none⟩) 0 0 [] := by
  refine ⟨_, rfl, (((Fr.refl No w).alloc _).alloc _).alloc _, ((Blk.new _ _ _).alloc _).alloc _, Blk.new_at _ _ _ (by simp), rfl, rfl, .inr ⟨_, 0, #[], rfl, Nat.le_refl _, ?_, Nat.le_refl _, Nat.zero_le _, rfl, rfl⟩⟩
  exact (Blk.new_at (w.alloc (.cells #[.int .i64 0, .int .i64 0, .slice none 0 0] 25)) 3 #[] (by simp)).alloc _

theorem elems_more (j : Nat) (P : Nat → Bool) : elems (j + 1) P = elems j P ++ (if P j then [j] else []) := by
  unfold elems
  rw [List.range_succ, List.filter_append]
  congr 1
  simp only [List.filter_cons, List.filter_nil]

theorem i64_and_one (i : Nat) (hi : i < 9223372036854775808) : bits BinOp.and IntKind.i64 (i : Int) 1 = ((i &&& 1 : Nat) : Int) := by
  have h1 : (BitVec.ofInt 64 (i : Int)).toNat = i := by
    rw [BitVec.ofInt_natCast, BitVec.toNat_ofNat]; exact Nat.mod_eq_of_lt (by omega)
  show IntKind.i64.wrap ((BitVec.ofInt 64 (i : Int) &&& BitVec.ofInt 64 1).toNat : Int) = _
  rw [BitVec.toNat_and, h1, show (BitVec.ofInt 64 1).toNat = 1 from rfl, IntKind.wrap_i64]
  have := Nat.and_le_right (n := i) (m := 1)
  omega

theorem and_one_bit (n j : Nat) : n / 2 ^ j &&& 1 = if n.testBit j then 1 else 0 := by
  rw [Nat.and_one_is_mod, Nat.testBit_eq_decide_div_mod_eq]
  have := Nat.mod_lt (n / 2 ^ j) (show 0 < 2 by decide)
  by_cases h : n / 2 ^ j % 2 = 1
  · simp [h]
  · have h0 : n / 2 ^ j % 2 = 0 := by omega
    simp [h0]

end Go.Proofs.Yticoeooeeejboaa
