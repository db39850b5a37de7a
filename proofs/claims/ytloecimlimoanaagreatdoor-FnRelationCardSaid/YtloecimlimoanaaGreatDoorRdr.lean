/- Slices of integers: copied, compared; what comes in. · Bit sets as lists of words; relations as ascending lists of pairs: pure. · Bit sets and relations of bit sets in memory. · Relations of bit sets: made, and read. · Relations of bit sets are read. -/
import Derived.Test.YtloecimlimoanaaGreatDoorPre
import Derived.OwnWalk
import Derived.OpenShut
import Derived.Below
import Derived.Lib.TrailingZeros
import Derived.Laws.Bits64b
import Derived.BigRegion
import Derived.Deep.RegionHeld3
/- Slices of integers: copied, compared; what comes in. -/
namespace Go.Proofs.YtloecimlimoanaaGreatDoor
open Go.RowKit Go.ChangeMaps Go.ChangeShapes Go.WideShapes

/-- The slice at A holds these integers. -/
def ISl (w : World) (A : Option Addr) (zs : List Int) : Prop :=
  ∀ (j : Nat) (z : Int), zs[j]? = some z → ∃ g o, A = some ⟨g, o, none⟩ ∧ w.cell? ⟨g, o + j, none⟩ = some (.int .i64 z)

theorem ISl.keep {w w' : World} {A : Option Addr} {zs : List Int} {T : Nat → Prop} (h : ISl w A zs) (hf : Fr T w w') (hT : ∀ b, T b → w.heap.size ≤ b) : ISl w' A zs := by
  intro j x hj
  obtain ⟨g, o, e, hc⟩ := h j x hj
  have hl := block_lt hc
  exact ⟨g, o, e, (hf.cell (p := ⟨g, o + j, none⟩) hl (fun h => by have := hT _ h; simp at this; omega)).trans hc⟩

theorem ISl.of_own {w : World} {B : Nat} {zs : List Int} {A : Option Addr} {c : Nat} (ho : w.ownsRow B 3 1 (.slice A zs.length c) zs.length (zs.map (Value.int .i64))) : ISl w A zs := by
  intro j x hj
  have hl := (List.getElem?_eq_some_iff.1 hj).1
  rcases ho.2 with ⟨_, hn⟩ | ⟨g, cap, cur, hv, _⟩
  · omega
  · injection hv with e1 e2 e3
    refine ⟨g, 0, e1, ?_⟩
    have := ho.cells (g := g) (by rw [e1]; rfl) j (.int .i64 x) (by rw [List.getElem?_map, hj]; rfl)
    rw [addr_add] at this
    exact this

theorem info_int : (Tryz.prog.info? 3).map (fun i => (i.zero, i.size, i.bytes)) = some (some (.int .i64 0), 1, 8) := by kernel_rfl

def CopyI (zs : List Int) (w : World) (e : Ending) (w' : World) : Prop :=
  ∃ g, e = .returned (.slice (some ⟨g, 0, none⟩) zs.length zs.length) ∧ w.heap.size ≤ g ∧ Fr No w w' ∧ w'.ownsRow w.heap.size 3 1 (.slice (some ⟨g, 0, none⟩) zs.length zs.length) zs.length (zs.map (Value.int .i64))

theorem take_set_more {α β : Type} {f : α → β} {xs : List α} {ys : List β} {j : Nat} {x : α} (h : ys.take j = (xs.map f).take j) (hl : j < ys.length) (hx : xs[j]? = some x) : (ys.set j (f x)).take (j + 1) = (xs.map f).take (j + 1) := by
  rw [List.take_add_one, List.take_add_one, List.take_set_of_le (Nat.le_refl _), h, List.getElem?_set_self hl, List.getElem?_map, hx]
  rfl

def EqI (xs ys : List Int) (w : World) (e : Ending) (w' : World) : Prop := ∃ b : Bool, e = .returned (.bool b) ∧ (b = true ↔ xs = ys) ∧ ∃ n, w' = w.drewN n

theorem eq_take_moreI {xs ys : List Int} {j : Nat} {x y : Int} (h : xs.take j = ys.take j) (hx : xs[j]? = some x) (hy : ys[j]? = some y) (hxy : x = y) : xs.take (j + 1) = ys.take (j + 1) := by
  rw [List.take_add_one, List.take_add_one, h, hx, hy, hxy]

theorem spot_of {w : World} {a : Addr} {v : Value} (h : w.cell? (a.add 0) = some v) : a = ⟨a.block, a.off, none⟩ := by
  obtain ⟨b, o, s⟩ := a
  have hs : s = none := by simpa [Addr.add] using World.cell?_spot h
  subst hs
  rfl

/-- and of a slice of integers -/
def IntsIn (w : World) (a : Option Addr) (len cap : Nat) (zs : List Int) : Prop :=
  len = zs.length ∧ len ≤ cap ∧ len ≤ maxLen ∧ ISl w a zs ∧ ∀ z ∈ zs, -9223372036854775808 ≤ z ∧ z ≤ 9223372036854775807

theorem ints_in {w : World} {a : Option Addr} {len cap : Nat} {zs : List Int}
    (h : (a = none ∧ len = 0 ∧ cap = 0 ∧ zs = []) ∨ ∃ x, a = some x ∧ len ≤ cap ∧ cap ≤ maxLen ∧ zs.length = cap ∧ (∀ i, i < zs.length → w.cell? (x.add i) = some (.int .i64 (zs.getD i 0))) ∧ ∀ n ∈ zs, (Lit.int .i64 n).wf = true) : ∃ ys, IntsIn w a len cap ys := by
  rcases h with ⟨rfl, rfl, rfl, rfl⟩ | ⟨b, rfl, hlc, hcm, hz, hcell, hwf⟩
  · exact ⟨[], rfl, Nat.le_refl _, Nat.zero_le _, fun j x hj => by simp at hj, by simp⟩
  · refine ⟨zs.take len, by simp; omega, hlc, Nat.le_trans hlc hcm, ?_, ?_⟩
    · intro j x hj
      rw [List.getElem?_take] at hj
      split at hj
      · have hl := (List.getElem?_eq_some_iff.1 hj).1
        have h0 := hcell 0 (by omega)
        have h1 := hcell j hl
        have hb := spot_of h0
        refine ⟨b.block, b.off, by rw [← hb], ?_⟩
        rw [hb, addr_add] at h1
        rw [List.getD_eq_getElem?_getD, hj] at h1
        exact h1
      · cases hj
    · intro z hz'
      have := hwf z (List.mem_of_mem_take hz')
      simp [Lit.wf, IntKind.min, IntKind.max, IntKind.signed, IntKind.bits] at this
      omega

end Go.Proofs.YtloecimlimoanaaGreatDoor

/- Bit sets as lists of words; relations as ascending lists of pairs: pure. -/
namespace Go.Proofs.YtloecimlimoanaaGreatDoor

/-! Bit sets as lists of words. -/
def hasW (ws : List Nat) (j : Nat) : Bool := (ws.getD (j / 64) 0).testBit (j % 64)
/-- how many words there are for a count -/
def nw (n : Nat) : Nat := (n + 63) / 64

structure BitsIs (ws : List Nat) (n : Nat) (P : Nat → Bool) : Prop where
  len : ws.length = nw n
  lt : ∀ x ∈ ws, x < 18446744073709551616
  has : ∀ j, hasW ws j = (decide (j < n) && P j)

theorem getD_lt {ws : List Nat} (h : ∀ x ∈ ws, x < 18446744073709551616) (i : Nat) : ws.getD i 0 < 18446744073709551616 := by
  rw [List.getD_eq_getElem?_getD]
  rcases hx : ws[i]? with _ | x
  · simp
  · exact h x (List.mem_of_getElem? hx)

theorem BitsIs.new (n : Nat) : BitsIs (List.replicate (nw n) 0) n (fun _ => false) := by
  refine ⟨by simp, by intro x hx; have := List.eq_of_mem_replicate hx; omega, fun j => ?_⟩
  unfold hasW
  rw [List.getD_eq_getElem?_getD, List.getElem?_replicate]
  split <;> simp

theorem BitsIs.congr {ws : List Nat} {n : Nat} {P Q : Nat → Bool} (h : BitsIs ws n P) (hq : ∀ j, j < n → P j = Q j) : BitsIs ws n Q :=
  ⟨h.len, h.lt, fun j => by
    rw [h.has]
    by_cases hj : j < n
    · rw [hq j hj]
    · simp [hj]⟩

theorem nw_lt {n k : Nat} (h : k < n) : k / 64 < nw n := by unfold nw; omega

theorem getD_set {ws : List Nat} {i j x : Nat} (hi : i < ws.length) : (ws.set i x).getD j 0 = if i = j then x else ws.getD j 0 := by
  rw [List.getD_eq_getElem?_getD, List.getElem?_set, List.getD_eq_getElem?_getD]
  split
  · rename_i h; subst h; rfl
  · rfl

theorem or_lt64 {a b : Nat} (ha : a < 18446744073709551616) (hb : b < 18446744073709551616) : a ||| b < 18446744073709551616 := Nat.or_lt_two_pow (n := 64) ha hb

/-- one word of a set with more bits -/
theorem hasW_or {ws : List Nat} {i x : Nat} (hi : i < ws.length) (j : Nat) : hasW (ws.set i (ws.getD i 0 ||| x)) j = (hasW ws j || (decide (i = j / 64) && x.testBit (j % 64))) := by
  unfold hasW
  rw [getD_set hi]
  by_cases h : i = j / 64
  · rw [if_pos h, Nat.testBit_or, h]; simp
  · rw [if_neg h]; simp [h]

theorem hasW_and {ws : List Nat} {i x : Nat} (hi : i < ws.length) (j : Nat) : hasW (ws.set i (ws.getD i 0 &&& x)) j = (hasW ws j && (decide (i ≠ j / 64) || x.testBit (j % 64))) := by
  unfold hasW
  rw [getD_set hi]
  by_cases h : i = j / 64
  · rw [if_pos h, Nat.testBit_and, h]; simp
  · rw [if_neg h]; simp [h]

theorem lt_or_set {ws : List Nat} {i x : Nat} (h : ∀ y ∈ ws, y < 18446744073709551616) (hx : x < 18446744073709551616) : ∀ y ∈ ws.set i x, y < 18446744073709551616 := by
  intro y hy
  rcases List.mem_or_eq_of_mem_set hy with h1 | h1
  · exact h y h1
  · rw [h1]; exact hx

theorem BitsIs.add {ws : List Nat} {n : Nat} {P : Nat → Bool} (h : BitsIs ws n P) {k : Nat} (hk : k < n) : BitsIs (ws.set (k / 64) (ws.getD (k / 64) 0 ||| 2 ^ (k % 64))) n (fun j => P j || decide (j = k)) := by
  have hl : k / 64 < ws.length := by rw [h.len]; exact nw_lt hk
  have hp : 2 ^ (k % 64) < 18446744073709551616 := Nat.pow_lt_pow_right (by decide : 1 < 2) (show k % 64 < 64 by omega)
  refine ⟨by rw [List.length_set]; exact h.len, lt_or_set h.lt (or_lt64 (getD_lt h.lt _) hp), fun j => ?_⟩
  rw [hasW_or hl, h.has, Nat.testBit_two_pow]
  by_cases he : j = k
  · subst he; simp [hk]
  · have h2 : ¬ (k / 64 = j / 64 ∧ k % 64 = j % 64) := by omega
    have h3 : (decide (k / 64 = j / 64) && decide (k % 64 = j % 64)) = false := by
      rw [← Bool.decide_and]; simpa using h2
    rw [h3]; simp [he]

/-- what a set has at a number -/
theorem BitsIs.bit {ws : List Nat} {n : Nat} {P : Nat → Bool} (h : BitsIs ws n P) {k : Nat} (hk : k < n) : ws.getD (k / 64) 0 / 2 ^ (k % 64) &&& 1 = if P k then 1 else 0 := by
  have h1 := h.has k
  unfold hasW at h1
  rw [Nat.testBit_eq_decide_div_mod_eq] at h1
  rw [Nat.and_one_is_mod]
  simp only [hk, decide_true, Bool.true_and] at h1
  rcases hp : P k with _ | _
  · rw [hp] at h1; simp at h1; simp [h1]
  · rw [hp] at h1; simp at h1; simp [h1]

/-! The numbers of a set, ascending. -/
def wb (x : Nat) : List Nat := (List.range 64).filter (x.testBit ·)

theorem filter_range_add (f : Nat → Bool) (a b : Nat) : (List.range (a + b)).filter f = (List.range a).filter f ++ ((List.range b).filter (fun j => f (a + j))).map (a + ·) := by
  rw [List.range_add, List.filter_append, List.filter_map]
  rfl

/-- the numbers from a word on -/
def bitsFrom : Nat → List Nat → List Nat
  | _, [] => []
  | p, x :: r => (wb x).map (p * 64 + ·) ++ bitsFrom (p + 1) r

theorem bitsFrom_eq (ws : List Nat) : ∀ (p : Nat), p ≤ ws.length → (List.range (64 * ws.length)).filter (hasW ws) = (List.range (64 * p)).filter (hasW ws) ++ bitsFrom p (ws.drop p) := by
  intro p hp
  obtain ⟨k, hk⟩ : ∃ k, ws.length = p + k := ⟨ws.length - p, by omega⟩
  induction k generalizing p with
  | zero => rw [hk, List.drop_eq_nil_of_le (by omega)]; simp [bitsFrom]
  | succ k ih =>
    rw [ih (p + 1) (by omega) (by omega)]
    have hx : p < ws.length := by omega
    rw [List.drop_eq_getElem_cons hx, show 64 * (p + 1) = 64 * p + 64 by omega, filter_range_add, List.append_assoc]
    congr 1
    rw [bitsFrom]
    congr 1
    have : (List.range 64).filter (fun j => hasW ws (64 * p + j)) = wb ws[p] := by
      unfold wb
      refine List.filter_congr fun j hj => ?_
      have hj := List.mem_range.1 hj
      unfold hasW
      rw [show (64 * p + j) / 64 = p by omega, show (64 * p + j) % 64 = j by omega, List.getD_eq_getElem?_getD, List.getElem?_eq_getElem hx]
      rfl
    rw [this, Nat.mul_comm]

/-- the numbers of a set -/
def elems (n : Nat) (P : Nat → Bool) : List Nat := (List.range n).filter P

theorem BitsIs.list {ws : List Nat} {n : Nat} {P : Nat → Bool} (h : BitsIs ws n P) : bitsFrom 0 ws = elems n P := by
  have h1 := bitsFrom_eq ws 0 (Nat.zero_le _)
  simp only [Nat.mul_zero, List.range_zero, List.filter_nil, List.nil_append, List.drop_zero] at h1
  rw [← h1]
  have hn : n ≤ 64 * ws.length := by rw [h.len]; unfold nw; omega
  obtain ⟨k, hk⟩ : ∃ k, 64 * ws.length = n + k := ⟨64 * ws.length - n, by omega⟩
  rw [hk, filter_range_add]
  have h2 : (List.range k).filter (fun j => hasW ws (n + j)) = [] := by
    rw [List.filter_eq_nil_iff]
    intro j _
    rw [h.has]; simp; intro h; omega
  rw [h2, List.map_nil, List.append_nil]
  unfold elems
  refine List.filter_congr fun j hj => ?_
  have hj := List.mem_range.1 hj
  rw [h.has]; simp [hj]

/-- a word's numbers: the lowest one first -/
theorem testBit_pred {x c : Nat} (m : Nat) (hx : x = 2 ^ c * (2 * m + 1)) (j : Nat) : (x &&& (x - 1)).testBit j = (x.testBit j && decide (j ≠ c)) := by
  have hp : 0 < 2 ^ c := Nat.two_pow_pos c
  have e1 : x - 1 = 2 ^ c * (2 * m) + (2 ^ c - 1) := by
    rw [hx, Nat.mul_add, Nat.mul_one]; omega
  have e2 : x = 2 ^ c * (2 * m + 1) + 0 := by omega
  have t1 : ∀ j, (x - 1).testBit j = if j < c then true else (2 * m).testBit (j - c) := by
    intro j
    rw [e1, Nat.testBit_two_pow_mul_add _ (by omega : 2 ^ c - 1 < 2 ^ c)]
    split
    · rename_i h; rw [Nat.testBit_two_pow_sub_one]; simp [h]
    · rfl
  have t2 : ∀ j, x.testBit j = if j < c then false else (2 * m + 1).testBit (j - c) := by
    intro j
    rw [e2, Nat.testBit_two_pow_mul_add _ hp]
    split
    · simp
    · rfl
  rw [Nat.testBit_and, t1, t2]
  by_cases h : j < c
  · simp [h]
  · rw [if_neg h, if_neg h]
    by_cases hjc : j = c
    · subst hjc; simp
    · obtain ⟨k, hk⟩ : ∃ k, j - c = k + 1 := ⟨j - c - 1, by omega⟩
      rw [hk, Nat.testBit_succ, Nat.testBit_succ, show (2 * m + 1) / 2 = m by omega, show (2 * m) / 2 = m by omega]
      simp [hjc]

theorem wb_step {x c m : Nat} (hx : x = 2 ^ c * (2 * m + 1)) (hc : c < 64) : wb x = c :: wb (x &&& (x - 1)) := by
  unfold wb
  obtain ⟨k, hk⟩ : ∃ k, 64 = c + (k + 1) := ⟨63 - c, by omega⟩
  have hlow : ∀ j, j < c → x.testBit j = false := by
    intro j hj
    rw [show x = 2 ^ c * (2 * m + 1) + 0 by omega, Nat.testBit_two_pow_mul_add _ (Nat.two_pow_pos c)]
    simp [hj]
  have hat : x.testBit c = true := by
    rw [show x = 2 ^ c * (2 * m + 1) + 0 by omega, Nat.testBit_two_pow_mul_add _ (Nat.two_pow_pos c)]
    simp
  rw [hk, filter_range_add (fun j => x.testBit j) c (k + 1), filter_range_add (fun j => (x &&& (x - 1)).testBit j) c (k + 1)]
  have e1 : (List.range c).filter (x.testBit ·) = [] := by
    rw [List.filter_eq_nil_iff]; intro j hj; rw [hlow j (List.mem_range.1 hj)]; simp
  have e2 : (List.range c).filter ((x &&& (x - 1)).testBit ·) = [] := by
    rw [List.filter_eq_nil_iff]; intro j hj; rw [testBit_pred m hx, hlow j (List.mem_range.1 hj)]; simp
  rw [e1, e2, List.nil_append, List.nil_append, List.range_succ_eq_map, List.filter_cons, List.filter_cons]
  have h0 : x.testBit (c + 0) = true := hat
  have h1 : (x &&& (x - 1)).testBit (c + 0) = false := by rw [testBit_pred m hx]; simp
  rw [if_pos h0, if_neg (by rw [h1]; simp), List.map_cons]
  congr 1
  congr 1
  refine List.filter_congr fun j hj => ?_
  obtain ⟨j', _, rfl⟩ := List.mem_map.1 hj
  rw [testBit_pred m hx]
  simp

theorem wb_zero : wb 0 = [] := by decide

theorem and_pred_lt {x : Nat} (h : x ≠ 0) : x &&& (x - 1) < x := Nat.lt_of_le_of_lt Nat.and_le_right (by omega)
/-! Uniting with a shift. -/
structure Uni (o s0 : List Nat) (shift p : Nat) (s : List Nat) : Prop where
  len : s.length = s0.length
  lt : ∀ x ∈ s, x < 18446744073709551616
  has : ∀ j, hasW s j = (hasW s0 j || (decide (shift ≤ j) && decide (j - shift < 64 * p) && hasW o (j - shift)))

theorem Uni.start {o s0 : List Nat} {shift : Nat} (h : ∀ x ∈ s0, x < 18446744073709551616) : Uni o s0 shift 0 s0 :=
  ⟨rfl, h, fun j => by simp⟩

/-- the bits of a word that is shifted: the lower part -/
theorem low_bit (x sh j : Nat) (hj : j < 64) : (x * 2 ^ sh % 18446744073709551616).testBit j = (decide (sh ≤ j) && x.testBit (j - sh)) := by
  rw [show (18446744073709551616 : Nat) = 2 ^ 64 from rfl, Nat.testBit_mod_two_pow, Nat.mul_comm, Nat.testBit_two_pow_mul]
  simp [hj]

theorem high_bit (x sh j : Nat) : (x / 2 ^ sh).testBit j = x.testBit (j + sh) := by
  rw [Nat.testBit_div_two_pow]

/-- what one word adds -/
theorem Uni.step {o s0 s : List Nat} {shift p : Nat} (h : Uni o s0 shift p s) (hx64 : ∀ y ∈ o, y < 18446744073709551616) {s1 s2 : List Nat}
    (h1 : s1 = if o.getD p 0 * 2 ^ (shift % 64) % 18446744073709551616 = 0 then s else s.set (p + shift / 64) (s.getD (p + shift / 64) 0 ||| o.getD p 0 * 2 ^ (shift % 64) % 18446744073709551616))
    (h2 : s2 = if o.getD p 0 / 2 ^ (64 - shift % 64) = 0 then s1 else s1.set (p + shift / 64 + 1) (s1.getD (p + shift / 64 + 1) 0 ||| o.getD p 0 / 2 ^ (64 - shift % 64)))
    (hr1 : o.getD p 0 * 2 ^ (shift % 64) % 18446744073709551616 ≠ 0 → p + shift / 64 < s.length)
    (hr2 : o.getD p 0 / 2 ^ (64 - shift % 64) ≠ 0 → p + shift / 64 + 1 < s.length) : Uni o s0 shift (p + 1) s2 := by
  generalize hX : o.getD p 0 = x at h1 h2 hr1 hr2
  have hx : x < 18446744073709551616 := by rw [← hX]; exact getD_lt hx64 p
  have L1 : s1.length = s.length := by rw [h1]; split <;> simp
  have L2 : s2.length = s.length := by rw [h2]; split <;> simp [L1]
  have A1 : ∀ j, hasW s1 j = (hasW s j || (decide (p + shift / 64 = j / 64) && (x * 2 ^ (shift % 64) % 18446744073709551616).testBit (j % 64))) := by
    intro j
    rw [h1]
    split
    · rename_i h0; rw [h0]; simp
    · rename_i h0; rw [hasW_or (hr1 h0)]
  have A2 : ∀ j, hasW s2 j = (hasW s1 j || (decide (p + shift / 64 + 1 = j / 64) && (x / 2 ^ (64 - shift % 64)).testBit (j % 64))) := by
    intro j
    rw [h2]
    split
    · rename_i h0; rw [h0]; simp
    · rename_i h0; rw [hasW_or (by rw [L1]; exact hr2 h0)]
  have T1 : ∀ y ∈ s1, y < 18446744073709551616 := by
    rw [h1]; split
    · exact h.lt
    · exact lt_or_set h.lt (or_lt64 (getD_lt h.lt _) (Nat.mod_lt _ (by decide)))
  refine ⟨L2.trans h.len, ?_, fun j => ?_⟩
  · rw [h2]; split
    · exact T1
    · exact lt_or_set T1 (or_lt64 (getD_lt T1 _) (Nat.lt_of_le_of_lt (Nat.div_le_self _ _) hx))
  · rw [A2, A1, h.has, low_bit _ _ _ (Nat.mod_lt _ (by decide)), high_bit, Bool.or_assoc, Bool.or_assoc]
    congr 1
    have hbig : ∀ k, 64 ≤ k → x.testBit k = false := fun k hk => Nat.testBit_lt_two_pow (Nat.lt_of_lt_of_le hx (Nat.pow_le_pow_right (by decide) hk : 2 ^ 64 ≤ 2 ^ k))
    by_cases c0 : shift ≤ j
    · by_cases c1 : j - shift < 64 * p
      · -- it is older
        have d1 : (decide (p + shift / 64 = j / 64) && (decide (shift % 64 ≤ j % 64) && x.testBit (j % 64 - shift % 64))) = false := by
          have : ¬ (p + shift / 64 = j / 64 ∧ shift % 64 ≤ j % 64) := by omega
          rw [← Bool.and_assoc, ← Bool.decide_and, decide_eq_false this]; rfl
        have d2 : (decide (p + shift / 64 + 1 = j / 64) && x.testBit (j % 64 + (64 - shift % 64))) = false := by
          have : ¬ (p + shift / 64 + 1 = j / 64) := by omega
          rw [decide_eq_false this]; rfl
        rw [d1, d2]
        have : j - shift < 64 * (p + 1) := by omega
        simp [c0, c1, this]
      · by_cases c2 : j - shift < 64 * (p + 1)
        · have hh : hasW o (j - shift) = x.testBit (j - shift - 64 * p) := by
            unfold hasW
            rw [show (j - shift) / 64 = p by omega, show (j - shift) % 64 = j - shift - 64 * p by omega, hX]
          rw [hh]
          by_cases c3 : p + shift / 64 = j / 64
          · have d3 : shift % 64 ≤ j % 64 := by omega
            have d4 : ¬ (p + shift / 64 + 1 = j / 64) := by omega
            rw [show j % 64 - shift % 64 = j - shift - 64 * p by omega]
            simp [c0, c1, c2, c3, d3]
          · have d4 : p + shift / 64 + 1 = j / 64 := by omega
            rw [show j % 64 + (64 - shift % 64) = j - shift - 64 * p by omega]
            simp [c0, c1, c2, c3, d4]
        · have d1 : ¬ (p + shift / 64 = j / 64) := by omega
          have d2 : (decide (p + shift / 64 + 1 = j / 64) && x.testBit (j % 64 + (64 - shift % 64))) = false := by
            by_cases d4 : p + shift / 64 + 1 = j / 64
            · rw [hbig _ (by omega)]; simp
            · simp [d4]
          rw [d2]
          simp [c0, c1, c2, d1]
    · have d1 : (decide (p + shift / 64 = j / 64) && (decide (shift % 64 ≤ j % 64) && x.testBit (j % 64 - shift % 64))) = false := by
        have : ¬ (p + shift / 64 = j / 64 ∧ shift % 64 ≤ j % 64) := by omega
        rw [← Bool.and_assoc, ← Bool.decide_and, decide_eq_false this]; rfl
      have d2 : (decide (p + shift / 64 + 1 = j / 64) && x.testBit (j % 64 + (64 - shift % 64))) = false := by
        by_cases d4 : p + shift / 64 + 1 = j / 64
        · exfalso; omega
        · simp [d4]
      rw [d1, d2]
      simp [c0]

/-- there is room for what one word adds -/
theorem Uni.room {o s0 s : List Nat} {shift p : Nat} (h : Uni o s0 shift p s) (hx64 : ∀ y ∈ o, y < 18446744073709551616) (hroom : ∀ j, hasW o j = true → shift + j < 64 * s0.length) :
    (o.getD p 0 * 2 ^ (shift % 64) % 18446744073709551616 ≠ 0 → p + shift / 64 < s.length) ∧ (o.getD p 0 / 2 ^ (64 - shift % 64) ≠ 0 → p + shift / 64 + 1 < s.length) := by
  have key : ∀ b, b < 64 → (o.getD p 0).testBit b = true → shift + (64 * p + b) < 64 * s.length := by
    intro b hb ht
    rw [h.len]
    refine hroom _ ?_
    unfold hasW
    rw [show (64 * p + b) / 64 = p by omega, show (64 * p + b) % 64 = b by omega]
    exact ht
  have hx : o.getD p 0 < 18446744073709551616 := getD_lt hx64 p
  have hbig : ∀ k, 64 ≤ k → (o.getD p 0).testBit k = false := fun k hk => Nat.testBit_lt_two_pow (Nat.lt_of_lt_of_le hx (Nat.pow_le_pow_right (by decide) hk : 2 ^ 64 ≤ 2 ^ k))
  constructor
  · intro h0
    obtain ⟨b, hb⟩ := Nat.exists_testBit_of_ne_zero h0
    have hb64 : b < 64 := by
      refine Decidable.byContradiction fun hn => ?_
      have h2 : (o.getD p 0 * 2 ^ (shift % 64) % 18446744073709551616).testBit b = false := Nat.testBit_lt_two_pow (Nat.lt_of_lt_of_le (Nat.mod_lt _ (by decide)) (Nat.pow_le_pow_right (by decide) (by omega) : 2 ^ 64 ≤ 2 ^ b))
      rw [h2] at hb; cases hb
    rw [low_bit _ _ _ hb64] at hb
    simp at hb
    have := key (b - shift % 64) (by omega) hb.2
    omega
  · intro h0
    obtain ⟨b, hb⟩ := Nat.exists_testBit_of_ne_zero h0
    rw [high_bit] at hb
    have hb64 : b + (64 - shift % 64) < 64 := by
      refine Decidable.byContradiction fun hn => ?_
      rw [hbig _ (by omega)] at hb; cases hb
    have := key _ hb64 hb
    omega

/-- what has been united -/
theorem Uni.done {o s0 s : List Nat} {shift n m : Nat} {P Q : Nat → Bool} (h : Uni o s0 shift o.length s) (hs : BitsIs s0 n P) (ho : BitsIs o m Q) (hr : shift + m ≤ n) :
    BitsIs s n (fun j => P j || (decide (shift ≤ j) && decide (j - shift < m) && Q (j - shift))) := by
  refine ⟨h.len.trans hs.len, h.lt, fun j => ?_⟩
  rw [h.has, hs.has, ho.has]
  have hm : m ≤ 64 * o.length := by rw [ho.len]; unfold nw; omega
  by_cases c0 : shift ≤ j
  · by_cases c1 : j - shift < m
    · have c2 : j < n := by omega
      have c3 : j - shift < 64 * o.length := by omega
      simp [c0, c1, c2, c3]
    · simp [c0, c1]
  · simp [c0]

theorem BitsIs.room {o s0 : List Nat} {n m shift : Nat} {P Q : Nat → Bool} (hs : BitsIs s0 n P) (ho : BitsIs o m Q) (hr : shift + m ≤ n) : ∀ j, hasW o j = true → shift + j < 64 * s0.length := by
  intro j hj
  rw [ho.has] at hj
  simp at hj
  rw [hs.len]; unfold nw; omega

/-! What two sets have in common. -/
structure Itc (o s0 : List Nat) (p : Nat) (s : List Nat) : Prop where
  len : s.length = s0.length
  lt : ∀ x ∈ s, x < 18446744073709551616
  has : ∀ j, hasW s j = (hasW s0 j && (decide (64 * p ≤ j) || hasW o j))

theorem Itc.start {o s0 : List Nat} (h : ∀ x ∈ s0, x < 18446744073709551616) : Itc o s0 0 s0 := ⟨rfl, h, fun j => by simp⟩

theorem Itc.step {o s0 s : List Nat} {p : Nat} (h : Itc o s0 p s) (hp : p < s.length) : Itc o s0 (p + 1) (s.set p (s.getD p 0 &&& o.getD p 0)) := by
  refine ⟨by rw [List.length_set]; exact h.len, lt_or_set h.lt (Nat.lt_of_le_of_lt Nat.and_le_left (getD_lt h.lt _)), fun j => ?_⟩
  rw [hasW_and hp, h.has]
  by_cases c : p = j / 64
  · have c1 : 64 * p ≤ j := by omega
    have c2 : ¬ 64 * (p + 1) ≤ j := by omega
    subst c
    have : hasW o j = (o.getD (j / 64) 0).testBit (j % 64) := rfl
    rw [this]
    simp [c1, c2]
  · have : (64 * (p + 1) ≤ j) = (64 * p ≤ j) := by
      apply propext; constructor <;> intro h <;> omega
    simp [c, this]

theorem Itc.done {o s0 s : List Nat} {n : Nat} {P Q : Nat → Bool} (h : Itc o s0 o.length s) (hs : BitsIs s0 n P) (ho : BitsIs o n Q) : BitsIs s n (fun j => P j && Q j) := by
  refine ⟨h.len.trans hs.len, h.lt, fun j => ?_⟩
  rw [h.has, hs.has, ho.has]
  by_cases c1 : j < n
  · have hm : n ≤ 64 * o.length := by rw [ho.len]; unfold nw; omega
    have : ¬ 64 * o.length ≤ j := by omega
    simp [c1, this]
  · simp [c1]

/-! Relations as lists of pairs. -/
def pairsOf (l r : Nat) (R : Nat → Nat → Bool) : List Nat := (List.range l).flatMap fun i => (elems r (R i)).map (i * r + ·)

theorem pairsOf_succ (l r : Nat) (R : Nat → Nat → Bool) : pairsOf (l + 1) r R = pairsOf l r R ++ (elems r (R l)).map (l * r + ·) := by
  unfold pairsOf
  rw [List.range_succ, List.flatMap_append]
  simp

theorem pairsOf_eq (r : Nat) (R : Nat → Nat → Bool) (hr : 0 < r) : ∀ l, pairsOf l r R = (List.range (l * r)).filter (fun p => R (p / r) (p % r)) := by
  intro l
  induction l with
  | zero => simp [pairsOf]
  | succ l ih =>
    rw [pairsOf_succ, ih, Nat.add_one_mul, filter_range_add]
    congr 2
    unfold elems
    refine List.filter_congr fun j hj => ?_
    have hj := List.mem_range.1 hj
    rw [show (l * r + j) / r = l by rw [Nat.mul_comm, Nat.mul_add_div hr, Nat.div_eq_of_lt hj, Nat.add_zero], show (l * r + j) % r = j by rw [Nat.mul_comm, Nat.mul_add_mod, Nat.mod_eq_of_lt hj]]

theorem pairsOf_congr {l r : Nat} {R Q : Nat → Nat → Bool} (h : ∀ i, i < l → ∀ j, j < r → R i j = Q i j) : pairsOf l r R = pairsOf l r Q := by
  unfold pairsOf
  have : ∀ (is : List Nat), (∀ i ∈ is, i < l) → is.flatMap (fun i => (elems r (R i)).map (i * r + ·)) = is.flatMap (fun i => (elems r (Q i)).map (i * r + ·)) := by
    intro is
    induction is with
    | nil => intro _; rfl
    | cons i is ih =>
      intro hi
      rw [List.flatMap_cons, List.flatMap_cons, ih (fun k hk => hi k (List.mem_cons_of_mem _ hk))]
      congr 2
      unfold elems
      exact List.filter_congr fun j hj => h i (hi i List.mem_cons_self) j (List.mem_range.1 hj)
  exact this _ fun i hi => List.mem_range.1 hi

/-- A relation is valid. -/
structure RelOk (L R : Int) (ps : List Int) : Prop where
  left : 1 ≤ L ∧ L ≤ 128
  right : 1 ≤ R ∧ R ≤ 128
  asc : ps.Pairwise (· < ·)
  bnd : ∀ p ∈ ps, 0 ≤ p ∧ p < L * R

/-- what is related -/
def memR (r : Nat) (ps : List Int) (i j : Nat) : Bool := decide (((i * r + j : Nat) : Int) ∈ ps)

theorem sorted_range (n : Nat) : (List.range n).Pairwise (· < ·) := List.pairwise_lt_range

/-- two ascending lists with the same members are the same -/
theorem asc_ext {α : Type} [DecidableEq α] {lt : α → α → Prop} (irr : ∀ a, ¬ lt a a) (asym : ∀ a b, lt a b → ¬ lt b a) : ∀ {xs ys : List α}, xs.Pairwise lt → ys.Pairwise lt → (∀ a, a ∈ xs ↔ a ∈ ys) → xs = ys
  | [], [], _, _, _ => rfl
  | [], y :: ys, _, _, h => by have := (h y).2 List.mem_cons_self; simp at this
  | x :: xs, [], _, _, h => by have := (h x).1 List.mem_cons_self; simp at this
  | x :: xs, y :: ys, hx, hy, h => by
    rw [List.pairwise_cons] at hx hy
    have e : x = y := by
      rcases List.mem_cons.1 ((h x).1 List.mem_cons_self) with e | e
      · exact e
      · rcases List.mem_cons.1 ((h y).2 List.mem_cons_self) with e' | e'
        · exact e'.symm
        · exact (asym _ _ (hx.1 y e') (hy.1 x e)).elim
    subst e
    congr 1
    refine asc_ext irr asym hx.2 hy.2 fun a => ⟨fun ha => ?_, fun ha => ?_⟩
    · rcases List.mem_cons.1 ((h a).1 (List.mem_cons_of_mem _ ha)) with e | e
      · subst e; exact (irr _ (hx.1 _ ha)).elim
      · exact e
    · rcases List.mem_cons.1 ((h a).2 (List.mem_cons_of_mem _ ha)) with e | e
      · subst e; exact (irr _ (hy.1 _ ha)).elim
      · exact e

theorem RelOk.pairs {l r : Nat} {ps : List Int} (h : RelOk l r ps) : ps = (pairsOf l r (memR r ps)).map Int.ofNat := by
  have hr : 0 < r := by have := h.right; omega
  rw [pairsOf_eq r _ hr l]
  refine asc_ext (lt := (· < ·)) (fun a => Int.lt_irrefl a) (fun a b h1 h2 => by omega) h.asc ?_ fun a => ?_
  · rw [List.pairwise_map]
    exact ((sorted_range (l * r)).filter _).imp fun {a b} h => by simpa using h
  · constructor
    · intro ha
      obtain ⟨h1, h2⟩ := h.bnd a ha
      obtain ⟨n, rfl⟩ : ∃ n : Nat, a = n := ⟨a.toNat, by omega⟩
      refine List.mem_map.2 ⟨n, List.mem_filter.2 ⟨List.mem_range.2 (by rw [← Int.natCast_mul] at h2; omega), ?_⟩, rfl⟩
      unfold memR
      rw [show n / r * r + n % r = n from Nat.div_add_mod' n r]
      simpa using ha
    · intro ha
      obtain ⟨n, hn, rfl⟩ := List.mem_map.1 ha
      have := (List.mem_filter.1 hn).2
      unfold memR at this
      rw [show n / r * r + n % r = n from Nat.div_add_mod' n r] at this
      simpa using this

theorem wb_ctz {x : Nat} (h0 : x ≠ 0) (h : x < 18446744073709551616) : wb x = Lib.ctz 64 x :: wb (x &&& (x - 1)) ∧ Lib.ctz 64 x < 64 := by
  obtain ⟨m, hm, hc⟩ := Lib.ctzFrom_spec 64 x (by omega) h
  have e : Lib.ctz 64 x = Lib.ctzFrom 64 x := by unfold Lib.ctz; rw [if_neg h0]
  rw [e]
  exact ⟨wb_step hm hc, hc⟩
end Go.Proofs.YtloecimlimoanaaGreatDoor

/- Bit sets and relations of bit sets in memory. · Relations of bit sets: made, and read. · Relations of bit sets are read. -/
/- Bit sets and relations of bit sets in memory. -/
namespace Go.Proofs.YtloecimlimoanaaGreatDoor
open Go.RowKit Go.ChangeMaps

/-- the words of a set -/
def WV (ws : List Nat) : Array Value := (ws.map fun (x : Nat) => Value.int .u64 x).toArray

theorem WV_at {ws : List Nat} {i : Nat} (h : i < ws.length) : (WV ws)[i]? = some (.int .u64 (ws.getD i 0 : Nat)) := by
  unfold WV
  rw [List.getElem?_toArray, List.getElem?_map, List.getElem?_eq_getElem h, List.getD_eq_getElem?_getD, List.getElem?_eq_getElem h]
  rfl

theorem WV_set (ws : List Nat) (i x : Nat) : (WV ws).setIfInBounds i (.int .u64 (x : Nat)) = WV (ws.set i x) := by
  unfold WV
  rw [List.map_set]
  simp

theorem Blk.of_own {w : World} {B g n : Nat} {e : TypeId} {xs : List Value} (h : w.ownsRow B e 1 (.slice (some ⟨g, 0, none⟩) n n) n xs) : Blk w g e xs.toArray := by
  rcases h.2 with ⟨hv, _⟩ | ⟨g', cap, cur, hv, _, hb, _, _, hs, ht⟩
  · cases hv
  · injection hv with h1 h2 h3
    injection h1 with h1
    injection h1 with h1
    subst h1 h3
    unfold Blk
    rw [hb, ← ht, List.take_of_length_le (by rw [Array.length_toList, hs]; exact Nat.le_refl _)]

theorem info_u64 : (Tryz.prog.info? 63).map (fun i => (i.zero, i.size, i.bytes)) = some (some (.int .u64 0), 1, 8) := by kernel_rfl
theorem info_bits : (Tryz.prog.info? 60).map (fun i => (i.zero, i.size, i.bytes)) = some (some (.slice none 0 0), 1, 24) := by kernel_rfl

theorem nw_int (n : Nat) (h : 1 ≤ n) : ((n : Int) + 64 - 1).tdiv 64 = ((nw n : Nat) : Int) := by
  unfold nw
  rw [Int.tdiv_eq_ediv_of_nonneg (by omega)]
  omega

/-- A set without numbers, in new memory. -/
def NewSet (n : Nat) (w : World) (e : Ending) (w' : World) : Prop :=
  e = .returned (.slice (some ⟨w.heap.size, 0, none⟩) (nw n) (nw n)) ∧ Fr No w w' ∧ Blk w' w.heap.size 63 (WV (List.replicate (nw n) 0))

set_option maxHeartbeats 1000000 in
theorem newBitSet_any (w : World) (n : Nat) (h1 : 1 ≤ n) (h2 : n ≤ 100000) :
    Calls Tryz.prog 71 #[.int .i64 n] w fun e w' => NewSet n w e w' := by
  obtain ⟨i0, hi0, hz0, hz1, hz2⟩ := info_parts info_u64
  have hn : (n : Int) ≤ 100000 := by omega
  have hn1 : (1 : Int) ≤ (n : Int) := by omega
  have hk : nw n ≤ 2000 := by unfold nw; omega
  have hq : ((n : Int) + 64 - 1) / 64 = ((nw n : Nat) : Int) := by unfold nw; omega
  have bnd : i0.bytes * nw n ≤ 281474976710656 := by rw [hz2]; omega
  have bnd2 : nw n ≤ maxLen := by unfold maxLen; omega
  have HB := Lib.hid bnd
  clear bnd
  go_enter Tryz.func71, Tryz.ntmps71
  go_wp2_with (at_make; refine wpList_make_full _ rfl _ _ 60 rfl w.heap.size 63 i0 (.int .u64 0) 1 Tryz.underlying60 hi0 hz0 hz1 .i64 .i64 (((n : Int) + 64 - 1) / 64) (((n : Int) + 64 - 1) / 64) (nw n) (by first | rfl | simp) (by first | rfl | simp) hq hq HB.out bnd2 (Nat.le_refl _) ?_; intro w1 hown hgrow)
  go_ret
  refine ⟨rfl, (Fr.refl No w).grown hgrow (fun k hk => by cases hk), ?_⟩
  have := Blk.of_own hown
  rw [Nat.mul_one] at this
  have e : (madeCells (Value.int .u64 0).cells (nw n)).toList.toArray = WV (List.replicate (nw n) 0) := by
    unfold WV madeCells
    apply Array.ext
    · simp
    · intro i h1 h2
      simp [Value.cells, Nat.mod_one]
  rw [← e]
  exact this

set_option maxHeartbeats 1000000 in
theorem bsHas_any (w : World) (g : Nat) (ws : List Nat) (n k : Nat) (P : Nat → Bool) (hb : Blk w g 63 (WV ws)) (h : BitsIs ws n P) (hk : k < n) (hn : n ≤ 100000) :
    Calls Tryz.prog 27 #[.slice (some ⟨g, 0, none⟩) (nw n) (nw n), .int .i64 k] w fun e w' => e = .returned (.bool (P k)) ∧ w = w' := by
  have hl : k / 64 < ws.length := by rw [h.len]; exact nw_lt hk
  have hc : w.cell? ⟨g, k / 64, none⟩ = some (.int .u64 (ws.getD (k / 64) 0 : Nat)) := (hb.cell _).trans (WV_at hl)
  have hlw : k / 64 < nw n := nw_lt hk
  have hx := getD_lt h.lt (k / 64)
  have hbit := h.bit hk
  generalize ws.getD (k / 64) 0 = x at hc hx hbit
  have hk0 : (k : Int) ≤ 100000 := by omega
  have hI : ((k / 64 : Nat) : Int) < (nw n : Int) := by omega
  clear hb
  go_enter Tryz.func27, Tryz.ntmps27
  go_wp2_with fail
  go_ret
  have e1 : (x : Int) / 2 ^ (k % 64) = ((x / 2 ^ (k % 64) : Nat) : Int) := by rw [Int.natCast_ediv, Int.natCast_pow]; rfl
  have hy : x / 2 ^ (k % 64) < 18446744073709551616 := Nat.lt_of_le_of_lt (Nat.div_le_self _ _) hx
  have e2 : bits BinOp.and IntKind.u64 ((x : Int) / 2 ^ (k % 64)) 1 = ((x / 2 ^ (k % 64) &&& 1 : Nat) : Int) := by
    rw [e1]; exact bits_and_u64_nat _ 1 hy (by decide)
  rw [e2, hbit]
  refine ⟨?_, rfl⟩
  cases P k <;> rfl

/-- what a store into a set leaves -/
def AddP (g : Nat) (n : Nat) (P : Nat → Bool) (w w' : World) : Prop := Fr (One g) w w' ∧ ∃ ws, Blk w' g 63 (WV ws) ∧ BitsIs ws n P

set_option maxRecDepth 100000 in
set_option maxHeartbeats 1000000 in
theorem bsAdd_any (w : World) (g : Nat) (ws : List Nat) (n k : Nat) (P : Nat → Bool) (hb : Blk w g 63 (WV ws)) (h : BitsIs ws n P) (hk : k < n) (hn : n ≤ 100000) :
    Calls Tryz.prog 54 #[.slice (some ⟨g, 0, none⟩) (nw n) (nw n), .int .i64 k] w fun e w' => e = .returned (.tuple #[]) ∧ AddP g n (fun j => P j || decide (j = k)) w w' := by
  have hl : k / 64 < ws.length := by rw [h.len]; exact nw_lt hk
  have hc : w.cell? ⟨g, k / 64, none⟩ = some (.int .u64 (ws.getD (k / 64) 0 : Nat)) := (hb.cell _).trans (WV_at hl)
  have hf : w.frozen? ⟨g, k / 64, none⟩ = false := hb.frozen _
  have hlw : k / 64 < nw n := nw_lt hk
  have hx := getD_lt h.lt (k / 64)
  have hp : 2 ^ (k % 64) < 18446744073709551616 := Nat.pow_lt_pow_right (by decide : 1 < 2) (show k % 64 < 64 by omega)
  have FIN : Hid (AddP g n (fun j => P j || decide (j = k)) w (w.setCell ⟨g, k / 64, none⟩ (.int .u64 ((ws.getD (k / 64) 0 ||| 2 ^ (k % 64) : Nat) : Int))).drew) :=
    ⟨((Fr.refl (One g) w).setCell (p := ⟨g, k / 64, none⟩) (.inl rfl) _).drew, _, by rw [← WV_set]; exact (hb.set_ _ _).drew, h.add hk⟩
  generalize ws.getD (k / 64) 0 = x at hc hx FIN
  have hbit : IntKind.u64.wrap ((2 : Int) ^ (k % 64)) = ((2 ^ (k % 64) : Nat) : Int) := by
    rw [show ((2 : Int) ^ (k % 64)) = ((2 ^ (k % 64) : Nat) : Int) by rw [Int.natCast_pow]; rfl, IntKind.wrap_u64]
    generalize 2 ^ (k % 64) = q at hp ⊢
    omega
  have hor : bits BinOp.or IntKind.u64 (x : Int) ((2 ^ (k % 64) : Nat) : Int) = ((x ||| 2 ^ (k % 64) : Nat) : Int) := bits_or_u64_nat x _ hx hp
  have hk0 : (k : Int) ≤ 100000 := by omega
  have hI : ((k / 64 : Nat) : Int) < (nw n : Int) := by omega
  have HOR := Lib.hid hor
  have HBIT := Lib.hid hbit
  clear hb hbit hor
  go_enter Tryz.func54, Tryz.ntmps54
  go_wp2_with fail
  go_region
  go_wp2
  go_end0
  rw [HBIT.out, HOR.out]
  exact ⟨rfl, FIN.out⟩

set_option maxHeartbeats 1000000 in
theorem sideValid_any (w : World) (n : Int) : Calls Tryz.prog 28 #[.int .i64 n] w fun e w' => e = .returned (.bool (decide (1 ≤ n ∧ n ≤ 128))) ∧ w = w' := by
  by_cases h1 : 1 ≤ n
  · by_cases h2 : n ≤ 128
    · have hd : decide (1 ≤ n ∧ n ≤ 128) = true := by simp [h1, h2]
      rw [hd]
      go_enter Tryz.func28, Tryz.ntmps28
      go_wp2_with fail
      go_ret
      first | exact ⟨rfl, rfl⟩ | exact ⟨ret_bool (by simp; omega), rfl⟩
    · have hd : decide (1 ≤ n ∧ n ≤ 128) = false := by simp [h2]
      rw [hd]
      go_enter Tryz.func28, Tryz.ntmps28
      go_wp2_with fail
      go_ret
      first | exact ⟨rfl, rfl⟩ | exact ⟨ret_bool (by simp; omega), rfl⟩
  · have hd : decide (1 ≤ n ∧ n ≤ 128) = false := by simp [h1]
    rw [hd]
    have h1' : n < 1 := by omega
    go_enter Tryz.func28, Tryz.ntmps28
    go_wp2_with fail
    go_ret
    first | exact ⟨rfl, rfl⟩ | exact ⟨ret_bool (by simp; omega), rfl⟩

/-! Rows of sets. -/
/-- the row of the rows, so far -/
def RA (gs : Nat → Nat) (l r j : Nat) : Array Value := ((List.range l).map fun i => if i < j then Value.slice (some ⟨gs i, 0, none⟩) (nw r) (nw r) else .slice none 0 0).toArray

theorem RA_at {gs : Nat → Nat} {l r j i : Nat} (h : i < l) : (RA gs l r j)[i]? = some (if i < j then Value.slice (some ⟨gs i, 0, none⟩) (nw r) (nw r) else .slice none 0 0) := by
  unfold RA
  rw [List.getElem?_toArray, List.getElem?_map, List.getElem?_range h]
  rfl

theorem RA_set (gs : Nat → Nat) (l r j g : Nat) (h : j < l) : (RA gs l r j).setIfInBounds j (.slice (some ⟨g, 0, none⟩) (nw r) (nw r)) = RA (fun i => if i = j then g else gs i) l r (j + 1) := by
  unfold RA
  apply Array.ext
  · simp
  · intro i h1 h2
    simp at h1 h2
    by_cases e : i = j
    · subst e; simp
    · simp only [List.setIfInBounds_toArray, List.getElem_toArray]
      rw [List.getElem_set_ne (fun h => e h.symm)]
      simp only [List.getElem_map, List.getElem_range]
      by_cases c : i < j
      · rw [if_pos c, if_pos (by omega), if_neg e]
      · rw [if_neg c, if_neg (by omega)]

structure RowsTo (w : World) (Rb l r j B : Nat) (gs : Nat → Nat) (R : Nat → Nat → Bool) : Prop where
  rows : Blk w Rb 60 (RA gs l r j)
  low : B ≤ Rb
  each : ∀ i, i < j → B ≤ gs i ∧ ∃ ws, Blk w (gs i) 63 (WV ws) ∧ BitsIs ws r (R i)
  inj : ∀ i i', i < j → i' < j → gs i = gs i' → i = i'

theorem RowsTo.fr {w w' : World} {Rb l r j B : Nat} {gs : Nat → Nat} {R : Nat → Nat → Bool} {T : Nat → Prop} (h : RowsTo w Rb l r j B gs R) (hf : Fr T w w') (hT : ∀ b, T b → b < B) : RowsTo w' Rb l r j B gs R :=
  ⟨h.rows.fr hf (fun t => by have := hT _ t; have := h.low; omega), h.low, fun i hi => ⟨(h.each i hi).1, by
    obtain ⟨ws, h1, h2⟩ := (h.each i hi).2
    exact ⟨ws, h1.fr hf (fun t => by have := hT _ t; have := (h.each i hi).1; omega), h2⟩⟩, h.inj⟩

theorem RowsTo.base {w : World} {Rb l r j B B' : Nat} {gs : Nat → Nat} {R : Nat → Nat → Bool} (h : RowsTo w Rb l r j B gs R) (hB : B' ≤ B) : RowsTo w Rb l r j B' gs R :=
  ⟨h.rows, Nat.le_trans hB h.low, fun i hi => ⟨Nat.le_trans hB (h.each i hi).1, (h.each i hi).2⟩, h.inj⟩

/-- one row more -/
theorem RowsTo.more {w w1 w2 : World} {Rb l r j B g : Nat} {gs : Nat → Nat} {R : Nat → Nat → Bool} {ws : List Nat} (h : RowsTo w Rb l r j B gs R) (hj : j < l) (hf : Fr No w w1) (hg : w.heap.size ≤ g) (hB : B ≤ w.heap.size) (hb : Blk w1 g 63 (WV ws)) (hw : BitsIs ws r (R j))
    (h2 : w2 = w1.setCell ⟨Rb, j, none⟩ (.slice (some ⟨g, 0, none⟩) (nw r) (nw r))) : RowsTo w2 Rb l r (j + 1) B (fun i => if i = j then g else gs i) R := by
  subst h2
  have h1 := h.fr hf (fun b hb => hb.elim)
  have hRb := h.rows.lt
  have ne : ∀ k ws', Blk w1 k 63 (WV ws') → k ≠ Rb := by
    rintro k ws' hk rfl
    have := (hk.eq h1.rows).1
    exact absurd this (by decide)
  refine ⟨?_, h.low, ?_, ?_⟩
  · rw [← RA_set _ _ _ _ _ hj]; exact h1.rows.set_ _ _
  · intro i hi
    by_cases e : i = j
    · subst e
      simp only [if_true]
      exact ⟨by omega, ws, hb.far (p := ⟨Rb, i, none⟩) (ne _ _ hb) _, hw⟩
    · simp only [e, if_false]
      obtain ⟨h3, ws', h4, h5⟩ := h1.each i (by omega)
      exact ⟨h3, ws', h4.far (p := ⟨Rb, j, none⟩) (ne _ _ h4) _, h5⟩
  · intro i i' hi hi' e
    have old : ∀ k, k < j → gs k ≠ g := by
      intro k hk e
      obtain ⟨_, ws', h4, _⟩ := h.each k hk
      have := h4.lt
      omega
    by_cases e1 : i = j <;> by_cases e2 : i' = j
    · omega
    · simp only [e1, e2, if_true, if_false] at e; exact (old i' (by omega) e.symm).elim
    · simp only [e1, e2, if_true, if_false] at e; exact (old i (by omega) e).elim
    · simp only [e1, e2, if_false] at e; exact h.inj i i' (by omega) (by omega) e

/-- a relation of bit sets at b -/
structure RelAt (w : World) (b l r B : Nat) (R : Nat → Nat → Bool) : Prop where
  low : B ≤ b
  rel : ∃ (Rb : Nat) (gs : Nat → Nat), Blk w b 67 #[.int .i64 r, .slice (some ⟨Rb, 0, none⟩) l l] ∧ RowsTo w Rb l r l B gs R

theorem RelAt.fr {w w' : World} {b l r B : Nat} {R : Nat → Nat → Bool} {T : Nat → Prop} (h : RelAt w b l r B R) (hf : Fr T w w') (hT : ∀ b, T b → b < B) : RelAt w' b l r B R := by
  obtain ⟨h0, Rb, gs, h1, h2⟩ := h
  exact ⟨h0, Rb, gs, h1.fr hf (fun t => by have := hT _ t; omega), h2.fr hf hT⟩

theorem RelAt.congr {w : World} {b l r B : Nat} {R Q : Nat → Nat → Bool} (h : RelAt w b l r B R) (hq : ∀ i, i < l → ∀ j, j < r → R i j = Q i j) : RelAt w b l r B Q := by
  obtain ⟨h0, Rb, gs, h1, h2⟩ := h
  refine ⟨h0, Rb, gs, h1, h2.rows, h2.low, fun i hi => ?_, h2.inj⟩
  obtain ⟨h3, ws, h4, h5⟩ := h2.each i hi
  exact ⟨h3, ws, h4, h5.congr (hq i hi)⟩

def NewRel (l r : Nat) (w : World) (e : Ending) (w' : World) : Prop := ∃ b, e = .returned (Ptr b) ∧ Fr No w w' ∧ RelAt w' b l r w.heap.size (fun _ _ => false)
end Go.Proofs.YtloecimlimoanaaGreatDoor

/- Relations of bit sets: made, and read. -/
namespace Go.Proofs.YtloecimlimoanaaGreatDoor
open Go.RowKit Go.ChangeMaps

theorem RA_zero (gs : Nat → Nat) (l r : Nat) : (madeCells (Value.slice none 0 0).cells l).toList.toArray = RA gs l r 0 := by
  unfold RA madeCells
  apply Array.ext
  · simp
  · intro i h1 h2
    simp [Value.cells, Nat.mod_one]

set_option maxRecDepth 100000 in
set_option maxHeartbeats 1000000 in
theorem newBitRelation_any (w : World) (l r : Nat) (hl : l ≤ 100000) (hr1 : 1 ≤ r) (hr : r ≤ 100000) :
    Calls Tryz.prog 53 #[.int .i64 l, .int .i64 r] w fun e w' => NewRel l r w e w' := by
  obtain ⟨i0, hi0, hz0, hz1, hz2⟩ := info_parts info_bits
  have hlI : (l : Int) ≤ 100000 := by omega
  have bnd : i0.bytes * l ≤ 281474976710656 := by rw [hz2]; omega
  have bnd2 : l ≤ maxLen := by unfold maxLen; omega
  have HB := Lib.hid bnd
  clear bnd
  go_enter Tryz.func53, Tryz.ntmps53
  go_wp2_with (at_make; refine wpList_make_full _ rfl _ _ 55 rfl w.heap.size 60 i0 (.slice none 0 0) 1 Tryz.underlying55 hi0 hz0 hz1 .i64 .i64 l l l rfl rfl rfl rfl HB.out bnd2 (Nat.le_refl _) ?_; intro w1 hown hgrow)
  have hb1 : Blk w1 w.heap.size 60 (RA (fun _ => 0) l r 0) := by
    have h := Blk.of_own hown
    rw [Nat.mul_one, RA_zero (fun _ => 0) l r] at h
    exact h
  have hf1 : Fr No w w1 := (Fr.refl No w).grown hgrow (fun k hk => by cases hk)
  have HS : Hid (w.heap.size < w1.heap.size) := hb1.lt
  have HF1 := Lib.hid hf1
  generalize hb : w1.heap.size = b at *
  have HBE := Lib.hid hb
  have bx := Blk.new_at w1 67 #[.int .i64 r, .slice (some ⟨w.heap.size, 0, none⟩) l l] HBE.out.symm
  have hr1' := hb1.alloc (.cells #[.int .i64 r, .slice (some ⟨w.heap.size, 0, none⟩) l l] 67)
  have hfr := hf1.alloc (.cells #[.int .i64 r, .slice (some ⟨w.heap.size, 0, none⟩) l l] 67)
  have HX := Lib.hid bx
  have HR := Lib.hid hr1'
  have HFR := Lib.hid hfr
  clear hown hgrow hb1 hf1 hb bx hr1' hfr
  generalize w1.alloc (.cells #[.int .i64 r, .slice (some ⟨w.heap.size, 0, none⟩) l l] 67) = w2 at *
  have NEW : Hid (∀ W, Calls Tryz.prog 71 #[.int .i64 r] W fun e w' => NewSet r W e w') := fun W => newBitSet_any W r hr1 hr
  go_loopw [17] (fun u wr => ∃ j : Nat, j ≤ l ∧ u = .int .i64 j ∧ Fr No w wr ∧ Blk wr b 67 #[.int .i64 r, .slice (some ⟨w.heap.size, 0, none⟩) l l] ∧ ∃ gs, RowsTo wr w.heap.size l r j w.heap.size gs (fun _ _ => false)) (fun u _ => l - (intOf u).toNat)
  case atStart => exact ⟨0, Nat.zero_le _, rfl, HFR.out, HX.out, _, HR.out, Nat.le_refl _, fun i hi => by omega, fun i i' hi => by omega⟩
  case round =>
    obtain ⟨j, hj, rfl, hfr, hbx, gs, hrows⟩ := hrel
    by_cases hlt : j < l
    · have c1 : wr.cell? ⟨b, 1, none⟩ = some (.slice (some ⟨w.heap.size, 0, none⟩) l l) := (hbx.cell 1).trans rfl
      have CELL : Hid (∀ w', Fr No wr w' → w'.cell? ⟨b, 1, none⟩ = some (.slice (some ⟨w.heap.size, 0, none⟩) l l) ∧ w'.cell? ⟨w.heap.size, j, none⟩ = some (.slice none 0 0) ∧ w'.frozen? ⟨w.heap.size, j, none⟩ = false) := fun w' hf =>
        ⟨((hbx.fr hf (fun h => h)).cell 1).trans rfl, by rw [(hrows.rows.fr hf (fun h => h)).cell j, RA_at hlt, if_neg (Nat.lt_irrefl j)], (hrows.rows.fr hf (fun h => h)).frozen j⟩
      have FIN : Hid (∀ w', NewSet r wr.drew (.returned (.slice (some ⟨wr.heap.size, 0, none⟩) (nw r) (nw r))) w' → Fr No w (w'.setCell ⟨w.heap.size, j, none⟩ (.slice (some ⟨wr.heap.size, 0, none⟩) (nw r) (nw r))) ∧ Blk (w'.setCell ⟨w.heap.size, j, none⟩ (.slice (some ⟨wr.heap.size, 0, none⟩) (nw r) (nw r))) b 67 #[.int .i64 r, .slice (some ⟨w.heap.size, 0, none⟩) l l] ∧ ∃ gs, RowsTo (w'.setCell ⟨w.heap.size, j, none⟩ (.slice (some ⟨wr.heap.size, 0, none⟩) (nw r) (nw r))) w.heap.size l r (j + 1) w.heap.size gs (fun _ _ => false)) := by
        intro w' hn
        obtain ⟨_, hf, hb⟩ := hn
        have hf' : Fr No wr w' := (Fr.refl No wr).drew.trans hf
        exact ⟨(hfr.trans hf').setCell (p := ⟨w.heap.size, j, none⟩) (.inr (Nat.le_refl _)) _, (hbx.fr hf' (fun h => h)).far (p := ⟨w.heap.size, j, none⟩) (by have := HS.out; show b ≠ w.heap.size; omega) _, _, hrows.more hlt hf' (Nat.le_refl _) hfr.size hb (BitsIs.new r) rfl⟩
      have nb : b ≠ w.heap.size := by have := HS.out; omega
      have nb' : w.heap.size ≠ b := by have := HS.out; omega
      clear hfr hbx hrows HX HR HFR
      go_wp2_with fail
      go_region_held3 (fun w' => w'.cell? ⟨b, 1, none⟩ = some (.slice (some ⟨w.heap.size, 0, none⟩) l l)) (go_keep)
        (first | (go_at_call 71; (with_reducible refine (NEW.out _).mono ?_); rintro e w3 hnew; have he := hnew.1; subst he; have HN := Lib.hid hnew; have d0 := CELL.out w3 ((Fr.refl No wr).drew.trans hnew.2.1); obtain ⟨d1, d2, d3⟩ := d0; clear hnew))
      have HFIN := Lib.hid (FIN.out _ HN.out)
      clear HN FIN CELL
      go_wp2_with fail
      go_roundw
      case rel => exact ⟨j + 1, by omega, by go_num, HFIN.out.1, HFIN.out.2.1, HFIN.out.2.2⟩
      case measure => simp [intOf]; omega
    · have hjl : j = l := by omega
      subst hjl
      have HE : Hid (NewRel j r w (.returned (Ptr b)) wr) := ⟨b, rfl, hfr, Nat.le_of_lt HS.out, _, gs, hbx, hrows⟩
      clear hfr hbx hrows HX HR HFR
      go_wp2
      go_ret
      exact HE.out

/-- what is read: a relation of bit sets, or nil -/
def ReadR (L R : Int) (ps : List Int) (w : World) (e : Ending) (w' : World) : Prop :=
  Fr No w w' ∧ ((∃ (l r b : Nat), L = l ∧ R = r ∧ RelOk L R ps ∧ e = .returned (Ptr b) ∧ RelAt w' b l r w.heap.size (memR r ps)) ∨ (¬ RelOk L R ps ∧ e = .returned (.pointer none)))

/-- the value of a relation -/
abbrev RV (L R : Int) (A : Option Addr) (n c : Nat) : Value := .agg #[.int .i64 L, .int .i64 R, .slice A n c]

/-- pairs so far are fine -/
structure OkTo (L R : Int) (ps : List Int) (j : Nat) (last : Int) : Prop where
  asc : (ps.take j).Pairwise (· < ·)
  bnd : ∀ p ∈ ps.take j, 0 ≤ p ∧ p < L * R ∧ p ≤ last
  lst : (j = 0 ∧ last = -1) ∨ (0 < j ∧ ps[j - 1]? = some last)
  low : -1 ≤ last

theorem OkTo.start (L R : Int) (ps : List Int) : OkTo L R ps 0 (-1) := ⟨by simp, by simp, .inl ⟨rfl, rfl⟩, by omega⟩

theorem OkTo.more {L R : Int} {ps : List Int} {j : Nat} {last z : Int} (h : OkTo L R ps j last) (hz : ps[j]? = some z) (h1 : last < z) (h2 : z < L * R) : OkTo L R ps (j + 1) z := by
  have e : ps.take (j + 1) = ps.take j ++ [z] := by rw [List.take_add_one, hz]; rfl
  have := h.low
  refine ⟨?_, ?_, .inr ⟨by omega, hz⟩, by omega⟩
  · rw [e, List.pairwise_append]
    refine ⟨h.asc, by simp, fun a ha b hb => ?_⟩
    have := (h.bnd a ha).2.2
    have := List.mem_singleton.1 hb
    omega
  · intro p hp
    rw [e] at hp
    rcases List.mem_append.1 hp with hp | hp
    · have := h.bnd p hp; omega
    · have := List.mem_singleton.1 hp; omega

theorem OkTo.bad {L R : Int} {ps : List Int} {j : Nat} {last z : Int} (h : OkTo L R ps j last) (hz : ps[j]? = some z) (h1 : z ≤ last ∨ L * R ≤ z) : ¬ RelOk L R ps := by
  intro ok
  have hb := ok.bnd z (List.mem_of_getElem? hz)
  rcases h1 with h1 | h1
  · rcases h.lst with ⟨rfl, rfl⟩ | ⟨h0, hl⟩
    · omega
    · have hlt : j < ps.length := (List.getElem?_eq_some_iff.1 hz).1
      have h3 := List.pairwise_iff_getElem.1 ok.asc (j - 1) j (by omega) hlt (by omega)
      rw [List.getElem?_eq_getElem (by omega)] at hl hz
      injection hl with hl
      injection hz with hz
      omega
  · omega

theorem OkTo.done {L R : Int} {ps : List Int} {last : Int} (h : OkTo L R ps ps.length last) (hL : 1 ≤ L ∧ L ≤ 128) (hR : 1 ≤ R ∧ R ≤ 128) : RelOk L R ps := by
  have h1 := h.asc
  have h2 := h.bnd
  rw [List.take_length] at h1 h2
  exact ⟨hL, hR, h1, fun p hp => ⟨(h2 p hp).1, (h2 p hp).2.1⟩⟩

theorem memR_nil (r : Nat) : memR r [] = fun _ _ => false := by
  funext i j; simp [memR]

/-- one pair more -/
theorem memR_more {r : Nat} {ps : List Int} {z j : Nat} (hz : ps[j]? = some (z : Int)) (i k : Nat) (hk : k < r) : memR r (ps.take (j + 1)) i k = (memR r (ps.take j) i k || (decide (i = z / r) && decide (k = z % r))) := by
  have e : ps.take (j + 1) = ps.take j ++ [(z : Int)] := by rw [List.take_add_one, hz]; rfl
  have hr : 0 < r := by omega
  unfold memR
  rw [e]
  have : (((i * r + k : Nat) : Int) ∈ ps.take j ++ [(z : Int)]) ↔ (((i * r + k : Nat) : Int) ∈ ps.take j ∨ (i = z / r ∧ k = z % r)) := by
    rw [List.mem_append, List.mem_singleton]
    constructor
    · rintro (h | h)
      · exact .inl h
      · right
        have h : i * r + k = z := by omega
        rw [← h, Nat.mul_comm, Nat.mul_add_div hr, Nat.div_eq_of_lt hk, Nat.mul_add_mod, Nat.mod_eq_of_lt hk]
        omega
    · rintro (h | ⟨h1, h2⟩)
      · exact .inl h
      · right
        rw [h1, h2, Nat.div_add_mod']
  rw [← Bool.decide_and, ← Bool.decide_or]
  exact decide_eq_decide.2 this

/-- what an addition does to a relation -/
theorem RelAt.add {w w' : World} {b l r B : Nat} {R : Nat → Nat → Bool} {Rb : Nat} {gs : Nat → Nat} (h0 : B ≤ b) (h1 : Blk w b 67 #[.int .i64 r, .slice (some ⟨Rb, 0, none⟩) l l]) (h2 : RowsTo w Rb l r l B gs R) {i k : Nat} (hi : i < l)
    (ha : AddP (gs i) r (fun j => R i j || decide (j = k)) w w') : RelAt w' b l r B (fun i' j => R i' j || (decide (i' = i) && decide (j = k))) := by
  obtain ⟨hf, ws, hw, hbits⟩ := ha
  obtain ⟨_, ws0, hw0, _⟩ := h2.each i hi
  have n1 : ¬ One (gs i) b := fun e => by
    have e : b = gs i := e
    subst e
    exact absurd (h1.eq hw0).1 (by decide)
  have n2 : ¬ One (gs i) Rb := fun e => by
    have e : Rb = gs i := e
    subst e
    exact absurd (h2.rows.eq hw0).1 (by decide)
  refine ⟨h0, Rb, gs, h1.fr hf n1, h2.rows.fr hf n2, h2.low, fun i' hi' => ?_, h2.inj⟩
  obtain ⟨h3, ws', h4, h5⟩ := h2.each i' hi'
  by_cases e : i' = i
  · subst e
    exact ⟨h3, ws, hw, hbits.congr (fun j _ => by simp)⟩
  · exact ⟨h3, ws', h4.fr hf (fun h => e (h2.inj i' i hi' hi h)), h5.congr (fun j _ => by simp [e])⟩
end Go.Proofs.YtloecimlimoanaaGreatDoor

/- Relations of bit sets are read. -/
namespace Go.Proofs.YtloecimlimoanaaGreatDoor
open Go.RowKit Go.ChangeMaps

set_option maxRecDepth 100000 in
set_option maxHeartbeats 2000000 in
theorem readRelation_any (w : World) (L R : Int) (A : Option Addr) (c : Nat) (ps : List Int) (hp : ISl w A ps) (hn : ps.length ≤ 2000000) :
    Calls Tryz.prog 31 #[RV L R A ps.length c] w fun e w' => ReadR L R ps w e w' := by
  have SV : Hid (∀ (W : World) (n : Int), Calls Tryz.prog 28 #[.int .i64 n] W fun e w' => e = .returned (.bool (decide (1 ≤ n ∧ n ≤ 128))) ∧ W = w') := fun W n => sideValid_any W n
  have HP := Lib.hid hp
  have HN := Lib.hid hn
  clear hp
  have hnI : (ps.length : Int) ≤ 2000000 := by omega
  have HFB : Hid (Fr No w (w.alloc (.cells #[.int .i64 L, .int .i64 R, .slice A ps.length c] 27))) := (Fr.refl No w).alloc _
  by_cases hL : 1 ≤ L ∧ L ≤ 128
  · have hLd : decide (1 ≤ L ∧ L ≤ 128) = true := by simpa using hL
    have HLD := Lib.hid hLd
    by_cases hR : 1 ≤ R ∧ R ≤ 128
    · have hRd : decide (1 ≤ R ∧ R ≤ 128) = true := by simpa using hR
      have HRD := Lib.hid hRd
      obtain ⟨l, rfl⟩ : ∃ l : Nat, L = l := ⟨L.toNat, by omega⟩
      obtain ⟨r, rfl⟩ : ∃ r : Nat, R = r := ⟨R.toNat, by omega⟩
      have HLL := Lib.hid hL
      have HRR := Lib.hid hR
      have hl1 : 1 ≤ l := by omega
      have hl2 : l ≤ 128 := by omega
      have hr1 : 1 ≤ r := by omega
      have hr2 : r ≤ 128 := by omega
      have NEW : Hid (∀ W : World, Calls Tryz.prog 53 #[.int .i64 l, .int .i64 r] W fun e w' => NewRel l r W e w') := fun W => newBitRelation_any W l r (by omega) hr1 (by omega)
      clear hLd hRd hL hR
      go_enter Tryz.func31, Tryz.ntmps31
      go_wp2_with fail
      refine (SV.out _ _).mono ?_
      rintro e W ⟨rfl, rfl⟩
      rw [HLD.out]
      go_wp2_with fail
      refine (SV.out _ _).mono ?_
      rintro e W ⟨rfl, rfl⟩
      rw [HRD.out]
      go_wp2_with fail
      refine (NEW.out _).mono ?_
      rintro e w1 ⟨b, rfl, hf1, hrel⟩
      have hB1 : (w.alloc (.cells #[.int .i64 (l : Int), .int .i64 (r : Int), .slice A ps.length c] 27)).heap.size = w.heap.size + 1 := by simp
      have hrel' : RelAt w1 b l r (w.heap.size + 1) (fun _ _ => false) := by rw [← hB1]; exact hrel
      have hbx : Blk w1 w.heap.size 27 #[.int .i64 (l : Int), .int .i64 (r : Int), .slice A ps.length c] := (Blk.new w _ _).fr hf1 (fun h => h)
      have hfr1 : Fr No w w1 := HFB.out.trans hf1
      have c2 : w1.cell? ⟨w.heap.size, 2, none⟩ = some (.slice A ps.length c) := (hbx.cell 2).trans rfl
      have HX := Lib.hid hbx
      have HF1 := Lib.hid hfr1
      have HR1 := Lib.hid hrel'
      clear hB1 hrel hrel' hbx hfr1 hf1 HFB NEW SV hn
      go_wp2_with fail
      go_loopw [4, 25] (fun v u wr => ∃ (j : Nat) (last : Int), j ≤ ps.length ∧ u = .int .i64 j ∧ v = .int .i64 last ∧ OkTo l r ps j last ∧ Fr No w wr ∧ Blk wr w.heap.size 27 #[.int .i64 (l : Int), .int .i64 (r : Int), .slice A ps.length c] ∧ RelAt wr b l r (w.heap.size + 1) (memR r (ps.take j))) (fun _ u _ => ps.length - (intOf u).toNat)
      case atStart => exact ⟨0, -1, Nat.zero_le _, rfl, rfl, OkTo.start _ _ _, HF1.out, HX.out, by rw [List.take_zero, memR_nil]; exact HR1.out⟩
      case round =>
        obtain ⟨j, last, hj, rfl, rfl, hok, hfr, hbx, hrel⟩ := hrel
        have HOK := Lib.hid hok
        have HFR := Lib.hid hfr
        have HBX := Lib.hid hbx
        have HREL := Lib.hid hrel
        have d0 : wr.cell? ⟨w.heap.size, 0, none⟩ = some (.int .i64 l) := (hbx.cell 0).trans rfl
        have d1 : wr.cell? ⟨w.heap.size, 1, none⟩ = some (.int .i64 r) := (hbx.cell 1).trans rfl
        clear hok hfr hbx hrel HX HF1 HR1 c2
        by_cases hlt : j < ps.length
        · obtain ⟨z, hzj⟩ : ∃ z, ps[j]? = some z := ⟨_, List.getElem?_eq_getElem hlt⟩
          obtain ⟨g, o, rfl, hc0⟩ := HP.out j z hzj
          have hc : wr.cell? ⟨g, o + j, none⟩ = some (.int .i64 z) := (HFR.out.cell (p := ⟨g, o + j, none⟩) (block_lt hc0) (fun h => h)).trans hc0
          have HZJ := Lib.hid hzj
          clear hc0 hzj
          have hm0 : 0 ≤ (l : Int) * (r : Int) := Int.mul_nonneg (by omega) (by omega)
          have hm1 : (l : Int) * (r : Int) ≤ 16384 := by
            have := Nat.mul_le_mul hl2 hr2
            rw [← Int.natCast_mul]; omega
          by_cases hle : z ≤ last
          · have HBAD : Hid (ReadR l r ps w (.returned (.pointer none)) wr) := ⟨HFR.out, .inr ⟨HOK.out.bad HZJ.out (.inl hle), rfl⟩⟩
            go_wp2_with fail
            go_ret
            exact HBAD.out
          · have hle' : last < z := by omega
            have hld : decide (z ≤ last) = false := by simpa using hle'
            clear hle
            by_cases hge : (l : Int) * (r : Int) ≤ z
            · have HBAD : Hid (ReadR l r ps w (.returned (.pointer none)) wr) := ⟨HFR.out, .inr ⟨HOK.out.bad HZJ.out (.inr hge), rfl⟩⟩
              go_wp2_with fail
              go_ret
              exact HBAD.out
            · have hge' : z < (l : Int) * (r : Int) := by omega
              have hgd : decide ((l : Int) * (r : Int) ≤ z) = false := by simpa using hge'
              clear hge
              obtain ⟨m, rfl⟩ : ∃ m : Nat, z = m := ⟨z.toNat, by have := HOK.out.low; omega⟩
              have hml : m < l * r := by rw [← Int.natCast_mul] at hge'; omega
              obtain ⟨q, hq⟩ : ∃ q, q = m / r := ⟨_, rfl⟩
              obtain ⟨k, hk⟩ : ∃ k, k = m % r := ⟨_, rfl⟩
              have m1 : (m : Int).tdiv (r : Int) = (q : Int) := by rw [hq]; rfl
              have m2 : (m : Int).tmod (r : Int) = (k : Int) := by rw [hk]; rfl
              have hq1 : q < l := by rw [hq]; exact Nat.div_lt_of_lt_mul (by rw [Nat.mul_comm]; exact hml)
              have hq2 : k < r := by rw [hk]; exact Nat.mod_lt _ (by omega)
              have HQ := Lib.hid hq
              have HK := Lib.hid hk
              clear hq hk
              have a1 : IntKind.i64.wrap (q : Int) = (q : Int) := IntWalk.i64_in _ (by omega)
              have a2 : IntKind.i64.wrap (k : Int) = (k : Int) := IntWalk.i64_in _ (by omega)
              have hmb : m < 16384 := by omega
              obtain ⟨hB, Rb, gs, hbb, hrows⟩ := HREL.out
              obtain ⟨hlo, ws, hws, hbits⟩ := hrows.each _ hq1
              have ADD : Hid (∀ W, Fr No wr W → Calls Tryz.prog 54 #[.slice (some ⟨gs (q), 0, none⟩) (nw r) (nw r), .int .i64 ((k : Nat) : Int)] W fun e w' => e = .returned (.tuple #[]) ∧ AddP (gs (q)) r (fun j' => memR r (ps.take j) (q) j' || decide (j' = k)) W w') :=
                fun W hf => bsAdd_any W _ ws r (k) _ (hws.fr hf (fun h => h)) hbits hq2 (by omega)
              have e1 : wr.cell? ⟨b, 1, none⟩ = some (.slice (some ⟨Rb, 0, none⟩) l l) := (hbb.cell 1).trans rfl
              have e2 : wr.cell? ⟨Rb, q, none⟩ = some (.slice (some ⟨gs (q), 0, none⟩) (nw r) (nw r)) := by rw [hrows.rows.cell, RA_at hq1, if_pos hq1]
              have KEEP : Hid (∀ w', AddP (gs (q)) r (fun j' => memR r (ps.take j) (q) j' || decide (j' = k)) wr.drew w' → w'.cell? ⟨w.heap.size, 1, none⟩ = some (.int .i64 r) ∧ w'.cell? ⟨b, 1, none⟩ = some (.slice (some ⟨Rb, 0, none⟩) l l) ∧ w'.cell? ⟨Rb, q, none⟩ = some (.slice (some ⟨gs (q), 0, none⟩) (nw r) (nw r)) ∧ Fr No w w' ∧ Blk w' w.heap.size 27 #[.int .i64 (l : Int), .int .i64 (r : Int), .slice (some ⟨g, o, none⟩) ps.length c] ∧ RelAt w' b l r (w.heap.size + 1) (memR r (ps.take (j + 1)))) := by
                intro w' ha
                have hf : Fr (One (gs (q))) wr w' := ((Fr.refl _ wr).drew).trans ha.1
                have hx' : Blk w' w.heap.size 27 #[.int .i64 (l : Int), .int .i64 (r : Int), .slice (some ⟨g, o, none⟩) ps.length c] := HBX.out.fr hf (fun h => by have h : w.heap.size = gs (q) := h; omega)
                have nb : ¬ One (gs (q)) b := fun e => by
                  have e : b = gs (q) := e
                  subst e
                  exact absurd (hbb.eq hws).1 (by decide)
                have nR : ¬ One (gs (q)) Rb := fun e => by
                  have e : Rb = gs (q) := e
                  subst e
                  exact absurd (hrows.rows.eq hws).1 (by decide)
                refine ⟨(hx'.cell 1).trans rfl, ((hbb.fr hf nb).cell 1).trans rfl, by rw [(hrows.rows.fr hf nR).cell, RA_at hq1, if_pos hq1], ?_, hx', ?_⟩
                · refine HFR.out.then_ hf fun i hi hT => ?_
                  have hT : i = gs (q) := hT
                  omega
                · exact (RelAt.add hB hbb hrows hq1 ⟨hf, ha.2⟩).congr (fun i _ k' hk' => by rw [memR_more HZJ.out i k' hk', ← HQ.out, ← HK.out])
              have hr0 : ((r : Int) == 0) = false := beq_eq_false_iff_ne.2 (by omega)
              have hrn : ¬ r = 0 := by omega
              have hIx : ((q : Nat) : Int) < (l : Int) := by omega
              have hIx0 : (0 : Int) ≤ ((q : Nat) : Int) := by omega
              clear hbb hrows hlo hws hbits hB
              go_wp2_with fail
              have hWd : Fr No wr wr.drew := (Fr.refl _ _).drew
              go_region_held3 (fun w' => w'.cell? ⟨w.heap.size, 1, none⟩ = some (.int .i64 r) ∧ w'.cell? ⟨b, 1, none⟩ = some (.slice (some ⟨Rb, 0, none⟩) l l) ∧ w'.cell? ⟨Rb, q, none⟩ = some (.slice (some ⟨gs q, 0, none⟩) (nw r) (nw r))) (go_keep)
                (first | (go_at_call 54; ((with_reducible refine (ADD.out _ hWd).mono ?_); rintro e w3 ⟨rfl, hadd⟩; have hkp := KEEP.out w3 hadd; have HKP := Lib.hid hkp; obtain ⟨k1, k2, k3, _, _, _⟩ := hkp)))
              clear KEEP ADD HREL
              go_wp2_with fail
              go_roundw
              case rel => exact ⟨j + 1, m, by omega, by go_num, rfl, HOK.out.more HZJ.out hle' hge', HKP.out.2.2.2⟩
              case measure => simp [intOf]; omega
        · have hjl : j = ps.length := by omega
          have HE : Hid (ReadR l r ps w (.returned (Ptr b)) wr) := by
            refine ⟨HFR.out, .inl ⟨l, r, b, rfl, rfl, ?_, rfl, ?_⟩⟩
            · have := HOK.out
              rw [hjl] at this
              exact this.done HLL.out HRR.out
            · have h := HREL.out
              rw [hjl, List.take_length] at h
              obtain ⟨hB, Rb, gs, h1, h2⟩ := h
              exact ⟨by omega, Rb, gs, h1, h2.base (by omega)⟩
          clear HREL HOK HBX
          have hnlt : ¬ (j : Int) < (ps.length : Int) := by omega
          go_wp2_with fail
          go_ret
          exact HE.out
    · have hRd : decide (1 ≤ R ∧ R ≤ 128) = false := by simpa using hR
      have HRD := Lib.hid hRd
      have HE : Hid (ReadR L R ps w (.returned (.pointer none)) (w.alloc (.cells #[.int .i64 L, .int .i64 R, .slice A ps.length c] 27))) := ⟨HFB.out, .inr ⟨fun h => hR h.right, rfl⟩⟩
      clear hR hRd HP HFB hL hLd
      go_enter Tryz.func31, Tryz.ntmps31
      go_wp2_with fail
      refine (SV.out _ _).mono ?_
      rintro e W ⟨rfl, rfl⟩
      rw [HLD.out]
      go_wp2_with fail
      refine (SV.out _ _).mono ?_
      rintro e W ⟨rfl, rfl⟩
      rw [HRD.out]
      go_wp2_with fail
      go_ret
      exact HE.out
  · have hLd : decide (1 ≤ L ∧ L ≤ 128) = false := by simpa using hL
    have HLD := Lib.hid hLd
    have HE : Hid (ReadR L R ps w (.returned (.pointer none)) (w.alloc (.cells #[.int .i64 L, .int .i64 R, .slice A ps.length c] 27))) := ⟨HFB.out, .inr ⟨fun h => hL h.left, rfl⟩⟩
    clear hL hLd HP HFB
    go_enter Tryz.func31, Tryz.ntmps31
    go_wp2_with fail
    refine (SV.out _ _).mono ?_
    rintro e W ⟨rfl, rfl⟩
    rw [HLD.out]
    go_wp2_with fail
    go_ret
    exact HE.out
end Go.Proofs.YtloecimlimoanaaGreatDoor
