/- Bit sets as lists of words; relations as ascending lists of pairs: pure. -/
import Derived.Lib.TrailingZeros
namespace Go.Proofs.YtloecimlimoanaaDoor

/-! Bit sets as lists of words. -/
def hasW (ws : List Nat) (j : Nat) : Bool := (ws.getD (j / 64) 0).testBit (j % 64)
/-- how many words there are for a count -/
def nw (n : Nat) : Nat := (n + 63) / 64

structure BitsIs (ws : List Nat) (n : Nat) (P : Nat → Bool) : Prop where
  len : ws.length = nw n
  lt : ∀ x ∈ ws, x < 18446744073709551616
  has : ∀ j, hasW ws j = (decide (j < n) && P j)

theorem getD_lt {ws : List Nat} (h : ∀ x ∈ ws, x < 18446744073709551616) (i : Nat) : ws.getD i 0 < 18446744073709551616 := by
  rw [List.getD_eq_getElem?_getD]
  rcases hx : ws[i]? with _ | x
  · simp
  · exact h x (List.mem_of_getElem? hx)

theorem BitsIs.new (n : Nat) : BitsIs (List.replicate (nw n) 0) n (fun _ => false) := by
  refine ⟨by simp, by intro x hx; have := List.eq_of_mem_replicate hx; omega, fun j => ?_⟩
  unfold hasW
  rw [List.getD_eq_getElem?_getD, List.getElem?_replicate]
  split <;> simp

theorem BitsIs.congr {ws : List Nat} {n : Nat} {P Q : Nat → Bool} (h : BitsIs ws n P) (hq : ∀ j, j < n → P j = Q j) : BitsIs ws n Q :=
  ⟨h.len, h.lt, fun j => by
    rw [h.has]
    by_cases hj : j < n
    · rw [hq j hj]
    · simp [hj]⟩

theorem nw_lt {n k : Nat} (h : k < n) : k / 64 < nw n := by unfold nw; omega

theorem getD_set {ws : List Nat} {i j x : Nat} (hi : i < ws.length) : (ws.set i x).getD j 0 = if i = j then x else ws.getD j 0 := by
  rw [List.getD_eq_getElem?_getD, List.getElem?_set, List.getD_eq_getElem?_getD]
  split
  · rename_i h; subst h; rfl
  · rfl

theorem or_lt64 {a b : Nat} (ha : a < 18446744073709551616) (hb : b < 18446744073709551616) : a ||| b < 18446744073709551616 := Nat.or_lt_two_pow (n := 64) ha hb

/-- one word of a set with more bits -/
theorem hasW_or {ws : List Nat} {i x : Nat} (hi : i < ws.length) (j : Nat) : hasW (ws.set i (ws.getD i 0 ||| x)) j = (hasW ws j || (decide (i = j / 64) && x.testBit (j % 64))) := by
  unfold hasW
  rw [getD_set hi]
  by_cases h : i = j / 64
  · rw [if_pos h, Nat.testBit_or, h]; simp
  · rw [if_neg h]; simp [h]

theorem hasW_and {ws : List Nat} {i x : Nat} (hi : i < ws.length) (j : Nat) : hasW (ws.set i (ws.getD i 0 &&& x)) j = (hasW ws j && (decide (i ≠ j / 64) || x.testBit (j % 64))) := by
  unfold hasW
  rw [getD_set hi]
  by_cases h : i = j / 64
  · rw [if_pos h, Nat.testBit_and, h]; simp
  · rw [if_neg h]; simp [h]

theorem lt_or_set {ws : List Nat} {i x : Nat} (h : ∀ y ∈ ws, y < 18446744073709551616) (hx : x < 18446744073709551616) : ∀ y ∈ ws.set i x, y < 18446744073709551616 := by
  intro y hy
  rcases List.mem_or_eq_of_mem_set hy with h1 | h1
  · exact h y h1
  · rw [h1]; exact hx

theorem BitsIs.add {ws : List Nat} {n : Nat} {P : Nat → Bool} (h : BitsIs ws n P) {k : Nat} (hk : k < n) : BitsIs (ws.set (k / 64) (ws.getD (k / 64) 0 ||| 2 ^ (k % 64))) n (fun j => P j || decide (j = k)) := by
  have hl : k / 64 < ws.length := by rw [h.len]; exact nw_lt hk
  have hp : 2 ^ (k % 64) < 18446744073709551616 := Nat.pow_lt_pow_right (by decide : 1 < 2) (show k % 64 < 64 by omega)
  refine ⟨by rw [List.length_set]; exact h.len, lt_or_set h.lt (or_lt64 (getD_lt h.lt _) hp), fun j => ?_⟩
  rw [hasW_or hl, h.has, Nat.testBit_two_pow]
  by_cases he : j = k
  · subst he; simp [hk]
  · have h2 : ¬ (k / 64 = j / 64 ∧ k % 64 = j % 64) := by omega
    have h3 : (decide (k / 64 = j / 64) && decide (k % 64 = j % 64)) = false := by
      rw [← Bool.decide_and]; simpa using h2
    rw [h3]; simp [he]

/-- what a set has at a number -/
theorem BitsIs.bit {ws : List Nat} {n : Nat} {P : Nat → Bool} (h : BitsIs ws n P) {k : Nat} (hk : k < n) : ws.getD (k / 64) 0 / 2 ^ (k % 64) &&& 1 = if P k then 1 else 0 := by
  have h1 := h.has k
  unfold hasW at h1
  rw [Nat.testBit_eq_decide_div_mod_eq] at h1
  rw [Nat.and_one_is_mod]
  simp only [hk, decide_true, Bool.true_and] at h1
  rcases hp : P k with _ | _
  · rw [hp] at h1; simp at h1; simp [h1]
  · rw [hp] at h1; simp at h1; simp [h1]

/-! The numbers of a set, ascending. -/
def wb (x : Nat) : List Nat := (List.range 64).filter (x.testBit ·)

theorem filter_range_add (f : Nat → Bool) (a b : Nat) : (List.range (a + b)).filter f = (List.range a).filter f ++ ((List.range b).filter (fun j => f (a + j))).map (a + ·) := by
  rw [List.range_add, List.filter_append, List.filter_map]
  rfl

/-- the numbers from a word on -/
def bitsFrom : Nat → List Nat → List Nat
  | _, [] => []
  | p, x :: r => (wb x).map (p * 64 + ·) ++ bitsFrom (p + 1) r

theorem bitsFrom_eq (ws : List Nat) : ∀ (p : Nat), p ≤ ws.length → (List.range (64 * ws.length)).filter (hasW ws) = (List.range (64 * p)).filter (hasW ws) ++ bitsFrom p (ws.drop p) := by
  intro p hp
  obtain ⟨k, hk⟩ : ∃ k, ws.length = p + k := ⟨ws.length - p, by omega⟩
  induction k generalizing p with
  | zero => rw [hk, List.drop_eq_nil_of_le (by omega)]; simp [bitsFrom]
  | succ k ih =>
    rw [ih (p + 1) (by omega) (by omega)]
    have hx : p < ws.length := by omega
    rw [List.drop_eq_getElem_cons hx, show 64 * (p + 1) = 64 * p + 64 by omega, filter_range_add, List.append_assoc]
    congr 1
    rw [bitsFrom]
    congr 1
    have : (List.range 64).filter (fun j => hasW ws (64 * p + j)) = wb ws[p] := by
      unfold wb
      refine List.filter_congr fun j hj => ?_
      have hj := List.mem_range.1 hj
      unfold hasW
      rw [show (64 * p + j) / 64 = p by omega, show (64 * p + j) % 64 = j by omega, List.getD_eq_getElem?_getD, List.getElem?_eq_getElem hx]
      rfl
    rw [this, Nat.mul_comm]

/-- the numbers of a set -/
def elems (n : Nat) (P : Nat → Bool) : List Nat := (List.range n).filter P

theorem BitsIs.list {ws : List Nat} {n : Nat} {P : Nat → Bool} (h : BitsIs ws n P) : bitsFrom 0 ws = elems n P := by
  have h1 := bitsFrom_eq ws 0 (Nat.zero_le _)
  simp only [Nat.mul_zero, List.range_zero, List.filter_nil, List.nil_append, List.drop_zero] at h1
  rw [← h1]
  have hn : n ≤ 64 * ws.length := by rw [h.len]; unfold nw; omega
  obtain ⟨k, hk⟩ : ∃ k, 64 * ws.length = n + k := ⟨64 * ws.length - n, by omega⟩
  rw [hk, filter_range_add]
  have h2 : (List.range k).filter (fun j => hasW ws (n + j)) = [] := by
    rw [List.filter_eq_nil_iff]
    intro j _
    rw [h.has]; simp; intro h; omega
  rw [h2, List.map_nil, List.append_nil]
  unfold elems
  refine List.filter_congr fun j hj => ?_
  have hj := List.mem_range.1 hj
  rw [h.has]; simp [hj]

/-- a word's numbers: the lowest one first -/
theorem testBit_pred {x c : Nat} (m : Nat) (hx : x = 2 ^ c * (2 * m + 1)) (j : Nat) : (x &&& (x - 1)).testBit j = (x.testBit j && decide (j ≠ c)) := by
  have hp : 0 < 2 ^ c := Nat.two_pow_pos c
  have e1 : x - 1 = 2 ^ c * (2 * m) + (2 ^ c - 1) := by
    rw [hx, Nat.mul_add, Nat.mul_one]; omega
  have e2 : x = 2 ^ c * (2 * m + 1) + 0 := by omega
  have t1 : ∀ j, (x - 1).testBit j = if j < c then true else (2 * m).testBit (j - c) := by
    intro j
    rw [e1, Nat.testBit_two_pow_mul_add _ (by omega : 2 ^ c - 1 < 2 ^ c)]
    split
    · rename_i h; rw [Nat.testBit_two_pow_sub_one]; simp [h]
    · rfl
  have t2 : ∀ j, x.testBit j = if j < c then false else (2 * m + 1).testBit (j - c) := by
    intro j
    rw [e2, Nat.testBit_two_pow_mul_add _ hp]
    split
    · simp
    · rfl
  rw [Nat.testBit_and, t1, t2]
  by_cases h : j < c
  · simp [h]
  · rw [if_neg h, if_neg h]
    by_cases hjc : j = c
    · subst hjc; simp
    · obtain ⟨k, hk⟩ : ∃ k, j - c = k + 1 := ⟨j - c - 1, by omega⟩
      rw [hk, Nat.testBit_succ, Nat.testBit_succ, show (2 * m + 1) / 2 = m by omega, show (2 * m) / 2 = m by omega]
      simp [hjc]

theorem wb_step {x c m : Nat} (hx : x = 2 ^ c * (2 * m + 1)) (hc : c < 64) : wb x = c :: wb (x &&& (x - 1)) := by
  unfold wb
  obtain ⟨k, hk⟩ : ∃ k, 64 = c + (k + 1) := ⟨63 - c, by omega⟩
  have hlow : ∀ j, j < c → x.testBit j = false := by
    intro j hj
    rw [show x = 2 ^ c * (2 * m + 1) + 0 by omega, Nat.testBit_two_pow_mul_add _ (Nat.two_pow_pos c)]
    simp [hj]
  have hat : x.testBit c = true := by
    rw [show x = 2 ^ c * (2 * m + 1) + 0 by omega, Nat.testBit_two_pow_mul_add _ (Nat.two_pow_pos c)]
    simp
  rw [hk, filter_range_add (fun j => x.testBit j) c (k + 1), filter_range_add (fun j => (x &&& (x - 1)).testBit j) c (k + 1)]
  have e1 : (List.range c).filter (x.testBit ·) = [] := by
    rw [List.filter_eq_nil_iff]; intro j hj; rw [hlow j (List.mem_range.1 hj)]; simp
  have e2 : (List.range c).filter ((x &&& (x - 1)).testBit ·) = [] := by
    rw [List.filter_eq_nil_iff]; intro j hj; rw [testBit_pred m hx, hlow j (List.mem_range.1 hj)]; simp
  rw [e1, e2, List.nil_append, List.nil_append, List.range_succ_eq_map, List.filter_cons, List.filter_cons]
  have h0 : x.testBit (c + 0) = true := hat
  have h1 : (x &&& (x - 1)).testBit (c + 0) = false := by rw [testBit_pred m hx]; simp
  rw [if_pos h0, if_neg (by rw [h1]; simp), List.map_cons]
  congr 1
  congr 1
  refine List.filter_congr fun j hj => ?_
  obtain ⟨j', _, rfl⟩ := List.mem_map.1 hj
  rw [testBit_pred m hx]
  simp

theorem wb_zero : wb 0 = [] := by decide

theorem and_pred_lt {x : Nat} (h : x ≠ 0) : x &&& (x - 1) < x := Nat.lt_of_le_of_lt Nat.and_le_right (by omega)
/-! Uniting with a shift. -/
structure Uni (o s0 : List Nat) (shift p : Nat) (s : List Nat) : Prop where
  len : s.length = s0.length
  lt : ∀ x ∈ s, x < 18446744073709551616
  has : ∀ j, hasW s j = (hasW s0 j || (decide (shift ≤ j) && decide (j - shift < 64 * p) && hasW o (j - shift)))

theorem Uni.start {o s0 : List Nat} {shift : Nat} (h : ∀ x ∈ s0, x < 18446744073709551616) : Uni o s0 shift 0 s0 :=
  ⟨rfl, h, fun j => by simp⟩

/-- the bits of a word that is shifted: the lower part -/
theorem low_bit (x sh j : Nat) (hj : j < 64) : (x * 2 ^ sh % 18446744073709551616).testBit j = (decide (sh ≤ j) && x.testBit (j - sh)) := by
  rw [show (18446744073709551616 : Nat) = 2 ^ 64 from rfl, Nat.testBit_mod_two_pow, Nat.mul_comm, Nat.testBit_two_pow_mul]
  simp [hj]

theorem high_bit (x sh j : Nat) : (x / 2 ^ sh).testBit j = x.testBit (j + sh) := by
  rw [Nat.testBit_div_two_pow]

/-- what one word adds -/
theorem Uni.step {o s0 s : List Nat} {shift p : Nat} (h : Uni o s0 shift p s) (hx64 : ∀ y ∈ o, y < 18446744073709551616) {s1 s2 : List Nat}
    (h1 : s1 = if o.getD p 0 * 2 ^ (shift % 64) % 18446744073709551616 = 0 then s else s.set (p + shift / 64) (s.getD (p + shift / 64) 0 ||| o.getD p 0 * 2 ^ (shift % 64) % 18446744073709551616))
    (h2 : s2 = if o.getD p 0 / 2 ^ (64 - shift % 64) = 0 then s1 else s1.set (p + shift / 64 + 1) (s1.getD (p + shift / 64 + 1) 0 ||| o.getD p 0 / 2 ^ (64 - shift % 64)))
    (hr1 : o.getD p 0 * 2 ^ (shift % 64) % 18446744073709551616 ≠ 0 → p + shift / 64 < s.length)
    (hr2 : o.getD p 0 / 2 ^ (64 - shift % 64) ≠ 0 → p + shift / 64 + 1 < s.length) : Uni o s0 shift (p + 1) s2 := by
  generalize hX : o.getD p 0 = x at h1 h2 hr1 hr2
  have hx : x < 18446744073709551616 := by rw [← hX]; exact getD_lt hx64 p
  have L1 : s1.length = s.length := by rw [h1]; split <;> simp
  have L2 : s2.length = s.length := by rw [h2]; split <;> simp [L1]
  have A1 : ∀ j, hasW s1 j = (hasW s j || (decide (p + shift / 64 = j / 64) && (x * 2 ^ (shift % 64) % 18446744073709551616).testBit (j % 64))) := by
    intro j
    rw [h1]
    split
    · rename_i h0; rw [h0]; simp
    · rename_i h0; rw [hasW_or (hr1 h0)]
  have A2 : ∀ j, hasW s2 j = (hasW s1 j || (decide (p + shift / 64 + 1 = j / 64) && (x / 2 ^ (64 - shift % 64)).testBit (j % 64))) := by
    intro j
    rw [h2]
    split
    · rename_i h0; rw [h0]; simp
    · rename_i h0; rw [hasW_or (by rw [L1]; exact hr2 h0)]
  have T1 : ∀ y ∈ s1, y < 18446744073709551616 := by
    rw [h1]; split
    · exact h.lt
    · exact lt_or_set h.lt (or_lt64 (getD_lt h.lt _) (Nat.mod_lt _ (by decide)))
  refine ⟨L2.trans h.len, ?_, fun j => ?_⟩
  · rw [h2]; split
    · exact T1
    · exact lt_or_set T1 (or_lt64 (getD_lt T1 _) (Nat.lt_of_le_of_lt (Nat.div_le_self _ _) hx))
  · rw [A2, A1, h.has, low_bit _ _ _ (Nat.mod_lt _ (by decide)), high_bit, Bool.or_assoc, Bool.or_assoc]
    congr 1
    have hbig : ∀ k, 64 ≤ k → x.testBit k = false := fun k hk => Nat.testBit_lt_two_pow (Nat.lt_of_lt_of_le hx (Nat.pow_le_pow_right (by decide) hk : 2 ^ 64 ≤ 2 ^ k))
    by_cases c0 : shift ≤ j
    · by_cases c1 : j - shift < 64 * p
      · -- it is older
        have d1 : (decide (p + shift / 64 = j / 64) && (decide (shift % 64 ≤ j % 64) && x.testBit (j % 64 - shift % 64))) = false := by
          have : ¬ (p + shift / 64 = j / 64 ∧ shift % 64 ≤ j % 64) := by omega
          rw [← Bool.and_assoc, ← Bool.decide_and, decide_eq_false this]; rfl
        have d2 : (decide (p + shift / 64 + 1 = j / 64) && x.testBit (j % 64 + (64 - shift % 64))) = false := by
          have : ¬ (p + shift / 64 + 1 = j / 64) := by omega
          rw [decide_eq_false this]; rfl
        rw [d1, d2]
        have : j - shift < 64 * (p + 1) := by omega
        simp [c0, c1, this]
      · by_cases c2 : j - shift < 64 * (p + 1)
        · have hh : hasW o (j - shift) = x.testBit (j - shift - 64 * p) := by
            unfold hasW
            rw [show (j - shift) / 64 = p by omega, show (j - shift) % 64 = j - shift - 64 * p by omega, hX]
          rw [hh]
          by_cases c3 : p + shift / 64 = j / 64
          · have d3 : shift % 64 ≤ j % 64 := by omega
            have d4 : ¬ (p + shift / 64 + 1 = j / 64) := by omega
            rw [show j % 64 - shift % 64 = j - shift - 64 * p by omega]
            simp [c0, c1, c2, c3, d3]
          · have d4 : p + shift / 64 + 1 = j / 64 := by omega
            rw [show j % 64 + (64 - shift % 64) = j - shift - 64 * p by omega]
            simp [c0, c1, c2, c3, d4]
        · have d1 : ¬ (p + shift / 64 = j / 64) := by omega
          have d2 : (decide (p + shift / 64 + 1 = j / 64) && x.testBit (j % 64 + (64 - shift % 64))) = false := by
            by_cases d4 : p + shift / 64 + 1 = j / 64
            · rw [hbig _ (by omega)]; simp
            · simp [d4]
          rw [d2]
          simp [c0, c1, c2, d1]
    · have d1 : (decide (p + shift / 64 = j / 64) && (decide (shift % 64 ≤ j % 64) && x.testBit (j % 64 - shift % 64))) = false := by
        have : ¬ (p + shift / 64 = j / 64 ∧ shift % 64 ≤ j % 64) := by omega
        rw [← Bool.and_assoc, ← Bool.decide_and, decide_eq_false this]; rfl
      have d2 : (decide (p + shift / 64 + 1 = j / 64) && x.testBit (j % 64 + (64 - shift % 64))) = false := by
        by_cases d4 : p + shift / 64 + 1 = j / 64
        · exfalso; omega
        · simp [d4]
      rw [d1, d2]
      simp [c0]

/-- there is room for what one word adds -/
theorem Uni.room {o s0 s : List Nat} {shift p : Nat} (h : Uni o s0 shift p s) (hx64 : ∀ y ∈ o, y < 18446744073709551616) (hroom : ∀ j, hasW o j = true → shift + j < 64 * s0.length) :
    (o.getD p 0 * 2 ^ (shift % 64) % 18446744073709551616 ≠ 0 → p + shift / 64 < s.length) ∧ (o.getD p 0 / 2 ^ (64 - shift % 64) ≠ 0 → p + shift / 64 + 1 < s.length) := by
  have key : ∀ b, b < 64 → (o.getD p 0).testBit b = true → shift + (64 * p + b) < 64 * s.length := by
    intro b hb ht
    rw [h.len]
    refine hroom _ ?_
    unfold hasW
    rw [show (64 * p + b) / 64 = p by omega, show (64 * p + b) % 64 = b by omega]
    exact ht
  have hx : o.getD p 0 < 18446744073709551616 := getD_lt hx64 p
  have hbig : ∀ k, 64 ≤ k → (o.getD p 0).testBit k = false := fun k hk => Nat.testBit_lt_two_pow (Nat.lt_of_lt_of_le hx (Nat.pow_le_pow_right (by decide) hk : 2 ^ 64 ≤ 2 ^ k))
  constructor
  · intro h0
    obtain ⟨b, hb⟩ := Nat.exists_testBit_of_ne_zero h0
    have hb64 : b < 64 := by
      refine Decidable.byContradiction fun hn => ?_
      have h2 : (o.getD p 0 * 2 ^ (shift % 64) % 18446744073709551616).testBit b = false := Nat.testBit_lt_two_pow (Nat.lt_of_lt_of_le (Nat.mod_lt _ (by decide)) (Nat.pow_le_pow_right (by decide) (by omega) : 2 ^ 64 ≤ 2 ^ b))
      rw [h2] at hb; cases hb
    rw [low_bit _ _ _ hb64] at hb
    simp at hb
    have := key (b - shift % 64) (by omega) hb.2
    omega
  · intro h0
    obtain ⟨b, hb⟩ := Nat.exists_testBit_of_ne_zero h0
    rw [high_bit] at hb
    have hb64 : b + (64 - shift % 64) < 64 := by
      refine Decidable.byContradiction fun hn => ?_
      rw [hbig _ (by omega)] at hb; cases hb
    have := key _ hb64 hb
    omega

/-- what has been united -/
theorem Uni.done {o s0 s : List Nat} {shift n m : Nat} {P Q : Nat → Bool} (h : Uni o s0 shift o.length s) (hs : BitsIs s0 n P) (ho : BitsIs o m Q) (hr : shift + m ≤ n) :
    BitsIs s n (fun j => P j || (decide (shift ≤ j) && decide (j - shift < m) && Q (j - shift))) := by
  refine ⟨h.len.trans hs.len, h.lt, fun j => ?_⟩
  rw [h.has, hs.has, ho.has]
  have hm : m ≤ 64 * o.length := by rw [ho.len]; unfold nw; omega
  by_cases c0 : shift ≤ j
  · by_cases c1 : j - shift < m
    · have c2 : j < n := by omega
      have c3 : j - shift < 64 * o.length := by omega
      simp [c0, c1, c2, c3]
    · simp [c0, c1]
  · simp [c0]

theorem BitsIs.room {o s0 : List Nat} {n m shift : Nat} {P Q : Nat → Bool} (hs : BitsIs s0 n P) (ho : BitsIs o m Q) (hr : shift + m ≤ n) : ∀ j, hasW o j = true → shift + j < 64 * s0.length := by
  intro j hj
  rw [ho.has] at hj
  simp at hj
  rw [hs.len]; unfold nw; omega

/-! What two sets have in common. -/
structure Itc (o s0 : List Nat) (p : Nat) (s : List Nat) : Prop where
  len : s.length = s0.length
  lt : ∀ x ∈ s, x < 18446744073709551616
  has : ∀ j, hasW s j = (hasW s0 j && (decide (64 * p ≤ j) || hasW o j))

theorem Itc.start {o s0 : List Nat} (h : ∀ x ∈ s0, x < 18446744073709551616) : Itc o s0 0 s0 := ⟨rfl, h, fun j => by simp⟩

theorem Itc.step {o s0 s : List Nat} {p : Nat} (h : Itc o s0 p s) (hp : p < s.length) : Itc o s0 (p + 1) (s.set p (s.getD p 0 &&& o.getD p 0)) := by
  refine ⟨by rw [List.length_set]; exact h.len, lt_or_set h.lt (Nat.lt_of_le_of_lt Nat.and_le_left (getD_lt h.lt _)), fun j => ?_⟩
  rw [hasW_and hp, h.has]
  by_cases c : p = j / 64
  · have c1 : 64 * p ≤ j := by omega
    have c2 : ¬ 64 * (p + 1) ≤ j := by omega
    subst c
    have : hasW o j = (o.getD (j / 64) 0).testBit (j % 64) := rfl
    rw [this]
    simp [c1, c2]
  · have : (64 * (p + 1) ≤ j) = (64 * p ≤ j) := by
      apply propext; constructor <;> intro h <;> omega
    simp [c, this]

theorem Itc.done {o s0 s : List Nat} {n : Nat} {P Q : Nat → Bool} (h : Itc o s0 o.length s) (hs : BitsIs s0 n P) (ho : BitsIs o n Q) : BitsIs s n (fun j => P j && Q j) := by
  refine ⟨h.len.trans hs.len, h.lt, fun j => ?_⟩
  rw [h.has, hs.has, ho.has]
  by_cases c1 : j < n
  · have hm : n ≤ 64 * o.length := by rw [ho.len]; unfold nw; omega
    have : ¬ 64 * o.length ≤ j := by omega
    simp [c1, this]
  · simp [c1]

/-! Relations as lists of pairs. -/
def pairsOf (l r : Nat) (R : Nat → Nat → Bool) : List Nat := (List.range l).flatMap fun i => (elems r (R i)).map (i * r + ·)

theorem pairsOf_succ (l r : Nat) (R : Nat → Nat → Bool) : pairsOf (l + 1) r R = pairsOf l r R ++ (elems r (R l)).map (l * r + ·) := by
  unfold pairsOf
  rw [List.range_succ, List.flatMap_append]
  simp

theorem pairsOf_eq (r : Nat) (R : Nat → Nat → Bool) (hr : 0 < r) : ∀ l, pairsOf l r R = (List.range (l * r)).filter (fun p => R (p / r) (p % r)) := by
  intro l
  induction l with
  | zero => simp [pairsOf]
  | succ l ih =>
    rw [pairsOf_succ, ih, Nat.add_one_mul, filter_range_add]
    congr 2
    unfold elems
    refine List.filter_congr fun j hj => ?_
    have hj := List.mem_range.1 hj
    rw [show (l * r + j) / r = l by rw [Nat.mul_comm, Nat.mul_add_div hr, Nat.div_eq_of_lt hj, Nat.add_zero], show (l * r + j) % r = j by rw [Nat.mul_comm, Nat.mul_add_mod, Nat.mod_eq_of_lt hj]]

theorem pairsOf_congr {l r : Nat} {R Q : Nat → Nat → Bool} (h : ∀ i, i < l → ∀ j, j < r → R i j = Q i j) : pairsOf l r R = pairsOf l r Q := by
  unfold pairsOf
  have : ∀ (is : List Nat), (∀ i ∈ is, i < l) → is.flatMap (fun i => (elems r (R i)).map (i * r + ·)) = is.flatMap (fun i => (elems r (Q i)).map (i * r + ·)) := by
    intro is
    induction is with
    | nil => intro _; rfl
    | cons i is ih =>
      intro hi
      rw [List.flatMap_cons, List.flatMap_cons, ih (fun k hk => hi k (List.mem_cons_of_mem _ hk))]
      congr 2
      unfold elems
      exact List.filter_congr fun j hj => h i (hi i List.mem_cons_self) j (List.mem_range.1 hj)
  exact this _ fun i hi => List.mem_range.1 hi

/-- A relation is valid. -/
structure RelOk (L R : Int) (ps : List Int) : Prop where
  left : 1 ≤ L ∧ L ≤ 128
  right : 1 ≤ R ∧ R ≤ 128
  asc : ps.Pairwise (· < ·)
  bnd : ∀ p ∈ ps, 0 ≤ p ∧ p < L * R

/-- what is related -/
def memR (r : Nat) (ps : List Int) (i j : Nat) : Bool := decide (((i * r + j : Nat) : Int) ∈ ps)

theorem sorted_range (n : Nat) : (List.range n).Pairwise (· < ·) := List.pairwise_lt_range

/-- two ascending lists with the same members are the same -/
theorem asc_ext {α : Type} [DecidableEq α] {lt : α → α → Prop} (irr : ∀ a, ¬ lt a a) (asym : ∀ a b, lt a b → ¬ lt b a) : ∀ {xs ys : List α}, xs.Pairwise lt → ys.Pairwise lt → (∀ a, a ∈ xs ↔ a ∈ ys) → xs = ys
  | [], [], _, _, _ => rfl
  | [], y :: ys, _, _, h => by have := (h y).2 List.mem_cons_self; simp at this
  | x :: xs, [], _, _, h => by have := (h x).1 List.mem_cons_self; simp at this
  | x :: xs, y :: ys, hx, hy, h => by
    rw [List.pairwise_cons] at hx hy
    have e : x = y := by
      rcases List.mem_cons.1 ((h x).1 List.mem_cons_self) with e | e
      · exact e
      · rcases List.mem_cons.1 ((h y).2 List.mem_cons_self) with e' | e'
        · exact e'.symm
        · exact (asym _ _ (hx.1 y e') (hy.1 x e)).elim
    subst e
    congr 1
    refine asc_ext irr asym hx.2 hy.2 fun a => ⟨fun ha => ?_, fun ha => ?_⟩
    · rcases List.mem_cons.1 ((h a).1 (List.mem_cons_of_mem _ ha)) with e | e
      · subst e; exact (irr _ (hx.1 _ ha)).elim
      · exact e
    · rcases List.mem_cons.1 ((h a).2 (List.mem_cons_of_mem _ ha)) with e | e
      · subst e; exact (irr _ (hy.1 _ ha)).elim
      · exact e

theorem RelOk.pairs {l r : Nat} {ps : List Int} (h : RelOk l r ps) : ps = (pairsOf l r (memR r ps)).map Int.ofNat := by
  have hr : 0 < r := by have := h.right; omega
  rw [pairsOf_eq r _ hr l]
  refine asc_ext (lt := (· < ·)) (fun a => Int.lt_irrefl a) (fun a b h1 h2 => by omega) h.asc ?_ fun a => ?_
  · rw [List.pairwise_map]
    exact ((sorted_range (l * r)).filter _).imp fun {a b} h => by simpa using h
  · constructor
    · intro ha
      obtain ⟨h1, h2⟩ := h.bnd a ha
      obtain ⟨n, rfl⟩ : ∃ n : Nat, a = n := ⟨a.toNat, by omega⟩
      refine List.mem_map.2 ⟨n, List.mem_filter.2 ⟨List.mem_range.2 (by rw [← Int.natCast_mul] at h2; omega), ?_⟩, rfl⟩
      unfold memR
      rw [show n / r * r + n % r = n from Nat.div_add_mod' n r]
      simpa using ha
    · intro ha
      obtain ⟨n, hn, rfl⟩ := List.mem_map.1 ha
      have := (List.mem_filter.1 hn).2
      unfold memR at this
      rw [show n / r * r + n % r = n from Nat.div_add_mod' n r] at this
      simpa using this

theorem wb_ctz {x : Nat} (h0 : x ≠ 0) (h : x < 18446744073709551616) : wb x = Lib.ctz 64 x :: wb (x &&& (x - 1)) ∧ Lib.ctz 64 x < 64 := by
  obtain ⟨m, hm, hc⟩ := Lib.ctzFrom_spec 64 x (by omega) h
  have e : Lib.ctz 64 x = Lib.ctzFrom 64 x := by unfold Lib.ctz; rw [if_neg h0]
  rw [e]
  exact ⟨wb_step hm hc, hc⟩
end Go.Proofs.YtloecimlimoanaaDoor
