/- Canonical names: what the program renames is the reading of what the model renames. -/
import Derived.Test.YthbidlcfahdfhaaDoorTfr
import Derived.Test.YthbidlcfahdfhaaDoorTtx
import Derived.Lib.ItoaNum
namespace Go.Proofs.YthbidlcfahdfhaaDoor
open Go.RowKit Go.ChangeMaps

/-- the canonical name with a number -/
def xnm (g : Nat) : List UInt8 := 120 :: Lib.decDigits g

def dval (l : List UInt8) : Nat := l.foldl (fun n c => 10 * n + (c.toNat - 48)) 0

theorem dig_val {n : Nat} (h : n < 10) : (UInt8.ofNat (48 + n)).toNat = 48 + n := by
  rw [UInt8.toNat_ofNat']; omega

theorem dval_dec (u : Nat) : dval (Lib.decDigits u) = u := by
  induction u using Nat.strongRecOn with
  | ind u ih =>
    rw [Lib.decDigits]
    by_cases h : u < 10
    · rw [dif_pos h]
      simp only [dval, List.foldl_cons, List.foldl_nil, dig_val h]
      omega
    · rw [dif_neg h]
      have e := ih (u / 10) (by omega)
      unfold dval at e ⊢
      rw [List.foldl_append, e]
      simp only [List.foldl_cons, List.foldl_nil, dig_val (Nat.mod_lt u (by decide : 0 < 10))]
      omega

theorem dec_digs (u : Nat) : (Lib.decDigits u).all isDig = true := by
  induction u using Nat.strongRecOn with
  | ind u ih =>
    rw [Lib.decDigits]
    by_cases h : u < 10
    · rw [dif_pos h]
      simp only [List.all_cons, List.all_nil, Bool.and_true, isDig, dig_val h, Bool.and_eq_true, decide_eq_true_eq]
      omega
    · rw [dif_neg h, List.all_append, ih (u / 10) (by omega)]
      simp only [List.all_cons, List.all_nil, Bool.and_true, Bool.true_and, isDig, dig_val (Nat.mod_lt u (by decide : 0 < 10)), Bool.and_eq_true, decide_eq_true_eq]
      omega

theorem dec_len (u : Nat) : ∀ n, u < 10 ^ (n + 1) → (Lib.decDigits u).length ≤ n + 1 := by
  induction u using Nat.strongRecOn with
  | ind u ih =>
    intro n hn
    rw [Lib.decDigits]
    by_cases h : u < 10
    · rw [dif_pos h]; simp
    · rw [dif_neg h, List.length_append]
      cases n with
      | zero => omega
      | succ n =>
        have := ih (u / 10) (by omega) n (by rw [Nat.pow_succ] at hn; omega)
        simp only [List.length_cons, List.length_nil]
        omega

theorem xnm_inj (i j : Nat) (h : xnm i = xnm j) : i = j := by
  unfold xnm at h
  injection h with _ h
  rw [← dval_dec i, h, dval_dec]

theorem xnm_name {g : Nat} (h : g < 1000) : isName (xnm g) = true := by
  have h1 := dec_len g 2 h
  have h2 := dec_digs g
  simp only [xnm, isName, h2, Bool.and_true, Bool.and_eq_true, decide_eq_true_eq]
  exact ⟨h1, by decide, by decide⟩

theorem pig : ∀ (l : List Nat) (t : List (List UInt8)), l.Nodup → (∀ i ∈ l, xnm i ∈ t) → l.length ≤ t.length
  | [], _, _, _ => Nat.zero_le _
  | i :: l, t, hn, h => by
    have hi := h i (List.mem_cons_self ..)
    have hn2 := List.nodup_cons.1 hn
    have h1 := pig l (t.erase (xnm i)) hn2.2 (fun j hj => (List.mem_erase_of_ne (fun e => hn2.1 (by rw [← xnm_inj _ _ e]; exact hj))).2 (h j (List.mem_cons_of_mem _ hj)))
    rw [List.length_erase_of_mem hi] at h1
    have h2 := List.length_pos_of_mem hi
    simp only [List.length_cons]
    omega

/-- how many of the first names are taken -/
def tkN (tk : List (List UInt8)) (g : Nat) : Nat := ((List.range g).filter (fun j => decide (xnm j ∈ tk))).length

theorem tk_le (tk : List (List UInt8)) (g : Nat) : tkN tk g ≤ tk.length := by
  refine pig _ _ (List.Pairwise.filter _ List.nodup_range) ?_
  intro i hi
  have := (List.mem_filter.1 hi).2
  simpa using this

theorem tk_succ (tk : List (List UInt8)) (g : Nat) : tkN tk (g + 1) = tkN tk g + if xnm g ∈ tk then 1 else 0 := by
  unfold tkN
  rw [List.range_succ, List.filter_append, List.length_append]
  congr 1
  by_cases h : xnm g ∈ tk <;> simp [h]

theorem tk_run (tk : List (List UInt8)) (g : Nat) : ∀ n, (∀ i, g ≤ i → i < g + n → xnm i ∈ tk) → tkN tk (g + n) = tkN tk g + n
  | 0, _ => rfl
  | n + 1, h => by
    have h1 := tk_run tk g n (fun i a b => h i a (by omega))
    rw [← Nat.add_assoc, tk_succ, h1, if_pos (h _ (by omega) (by omega)), Nat.add_assoc]

/-- the next number whose name is not taken -/
def fshR (tk : List (List UInt8)) : Nat → Nat → Nat
  | 0, g => g
  | n + 1, g => if xnm g ∈ tk then fshR tk n (g + 1) else g
def fsh (tk : List (List UInt8)) (g : Nat) : Nat := fshR tk tk.length g

theorem fshR_spec (tk : List (List UInt8)) : ∀ n g, g ≤ fshR tk n g ∧ fshR tk n g ≤ g + n ∧ (∀ i, g ≤ i → i < fshR tk n g → xnm i ∈ tk) ∧ (fshR tk n g < g + n → xnm (fshR tk n g) ∉ tk)
  | 0, g => ⟨Nat.le_refl _, Nat.le_refl _, fun i h1 h2 => absurd h1 (by simp only [fshR] at h2; omega), fun h => absurd h (by simp [fshR])⟩
  | n + 1, g => by
    by_cases h : xnm g ∈ tk
    · simp only [fshR, if_pos h]
      obtain ⟨a, b, c, d⟩ := fshR_spec tk n (g + 1)
      refine ⟨by omega, by omega, fun i h1 h2 => ?_, fun h => d (by omega)⟩
      by_cases e : i = g
      · rw [e]; exact h
      · exact c i (by omega) h2
    · simp only [fshR, if_neg h]
      exact ⟨Nat.le_refl _, by omega, fun i h1 h2 => absurd h1 (by omega), fun _ => h⟩

theorem fsh_spec (tk : List (List UInt8)) (g : Nat) : g ≤ fsh tk g ∧ (∀ i, g ≤ i → i < fsh tk g → xnm i ∈ tk) ∧ xnm (fsh tk g) ∉ tk := by
  obtain ⟨a, b, c, d⟩ := fshR_spec tk tk.length g
  refine ⟨a, c, ?_⟩
  by_cases h : fshR tk tk.length g < g + tk.length
  · exact d h
  · intro hm
    have e : fshR tk tk.length g = g + tk.length := by omega
    have := pig (List.range' g (tk.length + 1)) tk List.nodup_range' (fun i hi => by
      rw [List.mem_range'_1] at hi
      by_cases hj : i = g + tk.length
      · rw [hj, ← e]; exact hm
      · exact c i hi.1 (by omega))
    rw [List.length_range'] at this
    omega

theorem fsh_tk (tk : List (List UInt8)) (g : Nat) : tkN tk (fsh tk g + 1) + g = tkN tk g + fsh tk g := by
  obtain ⟨a, b, c⟩ := fsh_spec tk g
  obtain ⟨n, hn⟩ : ∃ n, fsh tk g = g + n := ⟨fsh tk g - g, by omega⟩
  rw [tk_succ, if_neg c, hn, tk_run tk g n (fun i h1 h2 => b i h1 (by omega))]
  omega

/-- what the program's renaming makes of a node, ahead of its parts -/
def rnAt (tk : List (List UInt8)) (h a : List UInt8) (k : Ts) (g : Nat) : List UInt8 := if k.len = 0 then a else if bindsB h then xnm (fsh tk g) else a
def rnG (tk : List (List UInt8)) (h : List UInt8) (k : Ts) (g : Nat) : Nat := if k.len = 0 then g else if bindsB h then fsh tk g + 1 else g
def rnD (d : Nat) (k : Ts) : Nat := if k.len = 0 then d else 0

/-- the program's renaming, with the number of the next name -/
def rnT (tk : List (List UInt8)) : Ts → Nat → Ts × Nat
  | .nil, g => (.nil, g)
  | .cons h a d k r, g => (.cons h (rnAt tk h a k g) (rnD d k) (rnT tk k (rnG tk h k g)).1 (rnT tk r (rnT tk k (rnG tk h k g)).2).1, (rnT tk r (rnT tk k (rnG tk h k g)).2).2)

theorem rnG_le (tk : List (List UInt8)) (h : List UInt8) (k : Ts) (g : Nat) : g ≤ rnG tk h k g := by
  have := (fsh_spec tk g).1
  unfold rnG
  split
  · exact Nat.le_refl _
  · split <;> omega

theorem rnT_mono (tk : List (List UInt8)) : ∀ (t : Ts) (g : Nat), g ≤ (rnT tk t g).2
  | .nil, _ => Nat.le_refl _
  | .cons h a d k r, g => by
    have h1 := rnG_le tk h k g
    have h2 := rnT_mono tk k (rnG tk h k g)
    have h3 := rnT_mono tk r (rnT tk k (rnG tk h k g)).2
    simp only [rnT]
    omega

theorem rnT_len (tk : List (List UInt8)) : ∀ (t : Ts) (g : Nat), (rnT tk t g).1.len = t.len
  | .nil, _ => rfl
  | .cons h a d k r, g => by
    simp only [rnT, Ts.len]
    rw [rnT_len tk r]

theorem rnT_size (tk : List (List UInt8)) : ∀ (t : Ts) (g : Nat), (rnT tk t g).1.size = t.size
  | .nil, _ => rfl
  | .cons h a d k r, g => by
    simp only [rnT, Ts.size]
    rw [rnT_size tk r, rnT_size tk k]

theorem rnT_end (tk : List (List UInt8)) : ∀ (t : Ts) (g : Nat), (rnT tk t g).2 + tkN tk g ≤ g + t.size + tkN tk (rnT tk t g).2
  | .nil, g => by simp [rnT, Ts.size]
  | .cons h a d k r, g => by
    have h0 : rnG tk h k g + tkN tk g ≤ g + 1 + tkN tk (rnG tk h k g) := by
      unfold rnG
      split
      · omega
      · split
        · have := fsh_tk tk g; omega
        · omega
    have h2 := rnT_end tk k (rnG tk h k g)
    have h3 := rnT_end tk r (rnT tk k (rnG tk h k g)).2
    simp only [rnT, Ts.size]
    split <;> omega

theorem rnT_bound (tk : List (List UInt8)) (t : Ts) : (rnT tk t 0).2 ≤ t.size + tk.length := by
  have h1 := rnT_end tk t 0
  have h2 := tk_le tk (rnT tk t 0).2
  omega

inductive Rm where
  | top (fr to : List (List UInt8))
  | name (fr to : List (List UInt8)) (h : List UInt8)
  | kids (fr to : List (List UInt8)) (h b y : List UInt8) (i : Nat)

/-- what the model makes of an atom -/
def rnA (fr to : List (List UInt8)) (a : List UInt8) : List UInt8 :=
  if a = [] then [] else match depOf a fr with
    | some d => to.getD (to.length - 1 - d) []
    | none => a

/-- the model's renaming, with the number of the next name -/
def rnF (tk : List (List UInt8)) : Fo → Rm → Nat → Fo × Nat
  | .nil, _, g => (.nil, g)
  | .cons h k r, .top fr to, g => if bindsB h then (.cons h k (rnF tk r (.name fr to h) g).1, (rnF tk r (.name fr to h) g).2) else (.cons h k (rnF tk r (.kids fr to h [] [] 0) g).1, (rnF tk r (.kids fr to h [] [] 0) g).2)
  | .cons x _ r, .name fr to h, g => (.cons (xnm (fsh tk g)) .nil (rnF tk r (.kids fr to h x (xnm (fsh tk g)) 0) (fsh tk g + 1)).1, (rnF tk r (.kids fr to h x (xnm (fsh tk g)) 0) (fsh tk g + 1)).2)
  | .cons a k r, .kids fr to h b y i, g =>
    (.cons (rnA (insB fr h b i) (insB to h y i) a) (if a = [] then (rnF tk k (.top (insB fr h b i) (insB to h y i)) g).1 else k) (rnF tk r (.kids fr to h b y (i + 1)) (if a = [] then (rnF tk k (.top (insB fr h b i) (insB to h y i)) g).2 else g)).1,
      (rnF tk r (.kids fr to h b y (i + 1)) (if a = [] then (rnF tk k (.top (insB fr h b i) (insB to h y i)) g).2 else g)).2)

/-- bound names with their new ones -/
structure RInv (tk fr to : List (List UInt8)) (g : Nat) : Prop where
  len : fr.length = to.length
  frn : ∀ b ∈ fr, isName b = true
  ton : ∀ y ∈ to, isName y = true
  old : ∀ y ∈ to, ∃ i, i < g ∧ y = xnm i
  nod : to.Nodup
  free : ∀ y ∈ to, y ∉ tk

theorem RInv.mono {tk fr to : List (List UInt8)} {g g' : Nat} (h : RInv tk fr to g) (hg : g ≤ g') : RInv tk fr to g' :=
  ⟨h.len, h.frn, h.ton, fun y hy => let ⟨i, a, b⟩ := h.old y hy; ⟨i, by omega, b⟩, h.nod, h.free⟩

theorem RInv.more {tk fr to : List (List UInt8)} {g : Nat} (h : RInv tk fr to g) {b y : List UInt8} (hb : isName b = true) (hy : isName y = true) (hn : y ∉ to) (ht : y ∉ tk) (ho : ∃ j, j < g ∧ y = xnm j) : RInv tk (fr ++ [b]) (to ++ [y]) g := by
  refine ⟨by simp [h.len], ?_, ?_, ?_, ?_, ?_⟩
  · intro x hx
    rcases List.mem_append.1 hx with hx | hx
    · exact h.frn x hx
    · rw [List.mem_singleton.1 hx]; exact hb
  · intro x hx
    rcases List.mem_append.1 hx with hx | hx
    · exact h.ton x hx
    · rw [List.mem_singleton.1 hx]; exact hy
  · intro x hx
    rcases List.mem_append.1 hx with hx | hx
    · exact h.old x hx
    · rw [List.mem_singleton.1 hx]; exact ho
  · rw [List.nodup_append]
    refine ⟨h.nod, List.nodup_cons.2 ⟨by simp, List.nodup_nil⟩, ?_⟩
    intro x hx z hz e
    rw [List.mem_singleton.1 hz] at e
    exact hn (e ▸ hx)
  · intro x hx
    rcases List.mem_append.1 hx with hx | hx
    · exact h.free x hx
    · rw [List.mem_singleton.1 hx]; exact ht

def FrIn (tk : List (List UInt8)) : Ts → Prop
  | .nil => True
  | .cons h a _ k r => (h = hName → a ≠ [] → a ∈ tk) ∧ FrIn tk k ∧ FrIn tk r

theorem depR_nodup {x : List UInt8} : ∀ (l : List (List UInt8)) (i d : Nat), l.Nodup → l[d]? = some x → depR x l i = some (i + d)
  | [], _, _, _, h => by simp at h
  | b :: l, i, 0, _, h => by
    simp only [List.getElem?_cons_zero, Option.some.injEq] at h
    simp [depR, h]
  | b :: l, i, d + 1, hn, h => by
    rw [List.getElem?_cons_succ] at h
    have hn2 := List.nodup_cons.1 hn
    have hne : b ≠ x := fun e => hn2.1 (e ▸ List.mem_of_getElem? h)
    have := depR_nodup l (i + 1) d hn2.2 h
    simp only [depR, if_neg hne, this]
    congr 1; omega

theorem dep_lt {x : List UInt8} {bs : List (List UInt8)} {d : Nat} (h : depOf x bs = some d) : d < bs.length := (dep_get h).2

theorem dep_to {to : List (List UInt8)} {d : Nat} (hn : to.Nodup) (hd : d < to.length) : depOf (to.getD (to.length - 1 - d) []) to = some d := by
  have h1 : to.reverse[d]? = some (to.getD (to.length - 1 - d) []) := by
    rw [List.getElem?_reverse hd, List.getD_eq_getElem?_getD, List.getElem?_eq_getElem (by omega)]
    rfl
  have := depR_nodup to.reverse 0 d (List.pairwise_reverse.2 (hn.imp (fun h => Ne.symm h))) h1
  rw [Nat.zero_add] at this
  exact this

theorem dep_none {x : List UInt8} {bs : List (List UInt8)} : depOf x bs = none ↔ x ∉ bs := by
  unfold depOf
  rw [depR_mem, List.mem_reverse]

theorem name_nontruth {a : List UInt8} (h : isName a = true) : ¬ (a = tTrue ∨ a = tFalse) := by
  rintro (rfl | rfl) <;> revert h <;> decide

theorem atom_cases {a : List UInt8} (h : isAtomTm a = true) : (a = tTrue ∨ a = tFalse) ∨ isName a = true := by
  simp only [isAtomTm, Bool.or_eq_true, beq_iff_eq] at h
  exact h

/-- an atom is renamed as a bound name is, or stays -/
theorem rn_atom {tk fr to : List (List UInt8)} {g : Nat} (hi : RInv tk fr to g) {a : List UInt8} (ha : isAtomTm a = true) (hf : ndH a .nil = hName → ndA fr a .nil ≠ [] → ndA fr a .nil ∈ tk) :
    isAtomTm (rnA fr to a) = true ∧ ndH (rnA fr to a) .nil = ndH a .nil ∧ ndA to (rnA fr to a) .nil = ndA fr a .nil ∧ ndD to (rnA fr to a) = ndD fr a := by
  have hane := (atom_bytes ha).1
  rcases atom_cases ha with ht | hn
  · have hnf : depOf a fr = none := dep_none.2 (fun hm => name_nontruth (hi.frn a hm) ht)
    have e : rnA fr to a = a := by simp [rnA, hane, hnf]
    rw [e]
    exact ⟨ha, rfl, by simp [ndA, hane, ht], by simp [ndD, hane, ht]⟩
  · have hnt := name_nontruth hn
    have eH : ndH a .nil = hName := by simp only [ndH, if_neg hane, if_neg hnt]
    have eA : ndA fr a .nil = nmA fr a := by simp only [ndA, if_neg hane, if_neg hnt]
    have eD : ndD fr a = (depOf a fr).getD 0 := by simp only [ndD, if_neg hane, if_neg hnt]
    cases hd : depOf a fr with
    | none =>
      have e : rnA fr to a = a := by simp [rnA, hane, hd]
      have hna : nmA fr a = a := by simp [nmA, hd]
      have htk : a ∈ tk := by
        have := hf eH (by rw [eA, hna]; exact hane)
        rwa [eA, hna] at this
      have hto : depOf a to = none := dep_none.2 (fun hm => hi.free a hm htk)
      rw [e]
      refine ⟨ha, rfl, ?_, ?_⟩
      · rw [eA, hna]; simp only [ndA, if_neg hane, if_neg hnt, nmA, hto]
      · rw [eD, hd]; simp only [ndD, if_neg hane, if_neg hnt, hto]
    | some d =>
      have hdl : d < to.length := by rw [← hi.len]; exact dep_lt hd
      obtain ⟨y, hy⟩ : ∃ y, y = to.getD (to.length - 1 - d) [] := ⟨_, rfl⟩
      have e : rnA fr to a = y := by simp [rnA, hane, hd, hy]
      have hym : y ∈ to := by
        rw [hy, List.getD_eq_getElem?_getD, List.getElem?_eq_getElem (by omega)]
        exact List.getElem_mem _
      have hyn := hi.ton y hym
      have hyne := (name_bytes hyn).1
      have hynt := name_nontruth hyn
      have hyd : depOf y to = some d := by rw [hy]; exact dep_to hi.nod hdl
      rw [e]
      refine ⟨by simp [isAtomTm, hyn], ?_, ?_, ?_⟩
      · rw [eH]; simp only [ndH, if_neg hyne, if_neg hynt]
      · rw [eA]; simp only [ndA, if_neg hyne, if_neg hynt, nmA, hyd, hd]
      · rw [eD, hd]; simp only [ndD, if_neg hyne, if_neg hynt, hyd]

theorem top_len {k : Fo} (bs : List (List UInt8)) (hw : k.wf) (h : isTms none k = true) : (cv k (.parts bs)).len ≠ 0 := by
  have := ((tx_eq k hw).2.1 bs h).1
  omega

theorem insB_cases (h : List UInt8) (i : Nat) : (bindsB h = true ∧ i + 1 = kidsOf h ∧ ∀ (cs : List (List UInt8)) (z : List UInt8), insB cs h z i = cs ++ [z]) ∨ (∀ (cs : List (List UInt8)) (z : List UInt8), insB cs h z i = cs) := by
  by_cases hq : bindsB h = true ∧ i + 1 = kidsOf h
  · exact .inl ⟨hq.1, hq.2, fun _ _ => by simp [insB, hq]⟩
  · exact .inr (fun _ _ => by simp only [insB, if_neg hq])

def NewN (tk to : List (List UInt8)) (g : Nat) (h b y : List UInt8) : Prop := bindsB h = true → isName b = true ∧ isName y = true ∧ y ∉ to ∧ y ∉ tk ∧ ∃ j, j < g ∧ y = xnm j

theorem RInv.ins {tk fr to : List (List UInt8)} {g : Nat} (hi : RInv tk fr to g) {h b y : List UInt8} (hn : NewN tk to g h b y) (i : Nat) : RInv tk (insB fr h b i) (insB to h y i) g := by
  rcases insB_cases h i with ⟨hb, _, e⟩ | e
  · rw [e, e]
    obtain ⟨a1, a2, a3, a4, a5⟩ := hn hb
    exact hi.more a1 a2 a3 a4 a5
  · rw [e, e]; exact hi

theorem RInv.new {tk fr to : List (List UInt8)} {g : Nat} (hi : RInv tk fr to g) : xnm (fsh tk g) ∉ to := by
  intro hm
  obtain ⟨i, a, b⟩ := hi.old _ hm
  have := xnm_inj _ _ b
  have := (fsh_spec tk g).1
  omega

theorem rn_eq (tk : List (List UInt8)) : ∀ f : Fo, f.wf →
    (∀ (fr to : List (List UInt8)) (h b y : List UInt8) (i c g : Nat), RInv tk fr to g → NewN tk to g h b y → isTms (some (List.replicate c true)) f = true → FrIn tk (cv f (.kids fr h b i)) → (rnT tk (cv f (.kids fr h b i)) g).2 ≤ 1000 →
      rnT tk (cv f (.kids fr h b i)) g = (cv (rnF tk f (.kids fr to h b y i) g).1 (.kids to h y i), (rnF tk f (.kids fr to h b y i) g).2) ∧
      isTms (some (List.replicate c true)) (rnF tk f (.kids fr to h b y i) g).1 = true ∧ (rnF tk f (.kids fr to h b y i) g).1.wf ∧ (rnF tk f (.kids fr to h b y i) g).1.size = f.size) ∧
    (∀ (fr to : List (List UInt8)) (g : Nat), RInv tk fr to g → isTms none f = true → FrIn tk (cv f (.parts fr)) → (rnT tk (cv f (.parts fr)) (if bindsB (hd1 f) then fsh tk g + 1 else g)).2 ≤ 1000 →
      rnT tk (cv f (.parts fr)) (if bindsB (hd1 f) then fsh tk g + 1 else g) = (cv (rnF tk f (.top fr to) g).1 (.parts to), (rnF tk f (.top fr to) g).2) ∧
      isTms none (rnF tk f (.top fr to) g).1 = true ∧ (rnF tk f (.top fr to) g).1.wf ∧ (rnF tk f (.top fr to) g).1.size = f.size ∧
      hd1 (rnF tk f (.top fr to) g).1 = hd1 f ∧ (bindsB (hd1 f) = true → hd2 (rnF tk f (.top fr to) g).1 = xnm (fsh tk g))) ∧
    (∀ (fr to : List (List UInt8)) (h : List UInt8) (c g : Nat), bindsB h = true → RInv tk fr to g → isTms (some (false :: List.replicate c true)) f = true → FrIn tk (cv f (.name fr h)) → (rnT tk (cv f (.name fr h)) (fsh tk g + 1)).2 ≤ 1000 →
      rnT tk (cv f (.name fr h)) (fsh tk g + 1) = (cv (rnF tk f (.name fr to h) g).1 (.name to h), (rnF tk f (.name fr to h) g).2) ∧
      isTms (some (false :: List.replicate c true)) (rnF tk f (.name fr to h) g).1 = true ∧ (rnF tk f (.name fr to h) g).1.wf ∧ (rnF tk f (.name fr to h) g).1.size = f.size ∧
      hd1 (rnF tk f (.name fr to h) g).1 = xnm (fsh tk g)) := by
  intro f
  induction f with
  | nil =>
    intro _
    refine ⟨fun fr to h b y i c g _ _ hs _ _ => ⟨rfl, hs, trivial, rfl⟩, fun fr to g _ hs => (by cases hs), fun fr to h c g _ _ hs => (by simp [isTms] at hs)⟩
  | cons a k r ihk ihr =>
    intro hw
    have hk := ihk hw.2.1
    have hr := ihr hw.2.2
    refine ⟨?_, ?_, ?_⟩
    · intro fr to h b y i c g hi hn hs hfr hend
      cases c with
      | zero => simp [isTms] at hs
      | succ c =>
        rw [List.replicate_succ] at hs ⊢
        simp only [isTms, Bool.and_eq_true] at hs
        have e1 : cv (.cons a k r) (.kids fr h b i) = .cons (ndH a k) (ndA (insB fr h b i) a k) (ndD (insB fr h b i) a) (cv k (.parts (insB fr h b i))) (cv r (.kids fr h b (i + 1))) := rfl
        rw [e1] at hfr hend ⊢
        have hi2 := hi.ins hn i
        by_cases ha : a = []
        · subst ha
          simp only [if_true] at hs
          have hlen := top_len (insB fr h b i) hw.2.1 hs.1
          have eG : rnG tk (ndH [] k) (cv k (.parts (insB fr h b i))) g = if bindsB (hd1 k) then fsh tk g + 1 else g := by
            simp only [rnG, if_neg hlen, ndH, if_true]
          have hend' := hend
          simp only [rnT, eG] at hend'
          have hm := rnT_mono tk (cv r (.kids fr h b (i + 1))) (rnT tk (cv k (.parts (insB fr h b i))) (if bindsB (hd1 k) then fsh tk g + 1 else g)).2
          obtain ⟨q1, q2, q3, q4, q5, q6⟩ := hk.2.1 (insB fr h b i) (insB to h y i) g hi2 hs.1 hfr.2.1 (by omega)
          have hg2 : g ≤ (rnF tk k (.top (insB fr h b i) (insB to h y i)) g).2 := by
            have h1 := rnT_mono tk (cv k (.parts (insB fr h b i))) (if bindsB (hd1 k) then fsh tk g + 1 else g)
            rw [q1] at h1
            have h2 := (fsh_spec tk g).1
            revert h1
            split
            · intro h1; exact Nat.le_trans (by omega : g ≤ fsh tk g + 1) h1
            · intro h1; exact h1
          rw [q1] at hend'
          obtain ⟨p1, p2, p3, p4⟩ := hr.1 fr to h b y (i + 1) c (rnF tk k (.top (insB fr h b i) (insB to h y i)) g).2 (hi.mono hg2)
            (fun hb => by obtain ⟨a1, a2, a3, a4, j, a5, a6⟩ := hn hb; exact ⟨a1, a2, a3, a4, j, by omega, a6⟩) hs.2 hfr.2.2 hend'
          have e3 : rnA (insB fr h b i) (insB to h y i) [] = [] := rfl
          have eA : rnAt tk (ndH [] k) (ndA (insB fr h b i) [] k) (cv k (.parts (insB fr h b i))) g = ndA (insB to h y i) [] (rnF tk k (.top (insB fr h b i) (insB to h y i)) g).1 := by
            simp only [rnAt, if_neg hlen, ndH, ndA, if_true, q5]
            by_cases hb : bindsB (hd1 k) = true
            · simp only [hb, if_true]; exact (q6 hb).symm
            · simp only [if_neg hb]
          have eD : rnD (ndD (insB fr h b i) []) (cv k (.parts (insB fr h b i))) = ndD (insB to h y i) [] := by simp [rnD, ndD]
          have eH : ndH [] k = ndH [] (rnF tk k (.top (insB fr h b i) (insB to h y i)) g).1 := by simp only [ndH, if_true, q5]
          simp only [rnF, if_true, e3]
          refine ⟨?_, ?_, ?_, ?_⟩
          · simp only [rnT, eG, q1, p1, eA, eD, cv, ← eH]
          · simp only [isTms, if_true, q2, p2, Bool.and_true]
          · exact ⟨fun h => absurd rfl h, q3, p3⟩
          · simp only [Fo.size, if_true, q4, p4]
        · simp only [if_neg ha] at hs
          obtain rfl := hw.1 ha
          obtain ⟨q1, q2, q3, q4⟩ := rn_atom hi2 hs.1 (fun e1 e2 => hfr.1 e1 e2)
          have hane := (atom_bytes q1).1
          have hend' := hend
          have eG : rnG tk (ndH a .nil) (cv .nil (.parts (insB fr h b i))) g = g := rfl
          simp only [rnT, eG] at hend'
          obtain ⟨p1, p2, p3, p4⟩ := hr.1 fr to h b y (i + 1) c g hi hn hs.2 hfr.2.2 hend'
          simp only [rnF, if_neg ha]
          refine ⟨?_, ?_, ?_, ?_⟩
          · simp only [rnT, cv, q2, q3, q4]
            have eG2 : rnG tk (ndH a .nil) Ts.nil g = g := rfl
            rw [eG2, p1]
            rfl
          · simp only [isTms, if_neg hane, q1, p2, Bool.and_true]
          · exact ⟨fun _ => rfl, trivial, p3⟩
          · simp only [Fo.size, if_neg ha, if_neg hane, p4]
    · intro fr to g hi hs hfr hend
      simp only [isTms, Bool.and_eq_true] at hs
      have hs0 : shapeOf a ≠ [] := by intro e; rw [e] at hs; cases hs.1
      have hane := (shape_head hs0).1
      obtain rfl := hw.1 hane
      have eh : hd1 (.cons a .nil r) = a := rfl
      rw [eh] at hend ⊢
      rcases shape_cases a with ⟨e, _⟩ | ⟨hb, e, hk1⟩ | ⟨hb, e, hk1⟩
      · exact absurd e hs0
      · have hs2 := hs.2
        rw [e] at hs2
        have e1 : ∀ bs, cv (.cons a .nil r) (.parts bs) = cv r (.name bs a) := fun bs => by simp [cv, hb]
        rw [e1] at hfr hend ⊢
        simp only [hb, if_true] at hend ⊢
        obtain ⟨p1, p2, p3, p4, p5⟩ := hr.2.2 fr to a _ g hb hi hs2 hfr hend
        have ef : rnF tk (.cons a .nil r) (.top fr to) g = (.cons a .nil (rnF tk r (.name fr to a) g).1, (rnF tk r (.name fr to a) g).2) := by simp [rnF, hb]
        rw [ef]
        refine ⟨?_, ?_, ?_, ?_, rfl, fun _ => ?_⟩
        · rw [p1]; simp [cv, hb]
        · simp only [isTms, e, p2, Bool.and_true]
          rfl
        · exact ⟨fun _ => rfl, trivial, p3⟩
        · simp only [Fo.size, if_neg hane, p4]
        · revert p5
          cases (rnF tk r (.name fr to a) g).1 with
          | nil => intro p5; exact p5
          | cons _ _ _ => intro p5; exact p5
      · have hs2 := hs.2
        rw [e] at hs2
        have e1 : ∀ bs, cv (.cons a .nil r) (.parts bs) = cv r (.kids bs a [] 0) := fun bs => by simp [cv, hb]
        rw [e1] at hfr hend ⊢
        simp only [hb, Bool.false_eq_true, if_false] at hend ⊢
        obtain ⟨p1, p2, p3, p4⟩ := hr.1 fr to a [] [] 0 _ g hi (fun h => by rw [hb] at h; cases h) hs2 hfr hend
        have ef : rnF tk (.cons a .nil r) (.top fr to) g = (.cons a .nil (rnF tk r (.kids fr to a [] [] 0) g).1, (rnF tk r (.kids fr to a [] [] 0) g).2) := by simp [rnF, hb]
        rw [ef]
        refine ⟨?_, ?_, ?_, ?_, rfl, fun h => (by cases h)⟩
        · rw [p1]; simp [cv, hb]
        · simp only [isTms, e, p2, Bool.and_true]
          cases hkk : kidsOf a with
          | zero => omega
          | succ n => rfl
        · exact ⟨fun _ => rfl, trivial, p3⟩
        · simp only [Fo.size, if_neg hane, p4]
    · intro fr to h c g hb hi hs hfr hend
      simp only [isTms, Bool.and_eq_true] at hs
      have hane := (name_bytes hs.1).1
      obtain rfl := hw.1 hane
      have e1 : ∀ bs, cv (.cons a .nil r) (.name bs h) = cv r (.kids bs h a 0) := fun bs => rfl
      rw [e1] at hfr hend ⊢
      have hm := rnT_mono tk (cv r (.kids fr h a 0)) (fsh tk g + 1)
      have hlt : fsh tk g < 1000 := by omega
      have hxn := xnm_name hlt
      have hsp := fsh_spec tk g
      obtain ⟨p1, p2, p3, p4⟩ := hr.1 fr to h a (xnm (fsh tk g)) 0 c (fsh tk g + 1) (hi.mono (by omega)) (fun _ => ⟨hs.1, hxn, hi.new, hsp.2.2, fsh tk g, by omega, rfl⟩) hs.2 hfr hend
      simp only [rnF]
      refine ⟨p1, ?_, ?_, ?_, rfl⟩
      · simp only [isTms, hxn, p2, Bool.and_true]
      · exact ⟨fun _ => rfl, trivial, p3⟩
      · simp only [Fo.size, if_neg hane, if_neg (name_bytes hxn).1, p4]

/-- the canonical tree of a term with names that are taken -/
def cnK (tk : List (List UInt8)) (a : List UInt8) (k : Fo) : Fo := if a = [] then (rnF tk k (.top [] []) 0).1 else k

theorem rinv_nil (tk : List (List UInt8)) (g : Nat) : RInv tk [] [] g :=
  ⟨rfl, fun _ h => (by cases h), fun _ h => (by cases h), fun _ h => (by cases h), List.nodup_nil, fun _ h => (by cases h)⟩

def rnNode (tk : List (List UInt8)) (h a : List UInt8) (d : Nat) (k : Ts) : Ts := (rnT tk (.cons h a d k .nil) 0).1

/-- renamed, a term of the program is the reading of the tree that the model renames -/
theorem cn_term {tk : List (List UInt8)} {a : List UInt8} {k : Fo} (h : isTm a k = true) (hw : a ≠ [] → k = .nil) (hk : k.wf) (hs : (cv k (.parts [])).size ≤ 390) (htk : tk.length ≤ 600)
    (hf : FrIn tk (.cons (ndH a k) (ndA [] a k) (ndD [] a) (cv k (.parts [])) .nil)) :
    rnNode tk (ndH a k) (ndA [] a k) (ndD [] a) (cv k (.parts [])) = .cons (ndH a (cnK tk a k)) (ndA [] a (cnK tk a k)) (ndD [] a) (cv (cnK tk a k) (.parts [])) .nil ∧
    isTm a (cnK tk a k) = true ∧ treeSize a (cnK tk a k) = treeSize a k ∧ (a ≠ [] → cnK tk a k = .nil) ∧ (cnK tk a k).wf := by
  by_cases ha : a = []
  · subst ha
    simp only [isTm, if_true] at h
    have hlen := top_len [] hk h
    have eG : rnG tk (ndH [] k) (cv k (.parts [])) 0 = if bindsB (hd1 k) then fsh tk 0 + 1 else 0 := by
      simp only [rnG, if_neg hlen, ndH, if_true]
    have hend : (rnT tk (cv k (.parts [])) (if bindsB (hd1 k) then fsh tk 0 + 1 else 0)).2 ≤ 1000 := by
      have h1 := rnT_bound tk (.cons (ndH [] k) (ndA [] [] k) (ndD [] []) (cv k (.parts [])) .nil)
      simp only [rnT, eG, Ts.size] at h1
      revert h1
      split <;> split <;> intro h1 <;> omega
    obtain ⟨q1, q2, q3, q4, q5, q6⟩ := (rn_eq tk k hk).2.1 [] [] 0 (rinv_nil tk 0) h hf.2.1 hend
    have ec : cnK tk [] k = (rnF tk k (.top [] []) 0).1 := by simp [cnK]
    rw [ec]
    refine ⟨?_, ?_, ?_, fun h => absurd rfl h, q3⟩
    · simp only [rnNode, rnT, eG, q1]
      have eA : rnAt tk (ndH [] k) (ndA [] [] k) (cv k (.parts [])) 0 = ndA [] [] (rnF tk k (.top [] []) 0).1 := by
        simp only [rnAt, if_neg hlen, ndH, ndA, if_true, q5]
        by_cases hb : bindsB (hd1 k) = true
        · simp only [hb, if_true]; exact (q6 hb).symm
        · simp only [if_neg hb]
      have eD : rnD (ndD [] []) (cv k (.parts [])) = ndD [] [] := by simp [rnD, ndD]
      have eH : ndH [] k = ndH [] (rnF tk k (.top [] []) 0).1 := by simp only [ndH, if_true, q5]
      rw [eA, eD, eH]
    · simp only [isTm, if_true, q2]
    · simp only [treeSize, if_true, q4]
  · obtain rfl := hw ha
    have ec : cnK tk a .nil = .nil := by simp [cnK, ha]
    rw [ec]
    exact ⟨rfl, h, rfl, fun _ => rfl, trivial⟩

theorem frU_keep (x : List UInt8) : ∀ (t : Ts) (l : List (List UInt8)), x ∈ l → x ∈ frU t l
  | .nil, _, h => h
  | .cons h a d k r, l, hx => by
    simp only [frU]
    apply frU_keep x r
    split
    · exact List.mem_append.2 (.inl hx)
    · exact frU_keep x k l hx

theorem FrIn.mono {tk tk' : List (List UInt8)} (h : ∀ x ∈ tk, x ∈ tk') : ∀ {t : Ts}, FrIn tk t → FrIn tk' t
  | .nil, _ => trivial
  | .cons _ _ _ _ _, ht => ⟨fun e1 e2 => h _ (ht.1 e1 e2), FrIn.mono h ht.2.1, FrIn.mono h ht.2.2⟩

/-- names have no parts -/
def Leafy : Ts → Prop
  | .nil => True
  | .cons h _ _ k r => (h = hName → k = .nil) ∧ Leafy k ∧ Leafy r

theorem frU_in : ∀ (t : Ts) (l : List (List UInt8)), Leafy t → FrIn (frU t l) t
  | .nil, _, _ => trivial
  | .cons h a d k r, l, hl => by
    simp only [frU]
    refine ⟨fun e1 e2 => ?_, ?_, frU_in r _ hl.2.2⟩
    · apply frU_keep
      by_cases ha : a ∈ l
      · rw [if_neg (fun h => h.2.2 ha)]
        exact frU_keep _ _ _ ha
      · rw [if_pos ⟨e1, e2, ha⟩]
        simp
    · by_cases hn : h = hName
      · rw [hl.1 hn]; trivial
      · rw [if_neg (fun e => hn e.1)]
        exact (frU_in k l hl.2.1).mono (fun x hx => frU_keep x r _ hx)

/- Alike terms: equal but for what lam and let call their names; canonical texts tell the same. -/

/-- without what lam and let call their names -/
def er : Ts → Ts
  | .nil => .nil
  | .cons h a d k r => .cons h (if k.len = 0 then a else []) d (er k) (er r)

def WfT : Ts → Prop
  | .nil => True
  | .cons h a d k r => k.len = kidsOf h ∧ (k.len ≠ 0 → d = 0 ∧ (bindsB h = false → a = [])) ∧ WfT k ∧ WfT r

theorem len_nil {k : Ts} (h : k.len = 0) : k = .nil := by
  cases k with
  | nil => rfl
  | cons _ _ _ _ _ => simp [Ts.len] at h

theorem kids_name : kidsOf hName = 0 := by decide
theorem kids_truth : kidsOf hTruth = 0 := by decide

theorem er_len : ∀ t : Ts, (er t).len = t.len
  | .nil => rfl
  | .cons h a d k r => by simp only [er, Ts.len, er_len r]

theorem er_size : ∀ t : Ts, (er t).size = t.size
  | .nil => rfl
  | .cons h a d k r => by simp only [er, Ts.size, er_size r, er_size k]

theorem fr_er : ∀ (t : Ts) (l : List (List UInt8)), WfT t → frU (er t) l = frU t l
  | .nil, _, _ => rfl
  | .cons h a d k r, l, hw => by
    simp only [er, frU]
    by_cases hn : h = hName
    · have h0 : k.len = 0 := by rw [hw.1, hn]; decide
      have hk := len_nil h0
      subst hk
      simp only [Ts.len, if_true, er, frU]
      rw [fr_er r _ hw.2.2.2]
    · rw [if_neg (fun e => hn e.1), if_neg (fun e => hn e.1), fr_er k l hw.2.2.1, fr_er r _ hw.2.2.2]

theorem rn_er (tk : List (List UInt8)) : ∀ (t : Ts) (g : Nat), WfT t → rnT tk (er t) g = rnT tk t g
  | .nil, _, _ => rfl
  | .cons h a d k r, g, hw => by
    have eA : rnAt tk h (if k.len = 0 then a else []) (er k) g = rnAt tk h a k g := by
      unfold rnAt
      rw [er_len]
      by_cases h0 : k.len = 0
      · simp only [h0, if_true]
      · simp only [if_neg h0]
        by_cases hb : bindsB h = true
        · simp only [hb, if_true]
        · simp only [if_neg hb]
          exact ((hw.2.1 h0).2 (by simpa using hb)).symm
    have eG : rnG tk h (er k) g = rnG tk h k g := by simp only [rnG, er_len]
    have eD : rnD d (er k) = rnD d k := by simp only [rnD, er_len]
    simp only [er, rnT, eA, eG, eD]
    rw [rn_er tk k _ hw.2.2.1, rn_er tk r _ hw.2.2.2]

theorem er_rn (tk : List (List UInt8)) : ∀ (t : Ts) (g : Nat), WfT t → er (rnT tk t g).1 = er t
  | .nil, _, _ => rfl
  | .cons h a d k r, g, hw => by
    simp only [rnT, er, rnT_len]
    rw [er_rn tk k _ hw.2.2.1, er_rn tk r _ hw.2.2.2]
    by_cases h0 : k.len = 0
    · simp only [rnAt, rnD, h0, if_true]
    · simp only [rnAt, rnD, if_neg h0, (hw.2.1 h0).1]

theorem wf_rn (tk : List (List UInt8)) : ∀ (t : Ts) (g : Nat), WfT t → WfT (rnT tk t g).1
  | .nil, _, _ => trivial
  | .cons h a d k r, g, hw => by
    simp only [rnT, WfT, rnT_len]
    refine ⟨hw.1, fun h0 => ?_, wf_rn tk k _ hw.2.2.1, wf_rn tk r _ hw.2.2.2⟩
    refine ⟨by simp only [rnD, if_neg h0], fun hb => ?_⟩
    simp only [rnAt, if_neg h0, hb, Bool.false_eq_true, if_false]
    exact (hw.2.1 h0).2 hb

/-- as the program compares -/
def smL : Ts → Ts → Bool
  | .nil, .nil => true
  | .cons h a d k r, .cons h' a' d' k' r' => (h == h' && d == d' && (if k.len = 0 then a == a' else smL k k')) && smL r r'
  | _, _ => false

theorem sm_er : ∀ (t t' : Ts), WfT t → WfT t' → (smL t t' = true ↔ er t = er t')
  | .nil, .nil, _, _ => by simp [smL, er]
  | .nil, .cons _ _ _ _ _, _, _ => by simp [smL, er]
  | .cons _ _ _ _ _, .nil, _, _ => by simp [smL, er]
  | .cons h a d k r, .cons h' a' d' k' r', hw, hw' => by
    have hr := sm_er r r' hw.2.2.2 hw'.2.2.2
    have hk := sm_er k k' hw.2.2.1 hw'.2.2.1
    simp only [smL, er, Bool.and_eq_true, beq_iff_eq, Ts.cons.injEq, hr]
    by_cases e : h = h'
    · subst e
      have el : k'.len = k.len := by rw [hw.1, hw'.1]
      by_cases h0 : k.len = 0
      · have k1 := len_nil h0
        have k2 := len_nil (el.trans h0)
        subst k1; subst k2
        simp only [Ts.len, if_true, beq_iff_eq, true_and]
        exact ⟨fun h => ⟨h.1.2, h.1.1, h.2⟩, fun h => ⟨⟨h.2.1, h.1⟩, h.2.2⟩⟩
      · simp only [el, if_neg h0, hk, true_and]
        exact ⟨fun h => ⟨h.1.1, h.1.2, h.2⟩, fun h => ⟨⟨h.1, h.2.1⟩, h.2.2⟩⟩
    · simp only [e, false_and]

theorem sm_len : ∀ (t t' : Ts), smL t t' = true → t.len = t'.len
  | .nil, .nil, _ => rfl
  | .nil, .cons _ _ _ _ _, h => by simp [smL] at h
  | .cons _ _ _ _ _, .nil, h => by simp [smL] at h
  | .cons h a d k r, .cons h' a' d' k' r', hs => by
    simp only [smL, Bool.and_eq_true] at hs
    simp only [Ts.len, sm_len r r' hs.2]

theorem wf_atom (bs : List (List UInt8)) (a : List UInt8) : (cv .nil (.parts bs)).len = kidsOf (ndH a .nil) := by
  unfold ndH
  split
  · exact (by decide : 0 = kidsOf [])
  · split
    · exact kids_truth.symm
    · exact kids_name.symm

/-- what is read has as many parts as its head tells, and no names but those that lam and let bind -/
theorem wf_cv : ∀ f : Fo, f.wf →
    (∀ (bs : List (List UInt8)) (h b : List UInt8) (i c : Nat), isTms (some (List.replicate c true)) f = true → WfT (cv f (.kids bs h b i))) ∧
    (∀ bs : List (List UInt8), isTms none f = true → WfT (cv f (.parts bs)) ∧ (cv f (.parts bs)).len = kidsOf (hd1 f)) ∧
    (∀ (bs : List (List UInt8)) (h : List UInt8) (c : Nat), isTms (some (false :: List.replicate c true)) f = true → WfT (cv f (.name bs h)) ∧ (cv f (.name bs h)).len = c) := by
  intro f
  induction f with
  | nil => exact fun _ => ⟨fun bs h b i c _ => trivial, fun bs h => (by cases h), fun bs h c hc => (by simp [isTms] at hc)⟩
  | cons a k r ihk ihr =>
    intro hw
    have hk := ihk hw.2.1
    have hr := ihr hw.2.2
    refine ⟨?_, ?_, ?_⟩
    · intro bs h b i c hs
      cases c with
      | zero => simp [isTms] at hs
      | succ c =>
        rw [List.replicate_succ] at hs
        simp only [isTms, Bool.and_eq_true] at hs
        have h2 := hr.1 bs h b (i + 1) c hs.2
        simp only [cv, WfT]
        by_cases ha : a = []
        · subst ha
          simp only [if_true] at hs
          obtain ⟨q1, q2⟩ := hk.2.1 (insB bs h b i) hs.1
          refine ⟨by simp only [q2, ndH, if_true], fun _ => ⟨by simp [ndD], fun hb => ?_⟩, q1, h2⟩
          simp only [ndH, if_true] at hb
          simp only [ndA, if_true, hb, Bool.false_eq_true, if_false]
        · obtain rfl := hw.1 ha
          refine ⟨wf_atom _ _, fun h0 => absurd rfl h0, trivial, h2⟩
    · intro bs hs
      simp only [isTms, Bool.and_eq_true] at hs
      have hs0 : shapeOf a ≠ [] := by intro e; rw [e] at hs; cases hs.1
      rcases shape_cases a with ⟨e, _⟩ | ⟨hb, e, hk1⟩ | ⟨hb, e, hk1⟩
      · exact absurd e hs0
      · have hs2 := hs.2
        rw [e] at hs2
        have e1 : cv (.cons a k r) (.parts bs) = cv r (.name bs a) := by simp [cv, hb]
        rw [e1]
        exact hr.2.2 bs a _ hs2
      · have hs2 := hs.2
        rw [e] at hs2
        have e1 : cv (.cons a k r) (.parts bs) = cv r (.kids bs a [] 0) := by simp [cv, hb]
        rw [e1]
        refine ⟨hr.1 bs a [] 0 _ hs2, ?_⟩
        rw [cv_kids_len, isTms_len _ _ hs2, List.length_replicate]
        rfl
    · intro bs h c hs
      simp only [isTms, Bool.and_eq_true] at hs
      have e1 : cv (.cons a k r) (.name bs h) = cv r (.kids bs h a 0) := rfl
      rw [e1]
      exact ⟨hr.1 bs h a 0 c hs.2, by rw [cv_kids_len, isTms_len _ _ hs.2, List.length_replicate]⟩

/-- the program's term of a tree -/
def nd (bs : List (List UInt8)) (a : List UInt8) (k : Fo) : Ts := .cons (ndH a k) (ndA bs a k) (ndD bs a) (cv k (.parts bs)) .nil

theorem wf_nd (bs : List (List UInt8)) {a : List UInt8} {k : Fo} (h : isTm a k = true) (hw : a ≠ [] → k = .nil) (hk : k.wf) : WfT (nd bs a k) := by
  by_cases ha : a = []
  · subst ha
    simp only [isTm, if_true] at h
    obtain ⟨q1, q2⟩ := (wf_cv k hk).2.1 bs h
    refine ⟨by simp only [q2, ndH, if_true], fun _ => ⟨by simp [ndD], fun hb => ?_⟩, q1, trivial⟩
    simp only [ndH, if_true] at hb
    simp only [ndA, if_true, hb, Bool.false_eq_true, if_false]
  · obtain rfl := hw ha
    exact ⟨wf_atom _ _, fun h0 => absurd rfl h0, trivial, trivial⟩

theorem leafy_of : ∀ t : Ts, WfT t → Leafy t
  | .nil, _ => trivial
  | .cons h a d k r, hw => ⟨fun e => len_nil (by rw [hw.1, e]; decide), leafy_of k hw.2.2.1, leafy_of r hw.2.2.2⟩

/-- the free names of a tree -/
def fvs (a : List UInt8) (k : Fo) : List (List UInt8) := fsT a k [] []

theorem frU_nd {a : List UInt8} {k : Fo} (h : isTm a k = true) (hw : a ≠ [] → k = .nil) (hk : k.wf) : frU (nd [] a k) [] = fvs a k := fr_term [] h hw hk

/-- the canonical text -/
def cnT (a : List UInt8) (k : Fo) : List UInt8 := treeText a (cnK (fvs a k) a k)

theorem nd_size {a : List UInt8} {k : Fo} (bs : List (List UInt8)) (h : isTm a k = true) (hw : a ≠ [] → k = .nil) (hk : k.wf) : (nd bs a k).size = treeSize a k := by
  have := node_size bs h hw hk
  simp only [nd, Ts.size]
  omega

structure CnOk (tk : List (List UInt8)) (a : List UInt8) (k : Fo) : Prop where
  node : (rnT tk (nd [] a k) 0).1 = nd [] a (cnK tk a k)
  tm : isTm a (cnK tk a k) = true
  size : treeSize a (cnK tk a k) = treeSize a k
  at_ : a ≠ [] → cnK tk a k = .nil
  wf : (cnK tk a k).wf

theorem cn_ok {tk : List (List UInt8)} {a : List UInt8} {k : Fo} (h : isTm a k = true) (hw : a ≠ [] → k = .nil) (hk : k.wf) (hs : treeSize a k ≤ 390) (htk : tk.length ≤ 600) (hf : FrIn tk (nd [] a k)) : CnOk tk a k := by
  have h1 := nd_size [] h hw hk
  simp only [nd, Ts.size] at h1
  obtain ⟨q1, q2, q3, q4, q5⟩ := cn_term (tk := tk) h hw hk (by omega) htk hf
  exact ⟨q1, q2, q3, q4, q5⟩

theorem fvs_len {a : List UInt8} {k : Fo} (h : isTm a k = true) (hw : a ≠ [] → k = .nil) (hk : k.wf) : (fvs a k).length ≤ treeSize a k := by
  have h1 := fr_len (nd [] a k) []
  rw [frU_nd h hw hk, nd_size [] h hw hk] at h1
  simpa using h1

theorem cn_self {a : List UInt8} {k : Fo} (h : isTm a k = true) (hw : a ≠ [] → k = .nil) (hk : k.wf) (hs : treeSize a k ≤ 390) : CnOk (fvs a k) a k := by
  have h1 := fvs_len h hw hk
  have h2 := frU_in (nd [] a k) [] (leafy_of _ (wf_nd [] h hw hk))
  rw [frU_nd h hw hk] at h2
  exact cn_ok h hw hk hs (by omega) h2

theorem nd_text {a a' : List UInt8} {k k' : Fo} (h : isTm a k = true) (hw : a ≠ [] → k = .nil) (hk : k.wf) (h' : isTm a' k' = true) (hw' : a' ≠ [] → k' = .nil) (hk' : k'.wf) (e : nd [] a k = nd [] a' k') : treeText a k = treeText a' k' := by
  rw [← tx_term [] h hw hk, ← tx_term [] h' hw' hk']
  simp only [nd, Ts.cons.injEq] at e
  obtain ⟨e1, e2, e3, e4, _⟩ := e
  rw [e1, e2, e3, e4]

theorem text_unique {a a' : List UInt8} {k k' : Fo} (h : isTm a k = true) (hw : a ≠ [] → k = .nil) (hk : k.wf) (hs : treeSize a k ≤ 300) (h' : isTm a' k' = true) (hw' : a' ≠ [] → k' = .nil) (hk' : k'.wf) (hs' : treeSize a' k' ≤ 300) (e : treeText a k = treeText a' k') : a = a' ∧ k = k' := by
  have d1 := isTm_deep h
  have d2 := isTm_deep h'
  have r1 := rd_good 301 a k [] (isTm_good hw hk h) (by omega) (fun _ _ e => by cases e)
  have r2 := rd_good 301 a' k' [] (isTm_good hw' hk' h') (by omega) (fun _ _ e => by cases e)
  rw [List.append_nil] at r1 r2
  rw [e, r2] at r1
  injection r1 with r1
  injection r1 with r3 r4
  injection r4 with r4 _
  exact ⟨r3.symm, r4.symm⟩

/-- terms are alike exactly if their canonical texts are equal -/
theorem alike_iff {a a' : List UInt8} {k k' : Fo} (h : isTm a k = true) (hw : a ≠ [] → k = .nil) (hk : k.wf) (hs : treeSize a k ≤ 300) (h' : isTm a' k' = true) (hw' : a' ≠ [] → k' = .nil) (hk' : k'.wf) (hs' : treeSize a' k' ≤ 300) :
    smL (nd [] a k) (nd [] a' k') = true ↔ cnT a k = cnT a' k' := by
  have w1 := wf_nd [] h hw hk
  have w2 := wf_nd [] h' hw' hk'
  rw [sm_er _ _ w1 w2]
  have c1 := cn_self h hw hk (by omega)
  have c2 := cn_self h' hw' hk' (by omega)
  constructor
  · intro e
    have ef : fvs a k = fvs a' k' := by rw [← frU_nd h hw hk, ← frU_nd h' hw' hk', ← fr_er _ _ w1, ← fr_er _ _ w2, e]
    refine nd_text c1.tm c1.at_ c1.wf c2.tm c2.at_ c2.wf ?_
    rw [← c1.node, ← c2.node, ef, ← rn_er _ _ _ w1, ← rn_er _ _ _ w2, e]
  · intro e
    obtain ⟨e1, e2⟩ := text_unique c1.tm c1.at_ c1.wf (by rw [c1.size]; exact hs) c2.tm c2.at_ c2.wf (by rw [c2.size]; exact hs') e
    have h3 : er (rnT (fvs a k) (nd [] a k) 0).1 = er (rnT (fvs a' k') (nd [] a' k') 0).1 := by
      rw [c1.node, c2.node, e2, e1]
    rwa [er_rn _ _ _ w1, er_rn _ _ _ w2] at h3
end Go.Proofs.YthbidlcfahdfhaaDoor
