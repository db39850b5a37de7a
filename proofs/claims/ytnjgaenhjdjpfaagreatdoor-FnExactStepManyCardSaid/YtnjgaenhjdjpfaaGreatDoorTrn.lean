/- Canonical names: what the program renames is the reading of what the model renames. · A term put for a name: in the program's terms, and in trees whose bound names are apart. · A term put for the name that is bound last: in the program's terms, whose bound names are depths. -/
import Derived.Test.YtnjgaenhjdjpfaaGreatDoorTfree
import Derived.Lib.ItoaNum
/- Canonical names: what the program renames is the reading of what the model renames. -/
namespace Go.Proofs.YtnjgaenhjdjpfaaGreatDoor
open Go.RowKit Go.ChangeMaps

/-- the canonical name with a number -/
def xnm (g : Nat) : List UInt8 := 120 :: Lib.decDigits g

def dval (l : List UInt8) : Nat := l.foldl (fun n c => 10 * n + (c.toNat - 48)) 0

theorem dig_val {n : Nat} (h : n < 10) : (UInt8.ofNat (48 + n)).toNat = 48 + n := by
  rw [UInt8.toNat_ofNat']; omega

theorem dval_dec (u : Nat) : dval (Lib.decDigits u) = u := by
  induction u using Nat.strongRecOn with
  | ind u ih =>
    rw [Lib.decDigits]
    by_cases h : u < 10
    · rw [dif_pos h]
      simp only [dval, List.foldl_cons, List.foldl_nil, dig_val h]
      omega
    · rw [dif_neg h]
      have e := ih (u / 10) (by omega)
      unfold dval at e ⊢
      rw [List.foldl_append, e]
      simp only [List.foldl_cons, List.foldl_nil, dig_val (Nat.mod_lt u (by decide : 0 < 10))]
      omega

theorem dec_digs (u : Nat) : (Lib.decDigits u).all isDig = true := by
  induction u using Nat.strongRecOn with
  | ind u ih =>
    rw [Lib.decDigits]
    by_cases h : u < 10
    · rw [dif_pos h]
      simp only [List.all_cons, List.all_nil, Bool.and_true, isDig, dig_val h, Bool.and_eq_true, decide_eq_true_eq]
      omega
    · rw [dif_neg h, List.all_append, ih (u / 10) (by omega)]
      simp only [List.all_cons, List.all_nil, Bool.and_true, Bool.true_and, isDig, dig_val (Nat.mod_lt u (by decide : 0 < 10)), Bool.and_eq_true, decide_eq_true_eq]
      omega

theorem dec_len (u : Nat) : ∀ n, u < 10 ^ (n + 1) → (Lib.decDigits u).length ≤ n + 1 := by
  induction u using Nat.strongRecOn with
  | ind u ih =>
    intro n hn
    rw [Lib.decDigits]
    by_cases h : u < 10
    · rw [dif_pos h]; simp
    · rw [dif_neg h, List.length_append]
      cases n with
      | zero => omega
      | succ n =>
        have := ih (u / 10) (by omega) n (by rw [Nat.pow_succ] at hn; omega)
        simp only [List.length_cons, List.length_nil]
        omega

theorem xnm_inj (i j : Nat) (h : xnm i = xnm j) : i = j := by
  unfold xnm at h
  injection h with _ h
  rw [← dval_dec i, h, dval_dec]

theorem xnm_name {g : Nat} (h : g < 1000) : isName (xnm g) = true := by
  have h1 := dec_len g 2 h
  have h2 := dec_digs g
  simp only [xnm, isName, h2, Bool.and_true, Bool.and_eq_true, decide_eq_true_eq]
  exact ⟨h1, by decide, by decide⟩

theorem pig : ∀ (l : List Nat) (t : List (List UInt8)), l.Nodup → (∀ i ∈ l, xnm i ∈ t) → l.length ≤ t.length
  | [], _, _, _ => Nat.zero_le _
  | i :: l, t, hn, h => by
    have hi := h i (List.mem_cons_self ..)
    have hn2 := List.nodup_cons.1 hn
    have h1 := pig l (t.erase (xnm i)) hn2.2 (fun j hj => (List.mem_erase_of_ne (fun e => hn2.1 (by rw [← xnm_inj _ _ e]; exact hj))).2 (h j (List.mem_cons_of_mem _ hj)))
    rw [List.length_erase_of_mem hi] at h1
    have h2 := List.length_pos_of_mem hi
    simp only [List.length_cons]
    omega

/-- how many of the first names are taken -/
def tkN (tk : List (List UInt8)) (g : Nat) : Nat := ((List.range g).filter (fun j => decide (xnm j ∈ tk))).length

theorem tk_le (tk : List (List UInt8)) (g : Nat) : tkN tk g ≤ tk.length := by
  refine pig _ _ (List.Pairwise.filter _ List.nodup_range) ?_
  intro i hi
  have := (List.mem_filter.1 hi).2
  simpa using this

theorem tk_succ (tk : List (List UInt8)) (g : Nat) : tkN tk (g + 1) = tkN tk g + if xnm g ∈ tk then 1 else 0 := by
  unfold tkN
  rw [List.range_succ, List.filter_append, List.length_append]
  congr 1
  by_cases h : xnm g ∈ tk <;> simp [h]

theorem tk_run (tk : List (List UInt8)) (g : Nat) : ∀ n, (∀ i, g ≤ i → i < g + n → xnm i ∈ tk) → tkN tk (g + n) = tkN tk g + n
  | 0, _ => rfl
  | n + 1, h => by
    have h1 := tk_run tk g n (fun i a b => h i a (by omega))
    rw [← Nat.add_assoc, tk_succ, h1, if_pos (h _ (by omega) (by omega)), Nat.add_assoc]

/-- the next number whose name is not taken -/
def fshR (tk : List (List UInt8)) : Nat → Nat → Nat
  | 0, g => g
  | n + 1, g => if xnm g ∈ tk then fshR tk n (g + 1) else g
def fsh (tk : List (List UInt8)) (g : Nat) : Nat := fshR tk tk.length g

theorem fshR_spec (tk : List (List UInt8)) : ∀ n g, g ≤ fshR tk n g ∧ fshR tk n g ≤ g + n ∧ (∀ i, g ≤ i → i < fshR tk n g → xnm i ∈ tk) ∧ (fshR tk n g < g + n → xnm (fshR tk n g) ∉ tk)
  | 0, g => ⟨Nat.le_refl _, Nat.le_refl _, fun i h1 h2 => absurd h1 (by simp only [fshR] at h2; omega), fun h => absurd h (by simp [fshR])⟩
  | n + 1, g => by
    by_cases h : xnm g ∈ tk
    · simp only [fshR, if_pos h]
      obtain ⟨a, b, c, d⟩ := fshR_spec tk n (g + 1)
      refine ⟨by omega, by omega, fun i h1 h2 => ?_, fun h => d (by omega)⟩
      by_cases e : i = g
      · rw [e]; exact h
      · exact c i (by omega) h2
    · simp only [fshR, if_neg h]
      exact ⟨Nat.le_refl _, by omega, fun i h1 h2 => absurd h1 (by omega), fun _ => h⟩

theorem fsh_spec (tk : List (List UInt8)) (g : Nat) : g ≤ fsh tk g ∧ (∀ i, g ≤ i → i < fsh tk g → xnm i ∈ tk) ∧ xnm (fsh tk g) ∉ tk := by
  obtain ⟨a, b, c, d⟩ := fshR_spec tk tk.length g
  refine ⟨a, c, ?_⟩
  by_cases h : fshR tk tk.length g < g + tk.length
  · exact d h
  · intro hm
    have e : fshR tk tk.length g = g + tk.length := by omega
    have := pig (List.range' g (tk.length + 1)) tk List.nodup_range' (fun i hi => by
      rw [List.mem_range'_1] at hi
      by_cases hj : i = g + tk.length
      · rw [hj, ← e]; exact hm
      · exact c i hi.1 (by omega))
    rw [List.length_range'] at this
    omega

theorem fsh_tk (tk : List (List UInt8)) (g : Nat) : tkN tk (fsh tk g + 1) + g = tkN tk g + fsh tk g := by
  obtain ⟨a, b, c⟩ := fsh_spec tk g
  obtain ⟨n, hn⟩ : ∃ n, fsh tk g = g + n := ⟨fsh tk g - g, by omega⟩
  rw [tk_succ, if_neg c, hn, tk_run tk g n (fun i h1 h2 => b i h1 (by omega))]
  omega

/-- what the program's renaming makes of a node, ahead of its parts -/
def rnAt (tk : List (List UInt8)) (h a : List UInt8) (k : Ts) (g : Nat) : List UInt8 := if k.len = 0 then a else if bindsB h then xnm (fsh tk g) else a
def rnG (tk : List (List UInt8)) (h : List UInt8) (k : Ts) (g : Nat) : Nat := if k.len = 0 then g else if bindsB h then fsh tk g + 1 else g
def rnD (d : Nat) (k : Ts) : Nat := if k.len = 0 then d else 0

/-- the program's renaming, with the number of the next name -/
def rnT (tk : List (List UInt8)) : Ts → Nat → Ts × Nat
  | .nil, g => (.nil, g)
  | .cons h a d k r, g => (.cons h (rnAt tk h a k g) (rnD d k) (rnT tk k (rnG tk h k g)).1 (rnT tk r (rnT tk k (rnG tk h k g)).2).1, (rnT tk r (rnT tk k (rnG tk h k g)).2).2)

theorem rnG_le (tk : List (List UInt8)) (h : List UInt8) (k : Ts) (g : Nat) : g ≤ rnG tk h k g := by
  have := (fsh_spec tk g).1
  unfold rnG
  split
  · exact Nat.le_refl _
  · split <;> omega

theorem rnT_mono (tk : List (List UInt8)) : ∀ (t : Ts) (g : Nat), g ≤ (rnT tk t g).2
  | .nil, _ => Nat.le_refl _
  | .cons h a d k r, g => by
    have h1 := rnG_le tk h k g
    have h2 := rnT_mono tk k (rnG tk h k g)
    have h3 := rnT_mono tk r (rnT tk k (rnG tk h k g)).2
    simp only [rnT]
    omega

theorem rnT_len (tk : List (List UInt8)) : ∀ (t : Ts) (g : Nat), (rnT tk t g).1.len = t.len
  | .nil, _ => rfl
  | .cons h a d k r, g => by
    simp only [rnT, Ts.len]
    rw [rnT_len tk r]

theorem rnT_size (tk : List (List UInt8)) : ∀ (t : Ts) (g : Nat), (rnT tk t g).1.size = t.size
  | .nil, _ => rfl
  | .cons h a d k r, g => by
    simp only [rnT, Ts.size]
    rw [rnT_size tk r, rnT_size tk k]

theorem rnT_end (tk : List (List UInt8)) : ∀ (t : Ts) (g : Nat), (rnT tk t g).2 + tkN tk g ≤ g + t.size + tkN tk (rnT tk t g).2
  | .nil, g => by simp [rnT, Ts.size]
  | .cons h a d k r, g => by
    have h0 : rnG tk h k g + tkN tk g ≤ g + 1 + tkN tk (rnG tk h k g) := by
      unfold rnG
      split
      · omega
      · split
        · have := fsh_tk tk g; omega
        · omega
    have h2 := rnT_end tk k (rnG tk h k g)
    have h3 := rnT_end tk r (rnT tk k (rnG tk h k g)).2
    simp only [rnT, Ts.size]
    split <;> omega

theorem rnT_bound (tk : List (List UInt8)) (t : Ts) : (rnT tk t 0).2 ≤ t.size + tk.length := by
  have h1 := rnT_end tk t 0
  have h2 := tk_le tk (rnT tk t 0).2
  omega

inductive Rm where
  | top (fr to : List (List UInt8))
  | name (fr to : List (List UInt8)) (h : List UInt8)
  | kids (fr to : List (List UInt8)) (h b y : List UInt8) (i : Nat)

/-- what the model makes of an atom -/
def rnA (fr to : List (List UInt8)) (a : List UInt8) : List UInt8 :=
  if a = [] then [] else match depOf a fr with
    | some d => to.getD (to.length - 1 - d) []
    | none => a

/-- the model's renaming, with the number of the next name -/
def rnF (tk : List (List UInt8)) : Fo → Rm → Nat → Fo × Nat
  | .nil, _, g => (.nil, g)
  | .cons h k r, .top fr to, g => if bindsB h then (.cons h k (rnF tk r (.name fr to h) g).1, (rnF tk r (.name fr to h) g).2) else (.cons h k (rnF tk r (.kids fr to h [] [] 0) g).1, (rnF tk r (.kids fr to h [] [] 0) g).2)
  | .cons x _ r, .name fr to h, g => (.cons (xnm (fsh tk g)) .nil (rnF tk r (.kids fr to h x (xnm (fsh tk g)) 0) (fsh tk g + 1)).1, (rnF tk r (.kids fr to h x (xnm (fsh tk g)) 0) (fsh tk g + 1)).2)
  | .cons a k r, .kids fr to h b y i, g =>
    (.cons (rnA (insB fr h b i) (insB to h y i) a) (if a = [] then (rnF tk k (.top (insB fr h b i) (insB to h y i)) g).1 else k) (rnF tk r (.kids fr to h b y (i + 1)) (if a = [] then (rnF tk k (.top (insB fr h b i) (insB to h y i)) g).2 else g)).1,
      (rnF tk r (.kids fr to h b y (i + 1)) (if a = [] then (rnF tk k (.top (insB fr h b i) (insB to h y i)) g).2 else g)).2)

/-- bound names with their new ones -/
structure RInv (tk fr to : List (List UInt8)) (g : Nat) : Prop where
  len : fr.length = to.length
  frn : ∀ b ∈ fr, isName b = true
  ton : ∀ y ∈ to, isName y = true
  old : ∀ y ∈ to, ∃ i, i < g ∧ y = xnm i
  nod : to.Nodup
  free : ∀ y ∈ to, y ∉ tk

theorem RInv.mono {tk fr to : List (List UInt8)} {g g' : Nat} (h : RInv tk fr to g) (hg : g ≤ g') : RInv tk fr to g' :=
  ⟨h.len, h.frn, h.ton, fun y hy => let ⟨i, a, b⟩ := h.old y hy; ⟨i, by omega, b⟩, h.nod, h.free⟩

theorem RInv.more {tk fr to : List (List UInt8)} {g : Nat} (h : RInv tk fr to g) {b y : List UInt8} (hb : isName b = true) (hy : isName y = true) (hn : y ∉ to) (ht : y ∉ tk) (ho : ∃ j, j < g ∧ y = xnm j) : RInv tk (fr ++ [b]) (to ++ [y]) g := by
  refine ⟨by simp [h.len], ?_, ?_, ?_, ?_, ?_⟩
  · intro x hx
    rcases List.mem_append.1 hx with hx | hx
    · exact h.frn x hx
    · rw [List.mem_singleton.1 hx]; exact hb
  · intro x hx
    rcases List.mem_append.1 hx with hx | hx
    · exact h.ton x hx
    · rw [List.mem_singleton.1 hx]; exact hy
  · intro x hx
    rcases List.mem_append.1 hx with hx | hx
    · exact h.old x hx
    · rw [List.mem_singleton.1 hx]; exact ho
  · rw [List.nodup_append]
    refine ⟨h.nod, List.nodup_cons.2 ⟨by simp, List.nodup_nil⟩, ?_⟩
    intro x hx z hz e
    rw [List.mem_singleton.1 hz] at e
    exact hn (e ▸ hx)
  · intro x hx
    rcases List.mem_append.1 hx with hx | hx
    · exact h.free x hx
    · rw [List.mem_singleton.1 hx]; exact ht

def FrIn (tk : List (List UInt8)) : Ts → Prop
  | .nil => True
  | .cons h a _ k r => (h = hName → a ≠ [] → a ∈ tk) ∧ FrIn tk k ∧ FrIn tk r

theorem depR_nodup {x : List UInt8} : ∀ (l : List (List UInt8)) (i d : Nat), l.Nodup → l[d]? = some x → depR x l i = some (i + d)
  | [], _, _, _, h => by simp at h
  | b :: l, i, 0, _, h => by
    simp only [List.getElem?_cons_zero, Option.some.injEq] at h
    simp [depR, h]
  | b :: l, i, d + 1, hn, h => by
    rw [List.getElem?_cons_succ] at h
    have hn2 := List.nodup_cons.1 hn
    have hne : b ≠ x := fun e => hn2.1 (e ▸ List.mem_of_getElem? h)
    have := depR_nodup l (i + 1) d hn2.2 h
    simp only [depR, if_neg hne, this]
    congr 1; omega

theorem dep_lt {x : List UInt8} {bs : List (List UInt8)} {d : Nat} (h : depOf x bs = some d) : d < bs.length := (dep_get h).2

theorem dep_to {to : List (List UInt8)} {d : Nat} (hn : to.Nodup) (hd : d < to.length) : depOf (to.getD (to.length - 1 - d) []) to = some d := by
  have h1 : to.reverse[d]? = some (to.getD (to.length - 1 - d) []) := by
    rw [List.getElem?_reverse hd, List.getD_eq_getElem?_getD, List.getElem?_eq_getElem (by omega)]
    rfl
  have := depR_nodup to.reverse 0 d (List.pairwise_reverse.2 (hn.imp (fun h => Ne.symm h))) h1
  rw [Nat.zero_add] at this
  exact this

theorem dep_none {x : List UInt8} {bs : List (List UInt8)} : depOf x bs = none ↔ x ∉ bs := by
  unfold depOf
  rw [depR_mem, List.mem_reverse]

theorem name_nontruth {a : List UInt8} (h : isName a = true) : ¬ (a = tTrue ∨ a = tFalse) := by
  rintro (rfl | rfl) <;> revert h <;> decide

theorem atom_cases {a : List UInt8} (h : isAtomTm a = true) : (a = tTrue ∨ a = tFalse) ∨ isName a = true := by
  simp only [isAtomTm, Bool.or_eq_true, beq_iff_eq] at h
  exact h

/-- an atom is renamed as a bound name is, or stays -/
theorem rn_atom {tk fr to : List (List UInt8)} {g : Nat} (hi : RInv tk fr to g) {a : List UInt8} (ha : isAtomTm a = true) (hf : ndH a .nil = hName → ndA fr a .nil ≠ [] → ndA fr a .nil ∈ tk) :
    isAtomTm (rnA fr to a) = true ∧ ndH (rnA fr to a) .nil = ndH a .nil ∧ ndA to (rnA fr to a) .nil = ndA fr a .nil ∧ ndD to (rnA fr to a) = ndD fr a := by
  have hane := (atom_bytes ha).1
  rcases atom_cases ha with ht | hn
  · have hnf : depOf a fr = none := dep_none.2 (fun hm => name_nontruth (hi.frn a hm) ht)
    have e : rnA fr to a = a := by simp [rnA, hane, hnf]
    rw [e]
    exact ⟨ha, rfl, by simp [ndA, hane, ht], by simp [ndD, hane, ht]⟩
  · have hnt := name_nontruth hn
    have eH : ndH a .nil = hName := by simp only [ndH, if_neg hane, if_neg hnt]
    have eA : ndA fr a .nil = nmA fr a := by simp only [ndA, if_neg hane, if_neg hnt]
    have eD : ndD fr a = (depOf a fr).getD 0 := by simp only [ndD, if_neg hane, if_neg hnt]
    cases hd : depOf a fr with
    | none =>
      have e : rnA fr to a = a := by simp [rnA, hane, hd]
      have hna : nmA fr a = a := by simp [nmA, hd]
      have htk : a ∈ tk := by
        have := hf eH (by rw [eA, hna]; exact hane)
        rwa [eA, hna] at this
      have hto : depOf a to = none := dep_none.2 (fun hm => hi.free a hm htk)
      rw [e]
      refine ⟨ha, rfl, ?_, ?_⟩
      · rw [eA, hna]; simp only [ndA, if_neg hane, if_neg hnt, nmA, hto]
      · rw [eD, hd]; simp only [ndD, if_neg hane, if_neg hnt, hto]
    | some d =>
      have hdl : d < to.length := by rw [← hi.len]; exact dep_lt hd
      obtain ⟨y, hy⟩ : ∃ y, y = to.getD (to.length - 1 - d) [] := ⟨_, rfl⟩
      have e : rnA fr to a = y := by simp [rnA, hane, hd, hy]
      have hym : y ∈ to := by
        rw [hy, List.getD_eq_getElem?_getD, List.getElem?_eq_getElem (by omega)]
        exact List.getElem_mem _
      have hyn := hi.ton y hym
      have hyne := (name_bytes hyn).1
      have hynt := name_nontruth hyn
      have hyd : depOf y to = some d := by rw [hy]; exact dep_to hi.nod hdl
      rw [e]
      refine ⟨by simp [isAtomTm, hyn], ?_, ?_, ?_⟩
      · rw [eH]; simp only [ndH, if_neg hyne, if_neg hynt]
      · rw [eA]; simp only [ndA, if_neg hyne, if_neg hynt, nmA, hyd, hd]
      · rw [eD, hd]; simp only [ndD, if_neg hyne, if_neg hynt, hyd]

theorem top_len {k : Fo} (bs : List (List UInt8)) (hw : k.wf) (h : isTms none k = true) : (cv k (.parts bs)).len ≠ 0 := by
  have := ((tx_eq k hw).2.1 bs h).1
  omega

theorem insB_cases (h : List UInt8) (i : Nat) : (bindsB h = true ∧ i + 1 = kidsOf h ∧ ∀ (cs : List (List UInt8)) (z : List UInt8), insB cs h z i = cs ++ [z]) ∨ (∀ (cs : List (List UInt8)) (z : List UInt8), insB cs h z i = cs) := by
  by_cases hq : bindsB h = true ∧ i + 1 = kidsOf h
  · exact .inl ⟨hq.1, hq.2, fun _ _ => by simp [insB, hq]⟩
  · exact .inr (fun _ _ => by simp only [insB, if_neg hq])

def NewN (tk to : List (List UInt8)) (g : Nat) (h b y : List UInt8) : Prop := bindsB h = true → isName b = true ∧ isName y = true ∧ y ∉ to ∧ y ∉ tk ∧ ∃ j, j < g ∧ y = xnm j

theorem RInv.ins {tk fr to : List (List UInt8)} {g : Nat} (hi : RInv tk fr to g) {h b y : List UInt8} (hn : NewN tk to g h b y) (i : Nat) : RInv tk (insB fr h b i) (insB to h y i) g := by
  rcases insB_cases h i with ⟨hb, _, e⟩ | e
  · rw [e, e]
    obtain ⟨a1, a2, a3, a4, a5⟩ := hn hb
    exact hi.more a1 a2 a3 a4 a5
  · rw [e, e]; exact hi

theorem RInv.new {tk fr to : List (List UInt8)} {g : Nat} (hi : RInv tk fr to g) : xnm (fsh tk g) ∉ to := by
  intro hm
  obtain ⟨i, a, b⟩ := hi.old _ hm
  have := xnm_inj _ _ b
  have := (fsh_spec tk g).1
  omega

theorem rn_eq (tk : List (List UInt8)) : ∀ f : Fo, f.wf →
    (∀ (fr to : List (List UInt8)) (h b y : List UInt8) (i c g : Nat), RInv tk fr to g → NewN tk to g h b y → isTms (some (List.replicate c true)) f = true → FrIn tk (cv f (.kids fr h b i)) → (rnT tk (cv f (.kids fr h b i)) g).2 ≤ 1000 →
      rnT tk (cv f (.kids fr h b i)) g = (cv (rnF tk f (.kids fr to h b y i) g).1 (.kids to h y i), (rnF tk f (.kids fr to h b y i) g).2) ∧
      isTms (some (List.replicate c true)) (rnF tk f (.kids fr to h b y i) g).1 = true ∧ (rnF tk f (.kids fr to h b y i) g).1.wf ∧ (rnF tk f (.kids fr to h b y i) g).1.size = f.size) ∧
    (∀ (fr to : List (List UInt8)) (g : Nat), RInv tk fr to g → isTms none f = true → FrIn tk (cv f (.parts fr)) → (rnT tk (cv f (.parts fr)) (if bindsB (hd1 f) then fsh tk g + 1 else g)).2 ≤ 1000 →
      rnT tk (cv f (.parts fr)) (if bindsB (hd1 f) then fsh tk g + 1 else g) = (cv (rnF tk f (.top fr to) g).1 (.parts to), (rnF tk f (.top fr to) g).2) ∧
      isTms none (rnF tk f (.top fr to) g).1 = true ∧ (rnF tk f (.top fr to) g).1.wf ∧ (rnF tk f (.top fr to) g).1.size = f.size ∧
      hd1 (rnF tk f (.top fr to) g).1 = hd1 f ∧ (bindsB (hd1 f) = true → hd2 (rnF tk f (.top fr to) g).1 = xnm (fsh tk g))) ∧
    (∀ (fr to : List (List UInt8)) (h : List UInt8) (c g : Nat), bindsB h = true → RInv tk fr to g → isTms (some (false :: List.replicate c true)) f = true → FrIn tk (cv f (.name fr h)) → (rnT tk (cv f (.name fr h)) (fsh tk g + 1)).2 ≤ 1000 →
      rnT tk (cv f (.name fr h)) (fsh tk g + 1) = (cv (rnF tk f (.name fr to h) g).1 (.name to h), (rnF tk f (.name fr to h) g).2) ∧
      isTms (some (false :: List.replicate c true)) (rnF tk f (.name fr to h) g).1 = true ∧ (rnF tk f (.name fr to h) g).1.wf ∧ (rnF tk f (.name fr to h) g).1.size = f.size ∧
      hd1 (rnF tk f (.name fr to h) g).1 = xnm (fsh tk g)) := by
  intro f
  induction f with
  | nil =>
    intro _
    refine ⟨fun fr to h b y i c g _ _ hs _ _ => ⟨rfl, hs, trivial, rfl⟩, fun fr to g _ hs => (by cases hs), fun fr to h c g _ _ hs => (by simp [isTms] at hs)⟩
  | cons a k r ihk ihr =>
    intro hw
    have hk := ihk hw.2.1
    have hr := ihr hw.2.2
    refine ⟨?_, ?_, ?_⟩
    · intro fr to h b y i c g hi hn hs hfr hend
      cases c with
      | zero => simp [isTms] at hs
      | succ c =>
        rw [List.replicate_succ] at hs ⊢
        simp only [isTms, Bool.and_eq_true] at hs
        have e1 : cv (.cons a k r) (.kids fr h b i) = .cons (ndH a k) (ndA (insB fr h b i) a k) (ndD (insB fr h b i) a) (cv k (.parts (insB fr h b i))) (cv r (.kids fr h b (i + 1))) := rfl
        rw [e1] at hfr hend ⊢
        have hi2 := hi.ins hn i
        by_cases ha : a = []
        · subst ha
          simp only [if_true] at hs
          have hlen := top_len (insB fr h b i) hw.2.1 hs.1
          have eG : rnG tk (ndH [] k) (cv k (.parts (insB fr h b i))) g = if bindsB (hd1 k) then fsh tk g + 1 else g := by
            simp only [rnG, if_neg hlen, ndH, if_true]
          have hend' := hend
          simp only [rnT, eG] at hend'
          have hm := rnT_mono tk (cv r (.kids fr h b (i + 1))) (rnT tk (cv k (.parts (insB fr h b i))) (if bindsB (hd1 k) then fsh tk g + 1 else g)).2
          obtain ⟨q1, q2, q3, q4, q5, q6⟩ := hk.2.1 (insB fr h b i) (insB to h y i) g hi2 hs.1 hfr.2.1 (by omega)
          have hg2 : g ≤ (rnF tk k (.top (insB fr h b i) (insB to h y i)) g).2 := by
            have h1 := rnT_mono tk (cv k (.parts (insB fr h b i))) (if bindsB (hd1 k) then fsh tk g + 1 else g)
            rw [q1] at h1
            have h2 := (fsh_spec tk g).1
            revert h1
            split
            · intro h1; exact Nat.le_trans (by omega : g ≤ fsh tk g + 1) h1
            · intro h1; exact h1
          rw [q1] at hend'
          obtain ⟨p1, p2, p3, p4⟩ := hr.1 fr to h b y (i + 1) c (rnF tk k (.top (insB fr h b i) (insB to h y i)) g).2 (hi.mono hg2)
            (fun hb => by obtain ⟨a1, a2, a3, a4, j, a5, a6⟩ := hn hb; exact ⟨a1, a2, a3, a4, j, by omega, a6⟩) hs.2 hfr.2.2 hend'
          have e3 : rnA (insB fr h b i) (insB to h y i) [] = [] := rfl
          have eA : rnAt tk (ndH [] k) (ndA (insB fr h b i) [] k) (cv k (.parts (insB fr h b i))) g = ndA (insB to h y i) [] (rnF tk k (.top (insB fr h b i) (insB to h y i)) g).1 := by
            simp only [rnAt, if_neg hlen, ndH, ndA, if_true, q5]
            by_cases hb : bindsB (hd1 k) = true
            · simp only [hb, if_true]; exact (q6 hb).symm
            · simp only [if_neg hb]
          have eD : rnD (ndD (insB fr h b i) []) (cv k (.parts (insB fr h b i))) = ndD (insB to h y i) [] := by simp [rnD, ndD]
          have eH : ndH [] k = ndH [] (rnF tk k (.top (insB fr h b i) (insB to h y i)) g).1 := by simp only [ndH, if_true, q5]
          simp only [rnF, if_true, e3]
          refine ⟨?_, ?_, ?_, ?_⟩
          · simp only [rnT, eG, q1, p1, eA, eD, cv, ← eH]
          · simp only [isTms, if_true, q2, p2, Bool.and_true]
          · exact ⟨fun h => absurd rfl h, q3, p3⟩
          · simp only [Fo.size, if_true, q4, p4]
        · simp only [if_neg ha] at hs
          obtain rfl := hw.1 ha
          obtain ⟨q1, q2, q3, q4⟩ := rn_atom hi2 hs.1 (fun e1 e2 => hfr.1 e1 e2)
          have hane := (atom_bytes q1).1
          have hend' := hend
          have eG : rnG tk (ndH a .nil) (cv .nil (.parts (insB fr h b i))) g = g := rfl
          simp only [rnT, eG] at hend'
          obtain ⟨p1, p2, p3, p4⟩ := hr.1 fr to h b y (i + 1) c g hi hn hs.2 hfr.2.2 hend'
          simp only [rnF, if_neg ha]
          refine ⟨?_, ?_, ?_, ?_⟩
          · simp only [rnT, cv, q2, q3, q4]
            have eG2 : rnG tk (ndH a .nil) Ts.nil g = g := rfl
            rw [eG2, p1]
            rfl
          · simp only [isTms, if_neg hane, q1, p2, Bool.and_true]
          · exact ⟨fun _ => rfl, trivial, p3⟩
          · simp only [Fo.size, if_neg ha, if_neg hane, p4]
    · intro fr to g hi hs hfr hend
      simp only [isTms, Bool.and_eq_true] at hs
      have hs0 : shapeOf a ≠ [] := by intro e; rw [e] at hs; cases hs.1
      have hane := (shape_head hs0).1
      obtain rfl := hw.1 hane
      have eh : hd1 (.cons a .nil r) = a := rfl
      rw [eh] at hend ⊢
      rcases shape_cases a with ⟨e, _⟩ | ⟨hb, e, hk1⟩ | ⟨hb, e, hk1⟩
      · exact absurd e hs0
      · have hs2 := hs.2
        rw [e] at hs2
        have e1 : ∀ bs, cv (.cons a .nil r) (.parts bs) = cv r (.name bs a) := fun bs => by simp [cv, hb]
        rw [e1] at hfr hend ⊢
        simp only [hb, if_true] at hend ⊢
        obtain ⟨p1, p2, p3, p4, p5⟩ := hr.2.2 fr to a _ g hb hi hs2 hfr hend
        have ef : rnF tk (.cons a .nil r) (.top fr to) g = (.cons a .nil (rnF tk r (.name fr to a) g).1, (rnF tk r (.name fr to a) g).2) := by simp [rnF, hb]
        rw [ef]
        refine ⟨?_, ?_, ?_, ?_, rfl, fun _ => ?_⟩
        · rw [p1]; simp [cv, hb]
        · simp only [isTms, e, p2, Bool.and_true]
          rfl
        · exact ⟨fun _ => rfl, trivial, p3⟩
        · simp only [Fo.size, if_neg hane, p4]
        · revert p5
          cases (rnF tk r (.name fr to a) g).1 with
          | nil => intro p5; exact p5
          | cons _ _ _ => intro p5; exact p5
      · have hs2 := hs.2
        rw [e] at hs2
        have e1 : ∀ bs, cv (.cons a .nil r) (.parts bs) = cv r (.kids bs a [] 0) := fun bs => by simp [cv, hb]
        rw [e1] at hfr hend ⊢
        simp only [hb, Bool.false_eq_true, if_false] at hend ⊢
        obtain ⟨p1, p2, p3, p4⟩ := hr.1 fr to a [] [] 0 _ g hi (fun h => by rw [hb] at h; cases h) hs2 hfr hend
        have ef : rnF tk (.cons a .nil r) (.top fr to) g = (.cons a .nil (rnF tk r (.kids fr to a [] [] 0) g).1, (rnF tk r (.kids fr to a [] [] 0) g).2) := by simp [rnF, hb]
        rw [ef]
        refine ⟨?_, ?_, ?_, ?_, rfl, fun h => (by cases h)⟩
        · rw [p1]; simp [cv, hb]
        · simp only [isTms, e, p2, Bool.and_true]
          cases hkk : kidsOf a with
          | zero => omega
          | succ n => rfl
        · exact ⟨fun _ => rfl, trivial, p3⟩
        · simp only [Fo.size, if_neg hane, p4]
    · intro fr to h c g hb hi hs hfr hend
      simp only [isTms, Bool.and_eq_true] at hs
      have hane := (name_bytes hs.1).1
      obtain rfl := hw.1 hane
      have e1 : ∀ bs, cv (.cons a .nil r) (.name bs h) = cv r (.kids bs h a 0) := fun bs => rfl
      rw [e1] at hfr hend ⊢
      have hm := rnT_mono tk (cv r (.kids fr h a 0)) (fsh tk g + 1)
      have hlt : fsh tk g < 1000 := by omega
      have hxn := xnm_name hlt
      have hsp := fsh_spec tk g
      obtain ⟨p1, p2, p3, p4⟩ := hr.1 fr to h a (xnm (fsh tk g)) 0 c (fsh tk g + 1) (hi.mono (by omega)) (fun _ => ⟨hs.1, hxn, hi.new, hsp.2.2, fsh tk g, by omega, rfl⟩) hs.2 hfr hend
      simp only [rnF]
      refine ⟨p1, ?_, ?_, ?_, rfl⟩
      · simp only [isTms, hxn, p2, Bool.and_true]
      · exact ⟨fun _ => rfl, trivial, p3⟩
      · simp only [Fo.size, if_neg hane, if_neg (name_bytes hxn).1, p4]

/-- the canonical tree of a term with names that are taken -/
def cnK (tk : List (List UInt8)) (a : List UInt8) (k : Fo) : Fo := if a = [] then (rnF tk k (.top [] []) 0).1 else k

theorem rinv_nil (tk : List (List UInt8)) (g : Nat) : RInv tk [] [] g :=
  ⟨rfl, fun _ h => (by cases h), fun _ h => (by cases h), fun _ h => (by cases h), List.nodup_nil, fun _ h => (by cases h)⟩

def rnNode (tk : List (List UInt8)) (h a : List UInt8) (d : Nat) (k : Ts) : Ts := (rnT tk (.cons h a d k .nil) 0).1

/-- renamed, a term of the program is the reading of the tree that the model renames -/
theorem cn_term {tk : List (List UInt8)} {a : List UInt8} {k : Fo} (h : isTm a k = true) (hw : a ≠ [] → k = .nil) (hk : k.wf) (hs : (cv k (.parts [])).size + tk.length ≤ 990)
    (hf : FrIn tk (.cons (ndH a k) (ndA [] a k) (ndD [] a) (cv k (.parts [])) .nil)) :
    rnNode tk (ndH a k) (ndA [] a k) (ndD [] a) (cv k (.parts [])) = .cons (ndH a (cnK tk a k)) (ndA [] a (cnK tk a k)) (ndD [] a) (cv (cnK tk a k) (.parts [])) .nil ∧
    isTm a (cnK tk a k) = true ∧ treeSize a (cnK tk a k) = treeSize a k ∧ (a ≠ [] → cnK tk a k = .nil) ∧ (cnK tk a k).wf := by
  by_cases ha : a = []
  · subst ha
    simp only [isTm, if_true] at h
    have hlen := top_len [] hk h
    have eG : rnG tk (ndH [] k) (cv k (.parts [])) 0 = if bindsB (hd1 k) then fsh tk 0 + 1 else 0 := by
      simp only [rnG, if_neg hlen, ndH, if_true]
    have hend : (rnT tk (cv k (.parts [])) (if bindsB (hd1 k) then fsh tk 0 + 1 else 0)).2 ≤ 1000 := by
      have h1 := rnT_bound tk (.cons (ndH [] k) (ndA [] [] k) (ndD [] []) (cv k (.parts [])) .nil)
      simp only [rnT, eG, Ts.size] at h1
      revert h1
      split <;> split <;> intro h1 <;> omega
    obtain ⟨q1, q2, q3, q4, q5, q6⟩ := (rn_eq tk k hk).2.1 [] [] 0 (rinv_nil tk 0) h hf.2.1 hend
    have ec : cnK tk [] k = (rnF tk k (.top [] []) 0).1 := by simp [cnK]
    rw [ec]
    refine ⟨?_, ?_, ?_, fun h => absurd rfl h, q3⟩
    · simp only [rnNode, rnT, eG, q1]
      have eA : rnAt tk (ndH [] k) (ndA [] [] k) (cv k (.parts [])) 0 = ndA [] [] (rnF tk k (.top [] []) 0).1 := by
        simp only [rnAt, if_neg hlen, ndH, ndA, if_true, q5]
        by_cases hb : bindsB (hd1 k) = true
        · simp only [hb, if_true]; exact (q6 hb).symm
        · simp only [if_neg hb]
      have eD : rnD (ndD [] []) (cv k (.parts [])) = ndD [] [] := by simp [rnD, ndD]
      have eH : ndH [] k = ndH [] (rnF tk k (.top [] []) 0).1 := by simp only [ndH, if_true, q5]
      rw [eA, eD, eH]
    · simp only [isTm, if_true, q2]
    · simp only [treeSize, if_true, q4]
  · obtain rfl := hw ha
    have ec : cnK tk a .nil = .nil := by simp [cnK, ha]
    rw [ec]
    exact ⟨rfl, h, rfl, fun _ => rfl, trivial⟩

theorem frU_keep (x : List UInt8) : ∀ (t : Ts) (l : List (List UInt8)), x ∈ l → x ∈ frU t l
  | .nil, _, h => h
  | .cons h a d k r, l, hx => by
    simp only [frU]
    apply frU_keep x r
    split
    · exact List.mem_append.2 (.inl hx)
    · exact frU_keep x k l hx

theorem FrIn.mono {tk tk' : List (List UInt8)} (h : ∀ x ∈ tk, x ∈ tk') : ∀ {t : Ts}, FrIn tk t → FrIn tk' t
  | .nil, _ => trivial
  | .cons _ _ _ _ _, ht => ⟨fun e1 e2 => h _ (ht.1 e1 e2), FrIn.mono h ht.2.1, FrIn.mono h ht.2.2⟩

/-- names have no parts -/
def Leafy : Ts → Prop
  | .nil => True
  | .cons h _ _ k r => (h = hName → k = .nil) ∧ Leafy k ∧ Leafy r

theorem frU_in : ∀ (t : Ts) (l : List (List UInt8)), Leafy t → FrIn (frU t l) t
  | .nil, _, _ => trivial
  | .cons h a d k r, l, hl => by
    simp only [frU]
    refine ⟨fun e1 e2 => ?_, ?_, frU_in r _ hl.2.2⟩
    · apply frU_keep
      by_cases ha : a ∈ l
      · rw [if_neg (fun h => h.2.2 ha)]
        exact frU_keep _ _ _ ha
      · rw [if_pos ⟨e1, e2, ha⟩]
        simp
    · by_cases hn : h = hName
      · rw [hl.1 hn]; trivial
      · rw [if_neg (fun e => hn e.1)]
        exact (frU_in k l hl.2.1).mono (fun x hx => frU_keep x r _ hx)

namespace Ts
def app : Ts → Ts → Ts
  | nil, g => g
  | cons h a d k r, g => cons h a d k (r.app g)
theorem snoc_app (f : Ts) (h a : List UInt8) (d : Nat) (k g : Ts) : (f.snoc h a d k).app g = f.app (cons h a d k g) := by
  induction f with
  | nil => rfl
  | cons h' a' d' k' r _ ih => simp only [snoc, app, ih]
theorem app_nil (f : Ts) : f.app nil = f := by
  induction f with
  | nil => rfl
  | cons h a d k r _ ih => simp only [app, ih]
end Ts

/- Alike terms: equal but for what lam and let call their names; canonical texts tell the same. -/

/-- without what lam and let call their names -/
def er : Ts → Ts
  | .nil => .nil
  | .cons h a d k r => .cons h (if k.len = 0 then a else []) d (er k) (er r)

def WfT : Ts → Prop
  | .nil => True
  | .cons h a d k r => k.len = kidsOf h ∧ (k.len ≠ 0 → d = 0 ∧ (bindsB h = false → a = [])) ∧ WfT k ∧ WfT r

theorem len_nil {k : Ts} (h : k.len = 0) : k = .nil := by
  cases k with
  | nil => rfl
  | cons _ _ _ _ _ => simp [Ts.len] at h

theorem kids_name : kidsOf hName = 0 := by decide
theorem kids_truth : kidsOf hTruth = 0 := by decide

theorem er_len : ∀ t : Ts, (er t).len = t.len
  | .nil => rfl
  | .cons h a d k r => by simp only [er, Ts.len, er_len r]

theorem er_size : ∀ t : Ts, (er t).size = t.size
  | .nil => rfl
  | .cons h a d k r => by simp only [er, Ts.size, er_size r, er_size k]

theorem fr_er : ∀ (t : Ts) (l : List (List UInt8)), WfT t → frU (er t) l = frU t l
  | .nil, _, _ => rfl
  | .cons h a d k r, l, hw => by
    simp only [er, frU]
    by_cases hn : h = hName
    · have h0 : k.len = 0 := by rw [hw.1, hn]; decide
      have hk := len_nil h0
      subst hk
      simp only [Ts.len, if_true, er, frU]
      rw [fr_er r _ hw.2.2.2]
    · rw [if_neg (fun e => hn e.1), if_neg (fun e => hn e.1), fr_er k l hw.2.2.1, fr_er r _ hw.2.2.2]

theorem rn_er (tk : List (List UInt8)) : ∀ (t : Ts) (g : Nat), WfT t → rnT tk (er t) g = rnT tk t g
  | .nil, _, _ => rfl
  | .cons h a d k r, g, hw => by
    have eA : rnAt tk h (if k.len = 0 then a else []) (er k) g = rnAt tk h a k g := by
      unfold rnAt
      rw [er_len]
      by_cases h0 : k.len = 0
      · simp only [h0, if_true]
      · simp only [if_neg h0]
        by_cases hb : bindsB h = true
        · simp only [hb, if_true]
        · simp only [if_neg hb]
          exact ((hw.2.1 h0).2 (by simpa using hb)).symm
    have eG : rnG tk h (er k) g = rnG tk h k g := by simp only [rnG, er_len]
    have eD : rnD d (er k) = rnD d k := by simp only [rnD, er_len]
    simp only [er, rnT, eA, eG, eD]
    rw [rn_er tk k _ hw.2.2.1, rn_er tk r _ hw.2.2.2]

theorem er_rn (tk : List (List UInt8)) : ∀ (t : Ts) (g : Nat), WfT t → er (rnT tk t g).1 = er t
  | .nil, _, _ => rfl
  | .cons h a d k r, g, hw => by
    simp only [rnT, er, rnT_len]
    rw [er_rn tk k _ hw.2.2.1, er_rn tk r _ hw.2.2.2]
    by_cases h0 : k.len = 0
    · simp only [rnAt, rnD, h0, if_true]
    · simp only [rnAt, rnD, if_neg h0, (hw.2.1 h0).1]

theorem wf_rn (tk : List (List UInt8)) : ∀ (t : Ts) (g : Nat), WfT t → WfT (rnT tk t g).1
  | .nil, _, _ => trivial
  | .cons h a d k r, g, hw => by
    simp only [rnT, WfT, rnT_len]
    refine ⟨hw.1, fun h0 => ?_, wf_rn tk k _ hw.2.2.1, wf_rn tk r _ hw.2.2.2⟩
    refine ⟨by simp only [rnD, if_neg h0], fun hb => ?_⟩
    simp only [rnAt, if_neg h0, hb, Bool.false_eq_true, if_false]
    exact (hw.2.1 h0).2 hb

/-- as the program compares -/
def smL : Ts → Ts → Bool
  | .nil, .nil => true
  | .cons h a d k r, .cons h' a' d' k' r' => (h == h' && d == d' && (if k.len = 0 then a == a' else smL k k')) && smL r r'
  | _, _ => false

theorem sm_er : ∀ (t t' : Ts), WfT t → WfT t' → (smL t t' = true ↔ er t = er t')
  | .nil, .nil, _, _ => by simp [smL, er]
  | .nil, .cons _ _ _ _ _, _, _ => by simp [smL, er]
  | .cons _ _ _ _ _, .nil, _, _ => by simp [smL, er]
  | .cons h a d k r, .cons h' a' d' k' r', hw, hw' => by
    have hr := sm_er r r' hw.2.2.2 hw'.2.2.2
    have hk := sm_er k k' hw.2.2.1 hw'.2.2.1
    simp only [smL, er, Bool.and_eq_true, beq_iff_eq, Ts.cons.injEq, hr]
    by_cases e : h = h'
    · subst e
      have el : k'.len = k.len := by rw [hw.1, hw'.1]
      by_cases h0 : k.len = 0
      · have k1 := len_nil h0
        have k2 := len_nil (el.trans h0)
        subst k1; subst k2
        simp only [Ts.len, if_true, beq_iff_eq, true_and]
        exact ⟨fun h => ⟨h.1.2, h.1.1, h.2⟩, fun h => ⟨⟨h.2.1, h.1⟩, h.2.2⟩⟩
      · simp only [el, if_neg h0, hk, true_and]
        exact ⟨fun h => ⟨h.1.1, h.1.2, h.2⟩, fun h => ⟨⟨h.1, h.2.1⟩, h.2.2⟩⟩
    · simp only [e, false_and]

theorem sm_len : ∀ (t t' : Ts), smL t t' = true → t.len = t'.len
  | .nil, .nil, _ => rfl
  | .nil, .cons _ _ _ _ _, h => by simp [smL] at h
  | .cons _ _ _ _ _, .nil, h => by simp [smL] at h
  | .cons h a d k r, .cons h' a' d' k' r', hs => by
    simp only [smL, Bool.and_eq_true] at hs
    simp only [Ts.len, sm_len r r' hs.2]

theorem wf_atom (bs : List (List UInt8)) (a : List UInt8) : (cv .nil (.parts bs)).len = kidsOf (ndH a .nil) := by
  unfold ndH
  split
  · exact (by decide : 0 = kidsOf [])
  · split
    · exact kids_truth.symm
    · exact kids_name.symm

/-- what is read has as many parts as its head tells, and no names but those that lam and let bind -/
theorem wf_cv : ∀ f : Fo, f.wf →
    (∀ (bs : List (List UInt8)) (h b : List UInt8) (i c : Nat), isTms (some (List.replicate c true)) f = true → WfT (cv f (.kids bs h b i))) ∧
    (∀ bs : List (List UInt8), isTms none f = true → WfT (cv f (.parts bs)) ∧ (cv f (.parts bs)).len = kidsOf (hd1 f)) ∧
    (∀ (bs : List (List UInt8)) (h : List UInt8) (c : Nat), isTms (some (false :: List.replicate c true)) f = true → WfT (cv f (.name bs h)) ∧ (cv f (.name bs h)).len = c) := by
  intro f
  induction f with
  | nil => exact fun _ => ⟨fun bs h b i c _ => trivial, fun bs h => (by cases h), fun bs h c hc => (by simp [isTms] at hc)⟩
  | cons a k r ihk ihr =>
    intro hw
    have hk := ihk hw.2.1
    have hr := ihr hw.2.2
    refine ⟨?_, ?_, ?_⟩
    · intro bs h b i c hs
      cases c with
      | zero => simp [isTms] at hs
      | succ c =>
        rw [List.replicate_succ] at hs
        simp only [isTms, Bool.and_eq_true] at hs
        have h2 := hr.1 bs h b (i + 1) c hs.2
        simp only [cv, WfT]
        by_cases ha : a = []
        · subst ha
          simp only [if_true] at hs
          obtain ⟨q1, q2⟩ := hk.2.1 (insB bs h b i) hs.1
          refine ⟨by simp only [q2, ndH, if_true], fun _ => ⟨by simp [ndD], fun hb => ?_⟩, q1, h2⟩
          simp only [ndH, if_true] at hb
          simp only [ndA, if_true, hb, Bool.false_eq_true, if_false]
        · obtain rfl := hw.1 ha
          refine ⟨wf_atom _ _, fun h0 => absurd rfl h0, trivial, h2⟩
    · intro bs hs
      simp only [isTms, Bool.and_eq_true] at hs
      have hs0 : shapeOf a ≠ [] := by intro e; rw [e] at hs; cases hs.1
      rcases shape_cases a with ⟨e, _⟩ | ⟨hb, e, hk1⟩ | ⟨hb, e, hk1⟩
      · exact absurd e hs0
      · have hs2 := hs.2
        rw [e] at hs2
        have e1 : cv (.cons a k r) (.parts bs) = cv r (.name bs a) := by simp [cv, hb]
        rw [e1]
        exact hr.2.2 bs a _ hs2
      · have hs2 := hs.2
        rw [e] at hs2
        have e1 : cv (.cons a k r) (.parts bs) = cv r (.kids bs a [] 0) := by simp [cv, hb]
        rw [e1]
        refine ⟨hr.1 bs a [] 0 _ hs2, ?_⟩
        rw [cv_kids_len, isTms_len _ _ hs2, List.length_replicate]
        rfl
    · intro bs h c hs
      simp only [isTms, Bool.and_eq_true] at hs
      have e1 : cv (.cons a k r) (.name bs h) = cv r (.kids bs h a 0) := rfl
      rw [e1]
      exact ⟨hr.1 bs h a 0 c hs.2, by rw [cv_kids_len, isTms_len _ _ hs.2, List.length_replicate]⟩

/-- the program's term of a tree -/
def nd (bs : List (List UInt8)) (a : List UInt8) (k : Fo) : Ts := .cons (ndH a k) (ndA bs a k) (ndD bs a) (cv k (.parts bs)) .nil

theorem wf_nd (bs : List (List UInt8)) {a : List UInt8} {k : Fo} (h : isTm a k = true) (hw : a ≠ [] → k = .nil) (hk : k.wf) : WfT (nd bs a k) := by
  by_cases ha : a = []
  · subst ha
    simp only [isTm, if_true] at h
    obtain ⟨q1, q2⟩ := (wf_cv k hk).2.1 bs h
    refine ⟨by simp only [q2, ndH, if_true], fun _ => ⟨by simp [ndD], fun hb => ?_⟩, q1, trivial⟩
    simp only [ndH, if_true] at hb
    simp only [ndA, if_true, hb, Bool.false_eq_true, if_false]
  · obtain rfl := hw ha
    exact ⟨wf_atom _ _, fun h0 => absurd rfl h0, trivial, trivial⟩

theorem leafy_of : ∀ t : Ts, WfT t → Leafy t
  | .nil, _ => trivial
  | .cons h a d k r, hw => ⟨fun e => len_nil (by rw [hw.1, e]; decide), leafy_of k hw.2.2.1, leafy_of r hw.2.2.2⟩

/-- the free names of a tree -/
def fvs (a : List UInt8) (k : Fo) : List (List UInt8) := fsT a k [] []

theorem frU_nd {a : List UInt8} {k : Fo} (h : isTm a k = true) (hw : a ≠ [] → k = .nil) (hk : k.wf) : frU (nd [] a k) [] = fvs a k := fr_term [] h hw hk

/-- the canonical text -/
def cnT (a : List UInt8) (k : Fo) : List UInt8 := treeText a (cnK (fvs a k) a k)

theorem nd_size {a : List UInt8} {k : Fo} (bs : List (List UInt8)) (h : isTm a k = true) (hw : a ≠ [] → k = .nil) (hk : k.wf) : (nd bs a k).size = treeSize a k := by
  have := node_size bs h hw hk
  simp only [nd, Ts.size]
  omega

structure CnOk (tk : List (List UInt8)) (a : List UInt8) (k : Fo) : Prop where
  node : (rnT tk (nd [] a k) 0).1 = nd [] a (cnK tk a k)
  tm : isTm a (cnK tk a k) = true
  size : treeSize a (cnK tk a k) = treeSize a k
  at_ : a ≠ [] → cnK tk a k = .nil
  wf : (cnK tk a k).wf

theorem cn_ok {tk : List (List UInt8)} {a : List UInt8} {k : Fo} (h : isTm a k = true) (hw : a ≠ [] → k = .nil) (hk : k.wf) (hs : treeSize a k ≤ 390) (htk : tk.length ≤ 600) (hf : FrIn tk (nd [] a k)) : CnOk tk a k := by
  have h1 := nd_size [] h hw hk
  simp only [nd, Ts.size] at h1
  obtain ⟨q1, q2, q3, q4, q5⟩ := cn_term (tk := tk) h hw hk (by omega) hf
  exact ⟨q1, q2, q3, q4, q5⟩

theorem fvs_len {a : List UInt8} {k : Fo} (h : isTm a k = true) (hw : a ≠ [] → k = .nil) (hk : k.wf) : (fvs a k).length ≤ treeSize a k := by
  have h1 := fr_len (nd [] a k) []
  rw [frU_nd h hw hk, nd_size [] h hw hk] at h1
  simpa using h1

theorem cn_self {a : List UInt8} {k : Fo} (h : isTm a k = true) (hw : a ≠ [] → k = .nil) (hk : k.wf) (hs : treeSize a k ≤ 390) : CnOk (fvs a k) a k := by
  have h1 := fvs_len h hw hk
  have h2 := frU_in (nd [] a k) [] (leafy_of _ (wf_nd [] h hw hk))
  rw [frU_nd h hw hk] at h2
  exact cn_ok h hw hk hs (by omega) h2

theorem nd_text {a a' : List UInt8} {k k' : Fo} (h : isTm a k = true) (hw : a ≠ [] → k = .nil) (hk : k.wf) (h' : isTm a' k' = true) (hw' : a' ≠ [] → k' = .nil) (hk' : k'.wf) (e : nd [] a k = nd [] a' k') : treeText a k = treeText a' k' := by
  rw [← tx_term [] h hw hk, ← tx_term [] h' hw' hk']
  simp only [nd, Ts.cons.injEq] at e
  obtain ⟨e1, e2, e3, e4, _⟩ := e
  rw [e1, e2, e3, e4]

theorem text_unique {a a' : List UInt8} {k k' : Fo} (h : isTm a k = true) (hw : a ≠ [] → k = .nil) (hk : k.wf) (hs : treeSize a k ≤ 300) (h' : isTm a' k' = true) (hw' : a' ≠ [] → k' = .nil) (hk' : k'.wf) (hs' : treeSize a' k' ≤ 300) (e : treeText a k = treeText a' k') : a = a' ∧ k = k' := by
  have d1 := isTm_deep h
  have d2 := isTm_deep h'
  have r1 := rd_good 301 a k [] (isTm_good hw hk h) (by omega) (fun _ _ e => by cases e)
  have r2 := rd_good 301 a' k' [] (isTm_good hw' hk' h') (by omega) (fun _ _ e => by cases e)
  rw [List.append_nil] at r1 r2
  rw [e, r2] at r1
  injection r1 with r1
  injection r1 with r3 r4
  injection r4 with r4 _
  exact ⟨r3.symm, r4.symm⟩

/-- terms are alike exactly if their canonical texts are equal -/
theorem alike_iff {a a' : List UInt8} {k k' : Fo} (h : isTm a k = true) (hw : a ≠ [] → k = .nil) (hk : k.wf) (hs : treeSize a k ≤ 300) (h' : isTm a' k' = true) (hw' : a' ≠ [] → k' = .nil) (hk' : k'.wf) (hs' : treeSize a' k' ≤ 300) :
    smL (nd [] a k) (nd [] a' k') = true ↔ cnT a k = cnT a' k' := by
  have w1 := wf_nd [] h hw hk
  have w2 := wf_nd [] h' hw' hk'
  rw [sm_er _ _ w1 w2]
  have c1 := cn_self h hw hk (by omega)
  have c2 := cn_self h' hw' hk' (by omega)
  constructor
  · intro e
    have ef : fvs a k = fvs a' k' := by rw [← frU_nd h hw hk, ← frU_nd h' hw' hk', ← fr_er _ _ w1, ← fr_er _ _ w2, e]
    refine nd_text c1.tm c1.at_ c1.wf c2.tm c2.at_ c2.wf ?_
    rw [← c1.node, ← c2.node, ef, ← rn_er _ _ _ w1, ← rn_er _ _ _ w2, e]
  · intro e
    obtain ⟨e1, e2⟩ := text_unique c1.tm c1.at_ c1.wf (by rw [c1.size]; exact hs) c2.tm c2.at_ c2.wf (by rw [c2.size]; exact hs') e
    have h3 : er (rnT (fvs a k) (nd [] a k) 0).1 = er (rnT (fvs a' k') (nd [] a' k') 0).1 := by
      rw [c1.node, c2.node, e2, e1]
    rwa [er_rn _ _ _ w1, er_rn _ _ _ w2] at h3
end Go.Proofs.YtnjgaenhjdjpfaaGreatDoor

/- A term put for a name: in the program's terms, and in trees whose bound names are apart. -/
namespace Go.Proofs.YtnjgaenhjdjpfaaGreatDoor
open Go.RowKit Go.ChangeMaps

/-- puts one term for a free name, as the program does -/
def ptT (x : List UInt8) (hb ab : List UInt8) (db : Nat) (kb : Ts) : Ts → Ts
  | .nil => .nil
  | .cons h a d k r => if h = hName ∧ a ≠ [] ∧ a = x then .cons hb ab db kb (ptT x hb ab db kb r) else .cons h a (rnD d k) (ptT x hb ab db kb k) (ptT x hb ab db kb r)

theorem pt_len (x hb ab : List UInt8) (db : Nat) (kb : Ts) : ∀ t : Ts, (ptT x hb ab db kb t).len = t.len
  | .nil => rfl
  | .cons h a d k r => by
    have := pt_len x hb ab db kb r
    simp only [ptT]
    split <;> simp only [Ts.len, this]

theorem pt_size (x hb ab : List UInt8) (db : Nat) (kb : Ts) : ∀ t : Ts, Leafy t →
    (ptT x hb ab db kb t).size + cntU x t = t.size + cntU x t * ((if bindsB hb then 2 else 1) + kb.size)
  | .nil, _ => by simp [ptT, cntU, Ts.size]
  | .cons h a d k r, hl => by
    have h1 := pt_size x hb ab db kb k hl.2.1
    have h2 := pt_size x hb ab db kb r hl.2.2
    simp only [ptT, cntU]
    by_cases hq : h = hName ∧ a ≠ [] ∧ a = x
    · have hk := hl.1 hq.1
      subst hk
      have hbn : bindsB h = false := by rw [hq.1]; decide
      rw [if_pos hq, if_pos hq]
      simp only [Ts.size, hbn, Bool.false_eq_true, if_false, Nat.add_mul]
      omega
    · rw [if_neg hq, if_neg hq]
      simp only [Ts.size, Nat.add_mul]
      omega

/-- what is alike stays alike -/
theorem er_pt (x hb ab : List UInt8) (db : Nat) (kb : Ts) : ∀ t : Ts, WfT t →
    er (ptT x hb ab db kb t) = ptT x hb (if kb.len = 0 then ab else []) db (er kb) (er t)
  | .nil, _ => rfl
  | .cons h a d k r, hw => by
    have h1 := er_pt x hb ab db kb k hw.2.2.1
    have h2 := er_pt x hb ab db kb r hw.2.2.2
    simp only [ptT, er]
    by_cases hn : h = hName
    · have h0 : k.len = 0 := by rw [hw.1, hn]; decide
      have hk := len_nil h0
      subst hk
      by_cases hq : h = hName ∧ a ≠ [] ∧ a = x
      · simp only [if_pos hq, er, h2, Ts.len, if_true]
      · simp only [if_neg hq, er, h2, Ts.len, if_true, ptT]
    · have q1 : ¬ (h = hName ∧ a ≠ [] ∧ a = x) := fun e => hn e.1
      have q2 : ∀ b : List UInt8, ¬ (h = hName ∧ b ≠ [] ∧ b = x) := fun b e => hn e.1
      simp only [if_neg q1, if_neg (q2 _), er, h1, h2, pt_len, rnD, er_len]

theorem wf_pt (x hb ab : List UInt8) (db : Nat) (kb : Ts) (hB : WfT (.cons hb ab db kb .nil)) : ∀ t : Ts, WfT t → WfT (ptT x hb ab db kb t)
  | .nil, _ => trivial
  | .cons h a d k r, hw => by
    have h1 := wf_pt x hb ab db kb hB k hw.2.2.1
    have h2 := wf_pt x hb ab db kb hB r hw.2.2.2
    simp only [ptT]
    split
    · exact ⟨hB.1, hB.2.1, hB.2.2.1, h2⟩
    · refine ⟨by rw [pt_len]; exact hw.1, fun h0 => ?_, h1, h2⟩
      rw [pt_len] at h0
      exact ⟨by simp only [rnD, if_neg h0], (hw.2.1 h0).2⟩

/-- no bound name is one of some names -/
def BdO (tk : List (List UInt8)) : Ts → Prop
  | .nil => True
  | .cons h a _ k r => (bindsB h = true → a ∉ tk) ∧ BdO tk k ∧ BdO tk r

theorem bd_rn (tk : List (List UInt8)) : ∀ (t : Ts) (g : Nat), WfT t → BdO tk (rnT tk t g).1
  | .nil, _, _ => trivial
  | .cons h a d k r, g, hw => by
    refine ⟨fun hb => ?_, bd_rn tk k _ hw.2.2.1, bd_rn tk r _ hw.2.2.2⟩
    have h0 : k.len ≠ 0 := by
      rw [hw.1]
      have := kids_binds hb
      omega
    simp only [rnAt, if_neg h0, hb, if_true]
    exact (fsh_spec tk g).2.2

/-- a tree with a tree put for a name; no bound name is free in what is put -/
def ptF (x ba : List UInt8) (bk : Fo) : Fo → Um → Fo
  | .nil, _ => .nil
  | .cons h k r, .top => .cons h k (ptF x ba bk r (.kids h (hd1 r) 1))
  | .cons a k r, .kids h b i =>
    if innB h i = true ∧ bndB h b i ≠ x then
      (if a = [] then .cons [] (ptF x ba bk k .top) (ptF x ba bk r (.kids h b (i + 1)))
        else if a = x then .cons ba bk (ptF x ba bk r (.kids h b (i + 1))) else .cons a k (ptF x ba bk r (.kids h b (i + 1))))
    else .cons a k (ptF x ba bk r (.kids h b (i + 1)))

theorem depR_app (x : List UInt8) : ∀ (l m : List (List UInt8)) (i : Nat), x ∉ m → depR x (l ++ m) i = depR x l i
  | [], m, i, h => by rw [List.nil_append, (depR_mem x m i).2 h]; rfl
  | b :: l, m, i, h => by
    simp only [List.cons_append, depR, depR_app x l m (i + 1) h]

theorem dep_out {x : List UInt8} {bs L : List (List UInt8)} (h : x ∉ bs) : depOf x (bs ++ L) = depOf x L := by
  unfold depOf
  rw [List.reverse_append, depR_app x _ _ _ (by rw [List.mem_reverse]; exact h)]

theorem dep_in {x : List UInt8} {bs L : List (List UInt8)} (h : x ∈ L) : depOf x (bs ++ L) = depOf x L := by
  unfold depOf
  rw [List.reverse_append]
  have : ∀ (l m : List (List UInt8)) (i : Nat), x ∈ l → depR x (l ++ m) i = depR x l i := by
    intro l
    induction l with
    | nil => intro m i h; cases h
    | cons b l ih =>
      intro m i h
      simp only [List.cons_append, depR]
      by_cases hb : b = x
      · simp only [if_pos hb]
      · simp only [if_neg hb]
        rcases List.mem_cons.1 h with h | h
        · exact absurd h.symm hb
        · exact ih m (i + 1) h
  exact this _ _ 0 (List.mem_reverse.2 h)

theorem ins_app (bs L : List (List UInt8)) (h b : List UInt8) (i : Nat) : insB (bs ++ L) h b i = bs ++ insB L h b i := by
  rcases insB_cases h i with ⟨_, _, e⟩ | e
  · rw [e, e, List.append_assoc]
  · rw [e, e]

/-- names that are bound further out change nothing where they are not free -/
theorem out_atom {tk bs : List (List UInt8)} (hd : ∀ y ∈ bs, y ∉ tk) (L : List (List UInt8)) (a : List UInt8) (ha : isAtomTm a = true) (hf : ndH a .nil = hName → ndA L a .nil ≠ [] → ndA L a .nil ∈ tk) :
    ndA (bs ++ L) a .nil = ndA L a .nil ∧ ndD (bs ++ L) a = ndD L a := by
  have hane := (atom_bytes ha).1
  rcases atom_cases ha with ht | hn
  · simp [ndA, ndD, hane, ht]
  · have hnt := name_nontruth hn
    simp only [ndH, ndA, ndD, if_neg hane, if_neg hnt] at hf ⊢
    have e : depOf a (bs ++ L) = depOf a L := by
      by_cases hm : a ∈ L
      · exact dep_in hm
      · refine dep_out (fun hb => hd a hb ?_)
        have hna : nmA L a = a := by rw [nmA_eq, if_neg hm]
        have := hf trivial (by rw [hna]; exact hane)
        rwa [hna] at this
    simp only [nmA, e, and_self]

theorem out_eq (tk bs : List (List UInt8)) (hd : ∀ y ∈ bs, y ∉ tk) : ∀ f : Fo, f.wf →
    (∀ (L : List (List UInt8)) (h b : List UInt8) (i c : Nat), isTms (some (List.replicate c true)) f = true → FrIn tk (cv f (.kids L h b i)) → cv f (.kids (bs ++ L) h b i) = cv f (.kids L h b i)) ∧
    (∀ L : List (List UInt8), isTms none f = true → FrIn tk (cv f (.parts L)) → cv f (.parts (bs ++ L)) = cv f (.parts L)) ∧
    (∀ (L : List (List UInt8)) (h : List UInt8) (c : Nat), isTms (some (false :: List.replicate c true)) f = true → FrIn tk (cv f (.name L h)) → cv f (.name (bs ++ L) h) = cv f (.name L h)) := by
  intro f
  induction f with
  | nil => exact fun _ => ⟨fun L h b i c _ _ => rfl, fun L h => (by cases h), fun L h c hc => (by simp [isTms] at hc)⟩
  | cons a k r ihk ihr =>
    intro hw
    have hk := ihk hw.2.1
    have hr := ihr hw.2.2
    refine ⟨?_, ?_, ?_⟩
    · intro L h b i c hs hf
      cases c with
      | zero => simp [isTms] at hs
      | succ c =>
        rw [List.replicate_succ] at hs
        simp only [isTms, Bool.and_eq_true] at hs
        simp only [cv, FrIn] at hf ⊢
        rw [ins_app, hr.1 L h b (i + 1) c hs.2 hf.2.2]
        by_cases ha : a = []
        · subst ha
          simp only [if_true] at hs
          rw [hk.2.1 _ hs.1 hf.2.1]
          rfl
        · obtain rfl := hw.1 ha
          simp only [if_neg ha] at hs
          obtain ⟨e1, e2⟩ := out_atom hd (insB L h b i) a hs.1 hf.1
          rw [e1, e2]
          rfl
    · intro L hs hf
      simp only [isTms, Bool.and_eq_true] at hs
      have hs0 : shapeOf a ≠ [] := by intro e; rw [e] at hs; cases hs.1
      rcases shape_cases a with ⟨e, _⟩ | ⟨hb, e, hk1⟩ | ⟨hb, e, hk1⟩
      · exact absurd e hs0
      · have hs2 := hs.2
        rw [e] at hs2
        have e1 : ∀ L, cv (.cons a k r) (.parts L) = cv r (.name L a) := fun L => by simp [cv, hb]
        rw [e1] at hf ⊢
        rw [e1]
        exact hr.2.2 L a _ hs2 hf
      · have hs2 := hs.2
        rw [e] at hs2
        have e1 : ∀ L, cv (.cons a k r) (.parts L) = cv r (.kids L a [] 0) := fun L => by simp [cv, hb]
        rw [e1] at hf ⊢
        rw [e1]
        exact hr.1 L a [] 0 _ hs2 hf
    · intro L h c hs hf
      simp only [isTms, Bool.and_eq_true] at hs
      have e1 : ∀ L, cv (.cons a k r) (.name L h) = cv r (.kids L h a 0) := fun L => rfl
      rw [e1] at hf ⊢
      rw [e1]
      exact hr.1 L h a 0 c hs.2 hf

theorem out_nd {tk bs : List (List UInt8)} (hd : ∀ y ∈ bs, y ∉ tk) {a : List UInt8} {k : Fo} (h : isTm a k = true) (hw : a ≠ [] → k = .nil) (hk : k.wf) (hf : FrIn tk (nd [] a k)) : nd bs a k = nd [] a k := by
  unfold nd
  by_cases ha : a = []
  · subst ha
    simp only [isTm, if_true] at h
    have e1 := (out_eq tk bs hd k hk).2.1 [] h hf.2.1
    rw [List.append_nil] at e1
    rw [e1]
    rfl
  · obtain rfl := hw ha
    simp only [isTm, if_neg ha] at h
    have e2 := out_atom hd [] a h hf.1
    rw [List.append_nil] at e2
    rw [e2.1, e2.2]
    rfl

theorem ptF_hd (x ba : List UInt8) (bk : Fo) (f : Fo) : hd1 (ptF x ba bk f .top) = hd1 f := by
  cases f <;> rfl

/-- what is put for a name -/
structure PtIn (tk : List (List UInt8)) (x ba : List UInt8) (bk : Fo) : Prop where
  xn : isName x = true
  xt : x ∈ tk
  tm : isTm ba bk = true
  at_ : ba ≠ [] → bk = .nil
  wf : bk.wf
  fr : FrIn tk (nd [] ba bk)

theorem pt_atom {x : List UInt8} {bs : List (List UInt8)} (hx : x ∉ bs) {a : List UInt8} (ha : isAtomTm a = true) (hxn : isName x = true) : (ndH a .nil = hName ∧ ndA bs a .nil ≠ [] ∧ ndA bs a .nil = x) ↔ a = x := by
  have hane := (atom_bytes ha).1
  constructor
  · rintro ⟨h1, h2, h3⟩
    rcases atom_cases ha with ht | hn
    · simp only [ndH, if_neg hane, if_pos ht] at h1
      exact absurd h1 (by decide)
    · have hnt := name_nontruth hn
      simp only [ndA, if_neg hane, if_neg hnt] at h2 h3
      rw [nmA_eq] at h2 h3
      by_cases hm : a ∈ bs
      · rw [if_pos hm] at h2; exact absurd rfl h2
      · rw [if_neg hm] at h3; exact h3
  · rintro rfl
    have hnt := name_nontruth hxn
    have e : ndA bs a .nil = a := by simp only [ndA, if_neg hane, if_neg hnt]; rw [nmA_eq, if_neg hx]
    exact ⟨by simp only [ndH, if_neg hane, if_neg hnt], by rw [e]; exact hane, e⟩

theorem pt_eq (tk : List (List UInt8)) (x ba : List UInt8) (bk : Fo) (P : PtIn tk x ba bk) : ∀ f : Fo, f.wf →
    (∀ (bs : List (List UInt8)) (h b b' : List UInt8) (i c : Nat), (bindsB h = true → b' = b) → (bindsB h = true → b ∉ tk) → c + i = kidsOf h → (∀ y ∈ bs, y ∉ tk) → isTms (some (List.replicate c true)) f = true → BdO tk (cv f (.kids bs h b i)) →
      cv (ptF x ba bk f (.kids h b' (i + if bindsB h then 2 else 1))) (.kids bs h b i) = ptT x (ndH ba bk) (ndA [] ba bk) (ndD [] ba) (cv bk (.parts [])) (cv f (.kids bs h b i)) ∧
      isTms (some (List.replicate c true)) (ptF x ba bk f (.kids h b' (i + if bindsB h then 2 else 1))) = true ∧ (ptF x ba bk f (.kids h b' (i + if bindsB h then 2 else 1))).wf) ∧
    (∀ bs : List (List UInt8), (∀ y ∈ bs, y ∉ tk) → isTms none f = true → (bindsB (hd1 f) = true → hd2 f ∉ tk) → BdO tk (cv f (.parts bs)) →
      cv (ptF x ba bk f .top) (.parts bs) = ptT x (ndH ba bk) (ndA [] ba bk) (ndD [] ba) (cv bk (.parts [])) (cv f (.parts bs)) ∧
      isTms none (ptF x ba bk f .top) = true ∧ (ptF x ba bk f .top).wf ∧ (bindsB (hd1 f) = true → hd2 (ptF x ba bk f .top) = hd2 f)) ∧
    (∀ (bs : List (List UInt8)) (h : List UInt8), (∀ y ∈ bs, y ∉ tk) → bindsB h = true → hd1 f ∉ tk → shapeOf h = false :: List.replicate (kidsOf h) true → isTms (some (false :: List.replicate (kidsOf h) true)) f = true → BdO tk (cv f (.name bs h)) →
      cv (ptF x ba bk f (.kids h (hd1 f) 1)) (.name bs h) = ptT x (ndH ba bk) (ndA [] ba bk) (ndD [] ba) (cv bk (.parts [])) (cv f (.name bs h)) ∧
      isTms (some (false :: List.replicate (kidsOf h) true)) (ptF x ba bk f (.kids h (hd1 f) 1)) = true ∧ (ptF x ba bk f (.kids h (hd1 f) 1)).wf ∧ hd1 (ptF x ba bk f (.kids h (hd1 f) 1)) = hd1 f) := by
  intro f
  induction f with
  | nil => exact fun _ => ⟨fun bs h b b' i c _ _ _ _ hs _ => ⟨rfl, hs, trivial⟩, fun bs _ h => (by cases h), fun bs h _ _ _ _ hc => (by simp [isTms] at hc)⟩
  | cons a k r ihk ihr =>
    intro hw
    have hk := ihk hw.2.1
    have hr := ihr hw.2.2
    refine ⟨?_, ?_, ?_⟩
    · intro bs h b b' i c hbb hbt hci hbs hs hbd
      cases c with
      | zero => simp [isTms] at hs
      | succ c =>
        rw [List.replicate_succ] at hs ⊢
        simp only [isTms, Bool.and_eq_true] at hs
        have hik : i < kidsOf h := by omega
        have hinn := inn_kid h i hik
        obtain ⟨m, hm⟩ : ∃ m, m = i + if bindsB h then 2 else 1 := ⟨_, rfl⟩
        have hm1 : (i + 1) + (if bindsB h then 2 else 1) = m + 1 := by omega
        have hr1 := hr.1 bs h b b' (i + 1) c hbb hbt (by omega) hbs hs.2 hbd.2.2
        rw [hm1] at hr1
        rw [← hm] at hinn ⊢
        have hbx : bndB h b' m ≠ x := by
          by_cases hb : bindsB h = true
          · rw [hm, if_pos hb, bnd_ins h b' i hb hik, hbb hb]
            split
            · exact fun e => hbt hb (e ▸ P.xt)
            · exact fun e => (name_bytes P.xn).1 e.symm
          · rw [bnd_none h b' m (by simpa using hb)]
            exact fun e => (name_bytes P.xn).1 e.symm
        have hbs2 : ∀ y ∈ insB bs h b i, y ∉ tk := by
          rcases insB_cases h i with ⟨hb, _, e⟩ | e
          · rw [e]
            intro y hy
            rcases List.mem_append.1 hy with hy | hy
            · exact hbs y hy
            · rw [List.mem_singleton.1 hy]; exact hbt hb
          · rw [e]; exact hbs
        have hxb : x ∉ insB bs h b i := fun hx => hbs2 x hx P.xt
        simp only [ptF, if_pos (And.intro hinn hbx)]
        by_cases ha : a = []
        · subst ha
          simp only [if_true] at hs ⊢
          have hne : ndH [] k ≠ hName := by
            intro e
            have := top_len (insB bs h b i) hw.2.1 hs.1
            have h2 := ((wf_cv k hw.2.1).2.1 (insB bs h b i) hs.1).2
            simp only [ndH, if_true] at e
            rw [h2, e] at this
            exact this (by decide)
          have hbd1 := hbd.1
          have hk1 := hk.2.1 (insB bs h b i) hbs2 hs.1 (fun hb => by
            have := hbd1 (by simp only [ndH, if_true]; exact hb)
            simpa only [ndA, if_true, hb] using this) hbd.2.1
          refine ⟨?_, ?_, ?_⟩
          · simp only [cv, ptT, if_neg (fun e : ndH [] k = hName ∧ _ => hne e.1), hr1.1, hk1.1]
            have eH : ndH [] (ptF x ba bk k .top) = ndH [] k := by simp only [ndH, if_true, ptF_hd]
            have eA : ndA (insB bs h b i) [] (ptF x ba bk k .top) = ndA (insB bs h b i) [] k := by
              simp only [ndA, if_true, ptF_hd]
              by_cases hb : bindsB (hd1 k) = true
              · simp only [hb, if_true]; exact hk1.2.2.2 hb
              · simp only [if_neg hb]
            have eD : ndD (insB bs h b i) [] = rnD (ndD (insB bs h b i) []) (cv k (.parts (insB bs h b i))) := by
              simp [ndD, rnD]
            rw [eH, eA, ← eD]
          · simp only [isTms, if_true, hk1.2.1, hr1.2.1, Bool.and_true]
          · exact ⟨fun h => absurd rfl h, hk1.2.2.1, hr1.2.2⟩
        · obtain rfl := hw.1 ha
          simp only [if_neg ha] at hs ⊢
          have hiff := pt_atom hxb hs.1 P.xn
          by_cases hax : a = x
          · rw [if_pos hax]
            have e1 := out_nd (bs := insB bs h b i) hbs2 P.tm P.at_ P.wf P.fr
            simp only [nd, Ts.cons.injEq] at e1
            refine ⟨?_, ?_, ?_⟩
            · simp only [cv, ptT, if_pos (hiff.2 hax), hr1.1]
              rw [e1.2.1, e1.2.2.1]
              have := e1.2.2.2.1
              rw [this]
            · have htm := P.tm
              unfold isTm at htm
              simp only [isTms, htm, hr1.2.1, Bool.and_true]
            · exact ⟨P.at_, P.wf, hr1.2.2⟩
          · rw [if_neg hax]
            refine ⟨?_, ?_, ?_⟩
            · simp only [cv, ptT, if_neg (fun e => hax (hiff.1 e)), hr1.1]
              rfl
            · simp only [isTms, if_neg ha, hs.1, hr1.2.1, Bool.and_true]
            · exact ⟨fun _ => rfl, trivial, hr1.2.2⟩
    · intro bs hbs hs hbh hbd
      simp only [isTms, Bool.and_eq_true] at hs
      have hs0 : shapeOf a ≠ [] := by intro e; rw [e] at hs; cases hs.1
      have hane := (shape_head hs0).1
      obtain rfl := hw.1 hane
      rcases shape_cases a with ⟨e, _⟩ | ⟨hb, e, hk1⟩ | ⟨hb, e, hk1⟩
      · exact absurd e hs0
      · have hs2 := hs.2
        rw [e] at hs2
        have e1 : ∀ g bs, cv (.cons a .nil g) (.parts bs) = cv g (.name bs a) := fun g bs => by simp [cv, hb]
        have e2 : ∀ g, hd2 (.cons a .nil g) = hd1 g := fun g => by cases g <;> rfl
        have hbt := hbh hb
        rw [e2] at hbt
        rw [e1] at hbd
        obtain ⟨p1, p2, p3, p4⟩ := hr.2.2 bs a hbs hb hbt e hs2 hbd
        have ef : ptF x ba bk (.cons a .nil r) .top = .cons a .nil (ptF x ba bk r (.kids a (hd1 r) 1)) := rfl
        rw [ef, e1, e1]
        refine ⟨p1, ?_, ⟨fun _ => rfl, trivial, p3⟩, fun _ => by rw [e2, e2, p4]⟩
        rw [isTms, e, p2]
        rfl
      · have hs2 := hs.2
        rw [e] at hs2
        have e1 : ∀ g bs, cv (.cons a .nil g) (.parts bs) = cv g (.kids bs a [] 0) := fun g bs => by simp [cv, hb]
        rw [e1] at hbd
        have h3 := hr.1 bs a [] (hd1 r) 0 _ (fun h => by rw [hb] at h; cases h) (fun h => by rw [hb] at h; cases h) (Nat.add_zero _) hbs hs2 hbd
        simp only [hb, Bool.false_eq_true, if_false, Nat.zero_add] at h3
        have ef : ptF x ba bk (.cons a .nil r) .top = .cons a .nil (ptF x ba bk r (.kids a (hd1 r) 1)) := rfl
        rw [ef, e1, e1]
        refine ⟨h3.1, ?_, ⟨fun _ => rfl, trivial, h3.2.2⟩, fun h => (by rw [show hd1 (.cons a .nil r) = a from rfl, hb] at h; cases h)⟩
        rw [isTms, e, h3.2.1]
        cases hkk : kidsOf a with
        | zero => omega
        | succ n => rfl
    · intro bs h hbs hb hbt hsh hs hbd
      simp only [isTms, Bool.and_eq_true] at hs
      have hane := (name_bytes hs.1).1
      obtain rfl := hw.1 hane
      have e1 : ∀ x k g bs, cv (.cons x k g) (.name bs h) = cv g (.kids bs h x 0) := fun x k g bs => rfl
      rw [e1] at hbd
      have hi1 : innB h 1 = false := by
        simp only [innB, hsh]
        rfl
      have h3 := hr.1 bs h a a 0 _ (fun _ => rfl) (fun _ => hbt) (Nat.add_zero _) hbs hs.2 hbd
      simp only [hb, if_true, Nat.zero_add] at h3
      have ef : ptF x ba bk (.cons a .nil r) (.kids h (hd1 (.cons a .nil r)) 1) = .cons a .nil (ptF x ba bk r (.kids h a 2)) := by
        simp only [ptF, hi1, Bool.false_eq_true, false_and, if_false]
        rfl
      rw [ef, e1, e1]
      refine ⟨h3.1, ?_, ⟨fun _ => rfl, trivial, h3.2.2⟩, rfl⟩
      simp only [isTms, hs.1, h3.2.1, Bool.and_true]

def ptA (x ba : List UInt8) (a : List UInt8) : List UInt8 := if a = x then ba else a
def ptK (x ba : List UInt8) (bk : Fo) (a : List UInt8) (k : Fo) : Fo := if a = [] then ptF x ba bk k .top else if a = x then bk else k

theorem pt_nd {tk : List (List UInt8)} {x ba : List UInt8} {bk : Fo} (P : PtIn tk x ba bk) {a : List UInt8} {k : Fo} (h : isTm a k = true) (hw : a ≠ [] → k = .nil) (hk : k.wf) (hbd : BdO tk (nd [] a k)) :
    nd [] (ptA x ba a) (ptK x ba bk a k) = ptT x (ndH ba bk) (ndA [] ba bk) (ndD [] ba) (cv bk (.parts [])) (nd [] a k) ∧
    isTm (ptA x ba a) (ptK x ba bk a k) = true ∧ (ptA x ba a ≠ [] → ptK x ba bk a k = .nil) ∧ (ptK x ba bk a k).wf := by
  have hxne := (name_bytes P.xn).1
  by_cases ha : a = []
  · subst ha
    have h' := h
    simp only [isTm, if_true] at h'
    have hne : ndH [] k ≠ hName := by
      intro e
      have := top_len [] hk h'
      have h2 := ((wf_cv k hk).2.1 [] h').2
      simp only [ndH, if_true] at e
      rw [h2, e] at this
      exact this (by decide)
    have hbd1 := hbd.1
    have hk1 := (pt_eq tk x ba bk P k hk).2.1 [] (fun _ hy => by cases hy) h' (fun hb => by
      have := hbd1 (by simp only [ndH, if_true]; exact hb)
      simpa only [ndA, if_true, hb] using this) hbd.2.1
    have e1 : ptA x ba [] = [] := by simp only [ptA, if_neg (fun e : [] = x => hxne e.symm)]
    have e2 : ptK x ba bk [] k = ptF x ba bk k .top := by simp [ptK]
    rw [e1, e2]
    refine ⟨?_, ?_, fun h => absurd rfl h, hk1.2.2.1⟩
    · simp only [nd, ptT, if_neg (fun e : ndH [] k = hName ∧ _ => hne e.1), hk1.1]
      have eH : ndH [] (ptF x ba bk k .top) = ndH [] k := by simp only [ndH, if_true, ptF_hd]
      have eA : ndA [] [] (ptF x ba bk k .top) = ndA [] [] k := by
        simp only [ndA, if_true, ptF_hd]
        by_cases hb : bindsB (hd1 k) = true
        · simp only [hb, if_true]; exact hk1.2.2.2 hb
        · simp only [if_neg hb]
      have eD : ndD [] [] = rnD (ndD [] []) (cv k (.parts [])) := by simp [ndD, rnD]
      rw [eH, eA, ← eD]
    · simp only [isTm, if_true, hk1.2.1]
  · obtain rfl := hw ha
    have h' := h
    simp only [isTm, if_neg ha] at h'
    have hiff := pt_atom (bs := []) (by simp) h' P.xn
    by_cases hax : a = x
    · have e1 : ptA x ba a = ba := by simp [ptA, hax]
      have e2 : ptK x ba bk a .nil = bk := by simp only [ptK, if_neg ha, if_pos hax]
      rw [e1, e2]
      refine ⟨?_, P.tm, P.at_, P.wf⟩
      simp only [nd, ptT, if_pos (hiff.2 hax)]
    · have e1 : ptA x ba a = a := by simp [ptA, hax]
      have e2 : ptK x ba bk a .nil = .nil := by simp only [ptK, if_neg ha, if_neg hax]
      rw [e1, e2]
      refine ⟨?_, h, fun _ => rfl, trivial⟩
      simp only [nd, ptT, if_neg (fun e => hax (hiff.1 e)), cv]
      rfl
end Go.Proofs.YtnjgaenhjdjpfaaGreatDoor

/- A term put for the name that is bound last: in the program's terms, whose bound names are depths. -/
namespace Go.Proofs.YtnjgaenhjdjpfaaGreatDoor
open Go.RowKit Go.ChangeMaps

/-- names that are bound further out become depths -/
def clA (bs : List (List UInt8)) (h a : List UInt8) : List UInt8 := if h = hName ∧ a ≠ [] ∧ a ∈ bs then [] else a
def clD (bs : List (List UInt8)) (o : Nat) (h a : List UInt8) (d : Nat) : Nat := if h = hName ∧ a ≠ [] ∧ a ∈ bs then o + (depOf a bs).getD 0 else d
def clK (bs : List (List UInt8)) : Ts → Nat → List UInt8 → Nat → Ts
  | .nil, _, _, _ => .nil
  | .cons h a d k r, o, p, i => .cons h (clA bs h a) (clD bs (o + bndN p i) h a d) (clK bs k (o + bndN p i) h 0) (clK bs r o p (i + 1))

theorem insN_len (bs : List (List UInt8)) (h x : List UInt8) (i : Nat) : (insB bs h x i).length = bs.length + bndN h i := by
  unfold insB bndN
  split <;> simp

theorem bnd_nil (i : Nat) : bndN [] i = 0 := by
  unfold bndN
  rw [if_neg (fun h => by have := h.1; revert this; decide)]

theorem depR_add (x : List UInt8) : ∀ (l m : List (List UInt8)) (i : Nat), x ∉ l → depR x (l ++ m) i = depR x m (i + l.length)
  | [], m, i, _ => by simp
  | b :: l, m, i, h => by
    have h1 : ¬ b = x := fun e => h (by simp [e])
    have h2 : x ∉ l := fun e => h (List.mem_cons_of_mem _ e)
    simp only [List.cons_append, depR, if_neg h1, depR_add x l m (i + 1) h2, List.length_cons]
    congr 1; omega

theorem depR_off (x : List UInt8) : ∀ (l : List (List UInt8)) (i : Nat), depR x l i = (depR x l 0).map (· + i)
  | [], i => rfl
  | b :: l, i => by
    simp only [depR]
    split
    · simp
    · rw [depR_off x l (i + 1), depR_off x l (0 + 1)]
      cases depR x l 0 with
      | none => rfl
      | some d => simp; omega

theorem dep_more {x : List UInt8} {bs L : List (List UInt8)} (h : x ∉ L) : depOf x (bs ++ L) = (depOf x bs).map (· + L.length) := by
  unfold depOf
  rw [List.reverse_append, depR_add x _ _ 0 (by rw [List.mem_reverse]; exact h), depR_off]
  simp

theorem cl_atom (bs L : List (List UInt8)) (a : List UInt8) (ha : isAtomTm a = true) :
    ndA (bs ++ L) a .nil = clA bs (ndH a .nil) (ndA L a .nil) ∧ ndD (bs ++ L) a = clD bs L.length (ndH a .nil) (ndA L a .nil) (ndD L a) := by
  have hane := (atom_bytes ha).1
  rcases atom_cases ha with ht | hn
  · have hne : ¬ (hTruth = hName) := by decide
    simp only [ndA, ndD, ndH, if_neg hane, if_pos ht, clA, clD, hne, false_and, if_false, and_self]
  · have hnt := name_nontruth hn
    simp only [ndA, ndD, ndH, if_neg hane, if_neg hnt, clA, clD, true_and]
    by_cases hL : a ∈ L
    · have e1 : nmA L a = [] := by rw [nmA_eq, if_pos hL]
      have e2 : depOf a (bs ++ L) = depOf a L := dep_in hL
      have e3 : nmA (bs ++ L) a = [] := by rw [nmA_eq, if_pos (List.mem_append_right _ hL)]
      rw [e1, e2, e3]
      simp
    · have e1 : nmA L a = a := by rw [nmA_eq, if_neg hL]
      have e2 := dep_more (bs := bs) hL
      have e4 : depOf a L = none := dep_none.2 hL
      rw [e1, e2, nmA_eq, e4]
      by_cases hb : a ∈ bs
      · have : a ∈ bs ++ L := List.mem_append_left _ hb
        rw [if_pos this, if_pos ⟨hane, hb⟩, if_pos ⟨hane, hb⟩]
        cases hd : depOf a bs with
        | none => exact absurd hb (dep_none.1 hd)
        | some d => simp; omega
      · have : ¬ a ∈ bs ++ L := by simp [hL, hb]
        rw [if_neg this, if_neg (fun h => hb h.2), if_neg (fun h => hb h.2), dep_none.2 hb]
        simp

theorem top_head {k : Fo} (hk : k.wf) (h : isTms none k = true) : hd1 k ≠ hName := by
  intro e
  have := top_len [] hk h
  have h2 := ((wf_cv k hk).2.1 [] h).2
  rw [h2, e] at this
  exact this (by decide)

theorem cl_cv (bs : List (List UInt8)) : ∀ f : Fo, f.wf →
    (∀ (L : List (List UInt8)) (h b : List UInt8) (i c : Nat), isTms (some (List.replicate c true)) f = true → cv f (.kids (bs ++ L) h b i) = clK bs (cv f (.kids L h b i)) L.length h i) ∧
    (∀ L : List (List UInt8), isTms none f = true → cv f (.parts (bs ++ L)) = clK bs (cv f (.parts L)) L.length (hd1 f) 0) ∧
    (∀ (L : List (List UInt8)) (h : List UInt8) (c : Nat), isTms (some (false :: List.replicate c true)) f = true → cv f (.name (bs ++ L) h) = clK bs (cv f (.name L h)) L.length h 0) := by
  intro f
  induction f with
  | nil => exact fun _ => ⟨fun L h b i c _ => rfl, fun L h => (by cases h), fun L h c hc => (by simp [isTms] at hc)⟩
  | cons a k r ihk ihr =>
    intro hw
    have hk := ihk hw.2.1
    have hr := ihr hw.2.2
    refine ⟨?_, ?_, ?_⟩
    · intro L h b i c hs
      cases c with
      | zero => simp [isTms] at hs
      | succ c =>
        rw [List.replicate_succ] at hs
        simp only [isTms, Bool.and_eq_true] at hs
        simp only [cv, clK, ← insN_len L h b i]
        rw [ins_app, hr.1 L h b (i + 1) c hs.2]
        by_cases ha : a = []
        · subst ha
          simp only [if_true] at hs
          have hne := top_head hw.2.1 hs.1
          rw [hk.2.1 _ hs.1]
          simp only [ndH, ndA, ndD, clA, clD, if_true, hne, false_and, if_false]
        · obtain rfl := hw.1 ha
          simp only [if_neg ha] at hs
          obtain ⟨e1, e2⟩ := cl_atom bs (insB L h b i) a hs.1
          rw [e1, e2]
          rfl
    · intro L hs
      simp only [isTms, Bool.and_eq_true] at hs
      have hs0 : shapeOf a ≠ [] := by intro e; rw [e] at hs; cases hs.1
      have e0 : hd1 (.cons a k r) = a := rfl
      rw [e0]
      rcases shape_cases a with ⟨e, _⟩ | ⟨hb, e, hk1⟩ | ⟨hb, e, hk1⟩
      · exact absurd e hs0
      · have hs2 := hs.2
        rw [e] at hs2
        have e1 : ∀ L, cv (.cons a k r) (.parts L) = cv r (.name L a) := fun L => by simp [cv, hb]
        rw [e1, e1]
        exact hr.2.2 L a _ hs2
      · have hs2 := hs.2
        rw [e] at hs2
        have e1 : ∀ L, cv (.cons a k r) (.parts L) = cv r (.kids L a [] 0) := fun L => by simp [cv, hb]
        rw [e1, e1]
        exact hr.1 L a [] 0 _ hs2
    · intro L h c hs
      simp only [isTms, Bool.and_eq_true] at hs
      have e1 : ∀ L, cv (.cons a k r) (.name L h) = cv r (.kids L h a 0) := fun L => rfl
      rw [e1, e1]
      exact hr.1 L h a 0 c hs.2

theorem cl_nd (bs L : List (List UInt8)) {a : List UInt8} {k : Fo} (h : isTm a k = true) (hw : a ≠ [] → k = .nil) (hk : k.wf) : nd (bs ++ L) a k = clK bs (nd L a k) L.length [] 0 := by
  unfold nd
  simp only [clK, bnd_nil, Nat.add_zero]
  by_cases ha : a = []
  · subst ha
    simp only [isTm, if_true] at h
    have hne := top_head hk h
    rw [(cl_cv bs k hk).2.1 L h]
    simp only [ndH, ndA, ndD, clA, clD, if_true, hne, false_and, if_false]
  · obtain rfl := hw ha
    simp only [isTm, if_neg ha] at h
    obtain ⟨e1, e2⟩ := cl_atom bs L a h
    rw [e1, e2]
    rfl

theorem cl_len (bs : List (List UInt8)) : ∀ (t : Ts) (o : Nat) (p : List UInt8) (i : Nat), (clK bs t o p i).len = t.len
  | .nil, _, _, _ => rfl
  | .cons h a d k r, o, p, i => by simp only [clK, Ts.len, cl_len bs r]

/-- without names of lam and let, depths are the same -/
theorem er_cl (bs : List (List UInt8)) : ∀ (t : Ts) (o : Nat) (p : List UInt8) (i : Nat), WfT t → er (clK bs t o p i) = clK bs (er t) o p i
  | .nil, _, _, _, _ => rfl
  | .cons h a d k r, o, p, i, hw => by
    simp only [clK, er, cl_len, er_cl bs k _ _ _ hw.2.2.1, er_cl bs r _ _ _ hw.2.2.2]
    by_cases h0 : k.len = 0
    · simp only [if_pos h0]
    · have hn : ¬ h = hName := fun e => h0 (by rw [hw.1, e]; decide)
      simp only [if_neg h0, clA, clD, hn, false_and, if_false]

/-- what leads out leads further -/
def dpK (m : Nat) : Ts → Nat → List UInt8 → Nat → Ts
  | .nil, _, _, _ => .nil
  | .cons h a d k r, o, p, i => if h = hName ∧ a = [] ∧ o + bndN p i ≤ d then .cons hName [] (d + m) .nil (dpK m r o p (i + 1)) else .cons h a (rnD d k) (dpK m k (o + bndN p i) h 0) (dpK m r o p (i + 1))

theorem dp_len (m : Nat) : ∀ (t : Ts) (o : Nat) (p : List UInt8) (i : Nat), (dpK m t o p i).len = t.len
  | .nil, _, _, _ => rfl
  | .cons h a d k r, o, p, i => by
    simp only [dpK]
    split <;> simp only [Ts.len, dp_len m r]

theorem app_len : ∀ (f g : Ts), (f.app g).len = f.len + g.len
  | .nil, g => by simp [Ts.app, Ts.len]
  | .cons _ _ _ _ r, g => by simp only [Ts.app, Ts.len, app_len r g]; omega

theorem ts_app_nil (f : Ts) : f.app .nil = f := Ts.app_nil f

theorem er_app : ∀ (f g : Ts), er (f.app g) = (er f).app (er g)
  | .nil, _ => rfl
  | .cons h a d k r, g => by simp only [Ts.app, er, er_app r g]

theorem app_size : ∀ (f g : Ts), (f.app g).size = f.size + g.size
  | .nil, g => by simp [Ts.app, Ts.size]
  | .cons h a d k r, g => by simp only [Ts.app, Ts.size, app_size r g]; omega

theorem ts_wf_app : ∀ (f g : Ts), WfT f → WfT g → WfT (f.app g)
  | .nil, _, _, h => h
  | .cons _ _ _ _ r, g, hf, hg => ⟨hf.1, hf.2.1, hf.2.2.1, ts_wf_app r g hf.2.2.2 hg⟩

theorem er_dp (m : Nat) : ∀ (t : Ts) (o : Nat) (p : List UInt8) (i : Nat), WfT t → er (dpK m t o p i) = dpK m (er t) o p i
  | .nil, _, _, _, _ => rfl
  | .cons h a d k r, o, p, i, hw => by
    have h1 := er_dp m k (o + bndN p i) h 0 hw.2.2.1
    have h2 := er_dp m r o p (i + 1) hw.2.2.2
    by_cases hn : h = hName
    · have h0 : k.len = 0 := by rw [hw.1, hn]; decide
      have hk := len_nil h0
      subst hk
      by_cases hq : h = hName ∧ a = [] ∧ o + bndN p i ≤ d
      · simp only [dpK, er, Ts.len, if_true, if_pos hq, h2]
      · simp only [dpK, er, Ts.len, if_true, if_neg hq, h2]
    · have q : ∀ b : List UInt8, ¬ (h = hName ∧ b = [] ∧ o + bndN p i ≤ d) := fun b e => hn e.1
      simp only [dpK, er, if_neg (q _), dp_len, rnD, er_len, h1, h2]

theorem wf_dp (m : Nat) : ∀ (t : Ts) (o : Nat) (p : List UInt8) (i : Nat), WfT t → WfT (dpK m t o p i)
  | .nil, _, _, _, _ => trivial
  | .cons h a d k r, o, p, i, hw => by
    have h1 := wf_dp m k (o + bndN p i) h 0 hw.2.2.1
    have h2 := wf_dp m r o p (i + 1) hw.2.2.2
    simp only [dpK]
    split
    · exact ⟨rfl, fun h => absurd rfl h, trivial, h2⟩
    · refine ⟨by rw [dp_len]; exact hw.1, fun h0 => ?_, h1, h2⟩
      rw [dp_len] at h0
      exact ⟨by simp only [rnD, if_neg h0], (hw.2.1 h0).2⟩

theorem dp_size (m : Nat) : ∀ (t : Ts) (o : Nat) (p : List UInt8) (i : Nat), WfT t → (dpK m t o p i).size = t.size
  | .nil, _, _, _, _ => rfl
  | .cons h a d k r, o, p, i, hw => by
    have h1 := dp_size m k (o + bndN p i) h 0 hw.2.2.1
    have h2 := dp_size m r o p (i + 1) hw.2.2.2
    simp only [dpK]
    split
    · rename_i hq
      have h0 : k.len = 0 := by rw [hw.1, hq.1]; decide
      have hk := len_nil h0
      subst hk
      simp only [Ts.size, h2, hq.1]
    · simp only [Ts.size, h1, h2]

/-- puts a term for the name with a depth; what is bound further out comes nearer -/
def pbK (b : Ts) : Ts → Nat → List UInt8 → Nat → Ts
  | .nil, _, _, _ => .nil
  | .cons h a d k r, o, p, i =>
    if h = hName ∧ a = [] ∧ d = o + bndN p i then (dpK (o + bndN p i) b 0 [] 0).app (pbK b r o p (i + 1))
    else if h = hName ∧ a = [] ∧ o + bndN p i < d then .cons hName [] (d - 1) .nil (pbK b r o p (i + 1))
    else .cons h a (rnD d k) (pbK b k (o + bndN p i) h 0) (pbK b r o p (i + 1))

theorem pb_len (b : Ts) (hb : b.len = 1) : ∀ (t : Ts) (o : Nat) (p : List UInt8) (i : Nat), (pbK b t o p i).len = t.len
  | .nil, _, _, _ => rfl
  | .cons h a d k r, o, p, i => by
    have h2 := pb_len b hb r o p (i + 1)
    simp only [pbK]
    split
    · rw [app_len, dp_len, hb, h2, Ts.len]; omega
    · split <;> simp only [Ts.len, h2]

theorem er_pb (b : Ts) (hb : b.len = 1) (hwb : WfT b) : ∀ (t : Ts) (o : Nat) (p : List UInt8) (i : Nat), WfT t → er (pbK b t o p i) = pbK (er b) (er t) o p i
  | .nil, _, _, _, _ => rfl
  | .cons h a d k r, o, p, i, hw => by
    have h1 := er_pb b hb hwb k (o + bndN p i) h 0 hw.2.2.1
    have h2 := er_pb b hb hwb r o p (i + 1) hw.2.2.2
    by_cases hn : h = hName
    · have h0 : k.len = 0 := by rw [hw.1, hn]; decide
      have hk := len_nil h0
      subst hk
      by_cases hq : h = hName ∧ a = [] ∧ d = o + bndN p i
      · simp only [pbK, er, Ts.len, if_true, if_pos hq, er_app, er_dp _ _ _ _ _ hwb, h2]
      · by_cases hq2 : h = hName ∧ a = [] ∧ o + bndN p i < d
        · simp only [pbK, er, Ts.len, if_true, if_neg hq, if_pos hq2, h2]
        · simp only [pbK, er, Ts.len, if_true, if_neg hq, if_neg hq2, h2]
    · have q : ∀ b : List UInt8, ¬ (h = hName ∧ b = [] ∧ d = o + bndN p i) := fun b e => hn e.1
      have q2 : ∀ b : List UInt8, ¬ (h = hName ∧ b = [] ∧ o + bndN p i < d) := fun b e => hn e.1
      simp only [pbK, er, if_neg (q _), if_neg (q2 _), pb_len b hb, rnD, er_len, h1, h2]

theorem wf_pb (b : Ts) (hb : b.len = 1) (hwb : WfT b) : ∀ (t : Ts) (o : Nat) (p : List UInt8) (i : Nat), WfT t → WfT (pbK b t o p i)
  | .nil, _, _, _, _ => trivial
  | .cons h a d k r, o, p, i, hw => by
    have h1 := wf_pb b hb hwb k (o + bndN p i) h 0 hw.2.2.1
    have h2 := wf_pb b hb hwb r o p (i + 1) hw.2.2.2
    simp only [pbK]
    split
    · exact ts_wf_app _ _ (wf_dp _ _ _ _ _ hwb) h2
    · split
      · exact ⟨rfl, fun h => absurd rfl h, trivial, h2⟩
      · refine ⟨by rw [pb_len b hb]; exact hw.1, fun h0 => ?_, h1, h2⟩
        rw [pb_len b hb] at h0
        exact ⟨by simp only [rnD, if_neg h0], (hw.2.1 h0).2⟩

/-- no depth leads out -/
def LcK : Ts → Nat → List UInt8 → Nat → Prop
  | .nil, _, _, _ => True
  | .cons h a d k r, o, p, i => (h = hName → a = [] → d < o + bndN p i) ∧ LcK k (o + bndN p i) h 0 ∧ LcK r o p (i + 1)

theorem lc_tok : ∀ (t : Ts) (bs : List (List UInt8)) (p x : List UInt8) (i : Nat), Tok t bs p x i → LcK t bs.length p i
  | .nil, _, _, _, _, _ => trivial
  | .cons h a d k r, bs, p, x, i, ht => by
    have h1 := lc_tok k _ _ _ _ ht.1.2
    have h2 := lc_tok r _ _ _ _ ht.2
    rw [insN_len] at h1
    refine ⟨fun e1 e2 => ?_, h1, h2⟩
    have := ht.1.1 ⟨e1, e2⟩
    rwa [insN_len] at this

theorem dp_cl (m : Nat) (bs : List (List UInt8)) : ∀ (t : Ts) (o : Nat) (p : List UInt8) (i : Nat), WfT t → LcK t o p i → dpK m (clK bs t o p i) o p i = clK bs t (m + o) p i
  | .nil, _, _, _, _, _ => rfl
  | .cons h a d k r, o, p, i, hw, hl => by
    have h1 := dp_cl m bs k (o + bndN p i) h 0 hw.2.2.1 hl.2.1
    have h2 := dp_cl m bs r o p (i + 1) hw.2.2.2 hl.2.2
    rw [← Nat.add_assoc] at h1
    simp only [clK, dpK, h2]
    by_cases hn : h = hName
    · have h0 : k.len = 0 := by rw [hw.1, hn]; decide
      have hk := len_nil h0
      subst hk
      by_cases hq : h = hName ∧ a ≠ [] ∧ a ∈ bs
      · have e : clA bs h a = [] := by simp only [clA, if_pos hq]
        have e2 : ∀ o, clD bs o h a d = o + (depOf a bs).getD 0 := fun o => by simp only [clD, if_pos hq]
        rw [e, e2, e2, if_pos ⟨hn, rfl, by omega⟩, hn]
        simp only [clK]
        congr 1; omega
      · have e : clA bs h a = a := by simp only [clA, if_neg hq]
        have e2 : ∀ o, clD bs o h a d = d := fun o => by simp only [clD, if_neg hq]
        rw [e, e2, e2, if_neg (fun c => by have := hl.1 c.1 c.2.1; omega)]
        simp only [clK, dpK, rnD, Ts.len, if_true]
    · have e : clA bs h a = a := by simp only [clA, hn, false_and, if_false]
      have e2 : ∀ o, clD bs o h a d = d := fun o => by simp only [clD, hn, false_and, if_false]
      rw [e, e2, e2, if_neg (fun c => hn c.1), h1]
      congr 1
      simp only [rnD, cl_len]
      split
      · rfl
      · rename_i h0; exact (hw.2.1 h0).1.symm

theorem single {b : Ts} (hb : b.len = 1) : ∃ h a d k, b = .cons h a d k .nil := by
  cases b with
  | nil => simp [Ts.len] at hb
  | cons h a d k r =>
    have : r = .nil := len_nil (by simpa [Ts.len] using hb)
    subst this
    exact ⟨h, a, d, k, rfl⟩

/-- a name that is put is one that is bound last -/
theorem pb_cl (bs : List (List UInt8)) (x hb ab : List UInt8) (db : Nat) (kb : Ts) (hwb : WfT (.cons hb ab db kb .nil)) (hlb : LcK (.cons hb ab db kb .nil) 0 [] 0) :
    ∀ (t : Ts) (o : Nat) (p : List UInt8) (i : Nat), WfT t → LcK t o p i →
      clK bs (ptT x hb ab db kb t) o p i = pbK (clK bs (.cons hb ab db kb .nil) 0 [] 0) (clK (bs ++ [x]) t o p i) o p i
  | .nil, _, _, _, _, _ => rfl
  | .cons h a d k r, o, p, i, hw, hl => by
    have h1 := pb_cl bs x hb ab db kb hwb hlb k (o + bndN p i) h 0 hw.2.2.1 hl.2.1
    have h2 := pb_cl bs x hb ab db kb hwb hlb r o p (i + 1) hw.2.2.2 hl.2.2
    simp only [clK, pbK, ptT]
    by_cases hn : h = hName
    · have h0 : k.len = 0 := by rw [hw.1, hn]; decide
      have hk := len_nil h0
      subst hk
      by_cases hx : a ≠ [] ∧ a = x
      · have e : clA (bs ++ [x]) h a = [] := by simp only [clA]; rw [if_pos ⟨hn, hx.1, by simp [hx.2]⟩]
        have e2 : clD (bs ++ [x]) (o + bndN p i) h a d = o + bndN p i := by
          simp only [clD]
          rw [if_pos ⟨hn, hx.1, by simp [hx.2]⟩]
          have : depOf a (bs ++ [x]) = some 0 := by simp [depOf, depR, hx.2]
          rw [this]; rfl
        rw [if_pos ⟨hn, hx⟩, e, e2, if_pos ⟨hn, rfl, rfl⟩]
        have hd := dp_cl (o + bndN p i) bs _ 0 [] 0 hwb hlb
        simp only [clK, bnd_nil, Nat.add_zero] at hd h2 ⊢
        rw [hd, h2]
        rfl
      · rw [if_neg (fun c => hx c.2)]
        by_cases hb : a ≠ [] ∧ a ∈ bs
        · have hax : a ≠ x := fun e => hx ⟨hb.1, e⟩
          have e : clA (bs ++ [x]) h a = [] := by simp only [clA]; rw [if_pos ⟨hn, hb.1, by simp [hb.2]⟩]
          have e3 : clA bs h a = [] := by simp only [clA]; rw [if_pos ⟨hn, hb⟩]
          obtain ⟨q, hq⟩ : ∃ q, depOf a bs = some q := by
            cases hd : depOf a bs with
            | none => exact absurd hb.2 (dep_none.1 hd)
            | some q => exact ⟨q, rfl⟩
          have e5 : depOf a (bs ++ [x]) = some (q + 1) := by
            rw [dep_more (by simp [hax]), hq]; rfl
          have e2 : clD (bs ++ [x]) (o + bndN p i) h a d = o + bndN p i + (q + 1) := by
            simp only [clD]
            rw [if_pos ⟨hn, hb.1, by simp [hb.2]⟩, e5]; rfl
          have e4 : clD bs (o + bndN p i) h a (rnD d .nil) = o + bndN p i + q := by
            simp only [clD]
            rw [if_pos ⟨hn, hb⟩, hq]; rfl
          simp only [clK]
          rw [e, e2, e3, e4, if_neg (fun c => by have := c.2.2; omega), if_pos ⟨hn, rfl, by omega⟩, h2, hn]
          rfl
        · have hb2 : ¬ (a ≠ [] ∧ a ∈ bs ++ [x]) := fun c => by
            rcases List.mem_append.1 c.2 with c2 | c2
            · exact hb ⟨c.1, c2⟩
            · exact hx ⟨c.1, List.mem_singleton.1 c2⟩
          have e : clA (bs ++ [x]) h a = a := by simp only [clA]; rw [if_neg (fun c => hb2 c.2)]
          have e3 : clA bs h a = a := by simp only [clA]; rw [if_neg (fun c => hb c.2)]
          have e2 : clD (bs ++ [x]) (o + bndN p i) h a d = d := by simp only [clD]; rw [if_neg (fun c => hb2 c.2)]
          have e4 : clD bs (o + bndN p i) h a (rnD d .nil) = d := by simp only [clD]; rw [if_neg (fun c => hb c.2)]; rfl
          simp only [clK]
          rw [e, e2, e3, e4, if_neg (fun c => by have := hl.1 c.1 c.2.1; omega), if_neg (fun c => by have := hl.1 c.1 c.2.1; omega), h2]
          rfl
    · have e : ∀ bs, clA bs h a = a := fun bs => by simp only [clA, hn, false_and, if_false]
      have e2 : ∀ bs o d, clD bs o h a d = d := fun bs o d => by simp only [clD, hn, false_and, if_false]
      rw [if_neg (fun c => hn c.1)]
      simp only [clK]
      rw [e, e2, e, e2, if_neg (fun c => hn c.1), if_neg (fun c => hn c.1), h1, h2]
      simp only [rnD, cl_len]
      rfl

/- What the model puts under its names is what the program puts under its depths. -/

structure OkT (a : List UInt8) (k : Fo) : Prop where
  tm : isTm a k = true
  at_ : a ≠ [] → k = .nil
  wf : k.wf

theorem OkT.nw {a : List UInt8} {k : Fo} (h : OkT a k) (bs : List (List UInt8)) : WfT (nd bs a k) := wf_nd bs h.tm h.at_ h.wf

theorem OkT.size {a : List UInt8} {k : Fo} (h : OkT a k) (bs : List (List UInt8)) : (nd bs a k).size = treeSize a k := nd_size bs h.tm h.at_ h.wf

theorem TmIs.okT {s a : List UInt8} {k : Fo} (h : TmIs s a k) : OkT a k := ⟨h.2.1, h.wf.1, h.wf.2⟩

theorem lc_nd {a : List UInt8} {k : Fo} (h : OkT a k) : LcK (nd [] a k) 0 [] 0 := by
  have htm := h.tm
  by_cases ha : a = []
  · subst ha
    simp only [isTm, if_true] at htm
    have hne := top_head h.wf htm
    refine ⟨fun e => absurd (by simpa only [ndH, if_true] using e) hne, ?_, trivial⟩
    have := lc_tok _ _ _ _ _ ((tok_eq k h.wf).2.1 [] htm)
    simpa only [bnd_nil, ndH, if_true, Nat.add_zero, List.length_nil] using this
  · obtain rfl := h.at_ ha
    simp only [isTm, if_neg ha] at htm
    have := nm_tok [] a htm
    refine ⟨fun e1 e2 => ?_, trivial, trivial⟩
    have := this.1 ⟨e1, e2⟩
    simp only [List.length_nil] at this
    omega

theorem OkT.cl {a : List UInt8} {k : Fo} (h : OkT a k) (bs : List (List UInt8)) : nd bs a k = clK bs (nd [] a k) 0 [] 0 := by
  have := cl_nd bs [] h.tm h.at_ h.wf
  simpa only [List.append_nil, List.length_nil] using this

theorem cn_ok2 {tk : List (List UInt8)} {a : List UInt8} {k : Fo} (h : OkT a k) (hs : treeSize a k + tk.length ≤ 990) (hf : FrIn tk (nd [] a k)) : CnOk tk a k := by
  have h1 := h.size []
  simp only [nd, Ts.size] at h1
  obtain ⟨q1, q2, q3, q4, q5⟩ := cn_term (tk := tk) h.tm h.at_ h.wf (by omega) hf
  exact ⟨q1, q2, q3, q4, q5⟩

theorem cnt_er (x : List UInt8) : ∀ t : Ts, WfT t → cntU x (er t) = cntU x t
  | .nil, _ => rfl
  | .cons h a d k r, hw => by
    have h1 := cnt_er x k hw.2.2.1
    have h2 := cnt_er x r hw.2.2.2
    simp only [er, cntU, h1, h2]
    by_cases hn : h = hName
    · have h0 : k.len = 0 := by rw [hw.1, hn]; decide
      simp only [h0, if_true]
    · simp only [hn, false_and, if_false]

theorem cnt_nd {x : List UInt8} (hx : isName x = true) {a : List UInt8} {k : Fo} (h : OkT a k) : cntU x (nd [] a k) = usT x a k := by
  have := cnt_term hx h.tm h.at_ h.wf
  simpa only [nd, cntU, cntN, Nat.add_zero] using this

/-- what the names of a term that is put must not meet -/
def sbTk (x : List UInt8) (a : List UInt8) (k : Fo) (ba : List UInt8) (bk : Fo) : List (List UInt8) := fvs a k ++ fvs ba bk ++ [x]
def sbA (x ba a : List UInt8) : List UInt8 := ptA x ba a
def sbK (x a : List UInt8) (k : Fo) (ba : List UInt8) (bk : Fo) : Fo := ptK x ba bk a (cnK (sbTk x a k ba bk) a k)

theorem frIn_fvs {a : List UInt8} {k : Fo} (h : OkT a k) : FrIn (fvs a k) (nd [] a k) := by
  have h2 := frU_in (nd [] a k) [] (leafy_of _ (h.nw []))
  rwa [frU_nd h.tm h.at_ h.wf] at h2

structure SbOk (x a : List UInt8) (k : Fo) (ba : List UInt8) (bk : Fo) : Prop where
  ok : OkT (sbA x ba a) (sbK x a k ba bk)
  eb : ∀ bs, er (nd bs (sbA x ba a) (sbK x a k ba bk)) = er (pbK (nd bs ba bk) (nd (bs ++ [x]) a k) 0 [] 0)
  e0 : er (nd [] (sbA x ba a) (sbK x a k ba bk)) = er (ptT x (ndH ba bk) (ndA [] ba bk) (ndD [] ba) (cv bk (.parts [])) (nd [] a k))
  size : treeSize (sbA x ba a) (sbK x a k ba bk) + usT x a k = treeSize a k + usT x a k * treeSize ba bk

theorem sub_nd {x a : List UInt8} {k : Fo} {ba : List UInt8} {bk : Fo} (h : OkT a k) (hb : OkT ba bk) (hx : isName x = true) (hs : treeSize a k ≤ 300) (hsb : treeSize ba bk ≤ 300) : SbOk x a k ba bk := by
  have l1 := fvs_len h.tm h.at_ h.wf
  have l2 := fvs_len hb.tm hb.at_ hb.wf
  have htk : (sbTk x a k ba bk).length = (fvs a k).length + (fvs ba bk).length + 1 := by simp [sbTk]; omega
  have hc : CnOk (sbTk x a k ba bk) a k := cn_ok2 h (by omega) ((frIn_fvs h).mono (fun y hy => List.mem_append_left _ (List.mem_append_left _ hy)))
  have ho : OkT a (cnK (sbTk x a k ba bk) a k) := ⟨hc.tm, hc.at_, hc.wf⟩
  have hP : PtIn (sbTk x a k ba bk) x ba bk := ⟨hx, by simp [sbTk], hb.tm, hb.at_, hb.wf, (frIn_fvs hb).mono (fun y hy => List.mem_append_left _ (List.mem_append_right _ hy))⟩
  have hbd : BdO (sbTk x a k ba bk) (nd [] a (cnK (sbTk x a k ba bk) a k)) := by
    rw [← hc.node]; exact bd_rn _ _ _ (h.nw [])
  obtain ⟨e1, e2, e3, e4⟩ := pt_nd hP hc.tm hc.at_ hc.wf hbd
  have hok : OkT (sbA x ba a) (sbK x a k ba bk) := ⟨e2, e3, e4⟩
  have e5 : er (nd [] a (cnK (sbTk x a k ba bk) a k)) = er (nd [] a k) := by
    rw [← hc.node]; exact er_rn _ _ _ (h.nw [])
  have hwb := hb.nw []
  have hpt := er_pt x (ndH ba bk) (ndA [] ba bk) (ndD [] ba) (cv bk (.parts []))
  have e0 : er (nd [] (sbA x ba a) (sbK x a k ba bk)) = er (ptT x (ndH ba bk) (ndA [] ba bk) (ndD [] ba) (cv bk (.parts [])) (nd [] a k)) := by
    unfold sbA sbK
    rw [e1, hpt _ (ho.nw []), hpt _ (h.nw []), e5]
  refine ⟨hok, fun bs => ?_, e0, ?_⟩
  · have hlb := lc_nd hb
    have e6 := pb_cl bs x (ndH ba bk) (ndA [] ba bk) (ndD [] ba) (cv bk (.parts [])) hwb hlb _ 0 [] 0 (ho.nw []) (lc_nd ho)
    have e7 : nd bs (sbA x ba a) (sbK x a k ba bk) = clK bs (ptT x (ndH ba bk) (ndA [] ba bk) (ndD [] ba) (cv bk (.parts [])) (nd [] a (cnK (sbTk x a k ba bk) a k))) 0 [] 0 := by
      rw [hok.cl bs]
      unfold sbA sbK
      rw [e1]
    have e8 : clK bs (.cons (ndH ba bk) (ndA [] ba bk) (ndD [] ba) (cv bk (.parts [])) .nil) 0 [] 0 = nd bs ba bk := (hb.cl bs).symm
    rw [e7, e6, e8]
    have hw1 := hb.nw bs
    rw [er_pb _ rfl hw1 _ _ _ _ (by rw [← ho.cl]; exact ho.nw _), er_pb _ rfl hw1 _ _ _ _ (h.nw _)]
    congr 1
    rw [h.cl (bs ++ [x]), er_cl _ _ _ _ _ (ho.nw []), er_cl _ _ _ _ _ (h.nw []), e5]
  · have h1 := pt_size x (ndH ba bk) (ndA [] ba bk) (ndD [] ba) (cv bk (.parts [])) (nd [] a k) (leafy_of _ (h.nw []))
    have h2 := congrArg Ts.size e0
    rw [er_size, er_size, hok.size] at h2
    have h3 := hb.size []
    simp only [nd, Ts.size, Nat.add_zero] at h3
    rw [h3, cnt_nd hx h, h.size] at h1
    omega

end Go.Proofs.YtnjgaenhjdjpfaaGreatDoor
