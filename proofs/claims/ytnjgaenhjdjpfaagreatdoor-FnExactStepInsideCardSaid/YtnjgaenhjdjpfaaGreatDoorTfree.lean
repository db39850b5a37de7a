/- Free names: in the program's terms, and in trees. · Free names of the program's terms. · Texts of the program's terms: what has been read is written as it was. · The program writes terms. -/
import Derived.Test.YtnjgaenhjdjpfaaGreatDoorTuse
import Derived.Test.YtnjgaenhjdjpfaaGreatDoorHas
import Derived.Test.YtnjgaenhjdjpfaaGreatDoorTimpl
import Derived.Deep.RegionHeld3
/- Free names: in the program's terms, and in trees. -/
namespace Go.Proofs.YtnjgaenhjdjpfaaGreatDoor
open Go.RowKit Go.ChangeMaps

/-- free names in the order in which each one stands first, behind those that are found -/
def frU : Ts → List (List UInt8) → List (List UInt8)
  | .nil, l => l
  | .cons h a _ k r, l => frU r (if h = hName ∧ a ≠ [] ∧ a ∉ l then l ++ [a] else frU k l)

def frN (h a : List UInt8) (k : Ts) (l : List (List UInt8)) : List (List UInt8) := if h = hName ∧ a ≠ [] ∧ a ∉ l then l ++ [a] else frU k l

inductive Fm where
  | kids (bd : List (List UInt8)) (h b : List UInt8) (i : Nat)
  | top (bd : List (List UInt8))

/-- what is bound in a part -/
def inB (bd : List (List UInt8)) (h b : List UInt8) (i : Nat) : List (List UInt8) := if bndB h b i = [] then bd else bd ++ [bndB h b i]

/-- free names as the model finds them -/
def fsU : Fo → Fm → List (List UInt8) → List (List UInt8)
  | .nil, _, l => l
  | .cons h _ r, .top bd, l => fsU r (.kids bd h (hd1 r) 1) l
  | .cons a k r, .kids bd h b i, l => fsU r (.kids bd h b (i + 1)) (if innB h i = true then (if a = [] then fsU k (.top (inB bd h b i)) l else if isName a = false ∨ a ∈ inB bd h b i ∨ a ∈ l then l else l ++ [a]) else l)

def fsT (a : List UInt8) (k : Fo) (bd l : List (List UInt8)) : List (List UInt8) := if a = [] then fsU k (.top bd) l else if isName a = false ∨ a ∈ bd ∨ a ∈ l then l else l ++ [a]

theorem fr_atom (bs : List (List UInt8)) (a : List UInt8) (l : List (List UInt8)) (h : isAtomTm a = true) : frN (ndH a .nil) (ndA bs a .nil) (cv .nil (.parts bs)) l = if isName a = false ∨ a ∈ bs ∨ a ∈ l then l else l ++ [a] := by
  have e : frU (cv .nil (.parts bs)) l = l := rfl
  have ha := (atom_bytes h).1
  unfold frN ndH ndA
  rw [e, if_neg ha, if_neg ha]
  by_cases ht : a = tTrue ∨ a = tFalse
  · have h1 : hTruth ≠ hName := by decide
    have h2 : isName a = false := by rcases ht with rfl | rfl <;> rfl
    rw [if_pos ht, if_neg (fun h => h1 h.1), if_pos (.inl h2)]
  · have hn : isName a = true := by
      simp only [not_or] at ht
      simpa [isAtomTm, ht.1, ht.2] using h
    rw [if_neg ht, if_neg ht, nmA_eq]
    by_cases hm : a ∈ bs
    · rw [if_pos hm, if_neg (fun h => h.2.1 rfl), if_pos (.inr (.inl hm))]
    · rw [if_neg hm]
      by_cases hl : a ∈ l
      · rw [if_neg (fun h => h.2.2 hl), if_pos (.inr (.inr hl))]
      · rw [if_pos ⟨rfl, ha, hl⟩, if_neg]
        rintro (h | h | h)
        · rw [hn] at h; cases h
        · exact hm h
        · exact hl h

theorem ins_in (bs : List (List UInt8)) (h b : List UInt8) (i : Nat) (hb : bindsB h = true → b ≠ []) (b' : List UInt8) (hbb : bindsB h = true → b' = b) (hi : i < kidsOf h) : inB bs h b' (i + if bindsB h then 2 else 1) = insB bs h b i := by
  unfold inB insB
  by_cases hbi : bindsB h = true
  · rw [hbi]
    simp only [if_true]
    rw [bnd_ins h b' i hbi hi, hbb hbi]
    by_cases hl : i + 1 = kidsOf h
    · rw [if_pos hl, if_neg (hb hbi), if_pos ⟨trivial, hl⟩]
    · rw [if_neg hl, if_pos rfl, if_neg (fun e => hl e.2)]
  · have hbf : bindsB h = false := Bool.eq_false_iff.2 hbi
    rw [bnd_none h b' _ hbf, if_pos rfl, if_neg (fun e => hbi e.1)]

theorem fr_eq : ∀ f : Fo, f.wf →
    (∀ (bs : List (List UInt8)) (h b b' : List UInt8) (i c : Nat) (l : List (List UInt8)), (bindsB h = true → b ≠ []) → (bindsB h = true → b' = b) → c + i = kidsOf h → isTms (some (List.replicate c true)) f = true →
      frU (cv f (.kids bs h b i)) l = fsU f (.kids bs h b' (i + if bindsB h then 2 else 1)) l) ∧
    (∀ (bs l : List (List UInt8)), isTms none f = true → frU (cv f (.parts bs)) l = fsU f (.top bs) l) ∧
    (∀ (bs : List (List UInt8)) (h : List UInt8) (l : List (List UInt8)), bindsB h = true → shapeOf h = false :: List.replicate (kidsOf h) true → isTms (some (false :: List.replicate (kidsOf h) true)) f = true → frU (cv f (.name bs h)) l = fsU f (.kids bs h (hd1 f) 1) l) := by
  intro f
  induction f with
  | nil => exact fun _ => ⟨fun bs h b b' i c l _ _ _ _ => rfl, fun bs l h => (by cases h), fun bs h l _ _ hc => (by simp [isTms] at hc)⟩
  | cons a k r ihk ihr =>
    intro hw
    have hk := ihk hw.2.1
    have hr := ihr hw.2.2
    refine ⟨?_, ?_, ?_⟩
    · intro bs h b b' i c l hb hbb hc hs
      cases c with
      | zero => simp [isTms] at hs
      | succ c =>
        rw [List.replicate_succ] at hs
        simp only [isTms, Bool.and_eq_true] at hs
        have hin := inn_kid h i (by omega)
        have hib := ins_in bs h b i hb b' hbb (by omega)
        have hnode : frN (ndH a k) (ndA (insB bs h b i) a k) (cv k (.parts (insB bs h b i))) l = fsT a k (insB bs h b i) l := by
          unfold fsT
          by_cases ha : a = []
          · subst ha
            simp only [if_true] at hs ⊢
            have hh := hk.2.1 (insB bs h b i) l hs.1
            have hne : ndH [] k ≠ hName := by
              cases k with
              | nil => exact fun e => by cases e
              | cons g _ _ =>
                simp only [ndH, if_true, hd1]
                rintro rfl
                have := hs.1
                simp only [isTms, Bool.and_eq_true] at this
                revert this; simp [shapeOf, hName, hLam, hApp, hPair, hFst, hSnd, hIf, hLet]
            unfold frN
            rw [if_neg (fun e => hne e.1)]
            exact hh
          · simp only [if_neg ha] at hs ⊢
            obtain rfl := hw.1 ha
            exact fr_atom _ a l hs.1
        have e1 : frU (cv (.cons a k r) (.kids bs h b i)) l = frU (cv r (.kids bs h b (i + 1))) (frN (ndH a k) (ndA (insB bs h b i) a k) (cv k (.parts (insB bs h b i))) l) := rfl
        have e2 : fsU (.cons a k r) (.kids bs h b' (i + if bindsB h then 2 else 1)) l = fsU r (.kids bs h b' (i + 1 + if bindsB h then 2 else 1)) (fsT a k (insB bs h b i) l) := by
          simp only [fsU, hin, if_true, hib]
          rw [show (i + if bindsB h then 2 else 1) + 1 = i + 1 + if bindsB h then 2 else 1 by omega]
          rfl
        rw [e1, e2, hnode]
        exact hr.1 bs h b b' (i + 1) c _ hb hbb (by omega) hs.2
    · intro bs l hs
      simp only [isTms, Bool.and_eq_true] at hs
      have hs0 : shapeOf a ≠ [] := by intro e; rw [e] at hs; cases hs.1
      rcases shape_cases a with ⟨e, _⟩ | ⟨hb, e, _⟩ | ⟨hb, e, _⟩
      · exact absurd e hs0
      · rw [e] at hs
        have e1 : cv (.cons a k r) (.parts bs) = cv r (.name bs a) := by simp [cv, hb]
        have e2 : fsU (.cons a k r) (.top bs) l = fsU r (.kids bs a (hd1 r) 1) l := rfl
        rw [e1, e2]
        exact hr.2.2 bs a l hb e hs.2
      · rw [e] at hs
        have e1 : cv (.cons a k r) (.parts bs) = cv r (.kids bs a [] 0) := by simp [cv, hb]
        have e2 : fsU (.cons a k r) (.top bs) l = fsU r (.kids bs a (hd1 r) 1) l := rfl
        rw [e1, e2]
        have := hr.1 bs a [] (hd1 r) 0 (kidsOf a) l (fun h => by rw [hb] at h; cases h) (fun h => by rw [hb] at h; cases h) (by omega) hs.2
        simpa [hb] using this
    · intro bs h l hb he hs
      simp only [isTms, Bool.and_eq_true] at hs
      have e3 : innB h 1 = false := by unfold innB; rw [he]; rfl
      have e1 : cv (.cons a k r) (.name bs h) = cv r (.kids bs h a 0) := rfl
      have e2 : fsU (.cons a k r) (.kids bs h (hd1 (.cons a k r)) 1) l = fsU r (.kids bs h a 2) l := by simp [fsU, e3, hd1]
      rw [e1, e2]
      have := hr.1 bs h a a 0 (kidsOf h) l (fun _ => (name_bytes hs.1).1) (fun _ => rfl) (by omega) hs.2
      simpa [hb] using this

/-- the free names of a whole term -/
theorem fr_term {a : List UInt8} {k : Fo} (l : List (List UInt8)) (h : isTm a k = true) (hw : a ≠ [] → k = .nil) (hk : k.wf) : frN (ndH a k) (ndA [] a k) (cv k (.parts [])) l = fsT a k [] l := by
  unfold isTm at h
  unfold fsT
  by_cases ha : a = []
  · subst ha
    simp only [if_true] at h ⊢
    have hh := (fr_eq k hk).2.1 [] l h
    have hne : ndH [] k ≠ hName := by
      cases k with
      | nil => exact fun e => by cases e
      | cons g _ _ =>
        simp only [ndH, if_true, hd1]
        rintro rfl
        simp only [isTms, Bool.and_eq_true] at h
        revert h; simp [shapeOf, hName, hLam, hApp, hPair, hFst, hSnd, hIf, hLet]
    unfold frN
    rw [if_neg (fun e => hne e.1)]
    exact hh
  · simp only [if_neg ha] at h ⊢
    obtain rfl := hw ha
    exact fr_atom [] a l h

/-- no more names than parts -/
theorem fr_len : ∀ (f : Ts) (l : List (List UInt8)), (frU f l).length ≤ l.length + f.size
  | .nil, l => Nat.le_refl _
  | .cons h a d k r, l => by
    have h1 := fr_len k l
    have h2 := fr_len r (if h = hName ∧ a ≠ [] ∧ a ∉ l then l ++ [a] else frU k l)
    simp only [frU, Ts.size]
    by_cases hc : h = hName ∧ a ≠ [] ∧ a ∉ l
    · rw [if_pos hc] at h2 ⊢
      simp only [List.length_append, List.length_singleton] at h2
      split <;> omega
    · rw [if_neg hc] at h2 ⊢
      split <;> omega

theorem fr_nlen (h a : List UInt8) (k : Ts) (l : List (List UInt8)) : (frN h a k l).length ≤ l.length + k.size + 1 := by
  have := fr_len k l
  unfold frN
  split <;> simp <;> omega

theorem fs_len : ∀ (f : Fo) (m : Fm) (l : List (List UInt8)), (fsU f m l).length ≤ l.length + f.size
  | .nil, _, l => Nat.le_refl _
  | .cons h k r, .top bd, l => by
    have := fs_len r (.kids bd h (hd1 r) 1) l
    simp only [fsU, Fo.size]
    omega
  | .cons a k r, .kids bd h b i, l => by
    have h1 := fs_len k (.top (inB bd h b i)) l
    simp only [fsU, Fo.size]
    refine Nat.le_trans (fs_len r (.kids bd h b (i + 1)) _) ?_
    split
    · split
      · omega
      · split <;> simp <;> omega
    · omega
end Go.Proofs.YtnjgaenhjdjpfaaGreatDoor

/- Free names of the program's terms. -/
namespace Go.Proofs.YtnjgaenhjdjpfaaGreatDoor
open Go.RowKit Go.ChangeMaps

set_option maxRecDepth 100000 in
set_option maxHeartbeats 1000000 in
theorem index_s (w : World) (A : Option Addr) (xs : List (List UInt8)) (c : Nat) (s : List UInt8) (hx : SSl w A xs) (hl : xs.length ≤ 1000000) :
    Calls Tryz.prog 108 #[.slice A xs.length c, S s] w fun e w' => ∃ r : Int, e = .returned (.int .i64 r) ∧ ((0 ≤ r ∧ s ∈ xs) ∨ (r = -1 ∧ s ∉ xs)) ∧ w = w' := by
  have HX := Lib.hid hx
  clear hx
  have hl' : (xs.length : Int) ≤ 1000000 := by omega
  go_enter Tryz.func108, Tryz.ntmps108
  go_wp2_with fail
  go_loop [8] (fun v => ∃ j : Nat, j ≤ xs.length ∧ v = .int .i64 j ∧ s ∉ xs.take j) (fun v => xs.length - (intOf v).toNat)
  case atStart => exact ⟨0, Nat.zero_le _, rfl, by simp⟩
  case round =>
    obtain ⟨j, hj, rfl, hno⟩ := hrel
    have HN := Lib.hid hno
    clear hno
    by_cases hlt : j < xs.length
    · obtain ⟨x, hxj⟩ : ∃ x, xs[j]? = some x := ⟨_, List.getElem?_eq_getElem hlt⟩
      obtain ⟨g, o, rfl, hc⟩ := HX.out j x hxj
      have HXJ := Lib.hid hxj
      clear hxj
      by_cases hpx : s = x
      · subst hpx
        go_wp2_with fail
        go_ret
        exact ⟨_, rfl, .inl ⟨by omega, List.mem_of_getElem? HXJ.out⟩, rfl⟩
      · have hb : (s == x) = false := by simpa using hpx
        have HPX : Hid (x ≠ s) := fun e => hpx e.symm
        clear hpx
        go_wp2_with fail
        go_round
        case rel => exact ⟨j + 1, by omega, by go_num, nots_more HN.out HXJ.out HPX.out⟩
        case measure => simp [intOf]; omega
    · have hjl : j = xs.length := by omega
      have HF : Hid (s ∉ xs) := by
        have := HN.out
        rw [hjl, List.take_length] at this
        exact this
      clear hjl
      go_wp2_with fail
      go_ret
      exact ⟨_, rfl, .inr ⟨rfl, HF.out⟩, rfl⟩

set_option maxHeartbeats 400000 in
theorem contains_s (w : World) (A : Option Addr) (xs : List (List UInt8)) (c : Nat) (s : List UInt8) (hx : SSl w A xs) (hl : xs.length ≤ 1000000) :
    Calls Tryz.prog 80 #[.slice A xs.length c, S s] w fun e w' => HasS xs s w e w' := by
  have IX := Lib.hid (index_s w A xs c s hx hl)
  clear hx
  go_enter Tryz.func80, Tryz.ntmps80
  go_wp2_with fail
  refine IX.out.mono ?_
  rintro e w' ⟨r, rfl, ⟨hr, hm⟩ | ⟨rfl, hm⟩, rfl⟩
  · have hd : decide (r ≥ 0) = true := by simpa using hr
    go_wp2_with fail
    go_ret
    exact ⟨true, rfl, ⟨fun _ => hm, fun _ => rfl⟩, rfl⟩
  · go_wp2_with fail
    go_ret
    exact ⟨false, rfl, ⟨fun h => (by cases h), fun h => (hm h).elim⟩, rfl⟩

/-- texts in a row of the call's own; of what lies below B nothing turns; the row is the old one or new -/
def AddL (B : Nat) (xs : List (List UInt8)) (w : World) (v : Value) (e : Ending) (w' : World) : Prop :=
  ∃ A c, e = .returned (.slice A xs.length c) ∧ Fr (fun b => v.ownBlock = some b) w w' ∧ w'.ownsRow B 9 1 (.slice A xs.length c) xs.length (xs.map S) ∧
    ((Value.slice A xs.length c).ownBlock = v.ownBlock ∨ ∀ b, (Value.slice A xs.length c).ownBlock = some b → w.heap.size ≤ b)

/-- one text more, behind a world that has only laid blocks -/
theorem AddL.snoc {B : Nat} {w wa w2 : World} {l : List (List UInt8)} {x : List UInt8} {V : Option Addr} {vc : Nat} {v' : Value} (hfa : Fr (fun b => (Value.slice V l.length vc).ownBlock = some b) w wa) (h1 : w2.ownsRow B 9 1 v' (l.length + 1) (l.map S ++ [S x])) (h2 : wa.grownBy w2 (Value.slice V l.length vc).ownBlock)
    (h3 : v'.ownBlock = (Value.slice V l.length vc).ownBlock ∨ v'.ownBlock = some wa.heap.size) : AddL B (l ++ [x]) w (.slice V l.length vc) (.returned v') w2 := by
  obtain ⟨A', c', rfl⟩ := own_form h1
  have e1 : l.map S ++ [S x] = (l ++ [x]).map S := by simp
  have e2 : (l ++ [x]).length = l.length + 1 := by simp
  rw [e1] at h1
  refine ⟨A', c', by rw [e2], ?_, by rw [e2]; exact h1, ?_⟩
  · exact hfa.grown h2 (fun k hk => .inl hk)
  · rw [e2]
    rcases h3 with h3 | h3
    · exact .inl h3
    · refine .inr (fun b hb => ?_)
      have hb' : some wa.heap.size = some b := h3.symm.trans hb
      injection hb' with hb'
      rw [← hb']; exact hfa.size

def FrSaid (k : Ts) : Prop := ∀ (h a : List UInt8) (d p : Nat) (w : World) (T : Nat → Prop) (B : Nat) (V : Option Addr) (vc : Nat) (l : List (List UInt8)), k.size ≤ 5000 → l.length + k.size ≤ 100000 → B ≤ w.heap.size →
  (∀ b, T b → b < w.heap.size ∧ (Value.slice V l.length vc).ownBlock ≠ some b) → Tm w T p h a d k → w.ownsRow B 9 1 (.slice V l.length vc) l.length (l.map S) →
  Calls Tryz.prog 54 #[.slice V l.length vc, Ptr p] w fun e w' => AddL B (frN h a k l) w (.slice V l.length vc) e w'

theorem frN_not {h a : List UInt8} {k : Ts} {l : List (List UInt8)} (hq : freeB h a = false ∨ a ∈ l) : frN h a k l = frU k l := by
  unfold frN
  rw [if_neg]
  rintro ⟨h1, h2, h3⟩
  rcases hq with hq | hq
  · simp [freeB, h1, h2] at hq
  · exact h3 hq

theorem frN_yes {h a : List UInt8} {k : Ts} {l : List (List UInt8)} (hq : freeB h a = true) (hm : a ∉ l) : frN h a k l = l ++ [a] := by
  unfold frN
  rw [if_pos]
  simp [freeB] at hq
  exact ⟨hq.1, hq.2, hm⟩

theorem fr_step {f : Ts} {j : Nat} {h a : List UInt8} {d : Nat} {k : Ts} (e : f.nth j = some (h, a, d, k)) (l : List (List UInt8)) : frU (f.from_ j) l = frU (f.from_ (j + 1)) (frN h a k l) := by
  rw [Ts.from_nth f j h a d k e]
  rfl

set_option maxRecDepth 100000 in
set_option maxHeartbeats 1000000 in
theorem free_node (k : Ts) (hN : ∀ h a d k' j, k.nth j = some (h, a, d, k') → FrSaid k') : FrSaid k := by
  intro h a d p w T B V vc l hs hlen hB hT ht ho
  have HN := Lib.hid hN
  have HB := Lib.hid hB
  have HT := Lib.hid hT
  have HO := Lib.hid ho
  clear hN
  obtain ⟨hp, A, c, hb, hsl⟩ := ht.open_
  have FR := Lib.hid (free_any w p h a _ _ _ hb)
  have c1 : w.cell? ⟨p, 1, none⟩ = some (S a) := (hb.cell 1).trans rfl
  have c3 : w.cell? ⟨p, 3, none⟩ = some (.slice A k.len c) := (hb.cell 3).trans rfl
  have hlt := hb.lt
  have hln := Ts.len_size k
  have hl6 : (k.len : Int) ≤ 5000 := by omega
  have hl2 : l.length ≤ 100000 := by omega
  have HSL := Lib.hid hsl
  have CON : Hid (Calls Tryz.prog 80 #[.slice V l.length vc, S a] w fun e w' => HasS l a w e w') := contains_s w V l vc a (SSl.of_own ho) (by omega)
  clear hb ht hT hB ho hsl
  rcases hq : freeB h a with _ | _
  · have HR : Hid (frN h a k l = frU k l) := frN_not (.inl hq)
    rw [hq] at FR
    clear hq
    go_enter Tryz.func54, Tryz.ntmps54
    go_wp2_with fail
    refine FR.out.mono ?_
    rintro e w1 ⟨rfl, rfl⟩
    go_wp2_with fail
    go_loopw [0, 30] (fun v i wr => ∃ (j : Nat) (l' : List (List UInt8)) (A' : Option Addr) (c' : Nat), j ≤ k.len ∧ i = .int .i64 j ∧ v = .slice A' l'.length c' ∧ frU (k.from_ j) l' = frU k l ∧ l'.length ≤ l.length + k.sizeTo j ∧ Fr (fun b => (Value.slice V l.length vc).ownBlock = some b) w wr ∧
        wr.ownsRow B 9 1 (.slice A' l'.length c') l'.length (l'.map S) ∧ ((Value.slice A' l'.length c').ownBlock = (Value.slice V l.length vc).ownBlock ∨ ∀ b, (Value.slice A' l'.length c').ownBlock = some b → w.heap.size ≤ b)) (fun _ i _ => k.len - (intOf i).toNat)
    case atStart => exact ⟨0, l, V, vc, Nat.zero_le _, rfl, rfl, by rw [Ts.from_zero], by omega, Fr.refl _ _, HO.out, .inl rfl⟩
    case round =>
      obtain ⟨j, l', A', c', hj, rfl, rfl, hsum, hll, hfr, hown, hloc⟩ := hrel
      have HS := Lib.hid hsum
      have HW := Lib.hid hown
      have HL := Lib.hid hloc
      have HLL := Lib.hid hll
      clear hsum hown hloc hll
      by_cases hlt : j < k.len
      · have hTw : ∀ b, T b → wr.heap[b]? = w.heap[b]? := fun b hb => hfr.block b (HT.out b hb).1 (HT.out b hb).2
        obtain ⟨g, o, q, h', a', d', k', rfl, hg, hn, hc, htm⟩ := (HSL.out.mono (T' := T) (fun _ h => h) hTw).at_ hlt
        have hst := fr_step hn l'
        have hz := Ts.nth_size hn
        have hzs := Ts.sizeTo_succ k j h' a' d' k' hn
        have hzl := Ts.sizeTo_le k (j + 1)
        have HST := Lib.hid hst
        have hlg := block_lt hc
        have hnl := fr_nlen h' a' k' l'
        have HZ : Hid ((frN h' a' k' l').length ≤ l.length + k.sizeTo (j + 1)) := by
          have := HLL.out
          show _ ≤ _
          split at hzs <;> omega
        have CALL : Hid (Calls Tryz.prog 54 #[.slice A' l'.length c', Ptr q] wr fun e w' => AddL B (frN h' a' k' l') wr (.slice A' l'.length c') e w') := by
          refine HN.out h' a' d' k' j hn h' a' d' q wr T B A' c' l' (by omega) (by have := HLL.out; split at hzs <;> omega) (Nat.le_trans HB.out hfr.size) (fun b hb => ⟨Nat.lt_of_lt_of_le (HT.out b hb).1 hfr.size, fun e => ?_⟩) htm HW.out
          rcases HL.out with h1 | h1
          · exact (HT.out b hb).2 (h1 ▸ e)
          · have := h1 b e; have := (HT.out b hb).1; omega
        clear hst htm hn hz hzs hzl hnl hTw
        go_wp2_with fail
        refine CALL.out.mono ?_
        rintro e w1 ⟨A2, c2, rfl, g1, g2, g3⟩
        have REL : Hid (Fr (fun b => (Value.slice V l.length vc).ownBlock = some b) w w1 ∧ ((Value.slice A2 (frN h' a' k' l').length c2).ownBlock = (Value.slice V l.length vc).ownBlock ∨ ∀ b, (Value.slice A2 (frN h' a' k' l').length c2).ownBlock = some b → w.heap.size ≤ b)) := by
          refine ⟨hfr.then_ g1 (fun i hi e => ?_), ?_⟩
          · rcases HL.out with h1 | h1
            · exact h1 ▸ e
            · have := h1 i e; omega
          · rcases g3 with g3 | g3
            · rcases HL.out with h1 | h1
              · exact .inl (g3.trans h1)
              · exact .inr (fun b hb => h1 b (g3 ▸ hb))
            · exact .inr (fun b hb => Nat.le_trans hfr.size (g3 b hb))
        have HG2 := Lib.hid g2
        clear g1 g2 g3
        go_wp2_with fail
        go_roundw
        case rel => exact ⟨j + 1, frN h' a' k' l', A2, c2, by omega, by go_num, rfl, by rw [← HST.out]; exact HS.out, HZ.out, REL.out.1, HG2.out, REL.out.2⟩
        case measure => simp [intOf]; omega
      · have hjl : j = k.len := by omega
        have HF : Hid (AddL B (frN h a k l) w (.slice V l.length vc) (.returned (.slice A' l'.length c')) wr) := by
          have e1 := HS.out
          rw [hjl, Ts.from_len] at e1
          have e2 : frN h a k l = l' := by rw [HR.out, ← e1]; rfl
          rw [e2]
          exact ⟨A', c', rfl, hfr, HW.out, HL.out⟩
        clear hjl
        go_wp2_with fail
        go_ret
        exact HF.out
  · rw [hq] at FR
    have HQ := Lib.hid hq
    clear hq
    go_enter Tryz.func54, Tryz.ntmps54
    go_wp2_with fail
    refine FR.out.mono ?_
    rintro e w1 ⟨rfl, rfl⟩
    go_wp2_with fail
    refine CON.out.mono ?_
    rintro e w1 ⟨bb, rfl, hbb, rfl⟩
    cases bb
    · have hni : a ∉ l := fun h => by have := hbb.2 h; cases this
      have HE := Lib.hid (frN_yes (k := k) HQ.out hni)
      clear hbb hni
      obtain ⟨i0, hi0, hz0, hz1, hz2⟩ := info_parts info_str
      have HC1 : Hid (∀ (j : Nat) (u : Value), [S a][j]? = some u → (w.alloc (.cells #[S a] 9)).cell? ((⟨w.heap.size, 0, none⟩ : Addr).add j) = some u) := cells_new rfl [S a] 9
      have HC2 : Hid (∀ u ∈ [S a], u.oneCell' = true) := by
        intro u hu
        simp at hu
        rw [hu]; rfl
      have HC5 : Hid (∀ o : Obj, B ≤ (w.alloc o).heap.size) := fun o => by have := HB.out; simp; omega
      have bnd : (l.length + 1) * 16 ≤ 140737488355328 := by omega
      have bnd2 : l.length + 1 ≤ maxLen := by unfold maxLen; omega
      have FIN : Hid (∀ (o : Obj) (v' : Value) (w2 : World), w2.ownsRow B 9 1 v' (l.length + 1) (l.map S ++ [S a]) → (w.alloc o).grownBy w2 (Value.slice V l.length vc).ownBlock →
          (v'.ownBlock = (Value.slice V l.length vc).ownBlock ∨ v'.ownBlock = some (w.alloc o).heap.size) → AddL B (frN h a k l) w (.slice V l.length vc) (.returned v') w2) := by
        intro o v' w2 h1 h2 h3
        rw [HE.out]
        exact AddL.snoc ((Fr.refl _ w).alloc o) h1 h2 h3
      have HOA : Hid (∀ o : Obj, (w.alloc o).ownsRow B 9 1 (.slice V l.length vc) l.length (l.map S)) := fun o => HO.out.alloc o
      go_wp2_with (at_builtin; go_must (refine wpList_append_own_at _ rfl _ _ 53 rfl B 9 i0 (.string ⟨#[]⟩) 1 16 Tryz.underlying53 hi0 hz0 hz1 hz2 rfl (by decide) _ l.length (l.map S) rfl (HOA.out _) ⟨w.heap.size, 0, none⟩ 1 1 [S a] rfl rfl HC1.out HC2.out bnd2 bnd (HC5.out _) ?_); intro v' w2 hown' hgrow _ hloc; have HF := Lib.hid (FIN.out _ v' w2 hown' hgrow hloc); clear hown' hgrow hloc)
      go_ret
      exact HF.out
    · have hni : a ∈ l := hbb.1 rfl
      have HR : Hid (frN h a k l = frU k l) := frN_not (.inr hni)
      clear hbb hni
      go_wp2_with fail
      go_loopw [0, 30] (fun v i wr => ∃ (j : Nat) (l' : List (List UInt8)) (A' : Option Addr) (c' : Nat), j ≤ k.len ∧ i = .int .i64 j ∧ v = .slice A' l'.length c' ∧ frU (k.from_ j) l' = frU k l ∧ l'.length ≤ l.length + k.sizeTo j ∧ Fr (fun b => (Value.slice V l.length vc).ownBlock = some b) w wr ∧
          wr.ownsRow B 9 1 (.slice A' l'.length c') l'.length (l'.map S) ∧ ((Value.slice A' l'.length c').ownBlock = (Value.slice V l.length vc).ownBlock ∨ ∀ b, (Value.slice A' l'.length c').ownBlock = some b → w.heap.size ≤ b)) (fun _ i _ => k.len - (intOf i).toNat)
      case atStart => exact ⟨0, l, V, vc, Nat.zero_le _, rfl, rfl, by rw [Ts.from_zero], by omega, Fr.refl _ _, HO.out, .inl rfl⟩
      case round =>
        obtain ⟨j, l', A', c', hj, rfl, rfl, hsum, hll, hfr, hown, hloc⟩ := hrel
        have HS := Lib.hid hsum
        have HW := Lib.hid hown
        have HL := Lib.hid hloc
        have HLL := Lib.hid hll
        clear hsum hown hloc hll
        by_cases hlt : j < k.len
        · have hTw : ∀ b, T b → wr.heap[b]? = w.heap[b]? := fun b hb => hfr.block b (HT.out b hb).1 (HT.out b hb).2
          obtain ⟨g, o, q, h', a', d', k', rfl, hg, hn, hc, htm⟩ := (HSL.out.mono (T' := T) (fun _ h => h) hTw).at_ hlt
          have hst := fr_step hn l'
          have hz := Ts.nth_size hn
          have hzs := Ts.sizeTo_succ k j h' a' d' k' hn
          have hzl := Ts.sizeTo_le k (j + 1)
          have HST := Lib.hid hst
          have hlg := block_lt hc
          have hnl := fr_nlen h' a' k' l'
          have HZ : Hid ((frN h' a' k' l').length ≤ l.length + k.sizeTo (j + 1)) := by
            have := HLL.out
            show _ ≤ _
            split at hzs <;> omega
          have CALL : Hid (Calls Tryz.prog 54 #[.slice A' l'.length c', Ptr q] wr fun e w' => AddL B (frN h' a' k' l') wr (.slice A' l'.length c') e w') := by
            refine HN.out h' a' d' k' j hn h' a' d' q wr T B A' c' l' (by omega) (by have := HLL.out; split at hzs <;> omega) (Nat.le_trans HB.out hfr.size) (fun b hb => ⟨Nat.lt_of_lt_of_le (HT.out b hb).1 hfr.size, fun e => ?_⟩) htm HW.out
            rcases HL.out with h1 | h1
            · exact (HT.out b hb).2 (h1 ▸ e)
            · have := h1 b e; have := (HT.out b hb).1; omega
          clear hst htm hn hz hzs hzl hnl hTw
          go_wp2_with fail
          refine CALL.out.mono ?_
          rintro e w1 ⟨A2, c2, rfl, g1, g2, g3⟩
          have REL : Hid (Fr (fun b => (Value.slice V l.length vc).ownBlock = some b) w w1 ∧ ((Value.slice A2 (frN h' a' k' l').length c2).ownBlock = (Value.slice V l.length vc).ownBlock ∨ ∀ b, (Value.slice A2 (frN h' a' k' l').length c2).ownBlock = some b → w.heap.size ≤ b)) := by
            refine ⟨hfr.then_ g1 (fun i hi e => ?_), ?_⟩
            · rcases HL.out with h1 | h1
              · exact h1 ▸ e
              · have := h1 i e; omega
            · rcases g3 with g3 | g3
              · rcases HL.out with h1 | h1
                · exact .inl (g3.trans h1)
                · exact .inr (fun b hb => h1 b (g3 ▸ hb))
              · exact .inr (fun b hb => Nat.le_trans hfr.size (g3 b hb))
          have HG2 := Lib.hid g2
          clear g1 g2 g3
          go_wp2_with fail
          go_roundw
          case rel => exact ⟨j + 1, frN h' a' k' l', A2, c2, by omega, by go_num, rfl, by rw [← HST.out]; exact HS.out, HZ.out, REL.out.1, HG2.out, REL.out.2⟩
          case measure => simp [intOf]; omega
        · have hjl : j = k.len := by omega
          have HF : Hid (AddL B (frN h a k l) w (.slice V l.length vc) (.returned (.slice A' l'.length c')) wr) := by
            have e1 := HS.out
            rw [hjl, Ts.from_len] at e1
            have e2 : frN h a k l = l' := by rw [HR.out, ← e1]; rfl
            rw [e2]
            exact ⟨A', c', rfl, hfr, HW.out, HL.out⟩
          clear hjl
          go_wp2_with fail
          go_ret
          exact HF.out

theorem free_all (N : Nat) : ∀ k : Ts, SizeOf.sizeOf k < N → FrSaid k := by
  induction N with
  | zero => intro k h; omega
  | succ N ih =>
    intro k hN
    exact free_node k (fun h a d k' j hn => ih k' (by have := Ts.nth_small k j h a d k' hn; omega))
end Go.Proofs.YtnjgaenhjdjpfaaGreatDoor

/- Texts of the program's terms: what has been read is written as it was. -/
namespace Go.Proofs.YtnjgaenhjdjpfaaGreatDoor
open Go.RowKit Go.ChangeMaps

/-- texts with a space between -/
def spj : List (List UInt8) → List UInt8
  | [] => []
  | x :: xs => x ++ (xs.map (32 :: ·)).flatten

/-- the texts of terms that are parts of a term with this head and this name, from a place on -/
def txL : Ts → List (List UInt8) → List UInt8 → List UInt8 → Nat → List (List UInt8)
  | .nil, _, _, _, _ => []
  | .cons h a d k r, bs, ph, pa, i =>
    (if h = hName ∧ a = [] then (insB bs ph pa i).getD ((insB bs ph pa i).length - 1 - d) []
      else if k.len = 0 then a else 40 :: (spj (h :: ((if bindsB h then [a] else []) ++ txL k (insB bs ph pa i) h a 0)) ++ [41])) :: txL r bs ph pa (i + 1)

/-- the text of a term -/
def txN (bs : List (List UInt8)) (h a : List UInt8) (d : Nat) (k : Ts) : List UInt8 :=
  if h = hName ∧ a = [] then bs.getD (bs.length - 1 - d) [] else if k.len = 0 then a else 40 :: (spj (h :: ((if bindsB h then [a] else []) ++ txL k bs h a 0)) ++ [41])

def Fo.tlist : Fo → List (List UInt8)
  | .nil => []
  | .cons a k r => treeText a k :: r.tlist

theorem stexts_list : ∀ f : Fo, f.stexts = (f.tlist.map (32 :: ·)).flatten
  | .nil => rfl
  | .cons a k r => by simp [Fo.stexts, Fo.tlist, stexts_list r]

theorem texts_list (a : List UInt8) (k r : Fo) : (Fo.cons a k r).texts = spj (Fo.cons a k r).tlist := by
  rw [Fo.texts_eq, stexts_list]
  rfl

theorem depR_get (x : List UInt8) : ∀ (l : List (List UInt8)) (i d : Nat), depR x l i = some d → i ≤ d ∧ l[d - i]? = some x
  | [], i, d, h => by cases h
  | b :: l, i, d, h => by
    simp only [depR] at h
    by_cases hb : b = x
    · rw [if_pos hb] at h
      injection h with h
      subst h; subst hb
      simp
    · rw [if_neg hb] at h
      have := depR_get x l (i + 1) d h
      refine ⟨by omega, ?_⟩
      rw [show d - i = (d - (i + 1)) + 1 by omega, List.getElem?_cons_succ]
      exact this.2

theorem dep_get {x : List UInt8} {bs : List (List UInt8)} {d : Nat} (h : depOf x bs = some d) : bs.getD (bs.length - 1 - d) [] = x ∧ d < bs.length := by
  have h1 := (depR_get x bs.reverse 0 d h).2
  rw [Nat.sub_zero] at h1
  have hlt : d < bs.length := by
    have := (List.getElem?_eq_some_iff.1 h1).1
    simpa using this
  rw [List.getElem?_reverse hlt] at h1
  refine ⟨?_, hlt⟩
  rw [List.getD_eq_getElem?_getD, h1]
  rfl

theorem nm_text (bs : List (List UInt8)) (a : List UInt8) (h : isAtomTm a = true) : txN bs (ndH a .nil) (ndA bs a .nil) (ndD bs a) (cv .nil (.parts bs)) = a := by
  have ha := (atom_bytes h).1
  have e : (cv .nil (.parts bs)).len = 0 := rfl
  unfold txN ndH ndA ndD
  rw [if_neg ha, if_neg ha, if_neg ha]
  by_cases ht : a = tTrue ∨ a = tFalse
  · have h1 : hTruth ≠ hName := by decide
    rw [if_pos ht, if_pos ht, if_neg (fun h => h1 h.1), if_pos e]
  · rw [if_neg ht, if_neg ht, if_neg ht]
    unfold nmA
    cases hd : depOf a bs with
    | none => rw [if_neg (fun h => ha h.2), if_pos e]
    | some d =>
      rw [if_pos ⟨rfl, rfl⟩]
      exact (dep_get hd).1

theorem tx_eq : ∀ f : Fo, f.wf →
    (∀ (bs : List (List UInt8)) (h b : List UInt8) (i c : Nat), isTms (some (List.replicate c true)) f = true → txL (cv f (.kids bs h b i)) bs h b i = f.tlist) ∧
    (∀ bs : List (List UInt8), isTms none f = true → 0 < (cv f (.parts bs)).len ∧ spj (hd1 f :: ((if bindsB (hd1 f) then [if bindsB (hd1 f) then hd2 f else []] else []) ++ txL (cv f (.parts bs)) bs (hd1 f) (if bindsB (hd1 f) then hd2 f else []) 0)) = f.texts) ∧
    (∀ (bs : List (List UInt8)) (h : List UInt8) (c : Nat), isTms (some (false :: List.replicate c true)) f = true → (cv f (.name bs h)).len = c ∧ hd1 f :: txL (cv f (.name bs h)) bs h (hd1 f) 0 = f.tlist) := by
  intro f
  induction f with
  | nil => exact fun _ => ⟨fun bs h b i c _ => rfl, fun bs h => (by cases h), fun bs h c hc => (by simp [isTms] at hc)⟩
  | cons a k r ihk ihr =>
    intro hw
    have hk := ihk hw.2.1
    have hr := ihr hw.2.2
    refine ⟨?_, ?_, ?_⟩
    · intro bs h b i c hs
      cases c with
      | zero => simp [isTms] at hs
      | succ c =>
        rw [List.replicate_succ] at hs
        simp only [isTms, Bool.and_eq_true] at hs
        have e1 : txL (cv (.cons a k r) (.kids bs h b i)) bs h b i = txN (insB bs h b i) (ndH a k) (ndA (insB bs h b i) a k) (ndD (insB bs h b i) a) (cv k (.parts (insB bs h b i))) :: txL (cv r (.kids bs h b (i + 1))) bs h b (i + 1) := rfl
        rw [e1, hr.1 bs h b (i + 1) c hs.2]
        show _ :: _ = treeText a k :: r.tlist
        congr 1
        by_cases ha : a = []
        · subst ha
          simp only [if_true] at hs
          have hh := hk.2.1 (insB bs h b i) hs.1
          have hne : ndH [] k ≠ hName := by
            cases k with
            | nil => exact fun e => by cases e
            | cons g _ _ =>
              simp only [ndH, if_true, hd1]
              rintro rfl
              have := hs.1
              simp only [isTms, Bool.and_eq_true] at this
              revert this; simp [shapeOf, hName, hLam, hApp, hPair, hFst, hSnd, hIf, hLet]
          unfold txN
          rw [if_neg (fun e => hne e.1), if_neg (by omega)]
          simp only [ndH, ndA, if_true, treeText]
          rw [hh.2]
        · simp only [if_neg ha] at hs
          obtain rfl := hw.1 ha
          rw [nm_text _ a hs.1]
          simp [treeText, ha]
    · intro bs hs
      simp only [isTms, Bool.and_eq_true] at hs
      have hs0 : shapeOf a ≠ [] := by intro e; rw [e] at hs; cases hs.1
      have hane := (shape_head hs0).1
      have hkn := hw.1 hane
      have eh : hd1 (.cons a k r) = a := rfl
      have et : treeText a k = a := by simp [treeText, hane]
      rw [eh, texts_list, Fo.tlist, et]
      rcases shape_cases a with ⟨e, _⟩ | ⟨hb, e, hk1⟩ | ⟨hb, e, hk1⟩
      · exact absurd e hs0
      · rw [e] at hs
        have h3 := hr.2.2 bs a _ hs.2
        have e1 : cv (.cons a k r) (.parts bs) = cv r (.name bs a) := by simp [cv, hb]
        have e2 : hd2 (.cons a k r) = hd1 r := by cases r <;> rfl
        rw [e1, hb, e2]
        simp only [if_true]
        refine ⟨by omega, ?_⟩
        rw [List.singleton_append, h3.2]
      · rw [e] at hs
        have h3 := hr.1 bs a [] 0 _ hs.2
        have e1 : cv (.cons a k r) (.parts bs) = cv r (.kids bs a [] 0) := by simp [cv, hb]
        rw [e1, hb]
        simp only [Bool.false_eq_true, if_false, List.nil_append]
        refine ⟨?_, by rw [h3]⟩
        rw [cv_kids_len, isTms_len _ _ hs.2]
        simp; omega
    · intro bs h c hs
      simp only [isTms, Bool.and_eq_true] at hs
      have hnb := (name_bytes hs.1).1
      have e1 : cv (.cons a k r) (.name bs h) = cv r (.kids bs h a 0) := rfl
      have et : treeText a k = a := by simp [treeText, hnb]
      rw [e1]
      refine ⟨by rw [cv_kids_len, isTms_len _ _ hs.2]; simp, ?_⟩
      show a :: _ = treeText a k :: r.tlist
      rw [et, show hd1 (.cons a k r) = a from rfl, hr.1 bs h a 0 c hs.2]

/-- what has been read is written as it was -/
theorem tx_term {a : List UInt8} {k : Fo} (bs : List (List UInt8)) (h : isTm a k = true) (hw : a ≠ [] → k = .nil) (hk : k.wf) : txN bs (ndH a k) (ndA bs a k) (ndD bs a) (cv k (.parts bs)) = treeText a k := by
  unfold isTm at h
  by_cases ha : a = []
  · subst ha
    simp only [if_true] at h
    have hh := (tx_eq k hk).2.1 bs h
    have hne : ndH [] k ≠ hName := by
      cases k with
      | nil => exact fun e => by cases e
      | cons g _ _ =>
        simp only [ndH, if_true, hd1]
        rintro rfl
        simp only [isTms, Bool.and_eq_true] at h
        revert h; simp [shapeOf, hName, hLam, hApp, hPair, hFst, hSnd, hIf, hLet]
    unfold txN
    rw [if_neg (fun e => hne e.1), if_neg (by omega)]
    simp only [ndH, ndA, if_true, treeText]
    rw [hh.2]
  · simp only [if_neg ha] at h
    obtain rfl := hw ha
    rw [nm_text bs a h]
    simp [treeText, ha]
end Go.Proofs.YtnjgaenhjdjpfaaGreatDoor

/- The program writes terms. -/
namespace Go.Proofs.YtnjgaenhjdjpfaaGreatDoor
open Go.RowKit Go.ChangeMaps

/-- depths lead to names that are there -/
def Tok : Ts → List (List UInt8) → List UInt8 → List UInt8 → Nat → Prop
  | .nil, _, _, _, _ => True
  | .cons h a d k r, bs, ph, pa, i => ((h = hName ∧ a = [] → d < (insB bs ph pa i).length) ∧ Tok k (insB bs ph pa i) h a 0) ∧ Tok r bs ph pa (i + 1)

def TokN (bs : List (List UInt8)) (h a : List UInt8) (d : Nat) (k : Ts) : Prop := (h = hName ∧ a = [] → d < bs.length) ∧ Tok k bs h a 0

theorem nm_tok (bs : List (List UInt8)) (a : List UInt8) (h : isAtomTm a = true) : TokN bs (ndH a .nil) (ndA bs a .nil) (ndD bs a) (cv .nil (.parts bs)) := by
  have ha := (atom_bytes h).1
  refine ⟨?_, trivial⟩
  unfold ndH ndA ndD
  rw [if_neg ha, if_neg ha, if_neg ha]
  by_cases ht : a = tTrue ∨ a = tFalse
  · have h1 : hTruth ≠ hName := by decide
    rw [if_pos ht]
    exact fun h => absurd h.1 h1
  · rw [if_neg ht, if_neg ht, if_neg ht]
    unfold nmA
    cases hd : depOf a bs with
    | none => exact fun h => absurd h.2 ha
    | some d => exact fun _ => (dep_get hd).2

theorem tok_eq : ∀ f : Fo, f.wf →
    (∀ (bs : List (List UInt8)) (h b : List UInt8) (i c : Nat), isTms (some (List.replicate c true)) f = true → Tok (cv f (.kids bs h b i)) bs h b i) ∧
    (∀ bs : List (List UInt8), isTms none f = true → Tok (cv f (.parts bs)) bs (hd1 f) (if bindsB (hd1 f) then hd2 f else []) 0) ∧
    (∀ (bs : List (List UInt8)) (h : List UInt8) (c : Nat), isTms (some (false :: List.replicate c true)) f = true → Tok (cv f (.name bs h)) bs h (hd1 f) 0) := by
  intro f
  induction f with
  | nil => exact fun _ => ⟨fun bs h b i c _ => trivial, fun bs h => (by cases h), fun bs h c hc => (by simp [isTms] at hc)⟩
  | cons a k r ihk ihr =>
    intro hw
    have hk := ihk hw.2.1
    have hr := ihr hw.2.2
    refine ⟨?_, ?_, ?_⟩
    · intro bs h b i c hs
      cases c with
      | zero => simp [isTms] at hs
      | succ c =>
        rw [List.replicate_succ] at hs
        simp only [isTms, Bool.and_eq_true] at hs
        refine ⟨?_, hr.1 bs h b (i + 1) c hs.2⟩
        show TokN (insB bs h b i) (ndH a k) (ndA (insB bs h b i) a k) (ndD (insB bs h b i) a) (cv k (.parts (insB bs h b i)))
        by_cases ha : a = []
        · subst ha
          simp only [if_true] at hs
          have hh := hk.2.1 (insB bs h b i) hs.1
          have hne : ndH [] k ≠ hName := by
            cases k with
            | nil => exact fun e => by cases e
            | cons g _ _ =>
              simp only [ndH, if_true, hd1]
              rintro rfl
              have := hs.1
              simp only [isTms, Bool.and_eq_true] at this
              revert this; simp [shapeOf, hName, hLam, hApp, hPair, hFst, hSnd, hIf, hLet]
          refine ⟨fun e => absurd e.1 hne, ?_⟩
          simp only [ndH, ndA, if_true]
          exact hh
        · simp only [if_neg ha] at hs
          obtain rfl := hw.1 ha
          exact nm_tok _ a hs.1
    · intro bs hs
      simp only [isTms, Bool.and_eq_true] at hs
      have hs0 : shapeOf a ≠ [] := by intro e; rw [e] at hs; cases hs.1
      have eh : hd1 (.cons a k r) = a := rfl
      rw [eh]
      rcases shape_cases a with ⟨e, _⟩ | ⟨hb, e, hk1⟩ | ⟨hb, e, hk1⟩
      · exact absurd e hs0
      · rw [e] at hs
        have e1 : cv (.cons a k r) (.parts bs) = cv r (.name bs a) := by simp [cv, hb]
        have e2 : hd2 (.cons a k r) = hd1 r := by cases r <;> rfl
        rw [e1, hb, e2]
        exact hr.2.2 bs a _ hs.2
      · rw [e] at hs
        have e1 : cv (.cons a k r) (.parts bs) = cv r (.kids bs a [] 0) := by simp [cv, hb]
        rw [e1, hb]
        exact hr.1 bs a [] 0 _ hs.2
    · intro bs h c hs
      simp only [isTms, Bool.and_eq_true] at hs
      exact hr.1 bs h a 0 c hs.2

theorem flat_le {x : List UInt8} : ∀ l : List (List UInt8), x ∈ l → x.length ≤ ((l.map (32 :: ·)).flatten).length
  | [], h => by cases h
  | z :: l, h => by
    simp only [List.map_cons, List.flatten_cons, List.length_append, List.length_cons]
    rcases List.mem_cons.1 h with rfl | h
    · omega
    · have := flat_le l h
      omega

theorem spj_le {x : List UInt8} {l : List (List UInt8)} (h : x ∈ l) : x.length ≤ (spj l).length := by
  cases l with
  | nil => cases h
  | cons y l =>
    simp only [spj, List.length_append]
    rcases List.mem_cons.1 h with rfl | h
    · omega
    · have := flat_le l h
      omega

def boundB (h a : List UInt8) : Bool := h == hName && a == []

set_option maxHeartbeats 400000 in
theorem bound_is (w : World) (p : Nat) (h a : List UInt8) (V1 V2 V3 : Value) (hb : Blk w p 78 #[S h, S a, V1, V2, V3]) :
    Calls Tryz.prog 55 #[Ptr p] w fun e w' => e = .returned (.bool (boundB h a)) ∧ w = w' := by
  have c0 : w.cell? ⟨p, 0, none⟩ = some (S h) := (hb.cell 0).trans rfl
  have c1 : w.cell? ⟨p, 1, none⟩ = some (S a) := (hb.cell 1).trans rfl
  have hlt := hb.lt
  clear hb
  by_cases hh : h = [110, 97, 109, 101]
  · subst hh
    by_cases ha : a = []
    · subst ha
      go_enter Tryz.func55, Tryz.ntmps55
      go_wp2_with fail
      go_ret
      exact ⟨rfl, rfl⟩
    · have hae : a.isEmpty = false := by cases a; exact absurd rfl ha; rfl
      have hr : boundB [110, 97, 109, 101] a = false := by simp [boundB, hName, ha]
      rw [hr]
      clear hr
      go_enter Tryz.func55, Tryz.ntmps55
      go_wp2_with fail
      go_ret
      exact ⟨rfl, rfl⟩
  · have n1 : (h == [110, 97, 109, 101]) = false := beq_eq_false_iff_ne.2 hh
    have hr : boundB h a = false := by simp [boundB, hName, hh]
    rw [hr]
    clear hr hh
    go_enter Tryz.func55, Tryz.ntmps55
    go_wp2_with fail
    go_ret
    exact ⟨rfl, rfl⟩
end Go.Proofs.YtnjgaenhjdjpfaaGreatDoor
