/- slices.IndexFunc and slices.DeleteFunc over a row of integers, where what is asked may keep things in memory. · ParamList of the program: the asked closure, readListed. · ParamList of the program. · ParamList and ParamCount of the model. · The laws ParamList and ParamCount. · The draws of parametric elements: kinds, sizes. · The plain laws' own helpers: sameInts, sameRel. · The plain law FnParamList. · The plain law FnParamPairs. -/
import Derived.Test.YtjgbihcnfhbalaaDoorLrm
import Derived.Lib.SliceRun
import Derived.Shelf.Abstract
import Derived.Test.YtjgbihcnfhbalaaDoorLfi
import Derived.Test.YtjgbihcnfhbalaaDoorLof
import Derived.Test.YtjgbihcnfhbalaaDoorLawPp
import Derived.Test.YtjgbihcnfhbalaaDoorDrw
import Derived.Test.YtjgbihcnfhbalaaDoorIsl
import Derived.Test.YtjgbihcnfhbalaaDoorRdr
import Derived.Test.YtjgbihcnfhbalaaDoorStc
import Derived.Test.YtjgbihcnfhbalaaDoorTvars
/- slices.IndexFunc and slices.DeleteFunc over a row of integers, where what is asked may keep things in memory. · ParamList of the program: the asked closure, readListed. · ParamList of the program. · ParamList and ParamCount of the model. · The laws ParamList and ParamCount. -/
/- slices.IndexFunc and slices.DeleteFunc over a row of integers, where what is asked may keep things in memory. -/
namespace Go.Proofs.YtjgbihcnfhbalaaDoor
open Go.RowKit Go.ChangeMaps Go.Shelf

/-- a row of integers in its block -/
def RowI (w : World) (g c : Nat) (xs : List Int) : Prop := ∃ cs : Array Value, Blk w g 3 cs ∧ cs.size = c ∧ c ≤ maxLen ∧ xs.length ≤ c ∧ ∀ (j : Nat) (x : Int), xs[j]? = some x → cs[j]? = some (.int .i64 x)

theorem RowI.or {w : World} {g c B : Nat} {xs : List Int} (h : RowI w g c xs) (hB : B ≤ g) : OR w B (some ⟨g, 0, none⟩) xs.length c xs := by
  obtain ⟨cs, h1, h2, h3, h4, h5⟩ := h
  refine ⟨rfl, by simp, .inr ⟨g, c, cs, rfl, hB, h1, h4, h3, by simpa using h2, ?_⟩⟩
  apply List.ext_getElem?
  intro j
  rw [List.getElem?_take]
  by_cases hj : j < xs.length
  · rw [if_pos (by simpa using hj), List.getElem?_map, Array.getElem?_toList, h5 j xs[j] (List.getElem?_eq_getElem hj), List.getElem?_eq_getElem hj]
    rfl
  · rw [if_neg (by simpa using hj), List.getElem?_eq_none (by simpa using hj)]

theorem RowI.of_or {w : World} {g c B n : Nat} {xs : List Int} (h : OR w B (some ⟨g, 0, none⟩) n c xs) : RowI w g c xs ∧ B ≤ g ∧ n = xs.length := by
  obtain ⟨rfl, h⟩ := h
  have h1 := h.1
  rcases h.2 with ⟨hv, _⟩ | ⟨g', cap, cur, hv, h2, h3, h4, h5, h6, h7⟩
  · cases hv
  · injection hv with e1 e2 e3
    injection e1 with e1
    injection e1 with e1
    subst e1 e3
    refine ⟨⟨cur, h3, by simpa using h6, h5, h4, fun j x hj => ?_⟩, h2, rfl⟩
    have hl := (List.getElem?_eq_some_iff.1 hj).1
    have := congrArg (·[j]?) h7
    simp only [List.getElem?_take, List.getElem?_map, hj, Array.getElem?_toList] at this
    rw [if_pos (by simpa using hl)] at this
    exact this

theorem RowI.fr {w w' : World} {g c : Nat} {xs : List Int} {T : Nat → Prop} (h : RowI w g c xs) (hf : Fr T w w') (hT : ¬ T g) : RowI w' g c xs := by
  obtain ⟨cs, h1, h2⟩ := h
  exact ⟨cs, h1.fr hf hT, h2⟩

theorem setCells_blk {g : Nat} {t : TypeId} : ∀ (vs : List Value) (o : Nat) (w : World) (cs : Array Value), Blk w g t cs → ∃ cs', Blk (w.setCells g o vs) g t cs' ∧ cs'.size = cs.size ∧ (∀ k, k < o → cs'[k]? = cs[k]?) ∧ Fr (One g) w (w.setCells g o vs)
  | [], o, w, cs, h => ⟨cs, h, rfl, fun _ _ => rfl, Fr.refl _ _⟩
  | v :: vs, o, w, cs, h => by
    obtain ⟨cs', h1, h2, h3, h4⟩ := setCells_blk vs (o + 1) (w.setCell ⟨g, o, none⟩ v) _ (h.set_ o v)
    refine ⟨cs', h1, by simpa using h2, fun k hk => ?_, ((Fr.refl (One g) w).setCell (p := ⟨g, o, none⟩) (.inl rfl) v).trans h4⟩
    rw [h3 k (by omega), Array.getElem?_setIfInBounds_ne (by omega)]

/-- what is asked of each number: it keeps J, and changes T -/
structure Asks (J : World → Prop) (T : Nat → Prop) (g clo : Nat) (lb : Array Value) (p : Int → Bool) (xs : List Int) : Prop where
  call : ∀ W x, x ∈ xs → J W → Calls Tryd.prog clo (#[.int .i64 x] ++ lb) W fun e w' => e = .returned (.bool (p x)) ∧ J w' ∧ Fr T W w'
  keep : ∀ W W' cs cs', J W → Blk W g 3 cs → Blk W' g 3 cs' → Fr (One g) W W' → J W'
  far : ¬ T g

def IdxP (J : World → Prop) (T : Nat → Prop) (p : Int → Bool) (xs : List Int) (w : World) (e : Ending) (w' : World) : Prop :=
  J w' ∧ Fr T w w' ∧ ((e = .returned (.int .i64 (-1)) ∧ ∀ x ∈ xs, p x = false) ∨ ∃ (k : Nat) (x : Int), e = .returned (.int .i64 k) ∧ xs[k]? = some x ∧ p x = true ∧ ∀ y ∈ xs.take k, p y = false)

theorem no_one {T : Nat → Prop} {w w' : World} (h : Fr No w w') : Fr T w w' := h.mono (fun _ _ h => h.elim)

theorem Asks.no {J : World → Prop} {T : Nat → Prop} {g clo : Nat} {lb : Array Value} {p : Int → Bool} {xs : List Int} (h : Asks J T g clo lb p xs) {W W' : World} {cs : Array Value} (hj : J W) (hb : Blk W g 3 cs) (hf : Fr No W W') : J W' := h.keep W W' cs cs hj hb (hb.fr hf (fun h => h)) (no_one hf)

set_option maxRecDepth 100000 in
set_option maxHeartbeats 1000000 in
theorem indexFunc_any (w : World) (g c : Nat) (xs : List Int) (J : World → Prop) (T : Nat → Prop) (clo : Nat) (lb : Array Value) (p : Int → Bool) (eg : ∀ args w, (callFunc clo args).run Tryd.prog w = .ok (.enter clo args) w) (hA : Asks J T g clo lb p xs) (hr : RowI w g c xs) (h0 : J w) :
    Calls Tryd.prog 102 #[.slice (some ⟨g, 0, none⟩) xs.length c, .func (.func clo) #[] lb] w fun e w' => IdxP J T p xs w e w' := by
  have HA := Lib.hid hA
  have HR := Lib.hid hr
  have H0 := Lib.hid h0
  have hmx : xs.length ≤ maxLen := by obtain ⟨cs, h1, h2, h3, h4, h5⟩ := hr; omega
  have hmI : (xs.length : Int) ≤ 9223372036854775807 := by unfold maxLen at hmx; omega
  clear hA hr h0 hmx
  go_enter Tryd.func102, Tryd.ntmps102
  go_wp2_with fail
  go_loopw [5, 8] (fun _ u wr => ∃ k : Nat, k ≤ xs.length ∧ u = .int .i64 k ∧ J wr ∧ Fr T w wr ∧ ∀ y ∈ xs.take k, p y = false) (fun _ u _ => xs.length - (intOf u).toNat)
  case atStart => exact ⟨0, Nat.zero_le _, rfl, H0.out, Fr.refl _ _, fun y hy => by simp at hy⟩
  case round =>
    obtain ⟨k, hk, rfl, hj, hfr, hall⟩ := hrel
    have HJ := Lib.hid hj
    have HF := Lib.hid hfr
    have HALL := Lib.hid hall
    by_cases hlt : k < xs.length
    · have hkI : (k : Int) < (xs.length : Int) := by omega
      obtain ⟨x, hx⟩ : ∃ x, xs[k]? = some x := ⟨_, List.getElem?_eq_getElem hlt⟩
      obtain ⟨cs, hb, _, _, _, h5⟩ := HR.out.fr hfr HA.out.far
      have cx : wr.cell? ⟨g, k, none⟩ = some (.int .i64 x) := (hb.cell k).trans (h5 k x hx)
      have CALL : Hid (∀ W, Fr No wr W → Calls Tryd.prog clo (#[.int .i64 x] ++ lb) W fun e w' => e = .returned (.bool (p x)) ∧ Hid (J w' ∧ Fr T wr w')) := fun W hf => (HA.out.call W x (List.mem_of_getElem? hx) (HA.out.no hj hb hf)).mono (fun e w' ⟨h1, h2, h3⟩ => ⟨h1, h2, (no_one hf).trans h3⟩)
      have HX := Lib.hid hx
      clear hj hfr hall hx hb h5
      cases hq : p x with
      | true =>
        have HQ := Lib.hid hq
        rw [hq] at CALL
        clear hq
        go_wp2_with fail
        refine (CALL.out _ (Fr.refl _ _)).mono ?_
        rintro e w2 ⟨rfl, H2⟩
        go_wp2_with fail
        go_ret
        exact ⟨H2.out.1, HF.out.trans H2.out.2, .inr ⟨k, x, rfl, HX.out, HQ.out, HALL.out⟩⟩
      | false =>
        have HQ := Lib.hid hq
        rw [hq] at CALL
        clear hq
        go_wp2_with fail
        refine (CALL.out _ (Fr.refl _ _)).mono ?_
        rintro e w2 ⟨rfl, H2⟩
        go_wp2_with fail
        go_roundw
        case rel =>
          refine ⟨k + 1, by omega, by go_num, H2.out.1, HF.out.trans H2.out.2, fun y hy => ?_⟩
          rw [List.take_add_one, HX.out] at hy
          rcases List.mem_append.1 hy with hy | hy
          · exact HALL.out y hy
          · simp at hy; subst hy; exact HQ.out
        case measure => simp [intOf]; omega
    · have hkl : k = xs.length := by omega
      have HE : Hid (∀ y ∈ xs, p y = false) := by
        have h := hall
        rw [hkl, List.take_length] at h
        exact h
      have hnl : ¬ (k : Int) < (xs.length : Int) := by omega
      clear hj hfr hall hkl
      go_wp2_with fail
      go_ret
      exact ⟨HJ.out, HF.out, .inl ⟨rfl, HE.out⟩⟩
/-- of the first j numbers those that are left -/
def left (p : Int → Bool) (xs : List Int) (j : Nat) : List Int := (xs.take j).filter fun x => !p x

theorem left_more {p : Int → Bool} {xs : List Int} {j : Nat} {x : Int} (h : xs[j]? = some x) : left p xs (j + 1) = left p xs j ++ (if p x then [] else [x]) := by
  unfold left
  rw [List.take_add_one, h, List.filter_append]
  congr 1
  cases hp : p x <;> simp [hp]

theorem left_start {p : Int → Bool} {xs : List Int} {k : Nat} {x : Int} (hx : xs[k]? = some x) (hp : p x = true) (hall : ∀ y ∈ xs.take k, p y = false) : left p xs (k + 1) = xs.take k := by
  rw [left_more hx, hp]
  unfold left
  rw [if_pos rfl, List.append_nil, List.filter_eq_self]
  intro y hy
  rw [hall y hy]; rfl

theorem left_all {p : Int → Bool} {xs : List Int} : left p xs xs.length = xs.filter fun x => !p x := by
  unfold left
  rw [List.take_length]

theorem left_len {p : Int → Bool} {xs : List Int} {j : Nat} : (left p xs j).length ≤ j := by
  unfold left
  exact Nat.le_trans (List.length_filter_le _ _) (by simpa using Nat.min_le_left j xs.length)

/-- the row behind j numbers -/
structure DelI (p : Int → Bool) (xs : List Int) (c i j : Nat) (cs : Array Value) : Prop where
  size : cs.size = c
  len : (left p xs j).length = i
  lt : i < j
  low : ∀ (k : Nat) (y : Int), (left p xs j)[k]? = some y → cs[k]? = some (.int .i64 y)
  high : ∀ (k : Nat) (y : Int), j ≤ k → xs[k]? = some y → cs[k]? = some (.int .i64 y)

theorem DelI.start {p : Int → Bool} {xs : List Int} {c k : Nat} {x : Int} {cs : Array Value} (hs : cs.size = c) (hc : ∀ (j : Nat) (x : Int), xs[j]? = some x → cs[j]? = some (.int .i64 x)) (hx : xs[k]? = some x) (hp : p x = true) (hall : ∀ y ∈ xs.take k, p y = false) : DelI p xs c k (k + 1) cs := by
  have e := left_start hx hp hall
  have hl := (List.getElem?_eq_some_iff.1 hx).1
  refine ⟨hs, by rw [e, List.length_take]; omega, by omega, fun k' y h => ?_, fun k' y _ h => hc k' y h⟩
  rw [e, List.getElem?_take] at h
  split at h
  · exact hc k' y h
  · cases h

theorem DelI.skip {p : Int → Bool} {xs : List Int} {c i j : Nat} {x : Int} {cs : Array Value} (h : DelI p xs c i j cs) (hx : xs[j]? = some x) (hp : p x = true) : DelI p xs c i (j + 1) cs := by
  have e : left p xs (j + 1) = left p xs j := by rw [left_more hx, hp]; simp
  exact ⟨h.size, by rw [e]; exact h.len, by have := h.lt; omega, by rw [e]; exact h.low, fun k y hk => h.high k y (by omega)⟩

theorem DelI.keep {p : Int → Bool} {xs : List Int} {c i j : Nat} {x : Int} {cs : Array Value} (h : DelI p xs c i j cs) (hx : xs[j]? = some x) (hp : p x = false) (hc : xs.length ≤ c) : DelI p xs c (i + 1) (j + 1) (cs.setIfInBounds i (.int .i64 x)) := by
  have e : left p xs (j + 1) = left p xs j ++ [x] := by rw [left_more hx, hp]; simp
  have hl := (List.getElem?_eq_some_iff.1 hx).1
  have hlt := h.lt
  have hn := h.len
  refine ⟨by simpa using h.size, by rw [e]; simpa using h.len, by omega, fun k y hk => ?_, fun k y hk hy => ?_⟩
  · rw [e] at hk
    rcases Nat.lt_trichotomy k i with h1 | h1 | h1
    · rw [List.getElem?_append_left (by omega)] at hk
      rw [Array.getElem?_setIfInBounds_ne (by omega)]
      exact h.low k y hk
    · subst h1
      rw [List.getElem?_append_right (by omega), hn] at hk
      simp at hk
      subst hk
      rw [Array.getElem?_setIfInBounds_self_of_lt (by have := h.size; omega)]
    · rw [List.getElem?_append_right (by omega), hn] at hk
      have : k - i ≠ 0 := by omega
      rw [List.getElem?_eq_none (by simp; omega)] at hk
      cases hk
  · rw [Array.getElem?_setIfInBounds_ne (by omega)]
    exact h.high k y (by omega) hy

theorem zero_i64D (w : World) : (zeroValue 3).run Tryd.prog w = .ok (.int .i64 0) w := by kernel_rfl

def DelP (J : World → Prop) (T : Nat → Prop) (g c : Nat) (p : Int → Bool) (xs : List Int) (w : World) (e : Ending) (w' : World) : Prop :=
  e = .returned (.slice (some ⟨g, 0, none⟩) (xs.filter fun x => !p x).length c) ∧ RowI w' g c (xs.filter fun x => !p x) ∧ J w' ∧ Fr (fun b => T b ∨ b = g) w w'

set_option maxRecDepth 100000 in
set_option maxHeartbeats 4000000 in
theorem deleteFunc_any (w : World) (g c : Nat) (xs : List Int) (J : World → Prop) (T : Nat → Prop) (clo : Nat) (lb : Array Value) (p : Int → Bool) (eg : ∀ args w, (callFunc clo args).run Tryd.prog w = .ok (.enter clo args) w) (hA : Asks J T g clo lb p xs) (hr : RowI w g c xs) (h0 : J w) :
    Calls Tryd.prog 64 #[.slice (some ⟨g, 0, none⟩) xs.length c, .func (.func clo) #[] lb] w fun e w' => DelP J T g c p xs w e w' := by
  have IDX := Lib.hid (indexFunc_any w g c xs J T clo lb p eg hA hr h0)
  have HA := Lib.hid hA
  have HR := Lib.hid hr
  have hmx : c ≤ maxLen := by obtain ⟨cs, h1, h2, h3, h4, h5⟩ := hr; omega
  have hxc : xs.length ≤ c := by obtain ⟨cs, h1, h2, h3, h4, h5⟩ := hr; omega
  have hmI : (xs.length : Int) ≤ 9223372036854775807 := by unfold maxLen at hmx; omega
  have HMX := Lib.hid hmx
  clear hA hr h0 hmx
  go_enter Tryd.func64, Tryd.ntmps64
  go_wp2_with fail
  refine IDX.out.mono ?_
  rintro e w1 ⟨hj1, hf1, ⟨rfl, hall⟩ | ⟨k, x, rfl, hx, hp, hall⟩⟩
  · have HE : Hid (DelP J T g c p xs w (.returned (.slice (some ⟨g, 0, none⟩) xs.length c)) w1) := by
      have e : (xs.filter fun x => !p x) = xs := List.filter_eq_self.2 (fun y hy => by rw [hall y hy]; rfl)
      show DelP _ _ _ _ _ _ _ _ _
      unfold DelP
      rw [e]
      exact ⟨rfl, HR.out.fr hf1 HA.out.far, hj1, hf1.mono (fun _ _ h => .inl h)⟩
    clear hj1 hf1 hall
    go_wp2_with fail
    go_ret
    exact HE.out
  · have hkl := (List.getElem?_eq_some_iff.1 hx).1
    have hk1 : ((k : Int) == -1) = false := beq_eq_false_iff_ne.2 (by omega)
    have HS : Hid (∃ cs, Blk w1 g 3 cs ∧ DelI p xs c k (k + 1) cs) := by
      obtain ⟨cs, h1, h2, h3, h4, h5⟩ := HR.out.fr hf1 HA.out.far
      exact ⟨cs, h1, DelI.start h2 h5 hx hp hall⟩
    have HJ1 := Lib.hid hj1
    have HF1 : Hid (Fr (fun b => T b ∨ b = g) w w1) := hf1.mono (fun _ _ h => .inl h)
    clear hj1 hf1 hx hp hall
    go_wp2_with fail
    go_loopw [5, 6, 7] (fun s5 s6 _ wr => ∃ (i j : Nat) (cs : Array Value), s5 = .int .i64 i ∧ s6 = .int .i64 j ∧ j ≤ xs.length ∧ J wr ∧ Fr (fun b => T b ∨ b = g) w wr ∧ Blk wr g 3 cs ∧ DelI p xs c i j cs) (fun _ s6 _ _ => xs.length - (intOf s6).toNat)
    case atStart =>
      obtain ⟨cs, h1, h2⟩ := HS.out
      exact ⟨k, k + 1, cs, rfl, by go_num, by omega, HJ1.out, HF1.out, h1, h2⟩
    case round =>
      obtain ⟨i, j, cs, rfl, rfl, hjl, hj, hfr, hb, hI⟩ := hrel
      have HJ := Lib.hid hj
      have HF := Lib.hid hfr
      have HB := Lib.hid hb
      have HI := Lib.hid hI
      have hij := hI.lt
      by_cases hlt : j < xs.length
      · have hjI : (j : Int) < (xs.length : Int) := by omega
        obtain ⟨x, hx⟩ : ∃ x, xs[j]? = some x := ⟨_, List.getElem?_eq_getElem hlt⟩
        have cx : wr.cell? ⟨g, j, none⟩ = some (.int .i64 x) := (hb.cell j).trans (hI.high j x (Nat.le_refl _) hx)
        have CALL : Hid (∀ W, Fr No wr W → Calls Tryd.prog clo (#[.int .i64 x] ++ lb) W fun e w' => e = .returned (.bool (p x)) ∧ Hid (J w' ∧ Fr T wr w')) := fun W hf => (HA.out.call W x (List.mem_of_getElem? hx) (HA.out.no hj hb hf)).mono (fun e w' ⟨h1, h2, h3⟩ => ⟨h1, h2, (no_one hf).trans h3⟩)
        have HX := Lib.hid hx
        clear hj hfr hb hI hx
        cases hq : p x with
        | true =>
          have HQ := Lib.hid hq
          rw [hq] at CALL
          clear hq
          go_wp2_with fail
          refine (CALL.out _ (Fr.refl _ _)).mono ?_
          rintro e w2 ⟨rfl, H2⟩
          go_wp2_with fail
          go_roundw
          case rel => exact ⟨i, j + 1, cs, rfl, by go_num, by omega, H2.out.1, HF.out.trans (H2.out.2.mono (fun _ _ h => .inl h)), HB.out.fr H2.out.2 HA.out.far, HI.out.skip HX.out HQ.out⟩
          case measure => simp [intOf]; omega
        | false =>
          have HQ := Lib.hid hq
          rw [hq] at CALL
          clear hq
          go_wp2_with fail
          refine (CALL.out _ (Fr.refl _ _)).mono ?_
          rintro e w2 ⟨rfl, H2⟩
          have hb2 := HB.out.fr H2.out.2 HA.out.far
          have HB2 := Lib.hid hb2
          have hil : i < cs.size := by have := HI.out.size; omega
          obtain ⟨old, hold⟩ : ∃ old, cs[i]? = some old := ⟨_, Array.getElem?_eq_getElem hil⟩
          have ci : w2.cell? ⟨g, i, none⟩ = some old := (hb2.cell i).trans hold
          have fi := hb2.frozen i
          have hii : (i : Int) < (xs.length : Int) := by omega
          clear hb2 hold
          go_wp2_with fail
          go_roundw
          case rel => exact ⟨i + 1, j + 1, _, by go_num, by go_num, by omega, HA.out.keep _ _ _ _ H2.out.1 HB2.out (HB2.out.set_ i _) ((Fr.refl (One g) w2).setCell (p := ⟨g, i, none⟩) (.inl rfl) _), (HF.out.trans (H2.out.2.mono (fun _ _ h => .inl h))).setCell (p := ⟨g, i, none⟩) (.inl (.inr rfl)) _, HB2.out.set_ i _, HI.out.keep HX.out HQ.out hxc⟩
          case measure => simp [intOf]; omega
      · have hjn : j = xs.length := by omega
        subst hjn
        have hnl : ¬ (xs.length : Int) < (xs.length : Int) := by omega
        have hcl : ∀ ty, (Builtin.clear_ #[24] ty #[.slice (some ⟨g, i, none⟩) (xs.length - i) (c - i)]).run Tryd.prog wr = .ok (.tuple #[]) (wr.setCells g i (List.replicate (xs.length - i) (.int .i64 0))) := fun ty =>
          Lib.run_clear_slice wr _ _ ty _ Tryd.underlying24 zero_i64D rfl rfl g i _ _ (by omega) (fun t ht => by
            have hl : i + t < cs.size := by have := hI.size; omega
            rw [hb.cell, Array.getElem?_eq_getElem hl]; rfl) (fun t ht => hb.frozen _)
        have HE : Hid (DelP J T g c p xs w (.returned (.slice (some ⟨g, 0, none⟩) i c)) (wr.setCells g i (List.replicate (xs.length - i) (.int .i64 0)))) := by
          obtain ⟨cs', h1, h2, h3, h4⟩ := setCells_blk (List.replicate (xs.length - i) (.int .i64 0)) i wr cs hb
          have e := hI.len
          rw [left_all] at e
          refine ⟨by rw [e], ⟨cs', h1, h2.trans hI.size, HMX.out, by omega, fun k y hk => ?_⟩, HA.out.keep _ _ _ _ hj hb h1 h4, hfr.trans (h4.mono (fun _ _ h => .inr h))⟩
          have hkl := (List.getElem?_eq_some_iff.1 hk).1
          rw [h3 k (by omega)]
          exact hI.low k y (by rw [left_all]; exact hk)
        clear hj hfr hb hI
        go_wp2_with fail
        go_ret
        exact HE.out
end Go.Proofs.YtjgbihcnfhbalaaDoor

/- ParamList of the program: the asked closure, readListed. -/
namespace Go.Proofs.YtjgbihcnfhbalaaDoor
open Go.RowKit Go.ChangeMaps Go.Shelf

section
variable {μ ν : Nat → Option Nat} {ρ : Nat → Nat → Nat → Bool}

theorem LC.int {F : Cach} {Z : Nat → Prop} {w w' : World} {P : Nat} {cs0 : Array Value} (h : LC μ ν ρ F Z w) (hP : Blk w P 3 cs0) (hz : 0 ≠ P) (hf : Fr (One P) w w') : LC μ ν ρ F Z w' := by
  have nt : ∀ g ty cs', Blk w g ty cs' → ty ≠ 3 → ¬ One P g := fun g ty cs' hg ht e => by
    have e : g = P := e
    subst e
    exact ht (hg.eq hP).1
  refine ⟨fun g t hg => ?_, h.tz.fr hf hz, h.tzF⟩
  obtain ⟨c, c', cs, h1, h2, h3, h4, h5⟩ := h.kept g t hg
  refine ⟨c, c', cs, h1, h2, h3.fr hf (nt _ _ _ h3 (by decide)), h4, fun i v hv => ?_⟩
  rcases h5 i v hv with h | ⟨g, ws, k1, k2, k3, k4⟩
  · exact .inl h
  · exact .inr ⟨g, ws, k1, k2.fr hf (nt _ _ _ k2 (by decide)), k3, k4⟩

theorem LtAt.int {F : Cach} {Z : Nat → Prop} {w w' : World} {P : Nat} {cs0 : Array Value} (hP : Blk w P 3 cs0) (hf : Fr (One P) w w') : ∀ {t : Ty} {p : Nat}, LtAt μ ν ρ F Z w t p → LtAt μ ν ρ F Z w' t p := by
  have nt : ∀ g ty cs', Blk w g ty cs' → ty ≠ 3 → ¬ One P g := fun g ty cs' hg ht e => by
    have e : g = P := e
    subst e
    exact ht (hg.eq hP).1
  have rz : ∀ n Q v, RowZ Z w n Q v → RowZ Z w' n Q v := fun n Q v ⟨g, ws, h1, h2, h3, h4⟩ => ⟨g, ws, h1, h2.fr hf (nt _ _ _ h2 (by decide)), h3, h4⟩
  have fs : ∀ g f a b d, FsAt w g f a b d → FsAt w' g f a b d := fun g f a b d ⟨gl, gr, sz, s1, z1, p1, q1, s2, z2, p2, q2, h1, h2, h3⟩ => ⟨gl, gr, sz, s1, z1, p1, q1, s2, z2, p2, q2, h1.fr hf (nt _ _ _ h1 (by decide)), h2.fr hf (nt _ _ _ h2 (by decide)), h3.fr hf (nt _ _ _ h3 (by decide))⟩
  intro t
  induction t with
  | v i =>
    rintro p ⟨gl, gr, R, c, c', cs, h1, h2, h3, ⟨s, z, x, y, h4⟩, ⟨s', z', x', y', h5⟩, h6, h7, h8, h9⟩
    exact ⟨gl, gr, R, c, c', cs, h1, h2, h3.fr hf (nt _ _ _ h3 (by decide)), ⟨s, z, x, y, h4.fr hf (nt _ _ _ h4 (by decide))⟩, ⟨s', z', x', y', h5.fr hf (nt _ _ _ h5 (by decide))⟩, h6, h7.fr hf (nt _ _ _ h7 (by decide)), h8, fun i v hv => rz _ _ _ (h9 i v hv)⟩
  | o =>
    rintro p ⟨gl, gr, R, c, c', cs, h1, h2, h3, ⟨s, z, x, y, h4⟩, ⟨s', z', x', y', h5⟩, h6, h7, h8, h9⟩
    exact ⟨gl, gr, R, c, c', cs, h1, h2, h3.fr hf (nt _ _ _ h3 (by decide)), ⟨s, z, x, y, h4.fr hf (nt _ _ _ h4 (by decide))⟩, ⟨s', z', x', y', h5.fr hf (nt _ _ _ h5 (by decide))⟩, h6, h7.fr hf (nt _ _ _ h7 (by decide)), h8, fun i v hv => rz _ _ _ (h9 i v hv)⟩
  | n f l r ihl ihr =>
    rintro p ⟨gl, gr, p1, p2, R, a, b, c, a', b', c', h1, h2, h3, h4, h5, h6, h7, h8, h9, h10, h11, h12⟩
    exact ⟨gl, gr, p1, p2, R, a, b, c, a', b', c', h1, h2, h3, h4, h5, h6, h7.fr hf (nt _ _ _ h7 (by decide)), fs _ _ _ _ _ h8, fs _ _ _ _ _ h9, h10, ihl h11, ihr h12⟩

set_option maxRecDepth 100000 in
set_option maxHeartbeats 4000000 in
/-- whether an element is not related to itself -/
theorem plClo_any (hμ : Sizes μ) (hν : Sizes ν) (F : Cach) (t : Ty) (W : World) (P B x c c' : Nat) (hL : LC μ ν ρ F No W) (hT : LtAt μ ν ρ F No W t P) (hB : Blk W B 81 #[Ptr P]) (hc : t.cnt μ = some c) (hc' : t.cnt ν = some c') (hx : x < c) (hx' : x < c') :
    Calls Tryd.prog 65 #[.int .i64 (x : Nat), Ptr B] W fun e w' => e = .returned (.bool (!relT μ ν ρ t x x)) ∧ LC μ ν ρ F No w' ∧ Fr (InF F) W w' := by
  have RW : Hid (∀ V, Fr No W V → Calls Tryd.prog 61 #[Ptr P, .int .i64 x] V fun e w' => ∃ g : Nat, e = .returned (.slice (some ⟨g, 0, none⟩) (nw c') (nw c')) ∧ Hid ((∃ ws, Blk w' g 128 (WV ws) ∧ BitsIs ws c' (relT μ ν ρ t x)) ∧ LC μ ν ρ F No w' ∧ Fr (InF F) W w') ∧ w'.cell? ⟨B, 0, none⟩ = some (Ptr P)) := fun V hf => by
    refine (row_any hμ hν F t No V P x c c' (fun g h => h.elim) (hL.no hf) (hT.fr hf (Far.no F No W)) hc hc' hx).mono ?_
    rintro e w' ⟨v, rfl, ⟨g, ws, rfl, h1, h2, _⟩, h3, h4⟩
    have hWw : Fr (InF F) W w' := (hf.mono (fun _ _ h => h.elim)).trans h4
    exact ⟨g, rfl, ⟨⟨ws, h1, h2⟩, h3, hWw⟩, ((hB.fr hWw (hL.far B _ _ hB (.inl (by decide)) (fun h => absurd h (by decide)))).cell 0).trans rfl⟩
  have hc4 := (t.cnt_bounds hν c' hc').2
  have b0 : W.cell? ⟨B, 0, none⟩ = some (Ptr P) := (hB.cell 0).trans rfl
  obtain ⟨bb, hbb⟩ : ∃ bb, relT μ ν ρ t x x = bb := ⟨_, rfl⟩
  have HS : Hid (∀ (w' : World) (g : Nat), (∃ ws, Blk w' g 128 (WV ws) ∧ BitsIs ws c' (relT μ ν ρ t x)) → Calls Tryd.prog 62 #[.slice (some ⟨g, 0, none⟩) (nw c') (nw c'), .int .i64 x] w' fun e w2 => e = .returned (.bool bb) ∧ w' = w2) := fun w' g ⟨ws, h1, h2⟩ => by
    have h := bsHas_any w' g ws c' x _ h1 h2 hx' (by omega)
    rw [hbb] at h
    exact h
  rw [hbb]
  clear hL hT hB hc hc' hx hx' hc4 hbb
  go_enter Tryd.func65, Tryd.ntmps65
  go_wp2_with fail
  refine (RW.out _ (Fr.refl _ _)).mono ?_
  rintro e w5 ⟨g, rfl, HR5, hk5⟩
  go_wp2_with fail
  refine (HS.out w5 g HR5.out.1).mono ?_
  rintro e w6 ⟨rfl, rfl⟩
  go_wp2_with fail
  go_ret
  exact ⟨rfl, HR5.out.2.1, HR5.out.2.2⟩
end

/-- what readListed answers -/
def LsP (s : List UInt8) (n : Int) (w : World) (e : Ending) (w' : World) : Prop :=
  Fr No w w' ∧ ((∃ (t : Ty) (T nN c : Nat) (d : PtD), Ty.Is s t ∧ OnlyA t ∧ n = nN ∧ 1 ≤ nN ∧ nN ≤ 3 ∧ t.kn (sz1 nN) = some c ∧ c ≤ 300 ∧ e = .returned (Ptr T) ∧ PtIs d w' T t nN nN c c w.heap.size w'.heap.size) ∨
    ((∀ (t : Ty) (nN c : Nat), Ty.Is s t → OnlyA t → n = nN → 1 ≤ nN → nN ≤ 3 → t.kn (sz1 nN) = some c → c ≤ 300 → False) ∧ e = .returned (.pointer none)))

set_option maxRecDepth 100000 in
set_option maxHeartbeats 4000000 in
theorem readListed_any (w : World) (s : List UInt8) (n : Int) (hs : s.length ≤ maxLen) :
    Calls Tryd.prog 63 #[S s, .int .i64 n] w fun e w' => LsP s n w e w' := by
  have PT := Lib.hid (readParamType_any w s n n hs)
  go_enter Tryd.func63, Tryd.ntmps63
  go_wp2_with fail
  refine PT.out.mono ?_
  rintro e w1 ⟨hf1, ⟨t, T, mN, nN, c, c', d, hi, ha, rfl, e2, h3, hk1, hk2, rfl, hpt⟩ | ⟨hno, rfl⟩⟩
  · have e2 : mN = nN := by omega
    subst e2
    rw [hk1] at hk2
    injection hk2 with hk2
    subst hk2
    obtain ⟨s1, z1, p1, q1, hsl⟩ := hpt.sl
    have k6 : w1.cell? ⟨T, 6, none⟩ = some (Ptr d.gl) := (hpt.blk.cell 6).trans rfl
    have k2 : w1.cell? ⟨d.gl, 2, none⟩ = some (.int .i64 c) := (hsl.cell 2).trans rfl
    have hcb : c ≤ 4096 := by
      have h := h3
      exact (t.cnt_bounds (sz1_sizes (by have := h.1; omega) (by have := h.2.1; omega)) c (kn_cnt hk1)).2
    have hcI : (c : Int) ≤ 4096 := by omega
    by_cases hc : c ≤ 300
    · have hcn : decide ((300 : Int) < (c : Int)) = false := decide_eq_false (by omega)
      have HE : Hid (LsP s mN w (.returned (Ptr T)) w1) := ⟨hf1, .inl ⟨t, T, mN, c, d, hi, ha, rfl, by have := h3.1; omega, by have := h3.2.1; omega, hk1, hc, rfl, hpt⟩⟩
      clear hf1 hi ha h3 hk1 hpt hsl hcb hc PT
      go_wp2_with fail
      go_ret
      exact HE.out
    · have hcn : decide ((300 : Int) < (c : Int)) = true := decide_eq_true (by omega)
      have HE : Hid (LsP s mN w (.returned (.pointer none)) w1) := ⟨hf1, .inr ⟨fun t' nN c' h1 _ h3' _ _ h6 h7 => by
        have e := h1.unique hi
        subst e
        have e : nN = mN := by omega
        subst e
        rw [hk1] at h6
        injection h6 with h6
        omega, rfl⟩⟩
      clear hf1 hi ha h3 hk1 hpt hsl hcb hc PT
      go_wp2_with fail
      go_ret
      exact HE.out
  · have HE : Hid (LsP s n w (.returned (.pointer none)) w1) := ⟨hf1, .inr ⟨fun t nN c h1 h2 h3 h4 h5 h6 _ => hno t nN nN c c h1 h2 h3 h3 ⟨by omega, by omega, by omega, by omega⟩ h6 h6, rfl⟩⟩
    clear hf1 hno PT
    go_wp2_with fail
    go_ret
    exact HE.out
end Go.Proofs.YtjgbihcnfhbalaaDoor

/- ParamList of the program. -/
namespace Go.Proofs.YtjgbihcnfhbalaaDoor
open Go.RowKit Go.ChangeMaps Go.Shelf

attribute [local go_sem] Oper.semAt_some

/-- the elements that the first k relations relate to themselves -/
def plK (t : Ty) (n c k : Nat) : List Nat := (List.range c).filter fun x => (List.range k).all fun k' => relT (sz1 n) (sz1 n) (numR n n k') t x x
def plL (t : Ty) (n c k : Nat) : List Int := (plK t n c k).map Int.ofNat

theorem plL_zero (t : Ty) (n c : Nat) : plL t n c 0 = (List.range c).map Int.ofNat := by
  unfold plL plK
  rw [List.filter_eq_self.2 (fun x _ => by simp)]

theorem plL_len (t : Ty) (n c k : Nat) : (plL t n c k).length ≤ c := by
  unfold plL plK
  rw [List.length_map]
  exact Nat.le_trans (List.length_filter_le _ _) (by simp)

theorem plL_mem {t : Ty} {n c k : Nat} {z : Int} (h : z ∈ plL t n c k) : ∃ x : Nat, z = x ∧ x < c := by
  unfold plL plK at h
  obtain ⟨x, hx, rfl⟩ := List.mem_map.1 h
  exact ⟨x, rfl, List.mem_range.1 (List.mem_filter.1 hx).1⟩

/-- an element is not related to itself -/
def plP (t : Ty) (n k : Nat) (z : Int) : Bool := !relT (sz1 n) (sz1 n) (numR n n k) t z.toNat z.toNat

theorem plL_more (t : Ty) (n c k : Nat) : ((plL t n c k).filter fun z => !plP t n k z) = plL t n c (k + 1) := by
  unfold plL plK
  rw [List.filter_map, List.filter_filter]
  congr 1
  apply List.filter_congr
  intro x _
  rw [List.range_succ, List.all_append]
  simp [plP, Bool.and_comm]

/-- what ParamList answers -/
def PlO (s : List UInt8) (n : Int) (Po : List Int) (bo : Bool) : Prop :=
  (∃ (t : Ty) (nN c : Nat), Ty.Is s t ∧ OnlyA t ∧ n = nN ∧ 1 ≤ nN ∧ nN ≤ 3 ∧ t.kn (sz1 nN) = some c ∧ c ≤ 300 ∧ Po = plL t nN c (nrel t nN nN) ∧ bo = true) ∨
    ((∀ (t : Ty) (nN c : Nat), Ty.Is s t → OnlyA t → n = nN → 1 ≤ nN → nN ≤ 3 → t.kn (sz1 nN) = some c → c ≤ 300 → False) ∧ Po = [] ∧ bo = false)

def AnsPl (s : List UInt8) (n : Int) (w : World) (e : Ending) (w' : World) : Prop := ∃ Po bo A q c, PlO s n Po bo ∧ e = .returned (.tuple #[.slice A q c, .bool bo]) ∧ Fr No w w' ∧ OR w' w.heap.size A q c Po

/-- between two lifted types -/
structure LJ (w : World) (t : Ty) (n c Lb g cp D : Nat) (rec : LoopState → Option Code → Go.Loop) (k : Nat) (W : World) : Prop where
  fr : Fr No w W
  bx : Blk W Lb 24 #[.slice (some ⟨g, 0, none⟩) (plL t n c k).length cp]
  row : RowI W g cp (plL t n c k)
  lp : W.heap[D + 1]? = some (.loop (rec .ready none))
  df : W.heap[D]? = some (.deferred (some []))
  sz : D + 2 ≤ W.heap.size

set_option maxRecDepth 100000 in
set_option maxHeartbeats 8000000 in
theorem implParamList (w : World) (s : List UInt8) (n : Int) (hs : s.length ≤ maxLen) (hT : TZt w) :
    Calls Tryd.prog 20 #[S s, .int .i64 n] w fun e w' => AnsPl s n w e w' := by
  obtain ⟨i0, hi0, hz0, hz1, hz2⟩ := info_parts info_int
  obtain ⟨W0, hW0, hf0, hr0, hb0, hz⟩ : ∃ W, W = (w.alloc (.cells #[] 3)).alloc (.cells #[.slice (some ⟨w.heap.size, 0, none⟩) 0 0] 24) ∧ Fr No w W ∧ RowI W w.heap.size 0 [] ∧ Blk W (w.heap.size + 1) 24 #[.slice (some ⟨w.heap.size, 0, none⟩) 0 0] ∧ W.heap.size = w.heap.size + 2 :=
    ⟨_, rfl, ((Fr.refl No w).alloc _).alloc _, ⟨#[], (Blk.new _ _ _).alloc _, rfl, by decide, Nat.le_refl _, fun j x h => by simp at h⟩, Blk.new_at _ _ _ (by simp), by simp⟩
  have PT := Lib.hid (readListed_any W0 s n hs)
  have HTw := Lib.hid hT
  have HTZ : Hid (0 < w.heap.size) := hT.1
  have HF0 := Lib.hid hf0
  have HR0 := Lib.hid hr0
  have HB0 := Lib.hid hb0
  have HZ0 := Lib.hid hz
  clear hf0 hr0 hb0 hz hT
  refine (callsIn_wide (n := 9)).1 ?_
  refine callsIn_of_wp_marks Tryd.func20 rfl trivial ?_ rfl
  simp only [Tryd.ntmps20, List.size_toArray, List.length_cons, List.length_nil, Nat.reduceAdd, Nat.reduceSub, Array.replicate_succ, Array.replicate_zero, List.push_toArray, List.append_toArray, List.nil_append, List.cons_append]
  gi_wp2_with fail
  rw [← hW0]
  clear hW0
  refine ⟨trivial, (callsIn_wide.2 PT.out).mono ?_⟩
  rintro e w1 ⟨hf1, ⟨t, T, nN, c, d, hi, ha, rfl, h1, h3, hk, hc, rfl, hpt⟩ | ⟨hno, rfl⟩⟩
  · have HI := Lib.hid hi
    have HA := Lib.hid ha
    have HN : Hid (1 ≤ nN ∧ nN ≤ 3) := ⟨h1, h3⟩
    have HK := Lib.hid hk
    have HC : Hid (1 ≤ c ∧ c ≤ 300) := ⟨(t.cnt_bounds (sz1_sizes h1 h3) c (kn_cnt hk)).1, hc⟩
    have hc1 : (c : Int) ≤ 300 := by omega
    obtain ⟨s1, z1, p1, q1, hsl⟩ := hpt.sl
    have k6 : w1.cell? ⟨T, 6, none⟩ = some (Ptr d.gl) := (hpt.blk.cell 6).trans rfl
    have k2 : w1.cell? ⟨d.gl, 2, none⟩ = some (.int .i64 c) := (hsl.cell 2).trans rfl
    have HF1 := Lib.hid (HF0.out.trans hf1)
    have HR1 := Lib.hid (HR0.out.fr hf1 (fun h => h))
    have HB1 := Lib.hid (HB0.out.fr hf1 (fun h => h))
    have HT1 : Hid (TZt w1) := HTw.out.fr HF1.out (fun h => h)
    have HPT := Lib.hid hpt
    have HLO : Hid (w.heap.size + 2 ≤ w1.heap.size) := by show _ ≤ _; have := hf1.size; have := HZ0.out; omega
    clear hf1 hi ha h1 h3 hk hc hpt hsl HR0 HB0 HTw PT
    gi_wp2_with fail
    gi_loopg [25] c (fun gk u W => ∃ (k g cp : Nat), k + gk = c ∧ u = .int .i64 k ∧ Fr No w W ∧ Blk W (w.heap.size + 1) 24 #[.slice (some ⟨g, 0, none⟩) k cp] ∧ RowI W g cp ((List.range k).map Int.ofNat) ∧ w.heap.size ≤ g ∧ PtIs d W T t nN nN c c W0.heap.size w1.heap.size ∧ TZt W ∧ w1.heap.size ≤ W.heap.size)
    case atStart => exact ⟨0, w.heap.size, 0, by omega, rfl, HF1.out, HB1.out, HR1.out, Nat.le_refl _, HPT.out, HT1.out, Nat.le_refl _⟩
    case round =>
      obtain ⟨k, g, cp, hk, rfl, hfr, hbx, hrow, hg, hpt, htz, hsr⟩ := hrel
      have HPR := Lib.hid hsr
      have HF := Lib.hid hfr
      have HBX := Lib.hid hbx
      have HROW := Lib.hid hrow
      have HG := Lib.hid hg
      have HPK := Lib.hid hpt
      have HTK := Lib.hid htz
      by_cases hlt : k < c
      · have hkI : (k : Int) < (c : Int) := by omega
        have b0 : wr.cell? ⟨w.heap.size + 1, 0, none⟩ = some (.slice (some ⟨g, 0, none⟩) k cp) := (hbx.cell 0).trans rfl
        have b1 := hbx.frozen 0
        have b2 := hbx.lt
        have hown : wr.ownsRow w.heap.size 3 1 (.slice (some ⟨g, 0, none⟩) k cp) k (((List.range k).map Int.ofNat).map (Value.int .i64)) := by
          have h := (hrow.or hg).2
          simpa using h
        have ARM : Hid (∀ (g' cap' : Nat) (w2 : World), w2.ownsRow w.heap.size 3 1 (.slice (some ⟨g', 0, none⟩) (k + 1) cap') (k + 1) (((List.range k).map Int.ofNat).map (Value.int .i64) ++ [.int .i64 (k : Int)]) → (wr.alloc (.cells #[.int .i64 (k : Int)] 3)).grownBy w2 (Value.slice (some ⟨g, 0, none⟩) k cp).ownBlock →
            (w2.cell? ⟨w.heap.size + 1, 0, none⟩ = some (.slice (some ⟨g, 0, none⟩) k cp) ∧ w2.frozen? ⟨w.heap.size + 1, 0, none⟩ = false ∧ w.heap.size + 1 < w2.heap.size) ∧
            Hid (∃ W', W' = w2.setCell ⟨w.heap.size + 1, 0, none⟩ (.slice (some ⟨g', 0, none⟩) (k + 1) cap') ∧ Fr No w W' ∧ Blk W' (w.heap.size + 1) 24 #[.slice (some ⟨g', 0, none⟩) (k + 1) cap'] ∧ RowI W' g' cap' ((List.range (k + 1)).map Int.ofNat) ∧ w.heap.size ≤ g' ∧ PtIs d W' T t nN nN c c W0.heap.size w1.heap.size ∧ TZt W' ∧ w1.heap.size ≤ W'.heap.size)) := by
          intro g' cap' w2 ho hgr
          have hfa : Fr No wr (wr.alloc (.cells #[.int .i64 (k : Int)] 3)) := (Fr.refl _ _).alloc _
          have hfg : Fr (One g) wr w2 := (no_one hfa).grown hgr (fun b hb => .inl (by injection hb with hb; exact hb.symm))
          obtain ⟨cs, hgb, _⟩ := HROW.out
          have hgne : w.heap.size + 1 ≠ g := fun e => by
            have h := HBX.out
            rw [e] at h
            exact absurd (hgb.eq h).1 (by decide)
          have hb2 := HBX.out.fr hfg hgne
          obtain ⟨hr2, hg2, _⟩ := RowI.of_or (B := w.heap.size) (n := k + 1) (xs := (List.range (k + 1)).map Int.ofNat) ⟨by simp, by rw [List.range_succ]; simpa using ho⟩
          have hfs : Fr (One (w.heap.size + 1)) w2 (w2.setCell ⟨w.heap.size + 1, 0, none⟩ (.slice (some ⟨g', 0, none⟩) (k + 1) cap')) := (Fr.refl (One (w.heap.size + 1)) w2).setCell (p := ⟨w.heap.size + 1, 0, none⟩) (.inl rfl) _
          have hgne2 : g' ≠ w.heap.size + 1 := fun e => by
            obtain ⟨cs', hgb', _⟩ := hr2
            rw [e] at hgb'
            exact absurd (hgb'.eq hb2).1 (by decide)
          have hfX : Fr (fun b => b = g ∨ b = w.heap.size + 1) wr (w2.setCell ⟨w.heap.size + 1, 0, none⟩ (.slice (some ⟨g', 0, none⟩) (k + 1) cap')) := (hfg.mono (fun _ _ h => .inl h)).trans (hfs.mono (fun _ _ h => .inr h))
          have hrb : ∀ b, (b = g ∨ b = w.heap.size + 1) → RowBlk wr b := fun b hb => by
            rcases hb with rfl | rfl
            · exact .inl ⟨_, _, hgb, .inl rfl⟩
            · exact .inl ⟨_, _, HBX.out, .inr (.inl rfl)⟩
          refine ⟨⟨(hb2.cell 0).trans rfl, hb2.frozen 0, hb2.lt⟩, _, rfl, HF.out.then_ hfX (fun b hb h => ?_), hb2.set_ 0 _, hr2.fr hfs hgne2, hg2, HPK.out.frX hfX (fun b hb => .inr (hrb b hb)) (fun b ty cs hb ht h => (hrb b h).ne hb (by rcases ht with rfl | rfl | rfl <;> decide) (by rcases ht with rfl | rfl | rfl <;> decide) (by rcases ht with rfl | rfl | rfl <;> decide) rfl), HTK.out.fr hfX ?_, Nat.le_trans HPR.out hfX.size⟩
          · have := HG.out
            rcases h with h | h <;> omega
          · have := HG.out
            have := HTZ.out
            rintro (h | h) <;> omega
        clear hfr hbx hrow hg hpt htz hsr
        gi_wp2_with (gi_at_builtin; refine wpListIn_append_own _ rfl _ _ 24 rfl w.heap.size 3 i0 (.int .i64 0) 1 8 Tryd.underlying24 hi0 hz0 hz1 hz2 rfl (by decide) _ _ _ rfl (hown.alloc _) ⟨wr.heap.size, 0, none⟩ 1 1 [.int .i64 (k : Int)] rfl rfl (cell_one_new _ _ _) (by simp [Value.oneCell']) (by unfold maxLen; omega) (by omega) (by simp; omega) ?_; intro v' w2 hown' hgrow _; obtain ⟨g', cap', rfl⟩ := ownsRow_succ hown'; obtain ⟨⟨n1, n2, n3⟩, n4⟩ := ARM.out g' cap' w2 hown' hgrow; clear hown' hgrow)
        go_roundg (c - (k + 1))
        case measure => omega
        case rel =>
          obtain ⟨W', rfl, q1, q2, q3, q4, q5, q6, q7⟩ := n4.out
          exact ⟨k + 1, g', cap', by omega, by go_num, q1, q2, q3, q4, q5, q6, q7⟩
      · have hkc : c = k := by omega
        subst hkc
        clear hfr hbx hrow hg hpt htz hsr
        gi_wp2_with fail
        refine ⟨trivial, (callsIn_wide.2 (lifts_any _ T)).mono ?_⟩
        rintro e w' ⟨rfl, rfl⟩
        gi_wp2_with fail
        have hf3 : Fr No wr (wr.alloc (.cells #[Ptr T] 70)) := (Fr.refl No wr).alloc _
        have hb3 : Blk (wr.alloc (.cells #[Ptr T] 70)) wr.heap.size 70 #[Ptr T] := Blk.new _ _ _
        have hs3 : (wr.alloc (.cells #[Ptr T] 70)).heap.size = wr.heap.size + 1 := by simp
        generalize (wr.alloc (.cells #[Ptr T] 70)) = w3 at hf3 hb3 hs3 ⊢
        refine rf_stmt rfl (by decide) (gf := 98) (lb := #[Ptr wr.heap.size]) rfl trivial (enters_of Tryd.func98 (by kernel_rfl) rfl) ?_
        intro fn D rec hf hD hrec W5 hW5
        have HREC := Lib.hid hrec
        have hD1 : W5.heap.size = D + 2 := by rw [hW5, hD]; simp
        have hf5 : Fr No w3 W5 := by rw [hW5]; exact ((Fr.refl _ _).alloc _).alloc _
        have hl1 : W5.heap[D + 1]? = some (.loop (rec .ready none)) := by
          rw [hW5]
          have := World.alloc_heap_new (w3.alloc (.deferred (some []))) (.loop (rec .ready none))
          rwa [World.size_alloc, ← hD] at this
        have hd1 : W5.heap[D]? = some (.deferred (some [])) := by
          rw [hW5, hD]
          exact (Below.heap_alloc _ _ _ (by simp)).trans (World.alloc_heap_new w3 _)
        have hgl : g < wr.heap.size := by
          obtain ⟨cs, h, _⟩ := HROW.out
          exact h.lt
        have hlo1 : w.heap.size + 1 < wr.heap.size := HBX.out.lt
        have hne : w.heap.size + 1 ≠ g := fun e => by
          obtain ⟨cs, hgb, _⟩ := HROW.out
          rw [← e] at hgb
          exact absurd (hgb.eq HBX.out).1 (by decide)
        have hw1r : w1.heap.size ≤ wr.heap.size := HPR.out
        have HDW : Hid (D = wr.heap.size + 1 ∧ g < wr.heap.size ∧ w.heap.size + 1 < wr.heap.size ∧ w.heap.size ≤ g ∧ w.heap.size + 1 ≠ g ∧ w1.heap.size ≤ wr.heap.size ∧ w.heap.size + 2 ≤ w1.heap.size) := ⟨by omega, hgl, hlo1, HG.out, hne, hw1r, HLO.out⟩
        clear hrec hW5
        have hf35 := hf3.trans hf5
        have hrowz : RowI wr g cp (plL t nN c 0) := by rw [plL_zero]; exact HROW.out
        have hlz : (plL t nN c 0).length = c := by rw [plL_zero]; simp
        have J0 : LJ w t nN c (w.heap.size + 1) g cp D rec 0 W5 := ⟨HF.out.trans hf35, by rw [hlz]; exact HBX.out.fr hf35 (fun h => h), hrowz.fr hf35 (fun h => h), hl1, hd1, by omega⟩
        have hpt5 := HPK.out.no hf35
        have hbx5 := hb3.fr hf5 (fun h => h)
        have hT5 := HTK.out.fr hf35 (fun h => h)
        have hhi : w1.heap.size ≤ D + 1 := by omega
        have htz5 : 0 < w1.heap.size := by have := HTZ.out; have := HLO.out; omega
        have h40 : t.size ≤ 40 := HI.out.2.2
        refine (lifts_in (D + 1) wr.heap.size (fun b => b = w.heap.size + 1 ∨ b = g) d T t nN nN c c W0.heap.size w1.heap.size (LJ w t nN c (w.heap.size + 1) g cp D rec) (fun _ => False) ⟨?rows, ?tab, ?keep, ?round⟩ h40 HN.out.1 HN.out.2 HN.out.1 HN.out.2 HK.out HK.out W5 J0 hpt5 hbx5 hT5 hhi ⟨_, hl1⟩ htz5).mono ?_
        case rows =>
          rintro k W b hj (rfl | rfl)
          · exact .inl ⟨_, _, hj.bx, .inr (.inl rfl)⟩
          · obtain ⟨cs, h, _⟩ := hj.row
            exact .inl ⟨_, _, h, .inl rfl⟩
        case tab =>
          have := HTZ.out
          have := HG.out
          rintro (h | h) <;> omega
        case keep =>
          intro k W W' X hj hfX hX
          have nb : ∀ g ty cs, Blk W g ty cs → ¬ X g := fun g ty cs hb hx => by
            obtain ⟨_, es, clk, hm⟩ := hX g hx
            exact hb.ne_map hm rfl
          refine ⟨hj.fr.then_ hfX (fun b hb hx => by have := (hX b hx).1; have := HZ0.out; omega), hj.bx.fr hfX (nb _ _ _ hj.bx), hj.row.fr hfX (by obtain ⟨cs, h, _⟩ := hj.row; exact nb _ _ _ h), ?_, ?_, Nat.le_trans hj.sz hfX.size⟩
          · exact (hfX.block (D + 1) (by have := hj.sz; omega) (fun hx => by obtain ⟨_, es, clk, hm⟩ := hX _ hx; rw [hj.lp] at hm; cases hm)).trans hj.lp
          · exact (hfX.block D (by have := hj.sz; omega) (fun hx => by obtain ⟨_, es, clk, hm⟩ := hX _ hx; rw [hj.df] at hm; cases hm)).trans hj.df
        case round =>
          intro k P Bk F R W hk hj hlB hBs hFB hRE hLT hLC
          have HRE := Lib.hid hRE
          have HJ := Lib.hid hj
          have HLT := Lib.hid hLT
          have HLC := Lib.hid hLC
          have HB := Lib.hid (And.intro hlB hFB)
          have HKK := Lib.hid hk
          clear hRE hj hLT hLC hlB hFB hf3 hb3 hs3 hD hD1 hf5 hl1 hd1 hf35 J0 hpt5 hbx5 hT5 hhi htz5 h40 hBs hk hgl hlo1 hne hw1r hrowz hlz
          refine rf_round HREC.out hf HJ.out.lp rfl ?_
          gi_wp2_with fail
          have hfa : Fr No W (W.alloc (.cells #[Ptr P] 81)) := (Fr.refl No W).alloc _
          have hbB : Blk (W.alloc (.cells #[Ptr P] 81)) W.heap.size 81 #[Ptr P] := Blk.new _ _ _
          generalize (W.alloc (.cells #[Ptr P] 81)) = V1 at hfa hbB ⊢
          have hlt2 : D + 1 < W.heap.size := by have := HJ.out.sz; omega
          have hlp1 : V1.heap[D + 1]? = some (.loop (rec .ready none)) := (hfa.block (D + 1) hlt2 (fun h => h)).trans HJ.out.lp
          refine ⟨_, rf_begin HREC.out hlp1, ?_⟩
          have hfp : Fr (fun b => b = D + 1) V1 (V1.putObj (D + 1) (.loop (rec .busy none))) := Fr.putObj _ _
          have nb : ∀ {g ty cs}, Blk V1 g ty cs → ¬ (g = D + 1) := fun hb => hb.ne_of hlp1 (fun _ h => by cases h)
          have hlp2 : (V1.putObj (D + 1) (.loop (rec .busy none))).heap[D + 1]? = some (.loop (rec .busy none)) := World.putObj_heap_same (by have := hfa.size; omega)
          have hfar : Far F No (fun b => b = D + 1) V1 := fun g ty cs hb _ _ h => nb hb h
          have hLT2 := (HLT.out.fr hfa (Far.no F No W)).fr hfp hfar
          have hLC2 := (HLC.out.no hfa).fr hfp hfar (fun g hg h => by have := HB.out.2 g hg; have := HB.out.1; omega) (fun h => by have := HTZ.out; have := HDW.out; omega)
          have hbx2 := (HJ.out.bx.fr hfa (fun h => h)).fr hfp (nb (HJ.out.bx.fr hfa (fun h => h)))
          have hbB2 := hbB.fr hfp (nb hbB)
          have hrow1 := HJ.out.row.fr hfa (fun h => h)
          have hrow2 := hrow1.fr hfp (by obtain ⟨cs, h, _⟩ := hrow1; exact nb h)
          have hdf2 : (V1.putObj (D + 1) (.loop (rec .busy none))).heap[D]? = some (.deferred (some [])) := (World.putObj_heap_other (by omega)).trans ((hfa.block D (by omega) (fun h => h)).trans HJ.out.df)
          have hfW2 : Fr (fun b => b = D + 1) W (V1.putObj (D + 1) (.loop (rec .busy none))) := (no_one hfa).trans hfp
          generalize (V1.putObj (D + 1) (.loop (rec .busy none))) = V2 at hfp hlp2 hLT2 hLC2 hbx2 hbB2 hrow2 hdf2 hfW2 ⊢
          clear hfa hbB hlp1 hfp nb hfar hrow1
          have b0 : V2.cell? ⟨w.heap.size + 1, 0, none⟩ = some (.slice (some ⟨g, 0, none⟩) (plL t nN c k).length cp) := (hbx2.cell 0).trans rfl
          have b1 := hbx2.frozen 0
          have b2 := hbx2.lt
          have hcn := kn_cnt HK.out
          have hs13 := sz1_sizes HN.out.1 HN.out.2
          have hgF : ¬ InF F g := fun h => by have := HB.out.2 g h; have := HB.out.1; have := HDW.out; omega
          have hbF : ¬ InF F (w.heap.size + 1) := fun h => by have := HB.out.2 _ h; have := HB.out.1; have := HDW.out; omega
          have hDF : ∀ b, b < D + 2 → ¬ (InF F b ∨ b = g) ∨ b = g := fun b hb => by
            by_cases e : b = g
            · exact .inr e
            · exact .inl (fun h => h.elim (fun h => by have := HB.out.2 _ h; have := HB.out.1; omega) e)
          have DEL := Lib.hid (deleteFunc_any V2 g cp (plL t nN c k) (fun V => LC (sz1 nN) (sz1 nN) R F No V ∧ LtAt (sz1 nN) (sz1 nN) R F No V t P ∧ Blk V W.heap.size 81 #[Ptr P]) (InF F) 65 #[Ptr W.heap.size] (plP t nN k) (enters_of Tryd.func65 (by kernel_rfl) rfl)
            ⟨fun V x hx ⟨j1, j2, j3⟩ => by
              obtain ⟨xN, rfl, hxc⟩ := plL_mem hx
              refine (plClo_any hs13 hs13 F t V P W.heap.size xN c c j1 j2 j3 hcn hcn hxc hxc).mono ?_
              rintro e V' ⟨rfl, q1, q2⟩
              exact ⟨by unfold plP; rw [Int.toNat_natCast, ← HRE.out], ⟨q1, j2.fr q2 j1.far, j3.fr q2 (j1.far _ _ _ j3 (.inl (by decide)) (fun h => absurd h (by decide)))⟩, q2⟩,
            fun V V' cs cs' ⟨j1, j2, j3⟩ hb _ hf => ⟨j1.int hb (by have := HTZ.out; have := HDW.out; omega) hf, LtAt.int hb hf j2, j3.fr hf (fun h => by
              have h : W.heap.size = g := h
              rw [h] at j3
              exact absurd (j3.eq hb).1 (by decide))⟩, hgF⟩ hrow2 ⟨hLC2, hLT2, hbB2⟩)
          have HLP2 := Lib.hid hlp2
          have HDF2 := Lib.hid hdf2
          have HBX2 := Lib.hid hbx2
          have HFW2 := Lib.hid hfW2
          clear hlp2 hdf2 hbx2 hfW2 hLT2 hLC2 hbB2 hrow2 hcn hs13
          gi_wp2_with fail
          refine ⟨trivial, (calls_wide DEL.out).mono ?_⟩
          rintro e V3 ⟨rfl, hrow3, ⟨hlc3, _, _⟩, hf3⟩
          have HLC3 := Lib.hid hlc3
          rw [plL_more] at hrow3 ⊢
          have hDW := HDW.out
          have hbx3 := HBX2.out.fr hf3 (fun h => h.elim hbF hDW.2.2.2.2.1)
          have hl3 : V3.heap[D + 1]? = some (.loop (rec .busy none)) := (hf3.block (D + 1) (by have := (Array.getElem?_eq_some_iff.1 HLP2.out).1; omega) (fun h => by
            rcases h with h | h
            · have := HB.out.2 _ h; have := HB.out.1; omega
            · omega)).trans HLP2.out
          have hd3 : V3.heap[D]? = some (.deferred (some [])) := (hf3.block D (by have := (Array.getElem?_eq_some_iff.1 HLP2.out).1; omega) (fun h => by
            rcases h with h | h
            · have := HB.out.2 _ h; have := HB.out.1; omega
            · omega)).trans HDF2.out
          have b0 : V3.cell? ⟨w.heap.size + 1, 0, none⟩ = some (.slice (some ⟨g, 0, none⟩) (plL t nN c k).length cp) := (hbx3.cell 0).trans rfl
          have b1 := hbx3.frozen 0
          have b2 := hbx3.lt
          have FIN : Hid (∀ act : Act, roundPost Tryd.prog (D + 1) (fun e W' => e = .returned (.bool true) ∧ LJ w t nN c (w.heap.size + 1) g cp D rec (k + 1) W' ∧ Fr (fun b => InF F b ∨ b = D + 1 ∨ b = w.heap.size + 1 ∨ b = g) W W' ∧ (∃ r, W'.heap[D + 1]? = some (.loop r)) ∧ LC (sz1 nN) (sz1 nN) R F No W') Exit.normal act (V3.setCell ⟨w.heap.size + 1, 0, none⟩ (.slice (some ⟨g, 0, none⟩) (plL t nN c (k + 1)).length cp))) := by
            intro act
            have hfs : Fr (fun b => b = w.heap.size + 1) V3 (V3.setCell ⟨w.heap.size + 1, 0, none⟩ (.slice (some ⟨g, 0, none⟩) (plL t nN c (k + 1)).length cp)) := (Fr.refl (fun b => b = w.heap.size + 1) V3).setCell (p := ⟨w.heap.size + 1, 0, none⟩) (.inl rfl) _
            have hlt3 := (Array.getElem?_eq_some_iff.1 hl3).1
            have hl4 := (hfs.block (D + 1) hlt3 (fun h => by have h : D + 1 = w.heap.size + 1 := h; omega)).trans hl3
            have hd4 := (hfs.block D (by omega) (fun h => by have h : D = w.heap.size + 1 := h; omega)).trans hd3
            have hbx4 := hbx3.set_ 0 (.slice (some ⟨g, 0, none⟩) (plL t nN c (k + 1)).length cp)
            have hrow4 := hrow3.fr hfs (fun h => hDW.2.2.2.2.1 (show g = w.heap.size + 1 from h).symm)
            have hs4 := hfs.size
            have hlc4 : LC (sz1 nN) (sz1 nN) R F No (V3.setCell ⟨w.heap.size + 1, 0, none⟩ (.slice (some ⟨g, 0, none⟩) (plL t nN c (k + 1)).length cp)) := HLC3.out.at hbx3 (by decide) (by decide) (fun e => by have := HTZ.out; omega) hfs
            generalize (V3.setCell ⟨w.heap.size + 1, 0, none⟩ (.slice (some ⟨g, 0, none⟩) (plL t nN c (k + 1)).length cp)) = V4 at hfs hl4 hd4 hbx4 hrow4 hs4 hlc4 ⊢
            have hq : Fr (fun b => b = D + 1) V4 (V4.putObj (D + 1) (.loop (rec .ready none))) := Fr.putObj _ _
            have nb4 : ∀ {g ty cs}, Blk V4 g ty cs → ¬ (g = D + 1) := fun hb => hb.ne_of hl4 (fun _ h => by cases h)
            have hlr : (V4.putObj (D + 1) (.loop (rec .ready none))).heap[D + 1]? = some (.loop (rec .ready none)) := World.putObj_heap_same (by omega)
            have hfS : Fr (fun b => InF F b ∨ b = D + 1 ∨ b = w.heap.size + 1 ∨ b = g) W (V4.putObj (D + 1) (.loop (rec .ready none))) :=
              (((HFW2.out.mono (fun _ _ h => .inr (.inl h))).trans (hf3.mono (fun _ _ h => h.elim .inl (fun h => .inr (.inr (.inr h)))))).trans (hfs.mono (fun _ _ h => .inr (.inr (.inl h))))).trans (hq.mono (fun _ _ h => .inr (.inl h)))
            refine ⟨_, _, rf_end HREC.out none hl4, rfl, ⟨HJ.out.fr.then_ hfS (fun b hb h => ?_), hbx4.fr hq (nb4 hbx4), hrow4.fr hq (by obtain ⟨cs, h, _⟩ := hrow4; exact nb4 h), hlr, (World.putObj_heap_other (by omega)).trans hd4, Nat.le_trans HJ.out.sz hfS.size⟩, hfS, ⟨_, hlr⟩, hlc4.fr hq (fun g ty cs hb _ _ h => nb4 hb h) (fun g hg h => by have := HB.out.2 g hg; have := HB.out.1; have h : g = D + 1 := h; omega) (fun h => by have := HTZ.out; have h : 0 = D + 1 := h; omega)⟩
            rcases h with h | h | h | h
            · have := HB.out.2 _ h; have := HB.out.1; omega
            · omega
            · omega
            · omega
          clear hrow3 hf3 hbx3 hl3 hd3 hDW HLP2 HDF2 HBX2 HFW2 DEL hDF hgF hbF
          gi_wp2_with fail
          exact FIN.out _
        rintro e W2 ⟨hv, hj | hx⟩
        · refine ⟨hv, .ready, none, (fun h => by cases h), hj.lp, ?_⟩
          have hfp : Fr (fun b => b = D + 1) W2 (W2.putObj (D + 1) (.loop (rec .exhausted none))) := Fr.putObj _ _
          have nb : ∀ {g ty cs}, Blk W2 g ty cs → ¬ (g = D + 1) := fun hb => hb.ne_of hj.lp (fun _ h => by cases h)
          have hbx := hj.bx.fr hfp (nb hj.bx)
          have hrow := hj.row.fr hfp (by obtain ⟨cs, h, _⟩ := hj.row; exact nb h)
          have hdp : (W2.putObj (D + 1) (.loop (rec .exhausted none))).heap[D]? = some (.deferred (some [])) := (World.putObj_heap_other (by omega)).trans hj.df
          have hfa : Fr No w (W2.putObj (D + 1) (.loop (rec .exhausted none))) := hj.fr.then_ hfp (fun b hb h => by have h : b = D + 1 := h; have := HDW.out; omega)
          show Exit.inBlock 2 _ .normal _ (W2.putObj (D + 1) (.loop (rec .exhausted none)))
          generalize (W2.putObj (D + 1) (.loop (rec .exhausted none))) = W3 at hbx hrow hdp hfa ⊢
          have r1 : W3.cell? ⟨w.heap.size + 1, 0, none⟩ = some (.slice (some ⟨g, 0, none⟩) (plL t nN c (nrel t nN nN)).length cp) := (hbx.cell 0).trans rfl
          have HROWE := Lib.hid hrow
          have HDP := Lib.hid hdp
          have HFA := Lib.hid hfa
          clear hv hj hfp hbx hrow hdp hfa nb hf3 hb3 hs3 hD hD1 hf5 hl1 hd1 hf35 J0 hpt5 hbx5 hT5 hhi htz5 hgl hlo1 hne hw1r hrowz hlz
          gi_wp2_with fail
          refine ⟨by simp, .inl ⟨_, _, rfl, run_takeDeferred HDP.out, ?_⟩⟩
          refine ⟨_, results_tmp2 rfl _ _ _, plL t nN c (nrel t nN nN), true, some ⟨g, 0, none⟩, _, cp, .inl ⟨t, nN, c, HI.out, HA.out, rfl, HN.out.1, HN.out.2, HK.out, HC.out.2, rfl, rfl⟩, rfl, HFA.out.then_ (Fr.putObj D _) (fun b hb h => by have h : b = D := h; have := HDW.out; omega), ?_⟩
          exact (HROWE.out.fr (Fr.putObj D _) (fun h => by have h : g = D := h; have := HDW.out; omega)).or HDW.out.2.2.2.1
        · exact hx.elim
  · have HE : Hid (∀ A c, OR w1 w.heap.size A 0 c [] → AnsPl s n w (.returned (.tuple #[.slice A 0 c, .bool false])) w1) := fun A c ho => ⟨[], false, A, 0, c, .inr ⟨hno, rfl, rfl⟩, rfl, HF0.out.trans hf1, ho⟩
    have hr1 := HR0.out.fr hf1 (fun h => h)
    have hb1 := HB0.out.fr hf1 (fun h => h)
    have b0 : w1.cell? ⟨w.heap.size + 1, 0, none⟩ = some (.slice (some ⟨w.heap.size, 0, none⟩) 0 0) := (hb1.cell 0).trans rfl
    have HR1 := Lib.hid hr1
    clear hf1 hno hr1 hb1 PT
    gi_wp2_with fail
    refine ⟨_, results_tmp2 rfl _ _ _, ?_⟩
    exact HE.out _ _ (HR1.out.or (Nat.le_refl _))
end Go.Proofs.YtjgbihcnfhbalaaDoor

/- ParamList and ParamCount of the model. -/
namespace Go.Proofs.YtjgbihcnfhbalaaDoor
open Go.RowKit Go.ChangeMaps Go.Shelf

theorem plL_nrel (t : Ty) (n c : Nat) : plL t n c (nrel t n n) = plL t n c (2 ^ (n * n)) := rfl

theorem plL_next (t : Ty) (n c k : Nat) : plL t n (c + 1) k = plL t n c k ++ (if (List.range k).all fun k' => relT (sz1 n) (sz1 n) (numR n n k') t c c then [(c : Int)] else []) := by
  unfold plL plK
  rw [List.range_succ, List.filter_append, List.map_append]
  congr 1
  cases h : (List.range k).all fun k' => relT (sz1 n) (sz1 n) (numR n n k') t c c <;> simp [h]

theorem ct1k_any (W : World) (t : Ty) (hl : t.lets) (A : Option Addr) (c m : Nat) (h1 : 1 ≤ m) (h3 : m ≤ 3) (hA : Sl W (fun b => b < W.heap.size) A t.kids) : Hid (Calls Tryd.prog 56 #[.agg #[S t.atom, .slice A t.kids.len c], .slice (some ⟨W.heap.size, 0, none⟩) 1 1, .slice (some ⟨W.heap.size + 1, 0, none⟩) 1 1] ((W.alloc (.cells #[S [97]] 9)).alloc (.cells #[.int .i64 (m : Int)] 3)) fun e w2 => e = .returned (.int .i64 (cntI (sz1 m) t)) ∧ Fr No W w2) := ct1_any W t hl A c m h1 h3 hA

set_option maxRecDepth 100000 in
set_option maxHeartbeats 4000000 in
theorem specParamList (w : World) (s : List UInt8) (n : Int) (hs : s.length ≤ maxLen) :
    Calls Tryd.prog 19 #[S s, .int .i64 n] w fun e w' => AnsPl s n w e w' := by
  have IN : Hid (∀ (w' : World) (a b c : Int), Calls Tryd.prog 55 #[.int .i64 a, .int .i64 b, .int .i64 c] w' fun e w2 => e = .returned (.bool (decide (b ≤ a ∧ a ≤ c))) ∧ w' = w2) := in_any
  obtain ⟨i0, hi0, hz0, hz1, hz2⟩ := info_parts info_int
  obtain ⟨W0, hW0, hf0, hr0, hz⟩ : ∃ W, W = (w.alloc (.cells #[] 3)) ∧ Fr No w W ∧ RowI W w.heap.size 0 [] ∧ W.heap.size = w.heap.size + 1 :=
    ⟨_, rfl, (Fr.refl No w).alloc _, ⟨#[], Blk.new _ _ _, rfl, by decide, Nat.le_refl _, fun j x h => by simp at h⟩, by simp⟩
  have TY := Lib.hid (type7_any W0 s hs)
  have HF0 := Lib.hid hf0
  have HR0 := Lib.hid hr0
  have HZ := Lib.hid hz
  clear hf0 hr0 hz
  go_enter Tryd.func19, Tryd.ntmps19
  go_wp2_with fail
  rw [← hW0]
  clear hW0
  refine TY.out.mono ?_
  rintro e w1 ⟨hf1, ⟨t, A, c, hi, ho, rfl, hsl⟩ | ⟨a0, A, mt, ct, hno, rfl⟩⟩
  · have HI := Lib.hid hi
    have HO := Lib.hid ho
    have HF1 := Lib.hid (HF0.out.trans hf1)
    have HR1 := Lib.hid (HR0.out.fr hf1 (fun h => h))
    have HSL := Lib.hid hsl
    have hfa : Fr No w1 (w1.alloc (.cells #[S t.atom, .slice A t.kids.len c] 64)) := (Fr.refl _ _).alloc _
    have HFA := Lib.hid hfa
    have hb0 := Blk.new w1 64 #[S t.atom, .slice A t.kids.len c]
    have hlow : W0.heap.size = w.heap.size + 1 := HZ.out
    have hw01 : W0.heap.size ≤ w1.heap.size := hf1.size
    have HB : Hid (∀ w', Fr (One w.heap.size) (w1.alloc (.cells #[S t.atom, .slice A t.kids.len c] 64)) w' → w'.cell? ⟨w1.heap.size, 0, none⟩ = some (S t.atom) ∧ w'.cell? ⟨w1.heap.size, 1, none⟩ = some (.slice A t.kids.len c) ∧ w1.heap.size < w'.heap.size) := fun w' hf => by
      have hb := hb0.fr hf (fun h => by have h : w1.heap.size = w.heap.size := h; omega)
      exact ⟨(hb.cell 0).trans rfl, (hb.cell 1).trans rfl, hb.lt⟩
    have HSW : Hid (∀ w', Fr (One w.heap.size) (w1.alloc (.cells #[S t.atom, .slice A t.kids.len c] 64)) w' → Sl w' (fun b => b < w'.heap.size) A t.kids) := fun w' hf => by
      have hfw : Fr (One w.heap.size) w1 w' := (no_one HFA.out).trans hf
      exact HSL.out.mono (fun b hb => Nat.lt_of_lt_of_le hb.2 hfw.size) (fun b hb => hfw.block b hb.2 (fun h => by have h : b = w.heap.size := h; omega))
    have HLW : Hid (w.heap.size < w1.heap.size) := by show _ < _; omega
    clear hi ho hf1 hsl hfa hb0 TY HF0 HR0 hlow hw01
    by_cases h1 : 1 ≤ n ∧ n ≤ 3
    · have d1 : Hid (decide (1 ≤ n ∧ n ≤ 3) = true) := decide_eq_true h1
      obtain ⟨nN, rfl⟩ : ∃ nN : Nat, n = nN := ⟨n.toNat, by omega⟩
      have HN : Hid (1 ≤ nN ∧ nN ≤ 3) := ⟨by omega, by omega⟩
      clear h1
      go_wp2_with fail
      refine (IN.out _ _ _ _).mono ?_
      rintro e w2 ⟨rfl, rfl⟩
      rw [d1.out]
      obtain ⟨x0, x1, x2⟩ := HB.out _ (Fr.refl _ _)
      generalize w1.alloc (.cells #[S t.atom, .slice A t.kids.len c] 64) = W at *
      go_wp2_with fail
      have HLT : t.lets := HI.out.2.1
      with_reducible refine (ct1_any W t HLT A c nN HN.out.1 HN.out.2 (HSW.out W (Fr.refl _ _))).mono ?_
      rintro e w3 ⟨rfl, hf3⟩
      have HF3 := Lib.hid hf3
      clear hf3 x0 x1 x2
      have hca : -1 ≤ cntI (sz1 nN) t ∧ cntI (sz1 nN) t ≤ 4096 := by
        rcases hc : t.cnt (sz1 nN) with _ | d
        · rw [cntI_none hc]; omega
        · have := t.cnt_bounds (sz1_sizes HN.out.1 HN.out.2) d hc
          rw [cntI_some hc]; omega
      obtain ⟨ca, eca⟩ : ∃ z, z = cntI (sz1 nN) t := ⟨_, rfl⟩
      rw [← eca] at hca ⊢
      obtain ⟨hca1, hca2⟩ := hca
      have ECA : Hid (∀ a, t.cnt (sz1 nN) = some a → ca = a) := fun a h => by rw [eca, cntI_some h]
      have ECA0 : Hid (t.cnt (sz1 nN) = none → ca = -1) := fun h => by rw [eca, cntI_none h]
      have HW3 := Lib.hid (HF1.out.trans (HFA.out.trans HF3.out))
      have HR3 := Lib.hid ((HR1.out.fr HFA.out (fun h => h)).fr HF3.out (fun h => h))
      have hkn : t.kn (sz1 nN) = t.cnt (sz1 nN) := by unfold Ty.kn; rw [if_pos (by have := HI.out.2.2; omega)]
      have HKN := Lib.hid hkn
      clear eca hkn HR1
      by_cases h2 : 1 ≤ ca ∧ ca ≤ 300
      · have d2 : Hid (decide (1 ≤ ca ∧ ca ≤ 300) = true) := decide_eq_true h2
        obtain ⟨cN, hcN⟩ : ∃ a, t.cnt (sz1 nN) = some a := by
          rcases hc : t.cnt (sz1 nN) with _ | d
          · have := ECA0.out hc; omega
          · exact ⟨d, rfl⟩
        have e := ECA.out cN hcN
        subst e
        have HCN := Lib.hid hcN
        have hc3 : (cN : Int) ≤ 300 := h2.2
        have HC3 : Hid (cN ≤ 300) := by show _ ≤ _; omega
        have HQ : Hid (2 ^ (nN * nN) = 2 ^ (nN * nN)) := rfl
        clear h2 hcN
        go_wp2_with fail
        refine (IN.out _ _ _ _).mono ?_
        rintro e w5 ⟨rfl, rfl⟩
        rw [d2.out]
        go_wp2_with fail
        go_loopw [6, 10] (fun v u wr => ∃ (x q cp : Nat) (B : Option Addr), x ≤ cN ∧ u = .int .i64 x ∧ v = .slice B q cp ∧ Fr (One w.heap.size) w3 wr ∧ OR wr w.heap.size B q cp (plL t nN x (2 ^ (nN * nN))) ∧ ∀ b, Own B b → b = w.heap.size ∨ w3.heap.size ≤ b) (fun _ u _ => cN - (intOf u).toNat)
        case atStart => exact ⟨0, 0, 0, some ⟨w.heap.size, 0, none⟩, Nat.zero_le _, rfl, rfl, Fr.refl _ _, HR3.out.or (Nat.le_refl _), fun b ⟨a, ha, hb⟩ => by injection ha with ha; subst ha; exact .inl hb.symm⟩
        case round =>
          obtain ⟨x, q, cp, B, hx, rfl, rfl, hfr, hor, how⟩ := hrel
          have HOW := Lib.hid how
          have HFR := Lib.hid hfr
          have HOR := Lib.hid hor
          have hql : q ≤ 300 := by have := hor.1; have := plL_len t nN x (2 ^ (nN * nN)); have := HC3.out; omega
          clear hfr hor how
          by_cases hlt : x < cN
          · have hxI : (x : Int) < (cN : Int) := by omega
            obtain ⟨x0, x1, x2⟩ := HB.out wr ((no_one HF3.out).trans HFR.out)
            have L7 := Lib.hid (l7pair_any wr t A c nN nN x x cN cN HI.out.2.1 HN.out.1 HN.out.2 HN.out.1 HN.out.2 (HSW.out wr ((no_one HF3.out).trans HFR.out)) HCN.out HCN.out hlt hlt)
            go_wp2_with fail
            refine L7.out.mono ?_
            rintro e w5 ⟨⟨b, rfl, hb⟩, hf5⟩
            have hown := (HOR.out.no hf5).2
            have HF5 := Lib.hid (HFR.out.trans (no_one hf5))
            have h35 : w3.heap.size ≤ w5.heap.size := HF5.out.size
            have h05 : w.heap.size ≤ w5.heap.size := Nat.le_trans HW3.out.size h35
            have HOR5 := Lib.hid (HOR.out.no hf5)
            clear hf5 x0 x1 x2 L7
            cases b with
            | true =>
              have HNX : Hid (plL t nN (x + 1) (2 ^ (nN * nN)) = plL t nN x (2 ^ (nN * nN)) ++ [(x : Int)]) := by
                show _ = _
                rw [plL_next, if_pos]
                rw [List.all_eq_true]
                intro k hk
                exact hb.1 rfl k (List.mem_range.1 hk)
              have ARM : Hid (∀ (v' : Value) (w6 : World), w6.ownsRow w.heap.size 3 1 v' (q + 1) ((plL t nN x (2 ^ (nN * nN))).map (Value.int .i64) ++ [.int .i64 (x : Int)]) → (w5.alloc (.cells #[.int .i64 (x : Int)] 3)).grownBy w6 (Value.slice B q cp).ownBlock → (v'.ownBlock = (Value.slice B q cp).ownBlock ∨ v'.ownBlock = some (w5.alloc (.cells #[.int .i64 (x : Int)] 3)).heap.size) → ∃ g' cap', v' = .slice (some ⟨g', 0, none⟩) (q + 1) cap' ∧ Hid (Fr (One w.heap.size) w3 w6 ∧ OR w6 w.heap.size (some ⟨g', 0, none⟩) (q + 1) cap' (plL t nN (x + 1) (2 ^ (nN * nN))) ∧ ∀ b, Own (some (⟨g', 0, none⟩ : Addr)) b → b = w.heap.size ∨ w3.heap.size ≤ b)) := by
                intro v' w6 ho hg hv
                obtain ⟨g', cap', rfl⟩ := ownsRow_succ ho
                have hown : ∀ k, (Value.slice B q cp).ownBlock = some k → k = w.heap.size ∨ w3.heap.size ≤ k := fun k hk => by
                  cases B with
                  | none => cases hk
                  | some a => exact HOW.out k ⟨a, rfl, by injection hk⟩
                refine ⟨g', cap', rfl, ?_, ?_, ?_⟩
                · exact (HF5.out.alloc _).grown hg (fun k hk => (hown k hk).elim .inl .inr)
                · rw [HNX.out]
                  exact ⟨by rw [List.length_append, ← HOR.out.1]; rfl, by simpa using ho⟩
                · rintro b ⟨a, ha, rfl⟩
                  injection ha with ha
                  subst ha
                  rcases hv with hv | hk
                  · exact hown _ hv.symm
                  · injection hk with hk
                    have hk : g' = (w5.alloc (.cells #[.int .i64 (x : Int)] 3)).heap.size := hk
                    right
                    have : (w5.alloc (.cells #[.int .i64 (x : Int)] 3)).heap.size = w5.heap.size + 1 := by simp
                    show w3.heap.size ≤ g'
                    omega
              clear hb h35
              go_wp2_with (at_builtin; refine wpList_append_own_at _ rfl _ _ 24 rfl w.heap.size 3 i0 (.int .i64 0) 1 8 Tryd.underlying24 hi0 hz0 hz1 hz2 rfl (by decide) _ _ _ rfl (hown.alloc _) ⟨w5.heap.size, 0, none⟩ 1 1 [.int .i64 (x : Int)] rfl rfl (cell_one_new _ _ _) (by simp [Value.oneCell']) (by unfold maxLen; omega) (by omega) (by simp; omega) ?_; intro v' w6 hown' hgrow _ hvv; obtain ⟨g', cap', rfl, HNEW⟩ := ARM.out v' w6 hown' hgrow hvv; clear hown' hgrow hvv)
              go_roundw
              case rel => exact ⟨x + 1, q + 1, cap', some ⟨g', 0, none⟩, by omega, by go_num, rfl, HNEW.out.1, HNEW.out.2.1, HNEW.out.2.2⟩
              case measure => simp [intOf]; omega
            | false =>
              have HNX : Hid (plL t nN (x + 1) (2 ^ (nN * nN)) = plL t nN x (2 ^ (nN * nN))) := by
                show _ = _
                rw [plL_next, if_neg, List.append_nil]
                intro h
                rw [List.all_eq_true] at h
                have := hb.2 (fun k hk => h k (List.mem_range.2 hk))
                cases this
              clear hb hown h35 h05
              go_wp2_with fail
              go_roundw
              case rel => exact ⟨x + 1, q, cp, B, by omega, by go_num, rfl, HF5.out, by rw [HNX.out]; exact HOR5.out, HOW.out⟩
              case measure => simp [intOf]; omega
          · have hxc : x = cN := by omega
            have HE : Hid (AnsPl s nN w (.returned (.tuple #[.slice B q cp, .bool true])) wr) := ⟨_, true, B, q, cp, .inl ⟨t, nN, cN, HI.out, HO.out, rfl, HN.out.1, HN.out.2, by rw [HKN.out]; exact HCN.out, HC3.out, rfl, rfl⟩, rfl, HW3.out.then_ HFR.out (fun b hb h => by have h : b = w.heap.size := h; omega), by
              rw [plL_nrel, ← hxc]
              exact HOR.out⟩
            have hxI : ¬ (x : Int) < (cN : Int) := by omega
            clear hxc
            go_wp2_with fail
            go_ret2
            exact HE.out
      · have d2 : Hid (decide (1 ≤ ca ∧ ca ≤ 300) = false) := decide_eq_false h2
        have HE : Hid (AnsPl s nN w (.returned (.tuple #[.slice (some ⟨w.heap.size, 0, none⟩) 0 0, .bool false])) w3) := ⟨[], false, _, 0, 0, .inr ⟨fun t' n' c' g1 g2 g3 g4 g5 g6 g7 => by
          have e := g1.unique HI.out
          subst e
          have e : n' = nN := by omega
          subst e
          rw [HKN.out] at g6
          have := ECA.out c' g6
          have := (t'.cnt_bounds (sz1_sizes g4 g5) c' g6).1
          exact h2 ⟨by omega, by omega⟩, rfl, rfl⟩, rfl, HW3.out, HR3.out.or (Nat.le_refl _)⟩
        clear h2
        go_wp2_with fail
        refine (IN.out _ _ _ _).mono ?_
        rintro e w5 ⟨rfl, rfl⟩
        rw [d2.out]
        go_wp2_with fail
        go_ret2
        exact HE.out
    · have d1 : Hid (decide (1 ≤ n ∧ n ≤ 3) = false) := decide_eq_false h1
      have HE : Hid (AnsPl s n w (.returned (.tuple #[.slice (some ⟨w.heap.size, 0, none⟩) 0 0, .bool false])) (w1.alloc (.cells #[S t.atom, .slice A t.kids.len c] 64))) := ⟨[], false, _, 0, 0, .inr ⟨fun t' n' c' g1 g2 g3 g4 g5 g6 g7 => h1 ⟨by omega, by omega⟩, rfl, rfl⟩, rfl, HF1.out.trans HFA.out, (HR1.out.fr HFA.out (fun h => h)).or (Nat.le_refl _)⟩
      clear h1
      go_wp2_with fail
      refine (IN.out _ _ _ _).mono ?_
      rintro e w2 ⟨rfl, rfl⟩
      rw [d1.out]
      go_wp2_with fail
      go_ret2
      exact HE.out
  · have HE : Hid (AnsPl s n w (.returned (.tuple #[.slice (some ⟨w.heap.size, 0, none⟩) 0 0, .bool false])) (w1.alloc (.cells #[S a0, .slice A mt ct] 64))) := ⟨[], false, _, 0, 0, .inr ⟨fun t' n' c' g1 g2 g3 g4 g5 g6 g7 => hno t' g1 g2, rfl, rfl⟩, rfl, (HF0.out.trans hf1).alloc _, ((HR0.out.fr hf1 (fun h => h)).fr ((Fr.refl No _).alloc _) (fun h => h)).or (Nat.le_refl _)⟩
    clear hf1 hno
    go_wp2_with fail
    go_ret2
    exact HE.out
end Go.Proofs.YtjgbihcnfhbalaaDoor

/- The laws ParamList and ParamCount. -/
namespace Go.Proofs.YtjgbihcnfhbalaaDoor
open Go.RowKit Go.ChangeMaps Go.Shelf

def AnsIL (Po : List Int) (bo : Bool) (w : World) (e : Ending) (w' : World) : Prop := ∃ A n c, e = .returned (.tuple #[.slice A n c, .bool bo]) ∧ Fr No w w' ∧ OR w' w.heap.size A n c Po

theorem PlO.unique {s : List UInt8} {n : Int} {P P' : List Int} {b b' : Bool} (h : PlO s n P b) (h' : PlO s n P' b') : P = P' ∧ b = b' := by
  rcases h with ⟨t, m, c, h1, h2, h3, h4, h5, h6, h7, h8, h9⟩ | ⟨h1, h2, h3⟩
  · rcases h' with ⟨t', m', c', g1, g2, g3, g4, g5, g6, g7, g8, g9⟩ | ⟨g1, _, _⟩
    · have e := g1.unique h1
      subst e
      have e : m' = m := by omega
      subst e
      rw [h6] at g6
      injection g6 with g6
      subst g6
      exact ⟨h8.trans g8.symm, h9.trans g9.symm⟩
    · exact (g1 t m c h1 h2 h3 h4 h5 h6 h7).elim
  · rcases h' with ⟨t', m', c', g1, g2, g3, g4, g5, g6, g7, g8, g9⟩ | ⟨_, g2, g3⟩
    · exact (h1 t' m' c' g1 g2 g3 g4 g5 g6 g7).elim
    · exact ⟨h2.trans g2.symm, h3.trans g3.symm⟩

theorem PlO.ex (s : List UInt8) (n : Int) : ∃ P b, PlO s n P b := by
  by_cases h : ∃ (t : Ty) (nN c : Nat), Ty.Is s t ∧ OnlyA t ∧ n = nN ∧ 1 ≤ nN ∧ nN ≤ 3 ∧ t.kn (sz1 nN) = some c ∧ c ≤ 300
  · obtain ⟨t, m, c, h1, h2, h3, h4, h5, h6, h7⟩ := h
    exact ⟨_, true, .inl ⟨t, m, c, h1, h2, h3, h4, h5, h6, h7, rfl, rfl⟩⟩
  · exact ⟨[], false, .inr ⟨fun t m c h1 h2 h3 h4 h5 h6 h7 => h ⟨t, m, c, h1, h2, h3, h4, h5, h6, h7⟩, rfl, rfl⟩⟩

theorem PlO.len {s : List UInt8} {n : Int} {P : List Int} {b : Bool} (h : PlO s n P b) : P.length ≤ 300 := by
  rcases h with ⟨t, m, c, h1, h2, h3, h4, h5, h6, h7, h8, h9⟩ | ⟨h1, h2, h3⟩
  · rw [h8]
    exact Nat.le_trans (plL_len _ _ _ _) h7
  · rw [h2]; simp

theorem AnsPl.il {s : List UInt8} {n : Int} {P : List Int} {b : Bool} {w w' : World} {e : Ending} (hP : PlO s n P b) (h : AnsPl s n w e w') : AnsIL P b w e w' := by
  obtain ⟨P', b', A, q, c, h1, h2, h3, h4⟩ := h
  obtain ⟨rfl, rfl⟩ := hP.unique h1
  exact ⟨A, q, c, h2, h3, h4⟩

set_option maxRecDepth 100000 in
set_option maxHeartbeats 8000000 in
theorem lawParamList (w : World) (HTAB : TZt w) (s : List UInt8) (hs : s.length ≤ maxLen) (n : Int) (_ : -9223372036854775808 ≤ n ∧ n ≤ 9223372036854775807) :
    Calls Tryd.prog 5 #[S s, .int .i64 n] w fun e w' => Yes w e w' := by
  have hs' := hs
  unfold maxLen at hs'
  obtain ⟨Po, bo, HLEN, SP, IM⟩ : ∃ (Po : List Int) (bo : Bool), Hid (Po.length ≤ 100000) ∧ Hid (∀ W, Calls Tryd.prog 19 #[S s, .int .i64 n] W fun e w' => AnsIL Po bo W e w') ∧ Hid (∀ W, Fr No w W → Calls Tryd.prog 20 #[S s, .int .i64 n] W fun e w' => AnsIL Po bo W e w') := by
    obtain ⟨P, b, hP⟩ := PlO.ex s n
    exact ⟨P, b, Nat.le_trans hP.len (by decide), fun W => (specParamList W s n hs).mono (fun e w' h => h.il hP), fun W hf => (implParamList W s n hs (HTAB.fr hf (fun h => h))).mono (fun e w' h => h.il hP)⟩
  clear HTAB hs
  by_cases hl : 1048576 < s.length
  · have hb : decide ((1048576 : Int) < (s.length : Int)) = true := by simp; omega
    go_enter Tryd.func5, Tryd.ntmps5
    go_wp2_with fail
    go_ret
    exact ⟨rfl, Fr.refl _ _⟩
  have hb : decide ((1048576 : Int) < (s.length : Int)) = false := by simp; omega
  have F0 : Hid (Fr No w w) := Fr.refl _ _
  go_enter Tryd.func5, Tryd.ntmps5
  go_wp2_with fail
  refine (SP.out _).mono ?_
  rintro e w1 ⟨As, ns, cs, rfl, hf, hor⟩
  have m1 := Lib.hid hf.size
  have F2 := Lib.hid (F0.out.trans hf)
  have R3 := Lib.hid hor
  have bd4 : Hid (∀ b, Own As b → w.heap.size ≤ b ∧ b < (w1).heap.size) := fun b hb => OR.bounds hor hb
  clear hf hor
  go_wp2_with fail
  refine (IM.out _ F2.out).mono ?_
  rintro e w2 ⟨Ag, ng, cg, rfl, hf, hor⟩
  have m5 := Lib.hid hf.size
  have R6 := Lib.hid (R3.out.fr hf (fun _ _ h => h))
  have F7 := Lib.hid (F2.out.trans hf)
  have R8 := Lib.hid hor
  have bd9 : Hid (∀ b, Own Ag b → w1.heap.size ≤ b ∧ b < (w2).heap.size) := fun b hb => OR.bounds hor hb
  clear hf hor R3 F2
  go_wp2_with fail
  have hEQ : Calls Tryd.prog 21 #[.slice Ag ng cg, .slice As ns cs] w2 fun e w' => e = .returned (.bool true) ∧ Fr No w2 w' := by
    rw [R8.out.1, R6.out.1]
    refine (eqi_big w2 Ag As Po Po cg cs (OR.isl R8.out) (OR.isl R6.out) (by have := HLEN.out; omega) (by have := HLEN.out; omega)).mono ?_
    rintro e w' ⟨b, rfl, hb, m, rfl⟩
    obtain rfl : b = true := hb.2 rfl
    exact ⟨rfl, (Fr.refl No _).drewN m⟩
  have HEQ := Lib.hid hEQ
  clear hEQ
  refine (HEQ.out).mono ?_
  rintro e w3 ⟨rfl, hf⟩
  have m10 := Lib.hid hf.size
  have R11 := Lib.hid (R6.out.fr hf (fun _ _ h => h))
  have R12 := Lib.hid (R8.out.fr hf (fun _ _ h => h))
  have F13 := Lib.hid (F7.out.trans hf)
  clear hf HEQ R6 R8 F7
  go_wp2_with fail
  refine (markI_any _ _ Ag _ _ 1 _ (by decide) (by have := HLEN.out; have := R12.out.1; omega) R12.out).mono ?_
  rintro e w4 ⟨rfl, hf, _, hor⟩
  have HNR : Hid (ng ≤ 1048576) := by have := HLEN.out; have := R12.out.1; show _ ≤ _; omega
  have m14 := Lib.hid hf.size
  have R15 := Lib.hid (R11.out.fr hf (fun b h1 h2 => by have e1 := bd4.out b h1; have e2 := bd9.out b h2; have := m1.out; have := m5.out; have := m10.out; omega))
  have F16 := Lib.hid (F13.out.then_ hf (fun b hb h => by have e1 := bd9.out b h; have := m1.out; have := m5.out; have := m10.out; omega))
  have R17 := Lib.hid hor
  clear hf hor R11 F13 R12
  go_wp2_with fail
  refine (heldI_any _ _ Ag _ _ 1 (by decide) (by have := HNR.out; omega) R17.out).mono ?_
  rintro e w5 ⟨rfl, hf⟩
  have m18 := Lib.hid hf.size
  have R19 := Lib.hid (R15.out.fr hf (fun _ _ h => h))
  have R20 := Lib.hid (R17.out.fr hf (fun _ _ h => h))
  have F21 := Lib.hid (F16.out.trans hf)
  clear hf R15 R17 F16
  have hq : ¬ (((1 + ng : Nat) : Int) < 0) := by omega
  go_wp2_with fail
  clear hq
  refine (IM.out _ F21.out).mono ?_
  rintro e w6 ⟨Ah, nh, ch, rfl, hf, hor⟩
  have m22 := Lib.hid hf.size
  have R23 := Lib.hid (R19.out.fr hf (fun _ _ h => h))
  have R24 := Lib.hid (R20.out.fr hf (fun _ _ h => h))
  have F25 := Lib.hid (F21.out.trans hf)
  have R26 := Lib.hid hor
  have bd27 : Hid (∀ b, Own Ah b → w5.heap.size ≤ b ∧ b < (w6).heap.size) := fun b hb => OR.bounds hor hb
  clear hf hor R19 R20 F21
  go_wp2_with fail
  have hEQ : Calls Tryd.prog 21 #[.slice Ah nh ch, .slice As ns cs] w6 fun e w' => e = .returned (.bool true) ∧ Fr No w6 w' := by
    rw [R26.out.1, R23.out.1]
    refine (eqi_big w6 Ah As Po Po ch cs (OR.isl R26.out) (OR.isl R23.out) (by have := HLEN.out; omega) (by have := HLEN.out; omega)).mono ?_
    rintro e w' ⟨b, rfl, hb, m, rfl⟩
    obtain rfl : b = true := hb.2 rfl
    exact ⟨rfl, (Fr.refl No _).drewN m⟩
  have HEQ := Lib.hid hEQ
  clear hEQ
  refine (HEQ.out).mono ?_
  rintro e w7 ⟨rfl, hf⟩
  have m28 := Lib.hid hf.size
  have R29 := Lib.hid (R23.out.fr hf (fun _ _ h => h))
  have R30 := Lib.hid (R24.out.fr hf (fun _ _ h => h))
  have R31 := Lib.hid (R26.out.fr hf (fun _ _ h => h))
  have F32 := Lib.hid (F25.out.trans hf)
  clear hf HEQ R23 R24 R26 F25
  go_wp2_with fail
  refine (heldI_any _ _ Ag _ _ 1 (by decide) (by have := HNR.out; omega) R30.out).mono ?_
  rintro e w8 ⟨rfl, hf⟩
  have m33 := Lib.hid hf.size
  have R34 := Lib.hid (R29.out.fr hf (fun _ _ h => h))
  have R35 := Lib.hid (R30.out.fr hf (fun _ _ h => h))
  have R36 := Lib.hid (R31.out.fr hf (fun _ _ h => h))
  have F37 := Lib.hid (F32.out.trans hf)
  clear hf R29 R30 R31 F32
  have hq : ¬ (((1 + ng : Nat) : Int) < 0) := by omega
  go_wp2_with fail
  go_ret
  exact ⟨rfl, F37.out⟩

/-- how many there are -/
def AnsN (z : Int) (w : World) (e : Ending) (w' : World) : Prop := e = .returned (.int .i64 z) ∧ Fr No w w'

set_option maxHeartbeats 1000000 in
theorem specParamCount (w : World) (s : List UInt8) (n : Int) (hs : s.length ≤ maxLen) (Po : List Int) (bo : Bool) (hP : PlO s n Po bo) :
    Calls Tryd.prog 24 #[S s, .int .i64 n] w fun e w' => AnsN (if bo then (Po.length : Int) else -1) w e w' := by
  have C : Hid (Calls Tryd.prog 19 #[S s, .int .i64 n] w fun e w' => AnsIL Po bo w e w') := (specParamList w s n hs).mono (fun e w' h => h.il hP)
  have hlen : (Po.length : Int) ≤ 300 := by have := hP.len; omega
  clear hP
  go_enter Tryd.func24, Tryd.ntmps24
  go_wp2_with fail
  refine C.out.mono ?_
  rintro e w1 ⟨A, q, c, rfl, hf, hor⟩
  have hq := hor.1
  subst hq
  have HF := Lib.hid hf
  clear hf hor C
  cases bo
  · go_wp2_with fail
    go_ret
    exact ⟨rfl, HF.out⟩
  · go_wp2_with fail
    go_ret
    exact ⟨rfl, HF.out⟩
set_option maxHeartbeats 1000000 in
theorem implParamCount (w : World) (s : List UInt8) (n : Int) (hs : s.length ≤ maxLen) (hT : TZt w) (Po : List Int) (bo : Bool) (hP : PlO s n Po bo) :
    Calls Tryd.prog 25 #[S s, .int .i64 n] w fun e w' => AnsN (if bo then (Po.length : Int) else -1) w e w' := by
  have C : Hid (Calls Tryd.prog 20 #[S s, .int .i64 n] w fun e w' => AnsIL Po bo w e w') := (implParamList w s n hs hT).mono (fun e w' h => h.il hP)
  have hlen : (Po.length : Int) ≤ 300 := by have := hP.len; omega
  clear hP
  go_enter Tryd.func25, Tryd.ntmps25
  go_wp2_with fail
  refine C.out.mono ?_
  rintro e w1 ⟨A, q, c, rfl, hf, hor⟩
  have hq := hor.1
  subst hq
  have HF := Lib.hid hf
  clear hf hor C
  cases bo
  · go_wp2_with fail
    go_ret
    exact ⟨rfl, HF.out⟩
  · go_wp2_with fail
    go_ret
    exact ⟨rfl, HF.out⟩

set_option maxRecDepth 100000 in
set_option maxHeartbeats 1000000 in
theorem lawParamCount (w : World) (HTAB : TZt w) (s : List UInt8) (hs : s.length ≤ maxLen) (n : Int) (_ : -9223372036854775808 ≤ n ∧ n ≤ 9223372036854775807) :
    Calls Tryd.prog 6 #[S s, .int .i64 n] w fun e w' => Yes w e w' := by
  have hs' := hs
  unfold maxLen at hs'
  obtain ⟨z, SP, IM⟩ : ∃ z : Int, Hid (Calls Tryd.prog 24 #[S s, .int .i64 n] w fun e w' => AnsN z w e w') ∧ Hid (∀ W, Fr No w W → Calls Tryd.prog 25 #[S s, .int .i64 n] W fun e w' => AnsN z W e w') := by
    obtain ⟨P, b, hP⟩ := PlO.ex s n
    exact ⟨_, specParamCount w s n hs P b hP, fun W hf => implParamCount W s n hs (HTAB.fr hf (fun h => h)) P b hP⟩
  clear HTAB hs
  by_cases hl : 1048576 < s.length
  · have hb : decide ((1048576 : Int) < (s.length : Int)) = true := by simp; omega
    go_enter Tryd.func6, Tryd.ntmps6
    go_wp2_with fail
    go_ret
    exact ⟨rfl, Fr.refl _ _⟩
  · have hb : decide ((1048576 : Int) < (s.length : Int)) = false := by simp; omega
    go_enter Tryd.func6, Tryd.ntmps6
    go_wp2_with fail
    refine SP.out.mono ?_
    rintro e w1 ⟨rfl, hf1⟩
    have HF1 := Lib.hid hf1
    clear hf1
    go_wp2_with fail
    refine (IM.out w1 HF1.out).mono ?_
    rintro e w2 ⟨rfl, hf2⟩
    have HF2 := Lib.hid (HF1.out.trans hf2)
    clear hf2
    go_wp2_with fail
    go_ret
    exact ⟨rfl, HF2.out⟩
end Go.Proofs.YtjgbihcnfhbalaaDoor

/- The draws of parametric elements: kinds, sizes. · The plain laws' own helpers: sameInts, sameRel. · The plain law FnParamList. · The plain law FnParamPairs. -/
/- The draws of parametric elements: kinds, sizes. -/
namespace Go.Proofs.YtjgbihcnfhbalaaDoor
open Go.RowKit Go.ChangeMaps

set_option maxRecDepth 100000 in
set_option maxHeartbeats 1000000 in
theorem kind_draw (w : World) (r : Nat) (A : Option Addr) (n c p : Nat) (h : Rdc w r A n c p) (hp : p ≤ 80000) :
    Calls Tryd.prog 81 #[Ptr r] w fun e w' => DrwP r A n c p 2 40 w e w' := by
  have PK := Lib.hid (pick_any w r A n c p 16 h (by omega) (by omega) (by omega))
  clear h
  go_enter Tryd.func81, Tryd.ntmps81
  go_wp2_with fail
  refine PK.out.mono ?_
  rintro e w1 ⟨z, rfl, hz, hf1, hr1⟩
  have HF1 := Lib.hid hf1
  by_cases hz0 : z = 0
  · subst hz0
    have OF := Lib.hid (of_lit w1 r A n c (p + 1) 40 5 [[], [98], [40, 62, 32, 97, 32, 98, 41], [40, 62, 32, 40, 62, 32, 97, 32, 97, 41, 32, 40, 62, 32, 40, 62, 32, 97, 32, 97, 41, 32, 40, 62, 32, 97, 32, 97, 41, 41, 41], [40, 42, 32, 122, 32, 97, 41]] #[.string ⟨#[]⟩, .string ⟨#[98]⟩, .string ⟨#[40, 62, 32, 97, 32, 98, 41]⟩, .string ⟨#[40, 62, 32, 40, 62, 32, 97, 32, 97, 41, 32, 40, 62, 32, 40, 62, 32, 97, 32, 97, 41, 32, 40, 62, 32, 97, 32, 97, 41, 41, 41]⟩, .string ⟨#[40, 42, 32, 122, 32, 97, 41]⟩] rfl rfl hr1 (by omega) (by omega) (by omega) (by decide))
    clear hf1 hr1
    go_wp2_with fail
    refine OF.out.mono ?_
    rintro e w2 ⟨x, rfl, _, hx, hf, hr⟩
    have FIN : Hid (DrwP r A n c p 2 40 w (.returned (S x)) w2) := ⟨x, p + 1 + 1, rfl, by omega, HF1.out.trans hf, by omega, hr⟩
    clear hf hr
    go_wp2_with fail
    go_ret
    exact FIN.out
  · have z0 : ((z : Int) == 0) = false := beq_eq_false_iff_ne.2 (by omega)
    clear hz0
    have OF := Lib.hid (of_lit w1 r A n c (p + 1) 40 14 [[97], [111], [40, 62, 32, 97, 32, 97, 41], [40, 42, 32, 97, 32, 111, 41], [40, 62, 32, 97, 32, 111, 41], [40, 62, 32, 111, 32, 97, 41], [40, 62, 32, 97, 32, 40, 62, 32, 97, 32, 97, 41, 41], [40, 62, 32, 40, 62, 32, 97, 32, 97, 41, 32, 97, 41], [40, 42, 32, 97, 32, 40, 62, 32, 97, 32, 97, 41, 41], [40, 62, 32, 40, 62, 32, 97, 32, 111, 41, 32, 111, 41], [40, 42, 32, 40, 62, 32, 97, 32, 97, 41, 32, 40, 42, 32, 97, 32, 40, 62, 32, 97, 32, 111, 41, 41, 41], [40, 62, 32, 40, 62, 32, 97, 32, 97, 41, 32, 40, 62, 32, 97, 32, 97, 41, 41], [40, 62, 32, 40, 42, 32, 97, 32, 97, 41, 32, 97, 41], [40, 62, 32, 111, 32, 40, 62, 32, 97, 32, 97, 41, 41]] #[.string ⟨#[97]⟩, .string ⟨#[111]⟩, .string ⟨#[40, 62, 32, 97, 32, 97, 41]⟩, .string ⟨#[40, 42, 32, 97, 32, 111, 41]⟩, .string ⟨#[40, 62, 32, 97, 32, 111, 41]⟩, .string ⟨#[40, 62, 32, 111, 32, 97, 41]⟩, .string ⟨#[40, 62, 32, 97, 32, 40, 62, 32, 97, 32, 97, 41, 41]⟩, .string ⟨#[40, 62, 32, 40, 62, 32, 97, 32, 97, 41, 32, 97, 41]⟩, .string ⟨#[40, 42, 32, 97, 32, 40, 62, 32, 97, 32, 97, 41, 41]⟩, .string ⟨#[40, 62, 32, 40, 62, 32, 97, 32, 111, 41, 32, 111, 41]⟩, .string ⟨#[40, 42, 32, 40, 62, 32, 97, 32, 97, 41, 32, 40, 42, 32, 97, 32, 40, 62, 32, 97, 32, 111, 41, 41, 41]⟩, .string ⟨#[40, 62, 32, 40, 62, 32, 97, 32, 97, 41, 32, 40, 62, 32, 97, 32, 97, 41, 41]⟩, .string ⟨#[40, 62, 32, 40, 42, 32, 97, 32, 97, 41, 32, 97, 41]⟩, .string ⟨#[40, 62, 32, 111, 32, 40, 62, 32, 97, 32, 97, 41, 41]⟩] rfl rfl hr1 (by omega) (by omega) (by omega) (by decide))
    clear hf1 hr1
    go_wp2_with fail
    refine OF.out.mono ?_
    rintro e w2 ⟨x, rfl, _, hx, hf, hr⟩
    have FIN : Hid (DrwP r A n c p 2 40 w (.returned (S x)) w2) := ⟨x, p + 1 + 1, rfl, by omega, HF1.out.trans hf, by omega, hr⟩
    clear hf hr
    go_wp2_with fail
    go_ret
    exact FIN.out

/-- a size that is drawn -/
def SizP (r : Nat) (A : Option Addr) (n c p : Nat) (w : World) (e : Ending) (w' : World) : Prop :=
  ∃ (z : Int) (p' : Nat), e = .returned (.int .i64 z) ∧ 0 ≤ z ∧ z ≤ 4 ∧ Fr (One r) w w' ∧ p' ≤ p + 2 ∧ Rdc w' r A n c p'

set_option maxRecDepth 100000 in
set_option maxHeartbeats 1000000 in
theorem size_draw (w : World) (r : Nat) (A : Option Addr) (n c p : Nat) (h : Rdc w r A n c p) (hp : p ≤ 80000) :
    Calls Tryd.prog 82 #[Ptr r] w fun e w' => SizP r A n c p w e w' := by
  have PK := Lib.hid (pick_any w r A n c p 30 h (by omega) (by omega) (by omega))
  have PN : Hid (∀ (V : World) (k : Nat), Rdc V r A n c (p + 1) → 1 ≤ k → k ≤ 1000 → Calls Tryd.prog 88 #[Ptr r, .int .i64 k] V fun e w' => PickP r A n c (p + 1) k V e w') := fun V k h1 h2 h3 => pick_any V r A n c (p + 1) k h1 h2 h3 (by omega)
  clear h
  go_enter Tryd.func82, Tryd.ntmps82
  go_wp2_with fail
  refine PK.out.mono ?_
  rintro e w1 ⟨z, rfl, hz, hf1, hr1⟩
  have HF1 := Lib.hid hf1
  by_cases hz0 : z = 0
  · subst hz0
    obtain ⟨W6, hW6, hf6, hb6⟩ : ∃ W, W = w1.alloc (.cells #[.int .i64 0, .int .i64 4, .int .i64 3] 3) ∧ Fr No w1 W ∧ Blk W w1.heap.size 3 #[.int .i64 0, .int .i64 4, .int .i64 3] := ⟨_, rfl, (Fr.refl _ _).alloc _, Blk.new _ _ _⟩
    have hrl := hr1.blk.lt
    have P3 : Hid (Calls Tryd.prog 88 #[Ptr r, .int .i64 3] W6 fun e w' => PickP r A n c (p + 1) 3 W6 e w') := PN.out W6 3 (hr1.fr hf6 (fun h => h) (fun _ _ _ h => h)) (by omega) (by omega)
    have HF6 : Hid (Fr (One r) w W6) := HF1.out.trans (hf6.mono (fun _ _ h => h.elim))
    have HB6 := Lib.hid hb6
    clear hf1 hr1 hf6 hb6 PN
    go_wp2_with fail
    rw [← hW6]
    clear hW6
    refine P3.out.mono ?_
    rintro e w7 ⟨q, rfl, hq, hf7, hd7⟩
    have hb7 := HB6.out.fr hf7 (fun e => by have e : w1.heap.size = r := e; omega)
    obtain ⟨v, hv, hv0, hv4⟩ : ∃ v : Int, w7.cell? ⟨w1.heap.size, q, none⟩ = some (.int .i64 v) ∧ 0 ≤ v ∧ v ≤ 4 := by
      rw [hb7.cell q]
      match q, hq with
      | 0, _ => exact ⟨_, rfl, by omega, by omega⟩
      | 1, _ => exact ⟨_, rfl, by omega, by omega⟩
      | 2, _ => exact ⟨_, rfl, by omega, by omega⟩
    have q0 : (0 : Int) ≤ (q : Int) := by omega
    have q3 : (q : Int) < 3 := by omega
    have FIN : Hid (SizP r A n c p w (.returned (.int .i64 v)) w7) := ⟨v, _, rfl, hv0, hv4, HF6.out.trans hf7, by omega, hd7⟩
    clear hf7 hd7 hb7 hv0 hv4
    go_wp2_with fail
    go_ret
    exact FIN.out
  · have z0 : ((z : Int) == 0) = false := beq_eq_false_iff_ne.2 (by omega)
    have P2 : Hid (Calls Tryd.prog 88 #[Ptr r, .int .i64 2] w1 fun e w' => PickP r A n c (p + 1) 2 w1 e w') := PN.out w1 2 hr1 (by omega) (by omega)
    clear hz0 hf1 hr1 PN
    go_wp2_with fail
    refine P2.out.mono ?_
    rintro e w7 ⟨q, rfl, hq, hf7, hd7⟩
    have FIN : Hid (SizP r A n c p w (.returned (.int .i64 (1 + (q : Int)))) w7) := ⟨1 + (q : Int), _, rfl, by omega, by omega, HF1.out.trans hf7, by omega, hd7⟩
    have q1 : (q : Int) ≤ 1 := by omega
    clear hf7 hd7
    go_wp2_with fail
    go_ret
    exact FIN.out

/-- a kind and a size -/
def KsP (w : World) (e : Ending) (w' : World) : Prop := ∃ (s : List UInt8) (z : Int), e = .returned (.tuple #[S s, .int .i64 z]) ∧ s.length ≤ 40 ∧ 0 ≤ z ∧ z ≤ 4 ∧ Fr No w w'

set_option maxHeartbeats 1000000 in
theorem plist_draw (w : World) (A : Option Addr) (n c : Nat) (hn : n ≤ maxLen) (hnc : n ≤ c) (hb : Byt w A n) :
    Calls Tryd.prog 47 #[.slice A n c] w fun e w' => KsP w e w' := by
  have OP := Lib.hid (open_any w A n c hn hnc hb)
  clear hb
  go_enter Tryd.func47, Tryd.ntmps47
  go_wp2_with fail
  refine OP.out.mono ?_
  rintro e w1 ⟨r, A1, n1, c1, rfl, hf1, hr1, hd1⟩
  have HR1 := Lib.hid hr1
  have HG1 : Hid (Fr (One r) w w1) := hf1.mono (fun _ _ h => h.elim)
  have KD := Lib.hid (kind_draw w1 r A1 n1 c1 0 hd1 (by omega))
  clear hf1 hr1 hd1
  go_wp2_with fail
  refine KD.out.mono ?_
  rintro e w2 ⟨s, p2, rfl, hs, hf2, hp2, hd2⟩
  have HG2 : Hid (Fr (One r) w w2) := HG1.out.trans hf2
  have SD := Lib.hid (size_draw w2 r A1 n1 c1 p2 hd2 (by omega))
  clear hf2 hd2
  go_wp2_with fail
  refine SD.out.mono ?_
  rintro e w3 ⟨z, p3, rfl, hz0, hz4, hf3, hp3, hd3⟩
  have FIN : Hid (KsP w (.returned (.tuple #[S s, .int .i64 z])) w3) := ⟨s, z, rfl, hs, hz0, hz4, (HG2.out.trans hf3).mono (fun i hi e => by unfold One at e; have := HR1.out; omega)⟩
  clear hf3 hd3 hz0 hz4
  go_wp2_with fail
  go_ret2
  exact FIN.out

set_option maxHeartbeats 1000000 in
theorem pcount_draw (w : World) (A : Option Addr) (n c : Nat) (hn : n ≤ maxLen) (hnc : n ≤ c) (hb : Byt w A n) :
    Calls Tryd.prog 50 #[.slice A n c] w fun e w' => KsP w e w' := by
  have C := Lib.hid (plist_draw w A n c hn hnc hb)
  clear hb
  go_enter Tryd.func50, Tryd.ntmps50
  go_wp2_with fail
  refine C.out.mono ?_
  rintro e w1 ⟨s, z, rfl, h1, h2, h3, h4⟩
  have FIN : Hid (KsP w (.returned (.tuple #[S s, .int .i64 z])) w1) := ⟨s, z, rfl, h1, h2, h3, h4⟩
  clear h1 h2 h3 h4
  go_wp2_with fail
  go_ret2
  exact FIN.out
end Go.Proofs.YtjgbihcnfhbalaaDoor

/- The plain laws' own helpers: sameInts, sameRel. -/
namespace Go.Proofs.YtjgbihcnfhbalaaDoor
open Go.RowKit Go.ChangeMaps Go.ChangeShapes Go.WideShapes

set_option maxRecDepth 100000 in
set_option maxHeartbeats 1000000 in
theorem samei_any (w : World) (A A' : Option Addr) (xs ys : List Int) (c c' : Nat) (hx : ISl w A xs) (hy : ISl w A' ys) (hl : xs.length ≤ 2000000) (hl2 : ys.length ≤ 2000000) :
    Calls Tryd.prog 48 #[.slice A xs.length c, .slice A' ys.length c'] w fun e w' => EqI xs ys w e w' := by
  have HX := Lib.hid hx
  have HY := Lib.hid hy
  clear hx hy
  have hl' : (xs.length : Int) ≤ 2000000 := by omega
  have hl2' : (ys.length : Int) ≤ 2000000 := by omega
  by_cases hne : xs.length = ys.length
  · have HNE := Lib.hid hne
    rw [← hne]
    clear hne
    go_enter Tryd.func48, Tryd.ntmps48
    go_wp2_with fail
    go_loopw [5] (fun v wr => ∃ j : Nat, j ≤ xs.length ∧ v = .int .i64 j ∧ xs.take j = ys.take j ∧ ∃ n, wr = w.drewN n) (fun v _ => xs.length - (intOf v).toNat)
    case atStart => exact ⟨0, Nat.zero_le _, rfl, by simp, 0, rfl⟩
    case round =>
      obtain ⟨j, hj, rfl, hno, nn, rfl⟩ := hrel
      have HN := Lib.hid hno
      clear hno
      by_cases hlt : j < xs.length
      · obtain ⟨x, hxj⟩ : ∃ x, xs[j]? = some x := ⟨_, List.getElem?_eq_getElem hlt⟩
        obtain ⟨y, hyj⟩ : ∃ y, ys[j]? = some y := ⟨_, List.getElem?_eq_getElem (by rw [← HNE.out]; exact hlt)⟩
        obtain ⟨g, o, rfl, hc0⟩ := HX.out j x hxj
        obtain ⟨g', o', rfl, hc1⟩ := HY.out j y hyj
        have hc : (w.drewN nn).cell? ⟨g, o + j, none⟩ = some (.int .i64 x) := hc0
        have hc' : (w.drewN nn).cell? ⟨g', o' + j, none⟩ = some (.int .i64 y) := hc1
        have HFIN : Hid (∃ n, (w.drewN nn).drew = w.drewN n) := ⟨nn + 1, rfl⟩
        clear hc0 hc1
        generalize w.drewN nn = wr at hc hc' HFIN ⊢
        have HXJ := Lib.hid hxj
        have HYJ := Lib.hid hyj
        clear hxj hyj
        by_cases hpx : x = y
        · subst hpx
          go_wp2_with fail
          go_wp2_with fail
          refine wp_region_still_lit (by kernel_rfl) (by kernel_rfl) ?_
          change wpStill _ _ (World.drew _) (fun a' => _) _ _
          repeat still_step
          refine wpStill_nil ?_
          go_wp2
          go_round
          case rel => exact ⟨j + 1, by omega, by go_num, eq_take_moreI HN.out HXJ.out HYJ.out rfl, HFIN.out⟩
          case measure => simp [intOf]; omega
        · have hb : (x == y) = false := by simpa using hpx
          have HPX := Lib.hid hpx
          clear hpx
          go_wp2_with fail
          go_wp2_with fail
          refine wp_region_still_lit (by kernel_rfl) (by kernel_rfl) ?_
          change wpStill _ _ (World.drew _) (fun a' => _) _ _
          repeat still_step
          refine wpStill_nil ?_
          go_wp2
          go_ret
          refine ⟨false, rfl, ⟨fun h => (by cases h), fun h => ?_⟩, HFIN.out⟩
          have e1 := HXJ.out
          rw [h, HYJ.out] at e1
          injection e1 with e1
          exact (HPX.out e1.symm).elim
      · have hjl : j = xs.length := by omega
        have HF : Hid (xs = ys) := by
          have := HN.out
          rw [hjl, List.take_length, HNE.out, List.take_length] at this
          exact this
        clear hjl
        go_wp2
        go_ret
        exact ⟨true, rfl, ⟨fun _ => HF.out, fun _ => rfl⟩, _, rfl⟩
  · have HF : Hid (xs ≠ ys) := fun h => hne (by rw [h])
    go_enter Tryd.func48, Tryd.ntmps48
    go_wp2_with fail
    go_ret
    exact ⟨false, rfl, ⟨fun h => (by cases h), fun h => (HF.out h).elim⟩, 0, rfl⟩


/-- whether two relations are written alike -/
def SameR (L R : Int) (ps : List Int) (L' R' : Int) (qs : List Int) (w : World) (e : Ending) (w' : World) : Prop := ∃ b : Bool, e = .returned (.bool b) ∧ (b = true ↔ L = L' ∧ R = R' ∧ ps = qs) ∧ Fr No w w'

end Go.Proofs.YtjgbihcnfhbalaaDoor

/- The plain law FnParamList. -/
namespace Go.Proofs.YtjgbihcnfhbalaaDoor
open Go.RowKit Go.ChangeMaps Go.Shelf

/-- the elements below one are at the head of the list -/
theorem plL_pre (t : Ty) (n c K x : Nat) (h : x ≤ c) : ∃ ys, plL t n c K = plL t n x K ++ ys ∧ ∀ y ∈ ys, (x : Int) ≤ y := by
  obtain ⟨d, rfl⟩ : ∃ d, c = x + d := ⟨c - x, by omega⟩
  unfold plL plK
  rw [List.range_add, List.filter_append, List.map_append]
  refine ⟨_, rfl, fun y hy => ?_⟩
  obtain ⟨z, hz, rfl⟩ := List.mem_map.1 hy
  obtain ⟨a, _, rfl⟩ := List.mem_map.1 (List.mem_filter.1 hz).1
  show (x : Int) ≤ ((x + a : Nat) : Int)
  omega

/-- whether all relations relate an element to itself -/
def rall (t : Ty) (n K x : Nat) : Bool := (List.range K).all fun k' => relT (sz1 n) (sz1 n) (numR n n k') t x x

theorem plL_step (t : Ty) (n K x : Nat) : plL t n (x + 1) K = plL t n x K ++ (if rall t n K x then [(x : Int)] else []) := plL_next t n x K

/-- the next of the list is the element, just where it is one of it -/
theorem plL_due (t : Ty) (n c K x : Nat) (h : x < c) : (rall t n K x = true → (plL t n c K)[(plL t n x K).length]? = some (x : Int)) ∧ (rall t n K x = false → ∀ y, (plL t n c K)[(plL t n x K).length]? = some y → y ≠ (x : Int)) := by
  obtain ⟨ys, hys, hall⟩ := plL_pre t n c K (x + 1) (by omega)
  rw [plL_step] at hys
  constructor
  · intro hr
    rw [hys, hr]
    simp
  · intro hr y hy
    rw [hys, hr] at hy
    have hy2 : (plL t n x K ++ ys)[(plL t n x K).length]? = some y := by simpa using hy
    rw [List.getElem?_append_right (Nat.le_refl _)] at hy2
    have := hall y (List.mem_of_getElem? hy2)
    omega

theorem rall_iff (t : Ty) (n K x : Nat) : rall t n K x = true ↔ ∀ k, k < K → relT (sz1 n) (sz1 n) (numR n n k) t x x = true := by
  unfold rall
  simp

set_option maxRecDepth 100000 in
set_option maxHeartbeats 4000000 in
theorem lawParamListP (w : World) (hT : TZt w) (A : Option Addr) (n c : Nat) (hn : n ≤ maxLen) (hnc : n ≤ c) (hb : Byt w A n) :
    Calls Tryd.prog 12 #[.slice A n c] w fun e w' => Yes w e w' := by
  have hn' := hn
  unfold maxLen at hn'
  by_cases hbig : 1048576 < n
  · have hd : decide ((1048576 : Int) < (n : Int)) = true := by simp; omega
    go_enter Tryd.func12, Tryd.ntmps12
    go_wp2_with fail
    go_ret
    exact ⟨rfl, Fr.refl _ _⟩
  have hd : decide ((1048576 : Int) < (n : Int)) = false := by simp; omega
  have DR := Lib.hid (plist_draw w A n c hn hnc hb)
  have HT := Lib.hid hT
  clear hb hbig hT
  go_enter Tryd.func12, Tryd.ntmps12
  go_wp2_with fail
  refine DR.out.mono ?_
  rintro e w1 ⟨s, z, rfl, hs, hz0, hz4, hf1⟩
  have hsm : s.length ≤ maxLen := by unfold maxLen; omega
  obtain ⟨Po, bo, hP⟩ := PlO.ex s z
  have HF1 := Lib.hid hf1
  have IM : Hid (∀ W, Fr No w W → Calls Tryd.prog 20 #[S s, .int .i64 z] W fun e w' => AnsIL Po bo W e w') := fun W hf => (implParamList W s z hsm (HT.out.fr hf (fun h => h))).mono (fun e w' h => h.il hP)
  have SP : Hid (∀ W, Calls Tryd.prog 19 #[S s, .int .i64 z] W fun e w' => AnsIL Po bo W e w') := fun W => (specParamList W s z hsm).mono (fun e w' h => h.il hP)
  have HPO := Lib.hid hP
  have HLEN : Hid (Po.length ≤ 300) := hP.len
  have HSM := Lib.hid hsm
  clear hf1 hP DR hs hz0 hz4 hsm
  go_wp2_with fail
  refine (IM.out _ HF1.out).mono ?_
  rintro e w2 ⟨Ag, ng, cg, rfl, hf2, ho2⟩
  have HF2 := Lib.hid (HF1.out.trans hf2)
  have HO2 := Lib.hid ho2
  clear hf2 ho2
  go_wp2_with fail
  refine (SP.out _).mono ?_
  rintro e w3 ⟨As, ns, cs, rfl, hf3, ho3⟩
  have HF3 := Lib.hid (HF2.out.trans hf3)
  have HO3 := Lib.hid (HO2.out.no hf3)
  have HOS := Lib.hid ho3
  clear hf3 ho3
  have SAM : Hid (∀ W, Fr No w3 W → Calls Tryd.prog 48 #[.slice Ag ng cg, .slice As ns cs] W fun e w' => e = .returned (.bool true) ∧ Fr No w3 w') := fun W hf => by
    have h := samei_any W Ag As _ _ cg cs (OR.isl (HO3.out.no hf)) (OR.isl (HOS.out.no hf)) (by have := HLEN.out; omega) (by have := HLEN.out; omega)
    rw [← HO3.out.1] at h
    have e : ns = ng := HOS.out.1.trans HO3.out.1.symm
    rw [e]
    refine h.mono ?_
    rintro e w' ⟨b, rfl, hb, n, rfl⟩
    obtain rfl : b = true := hb.2 rfl
    exact ⟨rfl, hf.drewN n⟩
  cases bo with
  | false =>
    go_wp2_with fail
    refine (SAM.out _ (Fr.refl _ _)).mono ?_
    rintro e w4 ⟨rfl, hf4⟩
    have HF4 := Lib.hid hf4
    clear hf4
    go_wp2_with fail
    refine (SAM.out _ HF4.out).mono ?_
    rintro e w5 ⟨rfl, hf5⟩
    have HF5 := Lib.hid (HF3.out.trans hf5)
    clear hf5
    go_wp2_with fail
    go_ret
    exact ⟨rfl, HF5.out⟩
  | true =>
    obtain ⟨t, nN, cN, hi, ho, rfl, n1, n3, hkn, hc3, hPo, _⟩ : ∃ (t : Ty) (nN cN : Nat), Ty.Is s t ∧ OnlyA t ∧ z = nN ∧ 1 ≤ nN ∧ nN ≤ 3 ∧ t.kn (sz1 nN) = some cN ∧ cN ≤ 300 ∧ Po = plL t nN cN (2 ^ (nN * nN)) ∧ True := by
      rcases HPO.out with ⟨t, nN, cN, h1, h2, h3, h4, h5, h6, h7, h8, _⟩ | ⟨_, _, h⟩
      · exact ⟨t, nN, cN, h1, h2, h3, h4, h5, h6, h7, h8, trivial⟩
      · cases h
    have hcn : t.cnt (sz1 nN) = some cN := by rw [← hkn]; exact (kn_small hi).symm
    have CNT : Hid (∀ W, Fr No w W → Calls Tryd.prog 49 #[S s, .slice (some ⟨W.heap.size, 0, none⟩) 1 1, .slice (some ⟨W.heap.size + 1, 0, none⟩) 1 1] ((W.alloc (.cells #[S [97]] 9)).alloc (.cells #[.int .i64 (nN : Int)] 3)) fun e w2 => e = .returned (.int .i64 cN) ∧ Fr No W w2) := fun W _ => by
      have hf : Fr No W ((W.alloc (.cells #[S [97]] 9)).alloc (.cells #[.int .i64 (nN : Int)] 3)) := ((Fr.refl _ _).alloc _).alloc _
      have b1 : Blk ((W.alloc (.cells #[S [97]] 9)).alloc (.cells #[.int .i64 (nN : Int)] 3)) W.heap.size 9 #[S [97]] := (Blk.new _ _ _).alloc _
      have b2 : Blk ((W.alloc (.cells #[S [97]] 9)).alloc (.cells #[.int .i64 (nN : Int)] 3)) (W.heap.size + 1) 3 #[.int .i64 (nN : Int)] := Blk.new_at _ _ _ (by simp)
      refine (implStc _ s (some ⟨W.heap.size, 0, none⟩) (some ⟨W.heap.size + 1, 0, none⟩) [[97]] [(nN : Int)] 1 1 HSM.out ?_ ?_ (by simp) (by simp) (by intro x hx; simp at hx; subst hx; decide)).mono ?_
      · intro j x hj
        cases j with
        | zero => simp at hj; subst hj; exact ⟨_, 0, rfl, (b1.cell 0).trans rfl⟩
        | succ j => simp at hj
      · intro j x hj
        cases j with
        | zero => simp at hj; subst hj; exact ⟨_, 0, rfl, (b2.cell 0).trans rfl⟩
        | succ j => simp at hj
      · rintro e w2 ⟨m, rfl, hm, hf2⟩
        have e1 := StcR.one (.inl ⟨t, [(0, nN)], hi, spD_model n1 n3, rfl⟩) hm
        have e2 : cntI (szs [(0, nN)]) t = (cN : Int) := cntI_some hcn
        exact ⟨by rw [e1, e2], hf.trans hf2⟩
    have PI : Hid (∀ (W : World) (x : Nat), Fr No w W → x < cN → Calls Tryd.prog 18 #[S s, .int .i64 nN, .int .i64 x] W fun e w2 => e = .returned (.bool (rall t nN (2 ^ (nN * nN)) x)) ∧ Fr No W w2) := fun W x hf hx => by
      refine (implParamIs W s nN x HSM.out (HT.out.fr hf (fun h => h))).mono ?_
      rintro e w2 ⟨b, rfl, hb, hf2⟩
      have hiff := PairIs.iff (x := (x : Int)) (y := (x : Int)) hi ho (show In3 (nN : Int) (nN : Int) from ⟨by omega, by omega, by omega, by omega⟩)
      have e : b = rall t nN (2 ^ (nN * nN)) x := by
        apply Bool.eq_iff_iff.2
        rw [rall_iff, hb, hiff]
        constructor
        · rintro ⟨a', b', xN, yN, _, _, e1, e2, _, _, h⟩
          have e1 : xN = x := by omega
          have e2 : yN = x := by omega
          subst e1 e2
          exact h
        · intro h
          exact ⟨cN, cN, x, x, hcn, hcn, rfl, rfl, hx, hx, h⟩
      rw [e]
      exact ⟨rfl, hf2⟩
    have PC : Hid (∀ W, Fr No w W → Calls Tryd.prog 25 #[S s, .int .i64 nN] W fun e w' => e = .returned (.int .i64 Po.length) ∧ Fr No W w') := fun W hf => (implParamCount W s nN HSM.out (HT.out.fr hf (fun h => h)) Po true HPO.out).mono (fun e w' h => h)
    have HPP := Lib.hid hPo
    have HC : Hid (cN ≤ 300) := hc3
    have hcI : (cN : Int) ≤ 300 := by omega
    have HCE := Lib.hid (And.intro hkn hcn)
    clear hi ho n1 n3 hkn hcn hPo HPO IM SP
    go_wp2_with fail
    refine (SAM.out _ (Fr.refl _ _)).mono ?_
    rintro e w4 ⟨rfl, hf4⟩
    have HF4 := Lib.hid (HF3.out.trans hf4)
    have HO4 := Lib.hid (HO3.out.no hf4)
    clear hf4 SAM
    go_wp2_with fail
    refine (CNT.out _ HF4.out).mono ?_
    rintro e w5 ⟨rfl, hf5⟩
    have HF5 := Lib.hid (HF4.out.trans hf5)
    have HO5 := Lib.hid (HO4.out.no hf5)
    clear hf5 CNT
    obtain ⟨K, hK⟩ : ∃ K, K = 2 ^ (nN * nN) := ⟨_, rfl⟩
    rw [← hK] at PI HPP
    clear hK HO4 HO3 HOS
    go_wp2_with fail
    go_loopw [10, 11] (fun a10 u wr => ∃ x : Nat, x ≤ cN ∧ u = .int .i64 x ∧ a10 = .int .i64 (plL t nN x K).length ∧ Fr No w5 wr) (fun _ u _ => cN - (intOf u).toNat)
    case atStart => exact ⟨0, Nat.zero_le _, rfl, rfl, Fr.refl _ _⟩
    case round =>
      obtain ⟨x, hx, rfl, rfl, hfr⟩ := hrel
      have HFR := Lib.hid hfr
      have hor := HO5.out.no hfr
      obtain ⟨kx, hkx⟩ : ∃ kx, kx = (plL t nN x K).length := ⟨_, rfl⟩
      rw [← hkx]
      have HKX := Lib.hid hkx
      have hkxl : kx ≤ x := by rw [hkx]; exact plL_len _ _ _ _
      have HNG : Hid (ng = Po.length) := hor.1
      have hisl := OR.isl hor
      clear hfr hor hkx
      have hkI : (kx : Int) ≤ 300 := by omega
      by_cases hlt : x < cN
      · have hxI : (x : Int) < (cN : Int) := by omega
        have hdue := plL_due t nN cN K x hlt
        rw [← HPP.out, ← HKX.out] at hdue
        have P := Lib.hid (PI.out wr x (HF5.out.trans HFR.out) hlt)
        have HST : Hid ((plL t nN (x + 1) K).length = kx + (if rall t nN K x then 1 else 0)) := by
          show _ = _
          rw [plL_step, List.length_append, ← HKX.out]
          split <;> rfl
        cases hr : rall t nN K x with
        | true =>
          rw [hr] at P HST
          have hat := hdue.1 hr
          obtain ⟨g, o, rfl, hcell⟩ := hisl kx x hat
          have hklt : (kx : Int) < (ng : Int) := by
            have := (List.getElem?_eq_some_iff.1 hat).1
            have := HNG.out
            omega
          clear hr hdue hat hisl
          go_wp2_with fail
          refine P.out.mono ?_
          rintro e w6 ⟨rfl, hf6⟩
          have HF6 := Lib.hid (HFR.out.trans hf6)
          clear hf6 hcell
          go_wp2_with fail
          go_roundw
          case rel => exact ⟨x + 1, by omega, by go_num, congrArg (Value.int IntKind.i64) (by rw [HST.out]; simp), HF6.out⟩
          case measure => simp [intOf]; omega
        | false =>
          rw [hr] at P HST
          have hno := hdue.2 hr
          have HNX : Hid (kx = (plL t nN (x + 1) K).length) := by show _ = _; rw [HST.out]; simp
          clear hr hdue HST
          by_cases hin : kx < ng
          · have hklt : (kx : Int) < (ng : Int) := by omega
            obtain ⟨y, hy⟩ : ∃ y, Po[kx]? = some y := ⟨_, List.getElem?_eq_getElem (by have := HNG.out; omega)⟩
            obtain ⟨g, o, rfl, hcell⟩ := hisl kx y hy
            have hyx : (y == (x : Int)) = false := beq_eq_false_iff_ne.2 (hno y hy)
            clear hno hisl hy
            go_wp2_with fail
            refine P.out.mono ?_
            rintro e w6 ⟨rfl, hf6⟩
            have HF6 := Lib.hid (HFR.out.trans hf6)
            clear hf6 hcell
            go_wp2_with fail
            go_roundw
            case rel => exact ⟨x + 1, by omega, by go_num, congrArg (fun q : Nat => Value.int .i64 (q : Int)) HNX.out, HF6.out⟩
            case measure => simp [intOf]; omega
          · have hklt : ¬ (kx : Int) < (ng : Int) := by omega
            clear hno hisl
            go_wp2_with fail
            refine P.out.mono ?_
            rintro e w6 ⟨rfl, hf6⟩
            have HF6 := Lib.hid (HFR.out.trans hf6)
            clear hf6
            go_wp2_with fail
            go_roundw
            case rel => exact ⟨x + 1, by omega, by go_num, congrArg (fun q : Nat => Value.int .i64 (q : Int)) HNX.out, HF6.out⟩
            case measure => simp [intOf]; omega
      · have hxc : x = cN := by omega
        have hxI : ¬ (x : Int) < (cN : Int) := by omega
        have hke : kx = ng := by rw [HNG.out, HPP.out, HKX.out, hxc]
        have hkb : ((kx : Int) == (ng : Int)) = true := by rw [hke]; simp
        have P := Lib.hid (PC.out wr (HF5.out.trans HFR.out))
        rw [← HNG.out, ← hke] at P
        have hkb2 : ((kx : Int) == (kx : Int)) = true := by simp
        clear hisl hke hxc
        go_wp2_with fail
        refine P.out.mono ?_
        rintro e w6 ⟨rfl, hf6⟩
        have HF6 := Lib.hid ((HF5.out.trans HFR.out).trans hf6)
        clear hf6
        go_wp2_with fail
        go_ret
        exact ⟨rfl, HF6.out⟩
end Go.Proofs.YtjgbihcnfhbalaaDoor

/- The plain law FnParamPairs. -/
namespace Go.Proofs.YtjgbihcnfhbalaaDoor
open Go.RowKit Go.ChangeMaps Go.Shelf

/-- numbers of which all digits are equal -/
theorem digits_eq {m : Nat} (_ : 1 ≤ m) : ∀ (p x y : Nat), x < m ^ p → y < m ^ p → (∀ a, a < p → x / m ^ a % m = y / m ^ a % m) → x = y := by
  intro p
  induction p with
  | zero => intro x y hx hy _; simp at hx hy; omega
  | succ p ih =>
    intro x y hx hy h
    have h0 := h 0 (by omega)
    simp at h0
    rw [Nat.pow_succ] at hx hy
    have hx' : x / m < m ^ p := Nat.div_lt_of_lt_mul (by rw [Nat.mul_comm]; exact hx)
    have hy' : y / m < m ^ p := Nat.div_lt_of_lt_mul (by rw [Nat.mul_comm]; exact hy)
    have e : x / m = y / m := ih _ _ hx' hy' (fun a ha => by
      have := h (a + 1) (by omega)
      rw [Nat.pow_succ, Nat.mul_comm, ← Nat.div_div_eq_div_mul, ← Nat.div_div_eq_div_mul] at this
      exact this)
    rw [← Nat.div_add_mod x m, ← Nat.div_add_mod y m, e, h0]

/-- without variables equal elements are related, and no others -/
theorem relT_eq {μ : Nat → Option Nat} (hμ : Sizes μ) (ρ : Nat → Nat → Nat → Bool) : ∀ (t : Ty), (∀ n, ¬ t.has n) → ∀ c, t.cnt μ = some c → ∀ x y, x < c → y < c → (relT μ μ ρ t x y = true ↔ x = y) := by
  intro t
  induction t with
  | v i => intro h; exact (h i rfl).elim
  | o => intro _ c _ x y _ _; simp [relT]
  | n f l r ihl ihr =>
    intro hf c hc x y hx hy
    obtain ⟨a, b, ha, hb, hce, _⟩ := Ty.cnt_n hc
    have hb1 := (r.cnt_bounds hμ b hb).1
    have hl := ihl (fun n hn => hf n (.inl hn)) a ha
    have hr := ihr (fun n hn => hf n (.inr hn)) b hb
    cases f with
    | false =>
      simp only [Bool.false_eq_true, if_false] at hce
      subst hce
      simp only [relT, Bool.and_eq_true, Ty.cn_of hb]
      have x1 : x / b < a := Nat.div_lt_of_lt_mul (by rw [Nat.mul_comm]; exact hx)
      have y1 : y / b < a := Nat.div_lt_of_lt_mul (by rw [Nat.mul_comm]; exact hy)
      rw [hl _ _ x1 y1, hr _ _ (Nat.mod_lt _ hb1) (Nat.mod_lt _ hb1)]
      constructor
      · rintro ⟨e1, e2⟩
        rw [← Nat.div_add_mod x b, ← Nat.div_add_mod y b, e1, e2]
      · rintro rfl; exact ⟨rfl, rfl⟩
    | true =>
      simp only [if_true] at hce
      subst hce
      simp only [relT, List.all_eq_true, List.mem_range, Ty.cn_of ha, Ty.cn_of hb]
      constructor
      · intro h
        refine digits_eq hb1 a x y hx hy (fun k hk => ?_)
        have h1 := h k hk k hk
        rw [(hl k k hk hk).2 rfl] at h1
        simpa using (hr _ _ (Nat.mod_lt _ hb1) (Nat.mod_lt _ hb1)).1 (by simpa using h1)
      · rintro rfl k hk j hj
        cases hkj : relT μ μ ρ l k j with
        | false => rfl
        | true =>
          have := (hl k j hk hj).1 hkj
          subst this
          simpa using (hr _ _ (Nat.mod_lt _ hb1) (Nat.mod_lt _ hb1)).2 rfl

theorem plL_count (t : Ty) (n c K : Nat) : (plL t n c K).length = ((List.range c).filter (rall t n K)).length := by
  unfold plL plK
  rw [List.length_map]
  rfl

theorem filter_twice (p : Nat → Bool) (c : Nat) : ((List.range (2 * c)).filter fun x => p (x / 2)).length = 2 * ((List.range c).filter p).length := by
  induction c with
  | zero => rfl
  | succ c ih =>
    rw [show 2 * (c + 1) = 2 * c + 1 + 1 from by omega, List.range_succ, List.range_succ, List.filter_append, List.filter_append, List.length_append, List.length_append, ih, List.range_succ, List.filter_append, List.length_append]
    have e1 : 2 * c / 2 = c := by omega
    have e2 : (2 * c + 1) / 2 = c := by omega
    cases hp : p c <;> simp [e1, e2, hp] <;> omega

/-- the text of the pair -/
def pairS (s : List UInt8) : List UInt8 := 40 :: 42 :: 32 :: (s ++ [32, 111, 41])

theorem pair_count {s : List UInt8} {z : Int} {P P2 : List Int} (h : PlO s z P true) (h2 : PlO (pairS s) z P2 true) : P2.length = 2 * P.length := by
  rcases h with ⟨t, n, c, h1, _, rfl, n1, n3, hk, _, hP, _⟩ | ⟨_, _, h⟩
  · rcases h2 with ⟨t2, n2, c2, g1, _, gz, _, _, gk, _, gP, _⟩ | ⟨_, _, h⟩
    · have gz : n2 = n := by omega
      subst gz
      have e : t2 = .n false t .o := Ty.text_inj g1.2.1 ⟨h1.2.1, trivial⟩ (by
        rw [← g1.1]
        show pairS s = _
        rw [h1.1]
        rfl)
      subst e
      obtain ⟨a, b, ha, hb, hc, _⟩ := Ty.cnt_n (kn_cnt gk)
      have hac : a = c := by
        have := kn_cnt hk
        rw [ha] at this
        injection this
      have hb2 : b = 2 := by
        simp only [Ty.cnt] at hb
        injection hb with hb
        exact hb.symm
      subst hac hb2
      simp only [Bool.false_eq_true, if_false] at hc
      rw [gP, hP, plL_count, plL_count, hc, show a * 2 = 2 * a from by omega, ← filter_twice]
      congr 1
      apply List.filter_congr
      intro x _
      unfold rall
      congr 1
      funext k
      have e2 : Ty.cn (sz1 n2) .o = 2 := rfl
      simp [relT, e2]
    · cases h
  · cases h

theorem nov_count {s : List UInt8} {n : Nat} {P : List Int} {t : Ty} (h : PlO s n P true) (hi : Ty.Is s t) (hv : addV [] t = []) : cntI (sz1 n) t = (P.length : Int) := by
  rcases h with ⟨t', n', c, h1, _, hz, n1, n3, hk, _, hP, _⟩ | ⟨_, _, h⟩
  · have hz : n' = n := by omega
    subst hz
    have e := h1.unique hi
    subst e
    have hf : ∀ i, ¬ t'.has i := fun i hi => by
      have := (addV_mem t' [] i).2 (.inr hi)
      rw [hv] at this
      cases this
    rw [cntI_some (kn_cnt hk), hP, plL_count, List.filter_eq_self.2 (fun x hx => ?_)]
    · simp
    · rw [rall_iff]
      intro k _
      have hxc := List.mem_range.1 hx
      exact (relT_eq (sz1_sizes n1 n3) _ t' hf c (kn_cnt hk) x x hxc hxc).2 rfl
  · cases h

set_option maxRecDepth 100000 in
set_option maxHeartbeats 4000000 in
theorem lawParamPairsP (w : World) (hT : TZt w) (A : Option Addr) (n c : Nat) (hn : n ≤ maxLen) (hnc : n ≤ c) (hb : Byt w A n) :
    Calls Tryd.prog 13 #[.slice A n c] w fun e w' => Yes w e w' := by
  have hn' := hn
  unfold maxLen at hn'
  by_cases hbig : 1048576 < n
  · have hd : decide ((1048576 : Int) < (n : Int)) = true := by simp; omega
    go_enter Tryd.func13, Tryd.ntmps13
    go_wp2_with fail
    go_ret
    exact ⟨rfl, Fr.refl _ _⟩
  have hd : decide ((1048576 : Int) < (n : Int)) = false := by simp; omega
  have DR := Lib.hid (pcount_draw w A n c hn hnc hb)
  have HT := Lib.hid hT
  clear hb hbig hT
  go_enter Tryd.func13, Tryd.ntmps13
  go_wp2_with fail
  refine DR.out.mono ?_
  rintro e w1 ⟨s, z, rfl, hs, hz0, hz4, hf1⟩
  have hsm : s.length ≤ maxLen := by unfold maxLen; omega
  obtain ⟨Po, bo, hP⟩ := PlO.ex s z
  have HF1 := Lib.hid hf1
  obtain ⟨out, hout⟩ : ∃ out : Int, out = (if bo then (Po.length : Int) else -1) := ⟨_, rfl⟩
  have IM : Hid (∀ W, Fr No w W → Calls Tryd.prog 25 #[S s, .int .i64 z] W fun e w' => AnsN out W e w') := fun W hf => by rw [hout]; exact implParamCount W s z hsm (HT.out.fr hf (fun h => h)) Po bo hP
  have SP : Hid (∀ W, Calls Tryd.prog 24 #[S s, .int .i64 z] W fun e w' => AnsN out W e w') := fun W => by rw [hout]; exact specParamCount W s z hsm Po bo hP
  have HPO := Lib.hid hP
  have hlen := hP.len
  have HSM := Lib.hid hsm
  have hoo : (out == out) = true := by simp
  have hS2 : (pairS s).length ≤ maxLen := by unfold pairS maxLen; simp; omega
  have HS2 := Lib.hid hS2
  clear hf1 hP DR hz4 hsm hS2
  cases bo with
  | false =>
    have hneg : out < 0 := by simp at hout; omega
    clear hout
    go_wp2_with fail
    refine (IM.out _ HF1.out).mono ?_
    rintro e w2 ⟨rfl, hf2⟩
    have HF2 := Lib.hid (HF1.out.trans hf2)
    clear hf2
    go_wp2_with fail
    refine (SP.out _).mono ?_
    rintro e w3 ⟨rfl, hf3⟩
    have HF3 := Lib.hid (HF2.out.trans hf3)
    clear hf3
    go_wp2_with fail
    go_ret
    exact ⟨rfl, HF3.out⟩
  | true =>
    have houte : out = (Po.length : Int) := by simpa using hout
    have hneg : ¬ out < 0 := by omega
    have hout3 : out ≤ 300 := by omega
    have HOUT := Lib.hid houte
    obtain ⟨t, nN, cN, hi, ho, hzn, n1, n3⟩ : ∃ (t : Ty) (nN cN : Nat), Ty.Is s t ∧ OnlyA t ∧ z = nN ∧ 1 ≤ nN ∧ nN ≤ 3 := by
      rcases HPO.out with ⟨t, nN, cN, h1, h2, h3, h4, h5, h6, h7, h8, _⟩ | ⟨_, _, h⟩
      · exact ⟨t, nN, cN, h1, h2, h3, h4, h5⟩
      · cases h
    subst hzn
    obtain ⟨P2, b2, hP2⟩ := PlO.ex (pairS s) nN
    obtain ⟨out2, hout2⟩ : ∃ out2 : Int, out2 = (if b2 then (P2.length : Int) else -1) := ⟨_, rfl⟩
    have IM2 : Hid (∀ W, Fr No w W → Calls Tryd.prog 25 #[S (pairS s), .int .i64 nN] W fun e w' => AnsN out2 W e w') := fun W hf => by rw [hout2]; exact implParamCount W (pairS s) nN HS2.out (HT.out.fr hf (fun h => h)) P2 b2 hP2
    have h22 : out2 = -1 ∨ (out2 ≠ -1 ∧ out2 = 2 * out) := by
      cases b2 with
      | false => left; rw [hout2]; rfl
      | true =>
        right
        have e := pair_count HPO.out hP2
        have : out2 = (P2.length : Int) := by rw [hout2]; rfl
        omega
    have VARS : Hid (∀ W, Calls Tryd.prog 51 #[S s] W fun e w' => ∃ V vc, e = .returned (.tuple #[.slice V (letS (addV [] t)).length vc, .bool true]) ∧ Fr No W w') := fun W => (implVars W s HSM.out).mono (fun e w' ⟨V, vc, b, xs, h1, _, h3, h4⟩ => by
      rcases h4 with ⟨t', g1, rfl, rfl⟩ | ⟨g, _, _⟩
      · have e := g1.unique hi
        subst e
        exact ⟨V, vc, h1, h3⟩
      · exact (g t hi).elim)
    have hvl : (letS (addV [] t)).length = (addV [] t).length := by simp [letS]
    obtain ⟨nv, hnv⟩ : ∃ nv, nv = (letS (addV [] t)).length := ⟨_, rfl⟩
    have CNT : Hid (nv = 0 → ∀ W, Calls Tryd.prog 49 #[S s, .slice (some ⟨W.heap.size, 0, none⟩) 1 1, .slice (some ⟨W.heap.size + 1, 0, none⟩) 1 1] ((W.alloc (.cells #[S [97]] 9)).alloc (.cells #[.int .i64 (nN : Int)] 3)) fun e w2 => e = .returned (.int .i64 out) ∧ Fr No W w2) := fun h0 W => by
      have hv : addV [] t = [] := List.length_eq_zero_iff.1 (by rw [← hvl, ← hnv]; exact h0)
      have hf : Fr No W ((W.alloc (.cells #[S [97]] 9)).alloc (.cells #[.int .i64 (nN : Int)] 3)) := ((Fr.refl _ _).alloc _).alloc _
      have b1 : Blk ((W.alloc (.cells #[S [97]] 9)).alloc (.cells #[.int .i64 (nN : Int)] 3)) W.heap.size 9 #[S [97]] := (Blk.new _ _ _).alloc _
      have b2 : Blk ((W.alloc (.cells #[S [97]] 9)).alloc (.cells #[.int .i64 (nN : Int)] 3)) (W.heap.size + 1) 3 #[.int .i64 (nN : Int)] := Blk.new_at _ _ _ (by simp)
      refine (implStc _ s (some ⟨W.heap.size, 0, none⟩) (some ⟨W.heap.size + 1, 0, none⟩) [[97]] [(nN : Int)] 1 1 HSM.out ?_ ?_ (by simp) (by simp) (by intro x hx; simp at hx; subst hx; decide)).mono ?_
      · intro j x hj
        cases j with
        | zero => simp at hj; subst hj; exact ⟨_, 0, rfl, (b1.cell 0).trans rfl⟩
        | succ j => simp at hj
      · intro j x hj
        cases j with
        | zero => simp at hj; subst hj; exact ⟨_, 0, rfl, (b2.cell 0).trans rfl⟩
        | succ j => simp at hj
      · rintro e w2 ⟨m, rfl, hm, hf2⟩
        have e1 := StcR.one (.inl ⟨t, [(0, nN)], hi, spD_model n1 n3, rfl⟩) hm
        have e2 : cntI (szs [(0, nN)]) t = (Po.length : Int) := nov_count HPO.out hi hv
        exact ⟨by rw [e1, e2, HOUT.out], hf.trans hf2⟩
    have hnvl : nv ≤ 1000 := by
      rw [hnv, hvl]
      have h1 := addV_len t []
      have h2 := hi.2.2
      simp at h1
      omega
    rw [← hnv] at VARS
    have hcat : (({ data := #[40, 42, 32] } : ByteArray) ++ { data := s.toArray } ++ { data := #[32, 111, 41] }) = { data := (pairS s).toArray } := by
      apply ByteArray.ext
      simp [pairS]
    have HCAT := Lib.hid hcat
    clear hout houte hout2 hi ho n1 n3 hP2 hvl hnv HPO HS2 hcat
    go_wp2_with fail
    refine (IM.out _ HF1.out).mono ?_
    rintro e w2 ⟨rfl, hf2⟩
    have HF2 := Lib.hid (HF1.out.trans hf2)
    clear hf2
    go_wp2_with fail
    refine (SP.out _).mono ?_
    rintro e w3 ⟨rfl, hf3⟩
    have HF3 := Lib.hid (HF2.out.trans hf3)
    clear hf3
    go_wp2_with fail
    rw [HCAT.out]
    refine (IM2.out _ (HF3.out)).mono ?_
    rintro e w4 ⟨rfl, hf4⟩
    have HF4 := Lib.hid (HF3.out.trans hf4)
    clear hf4 IM2
    go_wp2_with fail
    refine (VARS.out _).mono ?_
    rintro e w5 ⟨V, vc, rfl, hf5⟩
    have HF5 := Lib.hid (HF4.out.trans hf5)
    clear hf5 VARS
    have hm2 : IntKind.i64.wrap (2 * out) = 2 * out := by rw [IntKind.wrap_i64]; omega
    have fin : Hid (∀ W, Fr No w5 W → Yes w (.returned (.bool true)) W) := fun W hf => ⟨rfl, HF5.out.trans hf⟩
    rcases h22 with h2 | ⟨h2, h3⟩
    · have e1 : (out2 == -1) = true := by rw [h2]; rfl
      clear h2
      by_cases h0 : nv = 0
      · have C := Lib.hid (CNT.out h0 w5)
        subst h0
        clear CNT
        go_wp2_with fail
        refine C.out.mono ?_
        rintro e w6 ⟨rfl, hf6⟩
        have HF6 := Lib.hid hf6
        clear hf6 C
        go_wp2_with fail
        go_ret
        exact fin.out _ HF6.out
      · have hpos : (0 : Int) < (nv : Int) := by omega
        clear CNT h0
        go_wp2_with fail
        go_ret
        exact fin.out _ (Fr.refl _ _)
    · have e1 : (out2 == -1) = false := beq_eq_false_iff_ne.2 h2
      have e2 : (out2 == 2 * out) = true := by rw [h3]; simp
      clear h2 h3
      by_cases h0 : nv = 0
      · have C := Lib.hid (CNT.out h0 w5)
        subst h0
        clear CNT
        go_wp2_with fail
        refine C.out.mono ?_
        rintro e w6 ⟨rfl, hf6⟩
        have HF6 := Lib.hid hf6
        clear hf6 C
        go_wp2_with fail
        go_ret
        exact fin.out _ HF6.out
      · have hpos : (0 : Int) < (nv : Int) := by omega
        clear CNT h0
        go_wp2_with fail
        go_ret
        exact fin.out _ (Fr.refl _ _)
end Go.Proofs.YtjgbihcnfhbalaaDoor
