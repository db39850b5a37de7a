import Derived.Test.YtngbpcphkfmncaaCanon
import Derived.Deep.RegionHeld3
namespace Go.Proofs.Ytngbpcphkfmncaa
open Go.RowKit Go.ChangeMaps

def tysFo : List Ty → Fo
  | [] => .nil
  | t :: r => .cons t.atom t.kids (tysFo r)

theorem tysFo_len (ts : List Ty) : (tysFo ts).len = ts.length := by
  induction ts with
  | nil => rfl
  | cons t r ih => simp [tysFo, Fo.len, ih]

theorem tysFo_nth : ∀ (ts : List Ty) (j : Nat), (tysFo ts).nth j = (ts[j]?).map fun t => (t.atom, t.kids)
  | [], j => by cases j <;> rfl
  | t :: r, 0 => rfl
  | t :: r, j + 1 => by simp only [tysFo, Fo.nth]; rw [tysFo_nth r j]; simp

theorem tysFo_snoc (ts : List Ty) (t : Ty) : tysFo (ts ++ [t]) = (tysFo ts).snoc t.atom t.kids := by
  induction ts with
  | nil => rfl
  | cons u r ih => simp [tysFo, Fo.snoc, ih]

/-- whatever is there -/
def Old (w : World) : Nat → Prop := fun b => b < w.heap.size

theorem Sl.old {w w' : World} {A : Option Addr} {k : Fo} (h : Sl w (Old w) A k) (hf : Fr No w w') : Sl w' (Old w') A k :=
  h.mono (fun _ hb => Nat.lt_of_lt_of_le hb hf.size) (fun b hb => hf.block b hb (fun h => h))

theorem Sl.in_old {w : World} {T : Nat → Prop} {A : Option Addr} {k : Fo} (h : Sl w T A k) (hT : ∀ b, T b → b < w.heap.size) : Sl w (Old w) A k :=
  h.mono hT (fun _ _ => rfl)

theorem SSl.fr {w w' : World} {A : Option Addr} {xs : List (List UInt8)} (h : SSl w A xs) (hf : Fr No w w') : SSl w' A xs := by
  intro j x hj
  obtain ⟨g, o, e, hc⟩ := h j x hj
  exact ⟨g, o, e, (hf.cell (p := ⟨g, o + j, none⟩) (block_lt hc) (fun h => h)).trans hc⟩

def namesOf (ms : List (Nat × Ty)) : List (List UInt8) := ms.map fun p => [Ty.letter p.1]

theorem Sl.mk3 {w : World} {T : Nat → Prop} {g o : Nat} {a0 a1 a2 : List UInt8} {k0 k1 k2 : Fo} {A0 A1 A2 : Option Addr} {c0 c1 c2 : Nat} (hT : T g)
    (h0 : w.cell? ⟨g, o, none⟩ = some (S a0)) (h1 : w.cell? ⟨g, o + 1, none⟩ = some (.slice A0 k0.len c0)) (h2 : w.cell? ⟨g, o + 2, none⟩ = some (S a1)) (h3 : w.cell? ⟨g, o + 3, none⟩ = some (.slice A1 k1.len c1))
    (h4 : w.cell? ⟨g, o + 4, none⟩ = some (S a2)) (h5 : w.cell? ⟨g, o + 5, none⟩ = some (.slice A2 k2.len c2)) (s0 : Sl w T A0 k0) (s1 : Sl w T A1 k1) (s2 : Sl w T A2 k2) :
    Sl w T (some ⟨g, o, none⟩) (.cons a0 k0 (.cons a1 k1 (.cons a2 k2 .nil))) := by
  refine .inr ⟨g, o, [S a0, .slice A0 k0.len c0, S a1, .slice A1 k1.len c1, S a2, .slice A2 k2.len c2], rfl, hT, ⟨A0, c0, _, rfl, s0, A1, c1, _, rfl, s1, A2, c2, [], rfl, s2, rfl⟩, ?_⟩
  intro j u hj
  match j with
  | 0 => simp at hj; subst hj; exact h0
  | 1 => simp at hj; subst hj; exact h1
  | 2 => simp at hj; subst hj; exact h2
  | 3 => simp at hj; subst hj; exact h3
  | 4 => simp at hj; subst hj; exact h4
  | 5 => simp at hj; subst hj; exact h5
  | j + 6 => simp at hj

/-- what was told, or what is new -/
def TN (T : Nat → Prop) (w w' : World) : Nat → Prop := fun b => T b ∨ (w.heap.size ≤ b ∧ b < w'.heap.size)

def PutR (T : Nat → Prop) (ms : List (Nat × Ty)) (t : Ty) (w : World) (e : Ending) (w' : World) : Prop :=
  ∃ A' c', e = .returned (.agg #[S (t.put (asg ms)).atom, .slice A' (t.put (asg ms)).kids.len c']) ∧ Fr No w w' ∧ Sl w' (TN T w w') A' (t.put (asg ms)).kids

def PutT (ms : List (Nat × Ty)) (t : Ty) : Prop := ∀ (T : Nat → Prop) (w : World) (A N B : Option Addr) (c nc bc n : Nat), n = ms.length → (∀ b, T b → b < w.heap.size) → Sl w T A t.kids → SSl w N (namesOf ms) → Sl w T B (tysFo (ms.map Prod.snd)) →
  Calls Try.prog 42 #[.agg #[S t.atom, .slice A t.kids.len c], .slice N n nc, .slice B n bc] w fun e w' => PutR T ms t w e w'

theorem no_more {ms : List (Nat × Ty)} {j k : Nat} {p : Nat × Ty} (h : ∀ p ∈ ms.take j, p.1 ≠ k) (hj : ms[j]? = some p) (hp : p.1 ≠ k) : ∀ p ∈ ms.take (j + 1), p.1 ≠ k := by
  intro x hx
  rw [List.take_add_one, hj] at hx
  rcases List.mem_append.1 hx with hx | hx
  · exact h x hx
  · simp at hx; subst hx; exact hp

theorem res2_done {w w1 : World} {o o' : Obj} {v0 v1 : Value} (hf : Fr No ((w.alloc o).alloc o') w1) : Fr No w ((w1.setCell ⟨w.heap.size + 1, 0, none⟩ v0).setCell ⟨w.heap.size + 1, 1, none⟩ v1) :=
  (((((Fr.refl No w).alloc o).alloc o').trans hf).setCell (p := ⟨w.heap.size + 1, 0, none⟩) (.inr (Nat.le_succ _)) _).setCell (p := ⟨w.heap.size + 1, 1, none⟩) (.inr (Nat.le_succ _)) _

theorem Fr.res {w w1 : World} {g : Nat} {v0 v1 : Value} (hf : Fr No w w1) (hg : w.heap.size ≤ g) : Fr No w ((w1.setCell ⟨g, 0, none⟩ v0).setCell ⟨g, 1, none⟩ v1) :=
  (hf.setCell (p := ⟨g, 0, none⟩) (.inr hg) _).setCell (p := ⟨g, 1, none⟩) (.inr hg) _

/-- the result's cells are none of a tree's -/
theorem Sl.res {w1 : World} {T T' : Nat → Prop} {A : Option Addr} {k : Fo} {g : Nat} {v0 v1 : Value} (h : Sl w1 T A k) (hg : ¬ T g) (hT : ∀ b, T b → T' b) : Sl ((w1.setCell ⟨g, 0, none⟩ v0).setCell ⟨g, 1, none⟩ v1) T' A k := by
  refine h.mono hT (fun b hb => ?_)
  have hne : b ≠ g := by rintro rfl; exact hg hb
  rw [Below.heap_setCell _ _ _ _ hne, Below.heap_setCell _ _ _ _ hne]

theorem Sl.keepT {w w' : World} {T : Nat → Prop} {A : Option Addr} {k : Fo} (h : Sl w T A k) (hT : ∀ b, T b → b < w.heap.size) (hf : Fr No w w') : Sl w' T A k :=
  h.mono (fun _ h => h) (fun b hb => hf.block b (hT b hb) (fun h => h))

set_option maxRecDepth 100000 in
set_option maxHeartbeats 1000000 in
theorem put_tv (ms : List (Nat × Ty)) (hms : ∀ p ∈ ms, p.1 < 25) (hml : ms.length ≤ 1000) (k : Nat) (hk : k < 25) : PutT ms (.v k) := by
  intro T w A N B c nc bc n hn hT hA hN hB
  simp only [Ty.atom, Ty.kids, Fo.len]
  have b0 := (Blk.new w 68 #[S [Ty.letter k], .slice A 0 c]).alloc (.cells #[S [], .slice none 0 0] 68)
  have b1 : Blk ((w.alloc (.cells #[S [Ty.letter k], .slice A 0 c] 68)).alloc (.cells #[S [], .slice none 0 0] 68)) (w.heap.size + 1) 68 #[S [], .slice none 0 0] := Blk.new_at _ _ _ (by simp)
  have hf0 : Fr No w ((w.alloc (.cells #[S [Ty.letter k], .slice A 0 c] 68)).alloc (.cells #[S [], .slice none 0 0] 68)) := ((Fr.refl _ _).alloc _).alloc _
  have hl : (n : Int) ≤ 1000 := by omega
  have FOUND : Hid (∀ (j : Nat) (p : Nat × Ty), ms[j]? = some p → (∀ p ∈ ms.take j, p.1 ≠ k) → p.1 = k → (Ty.v k).put (asg ms) = p.2) := by
    intro j p hj hno hp
    subst hp
    simp [Ty.put, asg_at hno hj]
  have NONE : Hid ((∀ p ∈ ms.take n, p.1 ≠ k) → (Ty.v k).put (asg ms) = .v k) := by
    intro h
    rw [hn, List.take_length] at h
    simp [Ty.put, asg_none.2 h]
  have NAMES : Hid (∀ (w' : World) (j : Nat) (p : Nat × Ty), Fr No w w' → ms[j]? = some p → ∃ g o, N = some ⟨g, o, none⟩ ∧ w'.cell? ⟨g, o + j, none⟩ = some (S [Ty.letter p.1])) := by
    intro w' j p hf hj
    exact (hN.fr hf) j [Ty.letter p.1] (by simp [namesOf, hj])
  have BYS : Hid (∀ (w' : World) (j : Nat) (p : Nat × Ty), Fr No w w' → ms[j]? = some p → ∃ g o A' c', B = some ⟨g, o, none⟩ ∧ w'.cell? ⟨g, o + j * 2, none⟩ = some (S p.2.atom) ∧ w'.cell? ⟨g, o + j * 2 + 1, none⟩ = some (.slice A' p.2.kids.len c') ∧ Sl w T A' p.2.kids ∧ g < w'.heap.size) := by
    intro w' j p hf hj
    have hjl := (List.getElem?_eq_some_iff.1 hj).1
    obtain ⟨g, o, a', k', A', c', e, hg, hnth, g1, g2, g3⟩ := hB.nth (j := j) (by rw [tysFo_len]; simpa using hjl)
    rw [tysFo_nth, List.getElem?_map, hj] at hnth
    simp at hnth
    obtain ⟨rfl, rfl⟩ := hnth
    have hgl := hT g hg
    exact ⟨g, o, A', c', e, (hf.cell (p := ⟨g, o + j * 2, none⟩) hgl (fun h => h)).trans g1, (hf.cell (p := ⟨g, o + j * 2 + 1, none⟩) hgl (fun h => h)).trans g2, g3, Nat.lt_of_lt_of_le hgl hf.size⟩
  have MS := Lib.hid hms
  have HN := Lib.hid hn
  have hx : isVar [Ty.letter k] = true := isVar_letter hk
  clear hN hB hA hms hn hx
  go_enter Try.func42, Try.ntmps42
  go_wp2_with fail
  generalize ((w.alloc (.cells #[S [Ty.letter k], .slice A 0 c] 68)).alloc (.cells #[S [], .slice none 0 0] 68)) = W at b0 b1 hf0 ⊢
  go_loopw [7] (fun u wr => ∃ (j : Nat), j ≤ n ∧ u = .int .i64 j ∧ (∀ p ∈ ms.take j, p.1 ≠ k) ∧ Fr No W wr) (fun u _ => n - (intOf u).toNat)
  case atStart => exact ⟨0, Nat.zero_le _, rfl, by simp, Fr.refl _ _⟩
  case round =>
    obtain ⟨j, hj, rfl, hno, hfr⟩ := hrel
    have HNO := Lib.hid hno
    have HFR := Lib.hid hfr
    have d0 := b0.fr hfr (fun h => h)
    have d1 := b1.fr hfr (fun h => h)
    have c0 : wr.cell? ⟨w.heap.size, 0, none⟩ = some (S [Ty.letter k]) := (d0.cell 0).trans rfl
    have c1 : wr.cell? ⟨w.heap.size, 1, none⟩ = some (.slice A 0 c) := (d0.cell 1).trans rfl
    have r0 : wr.cell? ⟨w.heap.size + 1, 0, none⟩ = some (S []) := (d1.cell 0).trans rfl
    have r1 : wr.cell? ⟨w.heap.size + 1, 1, none⟩ = some (.slice none 0 0) := (d1.cell 1).trans rfl
    have f0 := d1.frozen 0
    have f1 := d1.frozen 1
    have l0 := d0.lt
    have l1 := d1.lt
    clear hno hfr d0 d1
    by_cases hlt : j < n
    · obtain ⟨p, hp⟩ : ∃ p, ms[j]? = some p := ⟨_, List.getElem?_eq_getElem (by have := HN.out; omega)⟩
      obtain ⟨g, o, rfl, hname⟩ := NAMES.out wr j p (hf0.trans HFR.out) hp
      by_cases hpk : p.1 = k
      · obtain ⟨g', o', A', c', rfl, q0, q1, hsl, hgl⟩ := BYS.out wr j p (hf0.trans HFR.out) hp
        have HE := Lib.hid (FOUND.out j p hp HNO.out hpk)
        have HSL := Lib.hid hsl
        rw [hpk] at hname
        clear hpk hp hsl
        go_wp2_with fail
        go_region
        all_goals go_wp2_with fail
        refine bodyPost_ret (v := .agg #[S p.2.atom, .slice A' p.2.kids.len c']) (by simp [results, Try.results42, go_sem, cell_set_same r0, cell_set_next r1]) rfl ?_
        refine ⟨A', c', by rw [HE.out], ((hf0.trans HFR.out).res (Nat.le_succ _)).drew, ?_⟩
        rw [HE.out]
        have HX : Sl wr T A' p.2.kids := HSL.out.keepT hT (hf0.trans HFR.out)
        have hg : ¬ T (w.heap.size + 1) := fun h => by have := hT _ h; omega
        exact (Sl.res (T' := T) HX hg (fun _ h => h)).mono (fun _ h => Or.inl h) (fun _ _ => rfl)
      · have hne : ([Ty.letter p.1] == [Ty.letter k]) = false := by
          have := MS.out p (List.mem_of_getElem? hp)
          simp
          exact fun e => hpk (Ty.letter_inj this hk e)
        have HM := Lib.hid (no_more HNO.out hp hpk)
        clear hpk hp
        go_wp2_with fail
        go_region
        all_goals go_wp2_with fail
        go_roundw
        case rel => exact ⟨j + 1, by omega, by go_num, HM.out, HFR.out.drew⟩
        case measure => simp [intOf]; omega
    · have hjn : j = n := by omega
      subst hjn
      have HE := Lib.hid (NONE.out HNO.out)
      go_wp2_with fail
      refine bodyPost_ret (v := .agg #[S [Ty.letter k], .slice A 0 c]) (by simp [results, Try.results42, go_sem, cell_set_same r0, cell_set_next r1]) rfl ?_
      refine ⟨A, c, by rw [HE.out]; rfl, (hf0.trans HFR.out).res (Nat.le_succ _), ?_⟩
      rw [HE.out]
      exact .inl rfl

set_option maxRecDepth 100000 in
set_option maxHeartbeats 1000000 in
theorem put_to (ms : List (Nat × Ty)) (hms : ∀ p ∈ ms, p.1 < 25) (hml : ms.length ≤ 1000) : PutT ms .o := by
  intro T w A N B c nc bc n hn hT hA hN hB
  simp only [Ty.atom, Ty.kids, Fo.len]
  have b0 := (Blk.new w 68 #[S [111], .slice A 0 c]).alloc (.cells #[S [], .slice none 0 0] 68)
  have b1 : Blk ((w.alloc (.cells #[S [111], .slice A 0 c] 68)).alloc (.cells #[S [], .slice none 0 0] 68)) (w.heap.size + 1) 68 #[S [], .slice none 0 0] := Blk.new_at _ _ _ (by simp)
  have hf0 : Fr No w ((w.alloc (.cells #[S [111], .slice A 0 c] 68)).alloc (.cells #[S [], .slice none 0 0] 68)) := ((Fr.refl _ _).alloc _).alloc _
  have hl : (n : Int) ≤ 1000 := by omega
  have NAMES : Hid (∀ (w' : World) (j : Nat) (p : Nat × Ty), Fr No w w' → ms[j]? = some p → ∃ g o, N = some ⟨g, o, none⟩ ∧ w'.cell? ⟨g, o + j, none⟩ = some (S [Ty.letter p.1])) := by
    intro w' j p hf hj
    exact (hN.fr hf) j [Ty.letter p.1] (by simp [namesOf, hj])
  have MS := Lib.hid hms
  have HN := Lib.hid hn
  clear hN hB hA hms hn
  go_enter Try.func42, Try.ntmps42
  go_wp2_with fail
  generalize ((w.alloc (.cells #[S [111], .slice A 0 c] 68)).alloc (.cells #[S [], .slice none 0 0] 68)) = W at b0 b1 hf0 ⊢
  go_loopw [7] (fun u wr => ∃ (j : Nat), j ≤ n ∧ u = .int .i64 j ∧ Fr No W wr) (fun u _ => n - (intOf u).toNat)
  case atStart => exact ⟨0, Nat.zero_le _, rfl, Fr.refl _ _⟩
  case round =>
    obtain ⟨j, hj, rfl, hfr⟩ := hrel
    have HFR := Lib.hid hfr
    have d0 := b0.fr hfr (fun h => h)
    have d1 := b1.fr hfr (fun h => h)
    have c0 : wr.cell? ⟨w.heap.size, 0, none⟩ = some (S [111]) := (d0.cell 0).trans rfl
    have c1 : wr.cell? ⟨w.heap.size, 1, none⟩ = some (.slice A 0 c) := (d0.cell 1).trans rfl
    have r0 : wr.cell? ⟨w.heap.size + 1, 0, none⟩ = some (S []) := (d1.cell 0).trans rfl
    have r1 : wr.cell? ⟨w.heap.size + 1, 1, none⟩ = some (.slice none 0 0) := (d1.cell 1).trans rfl
    have f0 := d1.frozen 0
    have f1 := d1.frozen 1
    have l0 := d0.lt
    have l1 := d1.lt
    clear hfr d0 d1
    by_cases hlt : j < n
    · obtain ⟨p, hp⟩ : ∃ p, ms[j]? = some p := ⟨_, List.getElem?_eq_getElem (by have := HN.out; omega)⟩
      obtain ⟨g, o, rfl, hname⟩ := NAMES.out wr j p (hf0.trans HFR.out) hp
      have hne : ([Ty.letter p.1] == [111]) = false := by
        have := (Ty.letter_ne (MS.out p (List.mem_of_getElem? hp))).1
        simp
        exact this
      clear hp
      go_wp2_with fail
      go_region
      all_goals go_wp2_with fail
      go_roundw
      case rel => exact ⟨j + 1, by omega, by go_num, HFR.out.drew⟩
      case measure => simp [intOf]; omega
    · go_wp2_with fail
      refine bodyPost_ret (v := .agg #[S [111], .slice A 0 c]) (by simp [results, Try.results42, go_sem, cell_set_same r0, cell_set_next r1]) rfl ?_
      exact ⟨A, c, rfl, (hf0.trans HFR.out).res (Nat.le_succ _), .inl rfl⟩

set_option maxHeartbeats 400000 in
theorem list_any (A : Option Addr) (n c : Nat) (w : World) :
    Calls Try.prog 68 #[.slice A n c] w fun e w' => e = .returned (.agg #[S [], .slice A n c]) ∧ Fr No w w' := by
  go_enter Try.func68, Try.ntmps68
  go_wp2_with fail
  exact bodyPost_ret (v := .agg #[S [], .slice A n c]) (by simp [results, Try.results68, go_sem]) rfl ⟨rfl, (Fr.refl _ _).alloc _⟩
end Go.Proofs.Ytngbpcphkfmncaa
