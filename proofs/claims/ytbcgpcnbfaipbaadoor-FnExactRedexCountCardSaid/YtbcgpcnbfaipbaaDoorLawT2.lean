/- Uses of a name in the model. · The law TermUses. -/
import Derived.Test.YtbcgpcnbfaipbaaDoorTuse
import Derived.Test.YtbcgpcnbfaipbaaDoorS2term
/- Uses of a name in the model. -/
namespace Go.Proofs.YtbcgpcnbfaipbaaDoor
open Go.RowKit Go.ChangeMaps

theorem isTms_at : ∀ (r : Fo) (sh : List Bool) (j : Nat) (a : List UInt8) (k : Fo) (b : Bool), isTms (some sh) r = true → r.nth j = some (a, k) → sh[j]? = some b → okAt b a k = true
  | .nil, _, _, _, _, _, _, h, _ => by cases h
  | .cons a k r, [], j, a', k', b, h, _, _ => by simp [isTms] at h
  | .cons a k r, b0 :: sh, 0, a', k', b, h, hn, hb => by
    simp only [Fo.nth, Option.some.injEq, Prod.mk.injEq] at hn
    obtain ⟨rfl, rfl⟩ := hn
    simp only [List.getElem?_cons_zero, Option.some.injEq] at hb
    subst hb
    cases b0 <;> (simp only [isTms, Bool.and_eq_true] at h; simp [okAt, isTm, h.1])
  | .cons a k r, b0 :: sh, j + 1, a', k', b, h, hn, hb => by
    refine isTms_at r sh j a' k' b ?_ hn (by simpa using hb)
    cases b0 <;> (simp only [isTms, Bool.and_eq_true] at h; exact h.2)

theorem us_step (x : List UInt8) {f : Fo} {j i : Nat} {a h b : List UInt8} {k : Fo} (e : f.nth j = some (a, k)) : usU x (f.from_ j) (.kids h b i) = (if innB h i = true ∧ bndB h b i ≠ x then usT x a k else 0) + usU x (f.from_ (j + 1)) (.kids h b (i + 1)) := by
  rw [Fo.from_nth f j a k e]
  rfl

/-- the model's word whether a part is a term -/
theorem inner_any (w : World) (T : Nat → Prop) (a h : List UInt8) (k0 r : Fo) (A : Option Addr) (c i : Nat) (b : Bool) (hi : 1 ≤ i) (hb : (shapeOf h)[i - 1]? = some b) (hsl : Sl w T A (.cons h k0 r)) :
    Calls Tryd.prog 17 #[.agg #[S a, .slice A (Fo.cons h k0 r).len c], .int .i64 i] w fun e w' => e = .returned (.bool b) ∧ Fr No w w' := by
  obtain ⟨g, o, a', k', A', c', rfl, hg, hn, q0, q1, hsl'⟩ := hsl.nth (j := 0) (by simp [Fo.len])
  simp only [Fo.nth, Option.some.injEq, Prod.mk.injEq] at hn
  obtain ⟨rfl, rfl⟩ := hn
  have n1 : 0 < (Fo.cons h k0 r).len := by simp [Fo.len]
  have hlg := block_lt q0
  rw [show o + 0 * 2 = o by omega] at q0
  have SP : Hid (∀ w, Calls Tryd.prog 22 #[S h] w fun e w' => e = .returned (S ((shapeOf h).map bMX)) ∧ w = w') := fun w => shape_any h w
  have hsh := shape_short h
  obtain ⟨hlt, he⟩ := List.getElem?_eq_some_iff.1 hb
  obtain ⟨j, rfl⟩ : ∃ j, i = j + 1 := ⟨i - 1, by omega⟩
  have hj : j < (shapeOf h).length := hlt
  have BX : Hid (∀ q : j < (ByteArray.mk ((shapeOf h).map bMX).toArray).size, (ByteArray.mk ((shapeOf h).map bMX).toArray)[j]'q = bMX b) := fun q => ba_get ((shapeOf h).map bMX) j q (bMX b) (by rw [List.getElem?_map, show (shapeOf h)[j]? = some b from hb]; rfl)
  have hml : ((shapeOf h).map bMX).length = (shapeOf h).length := by simp
  clear hsl hsl' q1 hb he
  generalize (Fo.cons h k0 r).len = n at n1 ⊢
  generalize shapeOf h = sh at *
  generalize hm : sh.length = m at *
  clear hm hlt
  have hi1 : ((j + 1 : Nat) : Int) - 1 = (j : Int) := by omega
  have hi0 : (0 : Int) < ((j + 1 : Nat) : Int) := by omega
  have hij : (j : Int) < (m : Int) := by omega
  cases b
  · have hgx : ∀ q : j < (ByteArray.mk (sh.map bMX).toArray).size, (ByteArray.mk (sh.map bMX).toArray)[j]'q = 120 := BX.out
    clear BX
    go_enter Tryd.func17, Tryd.ntmps17
    go_wp2_with fail
    refine (SP.out _).mono ?_
    rintro e w1 ⟨rfl, rfl⟩
    go_wp2_with fail
    go_ret
    exact ⟨rfl, (Fr.refl _ _).alloc _⟩
  · have hgx : ∀ q : j < (ByteArray.mk (sh.map bMX).toArray).size, (ByteArray.mk (sh.map bMX).toArray)[j]'q = 109 := BX.out
    clear BX
    go_enter Tryd.func17, Tryd.ntmps17
    go_wp2_with fail
    refine (SP.out _).mono ?_
    rintro e w1 ⟨rfl, rfl⟩
    go_wp2_with fail
    go_ret
    exact ⟨rfl, (Fr.refl _ _).alloc _⟩

end Go.Proofs.YtbcgpcnbfaipbaaDoor

/- The law TermUses. -/
namespace Go.Proofs.YtbcgpcnbfaipbaaDoor
open Go.RowKit Go.ChangeMaps

/-- names of any length -/
theorem name2_all (a : List UInt8) (w : World) (ha : a.length ≤ maxLen) :
    Calls Tryd.prog 21 #[S a] w fun e w' => e = .returned (.bool (isName a)) ∧ w = w' := by
  by_cases hl : a.length ≤ 6000
  · exact name2_any a w hl
  · unfold maxLen at ha
    have hn : isName a = false := by
      cases a with
      | nil => simp at hl
      | cons c r => simp [isName]; intro h; simp at hl; omega
    rw [hn]
    have hl4 : 4 < a.length := by omega
    clear hn hl
    go_enter Tryd.func21, Tryd.ntmps21
    go_wp2_with fail
    refine (in_no _ w (.inr (by omega))).mono ?_
    rintro e w' ⟨rfl, rfl⟩
    go_wp2_with fail
    go_ret
    exact ⟨rfl, rfl⟩

theorem AnsU.same {s x : List UInt8} {n m : Int} (h1 : (∃ a k, TmOk s a k ∧ isName x = true ∧ n = (usT x a k : Nat)) ∨ (((∀ a k, ¬ TmOk s a k) ∨ isName x = false) ∧ n = -1)) (h2 : (∃ a k, TmOk s a k ∧ isName x = true ∧ m = (usT x a k : Nat)) ∨ (((∀ a k, ¬ TmOk s a k) ∨ isName x = false) ∧ m = -1)) : n = m := by
  rcases h1 with ⟨a, k, h1, q1, e1⟩ | ⟨h1, e1⟩ <;> rcases h2 with ⟨a', k', h2, q2, e2⟩ | ⟨h2, e2⟩
  · obtain ⟨rfl, rfl⟩ := h1.unique h2; rw [e1, e2]
  · rcases h2 with h2 | h2
    · exact absurd h1 (h2 a k)
    · rw [q1] at h2; cases h2
  · rcases h1 with h1 | h1
    · exact absurd h2 (h1 a' k')
    · rw [q2] at h1; cases h1
  · rw [e1, e2]

end Go.Proofs.YtbcgpcnbfaipbaaDoor
