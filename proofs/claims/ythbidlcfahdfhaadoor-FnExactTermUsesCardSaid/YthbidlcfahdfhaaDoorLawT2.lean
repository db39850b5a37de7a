/- The law TermUses. -/
import Derived.Test.YthbidlcfahdfhaaDoorS2use
import Derived.Test.YthbidlcfahdfhaaDoorLawT1
namespace Go.Proofs.YthbidlcfahdfhaaDoor
open Go.RowKit Go.ChangeMaps

theorem uses_any (x : List UInt8) (N : Nat) : ∀ k : Fo, SizeOf.sizeOf k < N → UseSaid x k := by
  induction N with
  | zero => intro k h; omega
  | succ N ih =>
    intro k hN a A c w T htm hs hT h
    by_cases he : a = []
    · subst he
      have h2 : isTms none k = true := by simpa [isTm] using htm
      have e1 : usT x [] k = usU x k .top := by simp [usT]
      have e2 : treeSize [] k = k.size := by simp [treeSize]
      rw [e1]
      rw [e2] at hs
      cases k with
      | nil => cases h2
      | cons g k0 r => exact uses_node x g k0 r (fun a' k' j hn => ih k' (by have := Fo.nth_small _ j a' k' hn; omega)) A c w T h2 hs hT h
    · have hae : a.isEmpty = false := by cases a; exact absurd rfl he; rfl
      have e1 : usT x a k = if a = x then 1 else 0 := by simp [usT, he]
      rw [e1]
      generalize k.len = n
      clear e1 hs h htm
      by_cases hx : a = x
      · subst hx
        rw [if_pos rfl]
        go_enter Tryd.func43, Tryd.ntmps43
        go_wp2_with fail
        go_ret
        exact ⟨rfl, (Fr.refl _ _).alloc _⟩
      · have hne : (a == x) = false := beq_eq_false_iff_ne.2 hx
        rw [if_neg hx]
        clear hx
        go_enter Tryd.func43, Tryd.ntmps43
        go_wp2_with fail
        go_ret
        exact ⟨rfl, (Fr.refl _ _).alloc _⟩

/-- names of any length -/
theorem name2_all (a : List UInt8) (w : World) (ha : a.length ≤ maxLen) :
    Calls Tryd.prog 32 #[S a] w fun e w' => e = .returned (.bool (isName a)) ∧ w = w' := by
  by_cases hl : a.length ≤ 6000
  · exact name2_any a w hl
  · unfold maxLen at ha
    have hn : isName a = false := by
      cases a with
      | nil => simp at hl
      | cons c r => simp [isName]; intro h; simp at hl; omega
    rw [hn]
    have hl4 : 4 < a.length := by omega
    clear hn hl
    go_enter Tryd.func32, Tryd.ntmps32
    go_wp2_with fail
    refine (in_no _ w (.inr (by omega))).mono ?_
    rintro e w' ⟨rfl, rfl⟩
    go_wp2_with fail
    go_ret
    exact ⟨rfl, rfl⟩

set_option maxHeartbeats 1000000 in
theorem specTmUses (w : World) (s x : List UInt8) (hs : s.length ≤ maxLen) (hx : x.length ≤ maxLen) :
    Calls Tryd.prog 26 #[S s, S x] w fun e w' => AnsU s x w e w' := by
  have NM := Lib.hid (fun w => name2_all x w hx)
  clear hx
  go_enter Tryd.func26, Tryd.ntmps26
  go_wp2_with fail
  refine (term_any s _ hs).mono ?_
  rintro e w1 ⟨hf, ⟨a, k, A, c, hi, rfl, hsl⟩ | ⟨a, A, m, c, hno, rfl⟩⟩
  · have HI := Lib.hid hi
    have hsl2 : ∀ o : Obj, Sl (w1.alloc o) (New w w1) A k := fun o => hsl.fr (fun b hb => hb.2) ((Fr.refl _ _).alloc o)
    have HS := Lib.hid hsl2
    clear hsl2 hsl hi
    go_wp2_with fail
    refine (NM.out _).mono ?_
    rintro e w2 ⟨rfl, rfl⟩
    rcases hq : isName x with _ | _
    · go_wp2_with fail
      go_ret
      exact ⟨_, rfl, .inr ⟨.inr hq, rfl⟩, hf.alloc _⟩
    · have HQ := Lib.hid hq
      have CALL : Hid (∀ o : Obj, Calls Tryd.prog 43 #[.agg #[S a, .slice A k.len c], S x] (w1.alloc o) fun e w' => e = .returned (.int .i64 (usT x a k : Nat)) ∧ Fr No (w1.alloc o) w') := fun o =>
        uses_any x _ k (Nat.lt_succ_self _) a A c _ (New w w1) HI.out.2.2.1 (by have := HI.out.2.2.2; omega) (fun b hb => by have := hb.2; simp; omega) (HS.out o)
      clear hq
      go_wp2_with fail
      refine (CALL.out _).mono ?_
      rintro e w3 ⟨rfl, hf3⟩
      go_wp2_with fail
      go_ret
      exact ⟨_, rfl, .inl ⟨a, k, HI.out, HQ.out, rfl⟩, (hf.alloc _).trans hf3⟩
  · go_wp2_with fail
    go_ret
    exact ⟨_, rfl, .inr ⟨.inl hno, rfl⟩, hf.alloc _⟩

theorem AnsU.same {s x : List UInt8} {n m : Int} (h1 : (∃ a k, TmOk s a k ∧ isName x = true ∧ n = (usT x a k : Nat)) ∨ (((∀ a k, ¬ TmOk s a k) ∨ isName x = false) ∧ n = -1)) (h2 : (∃ a k, TmOk s a k ∧ isName x = true ∧ m = (usT x a k : Nat)) ∨ (((∀ a k, ¬ TmOk s a k) ∨ isName x = false) ∧ m = -1)) : n = m := by
  rcases h1 with ⟨a, k, h1, q1, e1⟩ | ⟨h1, e1⟩ <;> rcases h2 with ⟨a', k', h2, q2, e2⟩ | ⟨h2, e2⟩
  · obtain ⟨rfl, rfl⟩ := h1.unique h2; rw [e1, e2]
  · rcases h2 with h2 | h2
    · exact absurd h1 (h2 a k)
    · rw [q1] at h2; cases h2
  · rcases h1 with h1 | h1
    · exact absurd h2 (h1 a' k')
    · rw [q2] at h1; cases h1
  · rw [e1, e2]

set_option maxHeartbeats 1000000 in
theorem lawTmUses (w : World) (s x : List UInt8) (hs : s.length ≤ maxLen) (hx : x.length ≤ maxLen) :
    Calls Tryd.prog 9 #[S s, S x] w fun e w' => Yes w e w' := by
  have hs' := hs
  have hx' := hx
  unfold maxLen at hs' hx'
  by_cases hl : 1048576 < s.length
  · have hb : decide ((1048576 : Int) < (s.length : Int)) = true := by simp; omega
    go_enter Tryd.func9, Tryd.ntmps9
    go_wp2_with fail
    go_ret
    exact ⟨rfl, Fr.refl _ _⟩
  · have hb : decide ((1048576 : Int) < (s.length : Int)) = false := by simp; omega
    by_cases hl2 : 1048576 < x.length
    · have hb2 : decide ((1048576 : Int) < (x.length : Int)) = true := by simp; omega
      go_enter Tryd.func9, Tryd.ntmps9
      go_wp2_with fail
      go_ret
      exact ⟨rfl, Fr.refl _ _⟩
    · have hb2 : decide ((1048576 : Int) < (x.length : Int)) = false := by simp; omega
      go_enter Tryd.func9, Tryd.ntmps9
      go_wp2_with fail
      refine (specTmUses _ s x hs hx).mono ?_
      rintro e w1 ⟨b1, rfl, h1, hf1⟩
      go_wp2_with fail
      refine (implTmUses _ s x hs hx).mono ?_
      rintro e w2 ⟨b2, rfl, h2, hf2⟩
      obtain rfl : b1 = b2 := AnsU.same h1 h2
      clear h1 h2
      go_wp2
      go_ret
      exact ⟨rfl, hf1.trans hf2⟩
end Go.Proofs.YthbidlcfahdfhaaDoor
