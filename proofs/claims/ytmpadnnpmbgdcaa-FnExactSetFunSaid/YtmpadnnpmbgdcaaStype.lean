import Derived.Test.YtmpadnnpmbgdcaaShead
namespace Go.Proofs.Ytmpadnnpmbgdcaa
open Go.RowKit Go.ChangeMaps

def isVar (a : List UInt8) : Bool := match a with | [c] => 97 ≤ c.toNat && c.toNat ≤ 122 && c != 111 | _ => false

theorem atom_var (a : List UInt8) : isAtomTy a = (a == [111] || isVar a) := by
  unfold isAtomTy isVar
  match a with
  | [] => rfl
  | [c] =>
    by_cases h : c = 111
    · subst h; rfl
    · have : (([c] : List UInt8) == [111]) = false := by simp [h]
      simp [this, h]
  | _ :: _ :: _ => simp

set_option maxHeartbeats 1000000 in
theorem var_any (a : List UInt8) (w : World) (ha : a.length ≤ 6000) :
    Calls Try.prog 33 #[S a] w fun e w' => e = .returned (.bool (isVar a)) ∧ w = w' := by
  match a with
  | [] =>
    go_enter Try.func33, Try.ntmps33
    go_wp2
    go_ret
    exact ⟨rfl, rfl⟩
  | [c] =>
    have hlt := c.toNat_lt
    have hv : isVar [c] = (decide (97 ≤ c.toNat) && decide (c.toNat ≤ 122) && (c != 111)) := rfl
    have HV := Lib.hid hv
    clear hv
    have hg : ∀ h : 0 < (ByteArray.mk #[c]).size, (ByteArray.mk #[c])[0]'h = c := fun h => rfl
    by_cases h1 : 97 ≤ c.toNat
    · by_cases h2 : c.toNat ≤ 122
      · by_cases h3 : c = 111
        · subst h3
          go_enter Try.func33, Try.ntmps33
          go_wp2
          go_ret
          exact ⟨rfl, rfl⟩
        · have n3 : (([c] : List UInt8) == [111]) = false := by simp [h3]
          go_enter Try.func33, Try.ntmps33
          go_wp2
          go_ret
          exact ⟨ret_bool (by simp [isVar, h1, h2, h3]), rfl⟩
      · have g2 : (122 : Int) < (c.toNat : Int) := by omega
        go_enter Try.func33, Try.ntmps33
        go_wp2
        go_ret
        exact ⟨ret_bool (by simp [isVar, h2]), rfl⟩
    · have g1 : (c.toNat : Int) < 97 := by omega
      go_enter Try.func33, Try.ntmps33
      go_wp2
      go_ret
      exact ⟨ret_bool (by simp [isVar, h1]), rfl⟩
  | c :: c' :: a =>
    simp at ha
    have n1 : ((a.length : Int) + 1 + 1 == 1) = false := beq_eq_false_iff_ne.2 (by omega)
    go_enter Try.func33, Try.ntmps33
    go_wp2
    go_ret
    exact ⟨rfl, rfl⟩

theorem isTy_atom {a : List UInt8} (ha : a ≠ []) (k : Fo) : isTy a k = isAtomTy a := by
  unfold isTy
  split <;> simp [ha]

theorem isTy_other {k : Fo} (h : ∀ a0 k0 a1 k1 a2 k2, k ≠ .cons a0 k0 (.cons a1 k1 (.cons a2 k2 .nil))) : isTy [] k = false := by
  unfold isTy
  split
  · exact absurd rfl (h _ _ _ _ _ _)
  · simp

def IsSaid (k : Fo) : Prop := ∀ (a : List UInt8) (A : Option Addr) (c : Nat) (w : World) (T : Nat → Prop), a.length ≤ 6000 → k.atoms → (∀ b, T b → b < w.heap.size) → Sl w T A k →
  Calls Try.prog 60 #[.agg #[S a, .slice A k.len c]] w fun e w' => e = .returned (.bool (isTy a k)) ∧ Fr No w w'

set_option maxHeartbeats 1000000 in
theorem is_atom (k : Fo) (a : List UInt8) (ha : a ≠ []) (A : Option Addr) (n c : Nat) (w : World) (hl : a.length ≤ 6000) :
    Calls Try.prog 60 #[.agg #[S a, .slice A n c]] w fun e w' => e = .returned (.bool (isTy a k)) ∧ Fr No w w' := by
  rw [isTy_atom ha, atom_var]
  have hae : a.isEmpty = false := by cases a; exact absurd rfl ha; rfl
  by_cases h1 : a = [111]
  · subst h1
    go_enter Try.func60, Try.ntmps60
    go_wp2
    go_ret
    exact ⟨rfl, (Fr.refl _ _).alloc _⟩
  · have n1 : (a == [111]) = false := by simpa using h1
    go_enter Try.func60, Try.ntmps60
    go_wp2_with fail
    refine (var_any a _ hl).mono ?_
    rintro e w' ⟨rfl, rfl⟩
    go_wp2
    go_ret
    exact ⟨ret_bool (by simp [n1]), (Fr.refl _ _).alloc _⟩

set_option maxHeartbeats 1000000 in
theorem is_bad (k : Fo) (A : Option Addr) (c : Nat) (w : World) (T : Nat → Prop) (hT : ∀ b, T b → b < w.heap.size) (h : Sl w T A k) (hb : (headOf [] k ≠ [62] ∧ headOf [] k ≠ [42]) ∨ k.len ≠ 3) :
    Calls Try.prog 60 #[.agg #[S [], .slice A k.len c]] w fun e w' => e = .returned (.bool (isTy [] k)) ∧ Fr No w w' := by
  have hfin : isTy [] k = false := by
    by_cases h3 : k.len = 3
    · obtain ⟨a0, k0, a1, k1, a2, k2, rfl⟩ := len3 h3
      rcases hb with ⟨h1, h2⟩ | hb
      · have e1 : a0 ≠ [62] := h1
        have e2 : a0 ≠ [42] := h2
        simp [isTy, e1, e2]
      · exact absurd h3 hb
    · exact isTy_other (fun a0 k0 a1 k1 a2 k2 e => h3 (by rw [e]; rfl))
  rw [hfin]
  have hsl : ∀ o : Obj, Sl (w.alloc o) T A k := fun o => h.fr hT ((Fr.refl _ _).alloc o)
  have HS := Lib.hid hsl
  clear hsl
  by_cases h1 : headOf [] k = [62] ∨ headOf [] k = [42]
  · have h3 : k.len ≠ 3 := by
      rcases hb with ⟨e1, e2⟩ | hb
      · rcases h1 with h1 | h1
        · exact absurd h1 e1
        · exact absurd h1 e2
      · exact hb
    have n3 : ((k.len : Int) == 3) = false := beq_eq_false_iff_ne.2 (by omega)
    clear hb h3
    rcases h1 with h1 | h1
    · have H1 := Lib.hid h1
      clear h1
      go_enter Try.func60, Try.ntmps60
      go_wp2_with fail
      refine (head_any _ T [] k A c (HS.out _)).mono ?_
      rintro e w1 ⟨rfl, hf⟩
      rw [H1.out]
      have c1 : w1.cell? ⟨w.heap.size, 1, none⟩ = some (.slice A k.len c) := (((Blk.new w 47 #[S [], .slice A k.len c]).fr hf (fun h => h)).cell 1).trans rfl
      have hfr : Fr No w w1 := ((Fr.refl No w).alloc _).trans hf
      go_wp2
      go_ret
      exact ⟨rfl, hfr⟩
    · have H1 := Lib.hid h1
      clear h1
      go_enter Try.func60, Try.ntmps60
      go_wp2_with fail
      refine (head_any _ T [] k A c (HS.out _)).mono ?_
      rintro e w1 ⟨rfl, hf⟩
      rw [H1.out]
      have c1 : w1.cell? ⟨w.heap.size, 1, none⟩ = some (.slice A k.len c) := (((Blk.new w 47 #[S [], .slice A k.len c]).fr hf (fun h => h)).cell 1).trans rfl
      have hfr : Fr No w w1 := ((Fr.refl No w).alloc _).trans hf
      go_wp2
      go_ret
      exact ⟨rfl, hfr⟩
  · obtain ⟨hd, hhd⟩ : ∃ hd, hd = headOf [] k := ⟨_, rfl⟩
    rw [← hhd] at h1
    have H1 := Lib.hid hhd
    have n1 : (hd == [62]) = false := by simp; exact fun e => h1 (.inl e)
    have n2 : (hd == [42]) = false := by simp; exact fun e => h1 (.inr e)
    clear h1 hb hhd
    go_enter Try.func60, Try.ntmps60
    go_wp2_with fail
    refine (head_any _ T [] k A c (HS.out _)).mono ?_
    rintro e w1 ⟨rfl, hf⟩
    rw [← H1.out]
    have hfr : Fr No w w1 := ((Fr.refl No w).alloc _).trans hf
    go_wp2
    go_ret
    exact ⟨rfl, hfr⟩

set_option maxHeartbeats 1000000 in
theorem is_three (sg : List UInt8) (hsg : sg = [62] ∨ sg = [42]) (k0 : Fo) (a1 : List UInt8) (k1 : Fo) (a2 : List UInt8) (k2 : Fo) (A : Option Addr) (c : Nat) (w : World) (T : Nat → Prop) (hT : ∀ b, T b → b < w.heap.size)
    (h : Sl w T A (.cons sg k0 (.cons a1 k1 (.cons a2 k2 .nil)))) (l1 : a1.length ≤ 6000) (l2 : a2.length ≤ 6000) (at1 : k1.atoms) (at2 : k2.atoms) (h1 : IsSaid k1) (h2 : IsSaid k2) :
    Calls Try.prog 60 #[.agg #[S [], .slice A 3 c]] w fun e w' => e = .returned (.bool (isTy a1 k1 && isTy a2 k2)) ∧ Fr No w w' := by
  have hsl : ∀ o : Obj, Sl (w.alloc o) T A (.cons sg k0 (.cons a1 k1 (.cons a2 k2 .nil))) := fun o => h.fr hT ((Fr.refl _ _).alloc o)
  have HS := Lib.hid hsl
  have H1 := Lib.hid h1
  have H2 := Lib.hid h2
  clear hsl h1 h2
  obtain ⟨g, o, A0, c0, A1, c1, A2, c2, rfl, hg, q0, q1, q2, q3, q4, q5, s0, s1, s2, hl⟩ := h.three
  have H3 : Hid (∀ w' : World, Fr No w w' → w'.cell? ⟨g, o + 2, none⟩ = some (S a1) ∧ w'.cell? ⟨g, o + 3, none⟩ = some (.slice A1 k1.len c1) ∧ w'.cell? ⟨g, o + 4, none⟩ = some (S a2) ∧ w'.cell? ⟨g, o + 5, none⟩ = some (.slice A2 k2.len c2) ∧ g < w'.heap.size) :=
    fun w' hf => ⟨(hf.cell (p := ⟨g, o + 2, none⟩) hl (fun h => h)).trans q2, (hf.cell (p := ⟨g, o + 3, none⟩) hl (fun h => h)).trans q3, (hf.cell (p := ⟨g, o + 4, none⟩) hl (fun h => h)).trans q4, (hf.cell (p := ⟨g, o + 5, none⟩) hl (fun h => h)).trans q5, Nat.lt_of_lt_of_le hl hf.size⟩
  clear q0 q1 q2 q3 q4 q5
  rcases hsg with rfl | rfl
  · go_enter Try.func60, Try.ntmps60
    go_wp2_with fail
    refine (head_any _ T [] _ _ c (HS.out _)).mono ?_
    rintro e w1 ⟨rfl, hf⟩
    have b1 := (Blk.new w 47 #[S [], .slice (some ⟨g, o, none⟩) 3 c]).fr hf (fun h => h)
    have d1 : w1.cell? ⟨w.heap.size, 1, none⟩ = some (.slice (some ⟨g, o, none⟩) 3 c) := (b1.cell 1).trans rfl
    have hfr : Fr No w w1 := ((Fr.refl No w).alloc _).trans hf
    obtain ⟨q2, q3, q4, q5, q6⟩ := H3.out w1 hfr
    rw [show headOf [] (.cons [62] k0 (.cons a1 k1 (.cons a2 k2 .nil))) = [62] from rfl]
    go_wp2_with fail
    refine (H1.out a1 A1 c1 w1 T l1 at1 (fun b hb => Nat.lt_of_lt_of_le (hT b hb) hfr.size) (s1.fr hT hfr)).mono ?_
    rintro e w2 ⟨rfl, hf2⟩
    have hfr2 := hfr.trans hf2
    have b2 := b1.fr hf2 (fun h => h)
    have d2 : w2.cell? ⟨w.heap.size, 1, none⟩ = some (.slice (some ⟨g, o, none⟩) 3 c) := (b2.cell 1).trans rfl
    obtain ⟨p2, p3, p4, p5, p6⟩ := H3.out w2 hfr2
    clear q2 q3 q4 q5 q6 d1 b1 b2
    rcases hb : isTy a1 k1 with _ | _
    · go_wp2
      go_ret
      exact ⟨ret_bool (by simp [hb]), hfr2⟩
    · go_wp2_with fail
      refine (H2.out a2 A2 c2 w2 T l2 at2 (fun b hb => Nat.lt_of_lt_of_le (hT b hb) hfr2.size) (s2.fr hT hfr2)).mono ?_
      rintro e w3 ⟨rfl, hf3⟩
      go_wp2
      go_ret
      exact ⟨ret_bool (by simp [hb]), hfr2.trans hf3⟩
  · go_enter Try.func60, Try.ntmps60
    go_wp2_with fail
    refine (head_any _ T [] _ _ c (HS.out _)).mono ?_
    rintro e w1 ⟨rfl, hf⟩
    have b1 := (Blk.new w 47 #[S [], .slice (some ⟨g, o, none⟩) 3 c]).fr hf (fun h => h)
    have d1 : w1.cell? ⟨w.heap.size, 1, none⟩ = some (.slice (some ⟨g, o, none⟩) 3 c) := (b1.cell 1).trans rfl
    have hfr : Fr No w w1 := ((Fr.refl No w).alloc _).trans hf
    obtain ⟨q2, q3, q4, q5, q6⟩ := H3.out w1 hfr
    rw [show headOf [] (.cons [42] k0 (.cons a1 k1 (.cons a2 k2 .nil))) = [42] from rfl]
    go_wp2_with fail
    refine (H1.out a1 A1 c1 w1 T l1 at1 (fun b hb => Nat.lt_of_lt_of_le (hT b hb) hfr.size) (s1.fr hT hfr)).mono ?_
    rintro e w2 ⟨rfl, hf2⟩
    have hfr2 := hfr.trans hf2
    have b2 := b1.fr hf2 (fun h => h)
    have d2 : w2.cell? ⟨w.heap.size, 1, none⟩ = some (.slice (some ⟨g, o, none⟩) 3 c) := (b2.cell 1).trans rfl
    obtain ⟨p2, p3, p4, p5, p6⟩ := H3.out w2 hfr2
    clear q2 q3 q4 q5 q6 d1 b1 b2
    rcases hb : isTy a1 k1 with _ | _
    · go_wp2
      go_ret
      exact ⟨ret_bool (by simp [hb]), hfr2⟩
    · go_wp2_with fail
      refine (H2.out a2 A2 c2 w2 T l2 at2 (fun b hb => Nat.lt_of_lt_of_le (hT b hb) hfr2.size) (s2.fr hT hfr2)).mono ?_
      rintro e w3 ⟨rfl, hf3⟩
      go_wp2
      go_ret
      exact ⟨ret_bool (by simp [hb]), hfr2.trans hf3⟩

/-- Whether a tree is a type. -/
theorem is_any (N : Nat) : ∀ k : Fo, SizeOf.sizeOf k < N → IsSaid k := by
  induction N with
  | zero => intro k h; omega
  | succ N ih =>
    intro k hN a A c w T ha hat hT h
    by_cases he : a = []
    · subst he
      by_cases hb : (headOf [] k ≠ [62] ∧ headOf [] k ≠ [42]) ∨ k.len ≠ 3
      · exact is_bad k A c w T hT h hb
      · have h3 : k.len = 3 := Classical.byContradiction fun h3 => hb (.inr h3)
        obtain ⟨a0, k0, a1, k1, a2, k2, rfl⟩ := len3 h3
        have hsg : a0 = [62] ∨ a0 = [42] := by
          rcases Classical.em (a0 = [62]) with h1 | h1
          · exact .inl h1
          · rcases Classical.em (a0 = [42]) with h2 | h2
            · exact .inr h2
            · exact absurd (.inl ⟨h1, h2⟩) hb
        have e : isTy [] (.cons a0 k0 (.cons a1 k1 (.cons a2 k2 .nil))) = (isTy a1 k1 && isTy a2 k2) := by
          rcases hsg with rfl | rfl <;> simp [isTy]
        rw [e]
        simp only [Fo.cons.sizeOf_spec] at hN
        exact is_three a0 hsg k0 a1 k1 a2 k2 A c w T hT h hat.2.2.1 hat.2.2.2.2.1 hat.2.2.2.1 hat.2.2.2.2.2.1 (ih k1 (by omega)) (ih k2 (by omega))
    · exact is_atom k a he A k.len c w ha
end Go.Proofs.Ytmpadnnpmbgdcaa
