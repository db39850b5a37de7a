/- Stype · Spec2 -/
import Derived.Test.YtloecimlimoanaaGreatDoorShead
import Derived.StillTailTactics
import Derived.BigQuiet
import Derived.Deep.RegionHeld3
import Derived.Deep.RegionWith
/- Stype -/
namespace Go.Proofs.YtloecimlimoanaaGreatDoor
open Go.RowKit Go.ChangeMaps

def isVar (a : List UInt8) : Bool := match a with | [c] => 97 ≤ c.toNat && c.toNat ≤ 122 && c != 111 | _ => false

theorem atom_var (a : List UInt8) : isAtomTy a = (a == [111] || isVar a) := by
  unfold isAtomTy isVar
  match a with
  | [] => rfl
  | [c] =>
    by_cases h : c = 111
    · subst h; rfl
    · have : (([c] : List UInt8) == [111]) = false := by simp [h]
      simp [this, h]
  | _ :: _ :: _ => simp

set_option maxHeartbeats 1000000 in
theorem var_any (a : List UInt8) (w : World) (ha : a.length ≤ 6000) :
    Calls Tryz.prog 84 #[S a] w fun e w' => e = .returned (.bool (isVar a)) ∧ w = w' := by
  match a with
  | [] =>
    go_enter Tryz.func84, Tryz.ntmps84
    go_wp2
    go_ret
    exact ⟨rfl, rfl⟩
  | [c] =>
    have hlt := c.toNat_lt
    have hv : isVar [c] = (decide (97 ≤ c.toNat) && decide (c.toNat ≤ 122) && (c != 111)) := rfl
    have HV := Lib.hid hv
    clear hv
    have hg : ∀ h : 0 < (ByteArray.mk #[c]).size, (ByteArray.mk #[c])[0]'h = c := fun h => rfl
    by_cases h1 : 97 ≤ c.toNat
    · by_cases h2 : c.toNat ≤ 122
      · by_cases h3 : c = 111
        · subst h3
          go_enter Tryz.func84, Tryz.ntmps84
          go_wp2
          go_ret
          exact ⟨rfl, rfl⟩
        · have n3 : (([c] : List UInt8) == [111]) = false := by simp [h3]
          go_enter Tryz.func84, Tryz.ntmps84
          go_wp2
          go_ret
          exact ⟨ret_bool (by simp [isVar, h1, h2, h3]), rfl⟩
      · have g2 : (122 : Int) < (c.toNat : Int) := by omega
        go_enter Tryz.func84, Tryz.ntmps84
        go_wp2
        go_ret
        exact ⟨ret_bool (by simp [isVar, h2]), rfl⟩
    · have g1 : (c.toNat : Int) < 97 := by omega
      go_enter Tryz.func84, Tryz.ntmps84
      go_wp2
      go_ret
      exact ⟨ret_bool (by simp [isVar, h1]), rfl⟩
  | c :: c' :: a =>
    simp at ha
    have n1 : ((a.length : Int) + 1 + 1 == 1) = false := beq_eq_false_iff_ne.2 (by omega)
    go_enter Tryz.func84, Tryz.ntmps84
    go_wp2
    go_ret
    exact ⟨rfl, rfl⟩

theorem isTy_atom {a : List UInt8} (ha : a ≠ []) (k : Fo) : isTy a k = isAtomTy a := by
  unfold isTy
  split <;> simp [ha]

theorem isTy_other {k : Fo} (h : ∀ a0 k0 a1 k1 a2 k2, k ≠ .cons a0 k0 (.cons a1 k1 (.cons a2 k2 .nil))) : isTy [] k = false := by
  unfold isTy
  split
  · exact absurd rfl (h _ _ _ _ _ _)
  · simp

def IsSaid (k : Fo) : Prop := ∀ (a : List UInt8) (A : Option Addr) (c : Nat) (w : World) (T : Nat → Prop), a.length ≤ 6000 → k.atoms → (∀ b, T b → b < w.heap.size) → Sl w T A k →
  Calls Tryz.prog 82 #[.agg #[S a, .slice A k.len c]] w fun e w' => e = .returned (.bool (isTy a k)) ∧ Fr No w w'

set_option maxHeartbeats 1000000 in
theorem is_atom (k : Fo) (a : List UInt8) (ha : a ≠ []) (A : Option Addr) (n c : Nat) (w : World) (hl : a.length ≤ 6000) :
    Calls Tryz.prog 82 #[.agg #[S a, .slice A n c]] w fun e w' => e = .returned (.bool (isTy a k)) ∧ Fr No w w' := by
  rw [isTy_atom ha, atom_var]
  have hae : a.isEmpty = false := by cases a; exact absurd rfl ha; rfl
  by_cases h1 : a = [111]
  · subst h1
    go_enter Tryz.func82, Tryz.ntmps82
    go_wp2
    go_ret
    exact ⟨rfl, (Fr.refl _ _).alloc _⟩
  · have n1 : (a == [111]) = false := by simpa using h1
    go_enter Tryz.func82, Tryz.ntmps82
    go_wp2_with fail
    refine (var_any a _ hl).mono ?_
    rintro e w' ⟨rfl, rfl⟩
    go_wp2
    go_ret
    exact ⟨ret_bool (by simp [n1]), (Fr.refl _ _).alloc _⟩

set_option maxHeartbeats 1000000 in
theorem is_bad (k : Fo) (A : Option Addr) (c : Nat) (w : World) (T : Nat → Prop) (hT : ∀ b, T b → b < w.heap.size) (h : Sl w T A k) (hb : (headOf [] k ≠ [62] ∧ headOf [] k ≠ [42]) ∨ k.len ≠ 3) :
    Calls Tryz.prog 82 #[.agg #[S [], .slice A k.len c]] w fun e w' => e = .returned (.bool (isTy [] k)) ∧ Fr No w w' := by
  have hfin : isTy [] k = false := by
    by_cases h3 : k.len = 3
    · obtain ⟨a0, k0, a1, k1, a2, k2, rfl⟩ := len3 h3
      rcases hb with ⟨h1, h2⟩ | hb
      · have e1 : a0 ≠ [62] := h1
        have e2 : a0 ≠ [42] := h2
        simp [isTy, e1, e2]
      · exact absurd h3 hb
    · exact isTy_other (fun a0 k0 a1 k1 a2 k2 e => h3 (by rw [e]; rfl))
  rw [hfin]
  have hsl : ∀ o : Obj, Sl (w.alloc o) T A k := fun o => h.fr hT ((Fr.refl _ _).alloc o)
  have HS := Lib.hid hsl
  clear hsl
  by_cases h1 : headOf [] k = [62] ∨ headOf [] k = [42]
  · have h3 : k.len ≠ 3 := by
      rcases hb with ⟨e1, e2⟩ | hb
      · rcases h1 with h1 | h1
        · exact absurd h1 e1
        · exact absurd h1 e2
      · exact hb
    have n3 : ((k.len : Int) == 3) = false := beq_eq_false_iff_ne.2 (by omega)
    clear hb h3
    rcases h1 with h1 | h1
    · have H1 := Lib.hid h1
      clear h1
      go_enter Tryz.func82, Tryz.ntmps82
      go_wp2_with fail
      refine (head_any _ T [] k A c (HS.out _)).mono ?_
      rintro e w1 ⟨rfl, hf⟩
      rw [H1.out]
      have c1 : w1.cell? ⟨w.heap.size, 1, none⟩ = some (.slice A k.len c) := (((Blk.new w 46 #[S [], .slice A k.len c]).fr hf (fun h => h)).cell 1).trans rfl
      have hfr : Fr No w w1 := ((Fr.refl No w).alloc _).trans hf
      go_wp2
      go_ret
      exact ⟨rfl, hfr⟩
    · have H1 := Lib.hid h1
      clear h1
      go_enter Tryz.func82, Tryz.ntmps82
      go_wp2_with fail
      refine (head_any _ T [] k A c (HS.out _)).mono ?_
      rintro e w1 ⟨rfl, hf⟩
      rw [H1.out]
      have c1 : w1.cell? ⟨w.heap.size, 1, none⟩ = some (.slice A k.len c) := (((Blk.new w 46 #[S [], .slice A k.len c]).fr hf (fun h => h)).cell 1).trans rfl
      have hfr : Fr No w w1 := ((Fr.refl No w).alloc _).trans hf
      go_wp2
      go_ret
      exact ⟨rfl, hfr⟩
  · obtain ⟨hd, hhd⟩ : ∃ hd, hd = headOf [] k := ⟨_, rfl⟩
    rw [← hhd] at h1
    have H1 := Lib.hid hhd
    have n1 : (hd == [62]) = false := by simp; exact fun e => h1 (.inl e)
    have n2 : (hd == [42]) = false := by simp; exact fun e => h1 (.inr e)
    clear h1 hb hhd
    go_enter Tryz.func82, Tryz.ntmps82
    go_wp2_with fail
    refine (head_any _ T [] k A c (HS.out _)).mono ?_
    rintro e w1 ⟨rfl, hf⟩
    rw [← H1.out]
    have hfr : Fr No w w1 := ((Fr.refl No w).alloc _).trans hf
    go_wp2
    go_ret
    exact ⟨rfl, hfr⟩

set_option maxHeartbeats 1000000 in
theorem is_three (sg : List UInt8) (hsg : sg = [62] ∨ sg = [42]) (k0 : Fo) (a1 : List UInt8) (k1 : Fo) (a2 : List UInt8) (k2 : Fo) (A : Option Addr) (c : Nat) (w : World) (T : Nat → Prop) (hT : ∀ b, T b → b < w.heap.size)
    (h : Sl w T A (.cons sg k0 (.cons a1 k1 (.cons a2 k2 .nil)))) (l1 : a1.length ≤ 6000) (l2 : a2.length ≤ 6000) (at1 : k1.atoms) (at2 : k2.atoms) (h1 : IsSaid k1) (h2 : IsSaid k2) :
    Calls Tryz.prog 82 #[.agg #[S [], .slice A 3 c]] w fun e w' => e = .returned (.bool (isTy a1 k1 && isTy a2 k2)) ∧ Fr No w w' := by
  have hsl : ∀ o : Obj, Sl (w.alloc o) T A (.cons sg k0 (.cons a1 k1 (.cons a2 k2 .nil))) := fun o => h.fr hT ((Fr.refl _ _).alloc o)
  have HS := Lib.hid hsl
  have H1 := Lib.hid h1
  have H2 := Lib.hid h2
  clear hsl h1 h2
  obtain ⟨g, o, A0, c0, A1, c1, A2, c2, rfl, hg, q0, q1, q2, q3, q4, q5, s0, s1, s2, hl⟩ := h.three
  have H3 : Hid (∀ w' : World, Fr No w w' → w'.cell? ⟨g, o + 2, none⟩ = some (S a1) ∧ w'.cell? ⟨g, o + 3, none⟩ = some (.slice A1 k1.len c1) ∧ w'.cell? ⟨g, o + 4, none⟩ = some (S a2) ∧ w'.cell? ⟨g, o + 5, none⟩ = some (.slice A2 k2.len c2) ∧ g < w'.heap.size) :=
    fun w' hf => ⟨(hf.cell (p := ⟨g, o + 2, none⟩) hl (fun h => h)).trans q2, (hf.cell (p := ⟨g, o + 3, none⟩) hl (fun h => h)).trans q3, (hf.cell (p := ⟨g, o + 4, none⟩) hl (fun h => h)).trans q4, (hf.cell (p := ⟨g, o + 5, none⟩) hl (fun h => h)).trans q5, Nat.lt_of_lt_of_le hl hf.size⟩
  clear q0 q1 q2 q3 q4 q5
  rcases hsg with rfl | rfl
  · go_enter Tryz.func82, Tryz.ntmps82
    go_wp2_with fail
    refine (head_any _ T [] _ _ c (HS.out _)).mono ?_
    rintro e w1 ⟨rfl, hf⟩
    have b1 := (Blk.new w 46 #[S [], .slice (some ⟨g, o, none⟩) 3 c]).fr hf (fun h => h)
    have d1 : w1.cell? ⟨w.heap.size, 1, none⟩ = some (.slice (some ⟨g, o, none⟩) 3 c) := (b1.cell 1).trans rfl
    have hfr : Fr No w w1 := ((Fr.refl No w).alloc _).trans hf
    obtain ⟨q2, q3, q4, q5, q6⟩ := H3.out w1 hfr
    rw [show headOf [] (.cons [62] k0 (.cons a1 k1 (.cons a2 k2 .nil))) = [62] from rfl]
    go_wp2_with fail
    refine (H1.out a1 A1 c1 w1 T l1 at1 (fun b hb => Nat.lt_of_lt_of_le (hT b hb) hfr.size) (s1.fr hT hfr)).mono ?_
    rintro e w2 ⟨rfl, hf2⟩
    have hfr2 := hfr.trans hf2
    have b2 := b1.fr hf2 (fun h => h)
    have d2 : w2.cell? ⟨w.heap.size, 1, none⟩ = some (.slice (some ⟨g, o, none⟩) 3 c) := (b2.cell 1).trans rfl
    obtain ⟨p2, p3, p4, p5, p6⟩ := H3.out w2 hfr2
    clear q2 q3 q4 q5 q6 d1 b1 b2
    rcases hb : isTy a1 k1 with _ | _
    · go_wp2
      go_ret
      exact ⟨ret_bool (by simp [hb]), hfr2⟩
    · go_wp2_with fail
      refine (H2.out a2 A2 c2 w2 T l2 at2 (fun b hb => Nat.lt_of_lt_of_le (hT b hb) hfr2.size) (s2.fr hT hfr2)).mono ?_
      rintro e w3 ⟨rfl, hf3⟩
      go_wp2
      go_ret
      exact ⟨ret_bool (by simp [hb]), hfr2.trans hf3⟩
  · go_enter Tryz.func82, Tryz.ntmps82
    go_wp2_with fail
    refine (head_any _ T [] _ _ c (HS.out _)).mono ?_
    rintro e w1 ⟨rfl, hf⟩
    have b1 := (Blk.new w 46 #[S [], .slice (some ⟨g, o, none⟩) 3 c]).fr hf (fun h => h)
    have d1 : w1.cell? ⟨w.heap.size, 1, none⟩ = some (.slice (some ⟨g, o, none⟩) 3 c) := (b1.cell 1).trans rfl
    have hfr : Fr No w w1 := ((Fr.refl No w).alloc _).trans hf
    obtain ⟨q2, q3, q4, q5, q6⟩ := H3.out w1 hfr
    rw [show headOf [] (.cons [42] k0 (.cons a1 k1 (.cons a2 k2 .nil))) = [42] from rfl]
    go_wp2_with fail
    refine (H1.out a1 A1 c1 w1 T l1 at1 (fun b hb => Nat.lt_of_lt_of_le (hT b hb) hfr.size) (s1.fr hT hfr)).mono ?_
    rintro e w2 ⟨rfl, hf2⟩
    have hfr2 := hfr.trans hf2
    have b2 := b1.fr hf2 (fun h => h)
    have d2 : w2.cell? ⟨w.heap.size, 1, none⟩ = some (.slice (some ⟨g, o, none⟩) 3 c) := (b2.cell 1).trans rfl
    obtain ⟨p2, p3, p4, p5, p6⟩ := H3.out w2 hfr2
    clear q2 q3 q4 q5 q6 d1 b1 b2
    rcases hb : isTy a1 k1 with _ | _
    · go_wp2
      go_ret
      exact ⟨ret_bool (by simp [hb]), hfr2⟩
    · go_wp2_with fail
      refine (H2.out a2 A2 c2 w2 T l2 at2 (fun b hb => Nat.lt_of_lt_of_le (hT b hb) hfr2.size) (s2.fr hT hfr2)).mono ?_
      rintro e w3 ⟨rfl, hf3⟩
      go_wp2
      go_ret
      exact ⟨ret_bool (by simp [hb]), hfr2.trans hf3⟩

/-- Whether a tree is a type. -/
theorem is_any (N : Nat) : ∀ k : Fo, SizeOf.sizeOf k < N → IsSaid k := by
  induction N with
  | zero => intro k h; omega
  | succ N ih =>
    intro k hN a A c w T ha hat hT h
    by_cases he : a = []
    · subst he
      by_cases hb : (headOf [] k ≠ [62] ∧ headOf [] k ≠ [42]) ∨ k.len ≠ 3
      · exact is_bad k A c w T hT h hb
      · have h3 : k.len = 3 := Classical.byContradiction fun h3 => hb (.inr h3)
        obtain ⟨a0, k0, a1, k1, a2, k2, rfl⟩ := len3 h3
        have hsg : a0 = [62] ∨ a0 = [42] := by
          rcases Classical.em (a0 = [62]) with h1 | h1
          · exact .inl h1
          · rcases Classical.em (a0 = [42]) with h2 | h2
            · exact .inr h2
            · exact absurd (.inl ⟨h1, h2⟩) hb
        have e : isTy [] (.cons a0 k0 (.cons a1 k1 (.cons a2 k2 .nil))) = (isTy a1 k1 && isTy a2 k2) := by
          rcases hsg with rfl | rfl <;> simp [isTy]
        rw [e]
        simp only [Fo.cons.sizeOf_spec] at hN
        exact is_three a0 hsg k0 a1 k1 a2 k2 A c w T hT h hat.2.2.1 hat.2.2.2.2.1 hat.2.2.2.1 hat.2.2.2.2.2.1 (ih k1 (by omega)) (ih k2 (by omega))
    · exact is_atom k a he A k.len c w ha
end Go.Proofs.YtloecimlimoanaaGreatDoor

/- Spec2 -/
namespace Go.Proofs.YtloecimlimoanaaGreatDoor
open Go.RowKit Go.ChangeMaps

def TypeT (w : World) (s : List UInt8) (e : Ending) (w' : World) : Prop :=
  Fr No w w' ∧ ((∃ t A c, Ty.Is s t ∧ e = .returned (.tuple #[.agg #[S t.atom, .slice A t.kids.len c], .bool true]) ∧ Sl w' (New w w') A t.kids) ∨
    (∃ a A m c, (∀ t, ¬ Ty.Is s t) ∧ e = .returned (.tuple #[.agg #[S a, .slice A m c], .bool false])))

theorem TypeT.no {w w' : World} {s a : List UInt8} {A : Option Addr} {m c : Nat} (hf : Fr No w w') (h : ∀ t, ¬ Ty.Is s t) :
    TypeT w s (.returned (.tuple #[.agg #[S a, .slice A m c], .bool false])) w' := ⟨hf, .inr ⟨a, A, m, c, h, rfl⟩⟩

theorem TypeT.yes {w w' : World} {s : List UInt8} {t : Ty} {A : Option Addr} {c : Nat} (hf : Fr No w w') (h : Ty.Is s t) (hs : Sl w' (New w w') A t.kids) :
    TypeT w s (.returned (.tuple #[.agg #[S t.atom, .slice A t.kids.len c], .bool true])) w' := ⟨hf, .inl ⟨t, A, c, h, rfl, hs⟩⟩

theorem parsed_is {s : List UInt8} {t : Ty} (h : Ty.Is s t) : Parsed s t.atom t.kids := ⟨by have := Ty.length_text t; rw [h.1]; have := h.2.2; omega, read_ty h⟩

theorem parsed_of {s a : List UInt8} {k : Fo} (h : Parsed s a k) (h1 : isTy a k = true) (h2 : treeSize a k ≤ 40) : ∃ t, Ty.Is s t ∧ a = t.atom ∧ k = t.kids := by
  obtain ⟨t, ht⟩ := (read_is s).1 ⟨a, k, h.2, h1, h2⟩
  have := read_ty ht
  rw [h.2] at this
  simp only [Option.some.injEq, Prod.mk.injEq, and_true] at this
  exact ⟨t, ht, this.1, this.2⟩

theorem parsed_not {s a : List UInt8} {k : Fo} (h : Parsed s a k) (h1 : isTy a k = false ∨ 40 < treeSize a k) : ∀ t, ¬ Ty.Is s t := by
  intro t ht
  have := read_ty ht
  rw [h.2] at this
  simp only [Option.some.injEq, Prod.mk.injEq, and_true] at this
  obtain ⟨rfl, rfl⟩ := this
  have := is_ty t ht.2.1
  rcases h1 with h1 | h1
  · rw [this.1] at h1; cases h1
  · have := ht.2.2; omega

set_option maxRecDepth 100000 in
set_option maxHeartbeats 1000000 in
theorem type_any (s : List UInt8) (w : World) (hs : s.length ≤ maxLen) :
    Calls Tryz.prog 64 #[S s] w fun e w' => TypeT w s e w' := by
  have b0 := Blk.new w 46 #[S [], .slice none 0 0]
  have HS := Lib.hid hs
  clear hs
  go_enter Tryz.func64, Tryz.ntmps64
  go_wp2_with fail
  refine (parse_any s _ HS.out).mono ?_
  rintro e w1 ⟨hfr, hres⟩
  have b1 := b0.fr hfr (fun h => h)
  have r0 : w1.cell? ⟨w.heap.size, 0, none⟩ = some (S []) := (b1.cell 0).trans rfl
  have r1 : w1.cell? ⟨w.heap.size, 1, none⟩ = some (.slice none 0 0) := (b1.cell 1).trans rfl
  have fr0 := b1.frozen 0
  have fr1 := b1.frozen 1
  have l0 := b1.lt
  rcases hres with ⟨a, k, A, c, hp, rfl, hsl⟩ | ⟨a, A, m, c, hno, rfl⟩
  · obtain ⟨q1, q2, q3, q4, q5⟩ := hp.bounds
    have bb : Blk (w1.alloc (.cells #[S a, .slice A k.len c] 46)) w1.heap.size 46 #[S a, .slice A k.len c] := Blk.new _ _ _
    have b2 := b1.alloc (.cells #[S a, .slice A k.len c] 46)
    have hsl2 : Sl (w1.alloc (.cells #[S a, .slice A k.len c] 46)) (New (w.alloc (.cells #[S [], .slice none 0 0] 46)) w1) A k := hsl.fr (fun b hb => hb.2) ((Fr.refl _ _).alloc _)
    have hT : ∀ b, New (w.alloc (.cells #[S [], .slice none 0 0] 46)) w1 b → b < (w1.alloc (.cells #[S a, .slice A k.len c] 46)).heap.size := fun b hb => by have := hb.2; simp; omega
    have hfr2 : Fr No (w.alloc (.cells #[S [], .slice none 0 0] 46)) (w1.alloc (.cells #[S a, .slice A k.len c] 46)) := hfr.alloc _
    go_wp2_with fail
    have ne1 : w1.heap.size ≠ w.heap.size := by omega
    have ne2 : w.heap.size ≠ w1.heap.size := by omega
    clear r0 r1 fr0 fr1 l0 b0
    generalize hW : w1.alloc (.cells #[S a, .slice A k.len c] 46) = W at bb b2 hsl2 hT hfr2 ⊢
    have hWs : W.heap.size = w1.heap.size + 1 := by rw [← hW]; simp
    clear hW
    have CELLS : Hid (∀ w' : World, Fr No W w' → w'.cell? ⟨w1.heap.size, 0, none⟩ = some (S a) ∧ w'.cell? ⟨w1.heap.size, 1, none⟩ = some (.slice A k.len c) ∧ w'.cell? ⟨w.heap.size, 0, none⟩ = some (S []) ∧ w'.cell? ⟨w.heap.size, 1, none⟩ = some (.slice none 0 0) ∧
        w'.frozen? ⟨w.heap.size, 0, none⟩ = false ∧ w'.frozen? ⟨w.heap.size, 1, none⟩ = false ∧ w.heap.size < w'.heap.size ∧ w1.heap.size < w'.heap.size) := by
      intro w' hf
      have g1 := bb.fr hf (fun h => h)
      have g2 := b2.fr hf (fun h => h)
      exact ⟨(g1.cell 0).trans rfl, (g1.cell 1).trans rfl, (g2.cell 0).trans rfl, (g2.cell 1).trans rfl, g2.frozen 0, g2.frozen 1, g2.lt, g1.lt⟩
    have IS : Hid (∀ w' : World, Fr No W w' → Calls Tryz.prog 82 #[.agg #[S a, .slice A k.len c]] w' fun e w2 => e = .returned (.bool (isTy a k)) ∧ Fr No W w2) := fun w' hf =>
      (is_any _ k (Nat.lt_succ_self _) a A c w' (New (w.alloc (.cells #[S [], .slice none 0 0] 46)) w1) q2 q3 (fun b hb => Nat.lt_of_lt_of_le (hT b hb) hf.size) (hsl2.fr hT hf)).mono fun e w2 h => ⟨h.1, hf.trans h.2⟩
    have SZ : Hid (∀ w' : World, Fr No W w' → Calls Tryz.prog 83 #[.agg #[S a, .slice A k.len c]] w' fun e w2 => e = .returned (.int .i64 (treeSize a k)) ∧ Fr No W w2) := fun w' hf =>
      (size_any _ k (Nat.lt_succ_self _) a A c w' (New (w.alloc (.cells #[S [], .slice none 0 0] 46)) w1) (by omega) q4 q5 (fun b hb => Nat.lt_of_lt_of_le (hT b hb) hf.size) (hsl2.fr hT hf)).mono fun e w2 h => ⟨h.1, hf.trans h.2⟩
    have hf0 : Fr No W W.drew := (Fr.refl _ _).drew
    obtain ⟨c0, c1, r0, r1, fr0, fr1, l0, l1⟩ := CELLS.out W (Fr.refl _ _)
    by_cases hty : isTy a k = true
    · by_cases h40 : treeSize a k ≤ 40
      · obtain ⟨t, ht, rfl, rfl⟩ := parsed_of hp hty h40
        have HT := Lib.hid hty
        have h40' : (treeSize t.atom t.kids : Int) ≤ 40 := by omega
        have HP := Lib.hid ht
        clear hty h40 ht
        go_region_held3 (fun w' => w'.cell? ⟨w1.heap.size, 0, none⟩ = some (S t.atom) ∧ w'.cell? ⟨w1.heap.size, 1, none⟩ = some (.slice A t.kids.len c)) (go_keep)
          (first | (go_at_call 82; refine (IS.out _ hf0).mono ?_; rintro e w2 ⟨rfl, hf2⟩; rw [HT.out]; obtain ⟨d0, d1, d2, d3, d4, d5, d6, d7⟩ := CELLS.out w2 hf2) | (go_at_call 83; refine (SZ.out _ hf2).mono ?_; rintro e w3 ⟨rfl, hf3⟩; obtain ⟨e0, e1, e2, e3, e4, e5, e6, e7⟩ := CELLS.out w3 hf3))
        have hend : ∀ v0 v1, Sl ((w3.setCell ⟨w.heap.size, 0, none⟩ v0).setCell ⟨w.heap.size, 1, none⟩ v1) (New w ((w3.setCell ⟨w.heap.size, 0, none⟩ v0).setCell ⟨w.heap.size, 1, none⟩ v1)) A t.kids := by
          intro v0 v1
          refine (hsl2.fr hT hf3).mono (fun b hb => ⟨by have := hb.1; simp at this; omega, by have := hb.2; simp [World.setCell]; omega⟩) (fun b hb => ?_)
          have h1 := hb.1
          simp at h1
          rw [Below.heap_setCell _ _ _ _ (by show b ≠ w.heap.size; omega), Below.heap_setCell _ _ _ _ (by show b ≠ w.heap.size; omega)]
        have HE := Lib.hid hend
        clear hend
        all_goals go_wp2_with fail
        refine bodyPost_ret (v := .tuple #[.agg #[S t.atom, .slice A t.kids.len c], .bool true]) (by simp [results, Tryz.results64, go_sem, cell_set_same e2, cell_set_next e3]) rfl ?_
        exact TypeT.yes (res_done (hfr2.trans hf3)) HP.out (HE.out _ _)
      · have hn := parsed_not hp (.inr (by omega))
        have HT := Lib.hid hty
        have h40' : 40 < (treeSize a k : Int) := by omega
        have h40'' : ¬ (treeSize a k : Int) ≤ 40 := by omega
        have H40 := Lib.hid h40
        have HN := Lib.hid hn
        clear hty h40 hn
        have HD : Hid (decide ((treeSize a k : Int) ≤ 40) = false) := decide_eq_false h40''
        go_region_held3 (fun w' => w'.cell? ⟨w1.heap.size, 0, none⟩ = some (S a) ∧ w'.cell? ⟨w1.heap.size, 1, none⟩ = some (.slice A k.len c)) (go_keep)
          (first | (go_at_call 82; refine (IS.out _ hf0).mono ?_; rintro e w2 ⟨rfl, hf2⟩; rw [HT.out]; obtain ⟨d0, d1, d2, d3, d4, d5, d6, d7⟩ := CELLS.out w2 hf2) | (go_at_call 83; refine (SZ.out _ hf2).mono ?_; rintro e w3 ⟨rfl, hf3⟩; obtain ⟨e0, e1, e2, e3, e4, e5, e6, e7⟩ := CELLS.out w3 hf3))
        all_goals go_wp2_with fail
        refine bodyPost_ret (v := .tuple #[.agg #[S a, .slice A k.len c], .bool false]) (by simp [results, Tryz.results64, go_sem, cell_set_same e2, cell_set_next e3, HD.out]; try exact Nat.lt_of_not_le H40.out) rfl ?_
        exact TypeT.no (res_done (hfr2.trans hf3)) HN.out
    · have hty' : isTy a k = false := Bool.eq_false_iff.2 hty
      have hn := parsed_not hp (.inl hty')
      have HT := Lib.hid hty'
      have HN := Lib.hid hn
      clear hty hty' hn
      go_region_with (first | (go_at_call 82; refine (IS.out _ hf0).mono ?_; rintro e w2 ⟨rfl, hf2⟩; rw [HT.out]; obtain ⟨d0, d1, d2, d3, d4, d5, d6, d7⟩ := CELLS.out w2 hf2))
      all_goals go_wp2_with fail
      all_goals exact bodyPost_ret (v := .tuple #[.agg #[S a, .slice A k.len c], .bool false]) (by simp [results, Tryz.results64, go_sem, cell_set_same d2, cell_set_next d3]) rfl (TypeT.no (res_done (hfr2.trans hf2)) HN.out)
  · have hn : ∀ t, ¬ Ty.Is s t := fun t ht => hno _ _ (parsed_is ht)
    have HN := Lib.hid hn
    clear hn hno
    go_wp2_with fail
    go_region
    all_goals go_wp2_with fail
    all_goals exact bodyPost_ret (v := .tuple #[.agg #[S a, .slice A m c], .bool false]) (by simp [results, Tryz.results64, go_sem, l0, cell_set_same r0, cell_set_next r1]) rfl (TypeT.no (((res_done hfr).alloc _).drew) HN.out)
end Go.Proofs.YtloecimlimoanaaGreatDoor
