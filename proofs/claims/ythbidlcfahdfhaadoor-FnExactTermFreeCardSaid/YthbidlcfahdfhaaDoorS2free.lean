/- Free names of the model; TermFree of both. -/
import Derived.Test.YthbidlcfahdfhaaDoorTfree
import Derived.Test.YthbidlcfahdfhaaDoorS2use
namespace Go.Proofs.YthbidlcfahdfhaaDoor
open Go.RowKit Go.ChangeMaps

theorem SSl.fr {w w' : World} {A : Option Addr} {xs : List (List UInt8)} {T : Nat → Prop} (h : SSl w A xs) (hf : Fr T w w') (hT : ∀ g o, A = some ⟨g, o, none⟩ → ¬ T g) : SSl w' A xs := by
  intro j x hj
  obtain ⟨g, o, e, hc⟩ := h j x hj
  exact ⟨g, o, e, (hf.cell (p := ⟨g, o + j, none⟩) (block_lt hc) (hT g o e)).trans hc⟩

theorem own_empty (w : World) (B : Nat) (h : B ≤ w.heap.size) (o : Obj) (ho : o = .cells #[] 9) : (w.alloc o).ownsRow B 9 1 (.slice (some ⟨w.heap.size, 0, none⟩) 0 0) 0 [] := by
  subst ho
  exact ⟨rfl, .inr ⟨w.heap.size, 0, #[], rfl, h, heap_alloc_new w _, Nat.le_refl _, Nat.zero_le _, rfl, rfl⟩⟩

/-- the bound names lie in a block that is there -/
def BSl (w : World) (A : Option Addr) (bd : List (List UInt8)) : Prop := SSl w A bd ∧ ∃ g o, A = some ⟨g, o, none⟩ ∧ g < w.heap.size

theorem BSl.fr {w w' : World} {A : Option Addr} {xs : List (List UInt8)} {T : Nat → Prop} (h : BSl w A xs) (hf : Fr T w w') (hT : ∀ g o, A = some ⟨g, o, none⟩ → ¬ T g) : BSl w' A xs := by
  obtain ⟨h1, g, o, e, h2⟩ := h
  exact ⟨h1.fr hf hT, g, o, e, Nat.lt_of_lt_of_le h2 hf.size⟩

set_option maxHeartbeats 1000000 in
theorem with_any (w : World) (A : Option Addr) (bd : List (List UInt8)) (c : Nat) (x : List UInt8) (g1 : Nat) (hb : BSl w A bd) (hx : w.cell? ⟨g1, 0, none⟩ = some (S x)) (hl : bd.length ≤ 100000) :
    Calls Tryd.prog 59 #[.slice A bd.length c, .slice (some ⟨g1, 0, none⟩) 1 1] w fun e w' => ∃ A' c', e = .returned (.slice A' (bd ++ [x]).length c') ∧ BSl w' A' (bd ++ [x]) ∧ (∀ g o, A' = some ⟨g, o, none⟩ → w.heap.size ≤ g) ∧ Fr No w w' := by
  obtain ⟨hsl, g, o, rfl, hg⟩ := hb
  obtain ⟨i0, hi0, hz0, hz1, hz2⟩ := info_parts info_str
  have hg1 := block_lt hx
  have HO : Hid (∀ ob : Obj, ob = .cells #[] 9 → (w.alloc ob).ownsRow w.heap.size 9 1 (.slice (some ⟨w.heap.size, 0, none⟩) 0 0) 0 []) := fun ob e => own_empty w _ (Nat.le_refl _) ob e
  have HC1 : Hid (∀ ob : Obj, ∀ (j : Nat) (u : Value), (bd.map S)[j]? = some u → (w.alloc ob).cell? ((⟨g, o, none⟩ : Addr).add j) = some u) := by
    intro ob j u hj
    rw [List.getElem?_map] at hj
    obtain ⟨y, hy, rfl⟩ := Option.map_eq_some_iff.1 hj
    obtain ⟨g', o', e, hc⟩ := (hsl.fr (T := No) ((Fr.refl _ w).alloc ob) (fun _ _ _ h => h)) j y hy
    simp only [Option.some.injEq, Addr.mk.injEq, and_true] at e
    obtain ⟨rfl, rfl⟩ := e
    rw [addr_add]
    exact hc
  have HC2 : Hid (∀ u ∈ bd.map S, u.oneCell' = true) := by
    intro u hu
    obtain ⟨y, _, rfl⟩ := List.mem_map.1 hu
    rfl
  have HL1 : Hid ((bd.map S).length = bd.length * 1) := by refine Lib.hid ?_; rw [List.length_map, Nat.mul_one]
  have HC3 : Hid (∀ u ∈ [S x], u.oneCell' = true) := by
    intro u hu
    simp at hu
    rw [hu]; rfl
  have bnd : (0 + bd.length) * 16 ≤ 140737488355328 := by omega
  have bnd2 : 0 + bd.length ≤ maxLen := by unfold maxLen; omega
  have bnd3 : (0 + bd.length + 1) * 16 ≤ 140737488355328 := by omega
  have bnd4 : 0 + bd.length + 1 ≤ maxLen := by unfold maxLen; omega
  have HB : Hid (∀ ob : Obj, w.heap.size ≤ (w.alloc ob).heap.size) := fun ob => by simp
  have SECOND : Hid (∀ (ob : Obj) (v' : Value) (w2 : World), w2.ownsRow w.heap.size 9 1 v' (0 + bd.length) ([] ++ bd.map S) → (w.alloc ob).grownBy w2 (some w.heap.size) →
      Fr No w w2 ∧ (∀ (j : Nat) (u : Value), [S x][j]? = some u → w2.cell? ((⟨g1, 0, none⟩ : Addr).add j) = some u)) := by
    intro ob v' w2 h1 h2
    have hf : Fr No w w2 := ((Fr.refl _ w).alloc ob).grown h2 (fun b hb => .inr (by injection hb with hb; omega))
    refine ⟨hf, fun j u hj => ?_⟩
    match j, hj with
    | 0, hj =>
      simp at hj
      subst hj
      exact (hf.cell (p := ⟨g1, 0, none⟩) hg1 (fun h => h)).trans hx
  have FIN : Hid (∀ (v1 v' : Value) (w2 w3 : World), Fr No w w2 → w2.ownsRow w.heap.size 9 1 v1 (0 + bd.length) ([] ++ bd.map S) → w3.ownsRow w.heap.size 9 1 v' (0 + bd.length + 1) ([] ++ bd.map S ++ [S x]) → w2.grownBy w3 v1.ownBlock →
      ∃ A' c', Ending.returned v' = .returned (.slice A' (bd ++ [x]).length c') ∧ BSl w3 A' (bd ++ [x]) ∧ (∀ g o, A' = some ⟨g, o, none⟩ → w.heap.size ≤ g) ∧ Fr No w w3) := by
    intro v1 v' w2 w3 hf h0 h1 h2
    obtain ⟨A', c', rfl⟩ := own_form h1
    have e1 : [] ++ bd.map S ++ [S x] = (bd ++ [x]).map S := by simp
    have e2 : (bd ++ [x]).length = 0 + bd.length + 1 := by simp
    rw [e1, ← e2] at h1
    refine ⟨A', c', by rw [e2], ⟨SSl.of_own h1, ?_⟩, ?_, hf.grown h2 (fun b hb => .inr (h0.lt b hb).1)⟩
    · rcases h1.2 with ⟨_, hn⟩ | ⟨g2, cap, cur, hv, _⟩
      · simp at hn
      · injection hv with e1 e2 e3
        exact ⟨g2, 0, e1, (h1.lt g2 (by rw [e1]; rfl)).2⟩
    · intro g2 o2 e
      exact (h1.lt g2 (by rw [e]; rfl)).1
  clear hsl hx
  go_enter Tryd.func59, Tryd.ntmps59
  go_wp2_with (first | (at_builtin; (refine wpList_append_own_at _ rfl _ _ 24 rfl w.heap.size 9 i0 (.string ⟨#[]⟩) 1 16 Tryd.underlying24 hi0 hz0 hz1 hz2 rfl (by decide) _ 0 [] rfl (HO.out _ rfl) ⟨g, o, none⟩ bd.length c (bd.map S) rfl HL1.out (HC1.out _) HC2.out bnd2 bnd (HB.out _) ?_); intro v' w2 hown' hgrow _ hloc; obtain ⟨hf2, hnx⟩ := SECOND.out _ v' w2 hown' hgrow; have HOW := Lib.hid hown'; have HF2 := Lib.hid hf2; have hb2 : Hid (w.heap.size ≤ w2.heap.size) := hf2.size; have HNX := Lib.hid hnx; clear hown' hgrow hloc hf2 hnx) | (at_builtin; go_must (refine wpList_append_own_at _ rfl _ _ 24 rfl w.heap.size 9 i0 (.string ⟨#[]⟩) 1 16 Tryd.underlying24 hi0 hz0 hz1 hz2 rfl (by decide) _ (0 + bd.length) ([] ++ bd.map S) rfl HOW.out ⟨g1, 0, none⟩ 1 1 [S x] rfl rfl HNX.out HC3.out bnd4 bnd3 hb2.out ?_); intro v3 w3 hown3 hgrow3 _ hloc3; have HF := Lib.hid (FIN.out _ v3 w2 w3 HF2.out HOW.out hown3 hgrow3); clear hown3 hgrow3 hloc3))
  go_ret
  exact HF.out

def FsSaid (k : Fo) : Prop := ∀ (a : List UInt8) (A : Option Addr) (c : Nat) (w : World) (T : Nat → Prop) (B : Nat) (V : Option Addr) (vc : Nat) (l : List (List UInt8)) (VB : Option Addr) (vb : Nat) (bd : List (List UInt8)),
  isTm a k = true → treeSize a k ≤ 5000 → l.length + treeSize a k ≤ 100000 → bd.length + treeSize a k ≤ 100000 → B ≤ w.heap.size → (∀ b, T b → b < w.heap.size ∧ (Value.slice V l.length vc).ownBlock ≠ some b) → Sl w T A k →
  BSl w VB bd → (∀ g o, VB = some ⟨g, o, none⟩ → (Value.slice V l.length vc).ownBlock ≠ some g) → w.ownsRow B 9 1 (.slice V l.length vc) l.length (l.map S) →
  Calls Tryd.prog 38 #[.agg #[S a, .slice A k.len c], .slice VB bd.length vb, .slice V l.length vc] w fun e w' => AddL B (fsT a k bd l) w (.slice V l.length vc) e w'

set_option maxRecDepth 100000 in
set_option maxHeartbeats 1000000 in
theorem fs_atom (k : Fo) (a : List UInt8) (A : Option Addr) (c : Nat) (w : World) (B : Nat) (V : Option Addr) (vc : Nat) (l : List (List UInt8)) (VB : Option Addr) (vb : Nat) (bd : List (List UInt8)) (ha : a ≠ []) (hal : a.length ≤ 6000)
    (hl : l.length ≤ 100000) (hbl : bd.length ≤ 100000) (hB : B ≤ w.heap.size) (hb : BSl w VB bd) (ho : w.ownsRow B 9 1 (.slice V l.length vc) l.length (l.map S)) :
    Calls Tryd.prog 38 #[.agg #[S a, .slice A k.len c], .slice VB bd.length vb, .slice V l.length vc] w fun e w' => AddL B (fsT a k bd l) w (.slice V l.length vc) e w' := by
  have hae : a.isEmpty = false := by cases a; exact absurd rfl ha; rfl
  have HF : Hid (fsT a k bd l = if isName a = false ∨ a ∈ bd ∨ a ∈ l then l else l ++ [a]) := by
    refine Lib.hid ?_
    unfold fsT
    rw [if_neg ha]
  have NM := Lib.hid (fun w => name2_any a w hal)
  have HO := Lib.hid ho
  have HB := Lib.hid hB
  have b0 := Blk.new w 36 #[S a, .slice A k.len c]
  have SAME : Hid (∀ o : Obj, (isName a = false ∨ a ∈ bd ∨ a ∈ l) → AddL B (fsT a k bd l) w (.slice V l.length vc) (.returned (.slice V l.length vc)) (w.alloc o)) := by
    intro o h
    rw [HF.out, if_pos h]
    exact ⟨V, vc, rfl, (Fr.refl _ w).alloc o, HO.out.alloc o, .inl rfl⟩
  have HBD : Hid (∀ o : Obj, Calls Tryd.prog 57 #[.slice VB bd.length vb, S a] (w.alloc o) fun e w' => HasS bd a (w.alloc o) e w') := fun o => has_any _ VB bd vb a (hb.1.fr (T := No) ((Fr.refl _ w).alloc o) (fun _ _ _ h => h)) (by omega)
  have HLI : Hid (∀ o : Obj, Calls Tryd.prog 57 #[.slice V l.length vc, S a] (w.alloc o) fun e w' => HasS l a (w.alloc o) e w') := fun o => has_any _ V l vc a (SSl.of_own (ho.alloc o)) (by omega)
  have c0 : (w.alloc (.cells #[S a, .slice A k.len c] 36)).cell? ⟨w.heap.size, 0, none⟩ = some (S a) := (b0.cell 0).trans rfl
  clear ho hB hb b0 ha
  generalize k.len = kl at *
  go_enter Tryd.func38, Tryd.ntmps38
  go_wp2_with fail
  refine (NM.out _).mono ?_
  rintro e w' ⟨rfl, rfl⟩
  rcases hq : isName a with _ | _
  · have HS := Lib.hid (SAME.out (.cells #[S a, .slice A kl c] 36) (.inl hq))
    clear hq
    go_wp2_with fail
    go_ret
    exact HS.out
  have HQ := Lib.hid hq
  clear hq
  go_wp2_with fail
  refine (HBD.out _).mono ?_
  rintro e w' ⟨bb, rfl, hbb, rfl⟩
  cases bb
  rotate_left
  · have HS := Lib.hid (SAME.out (.cells #[S a, .slice A kl c] 36) (.inr (.inl (hbb.1 rfl))))
    clear hbb
    go_wp2_with fail
    go_ret
    exact HS.out
  have N1 : Hid (a ∉ bd) := fun h => by have := hbb.2 h; cases this
  clear hbb
  go_wp2_with fail
  refine (HLI.out _).mono ?_
  rintro e w' ⟨bb, rfl, hbb, rfl⟩
  cases bb
  rotate_left
  · have HS := Lib.hid (SAME.out (.cells #[S a, .slice A kl c] 36) (.inr (.inr (hbb.1 rfl))))
    clear hbb
    go_wp2_with fail
    go_ret
    exact HS.out
  have N2 : Hid (a ∉ l) := fun h => by have := hbb.2 h; cases this
  clear hbb
  have HE : Hid (fsT a k bd l = l ++ [a]) := by
    refine Lib.hid ?_
    rw [HF.out, if_neg]
    rintro (h | h | h)
    · rw [HQ.out] at h; cases h
    · exact N1.out h
    · exact N2.out h
  obtain ⟨i0, hi0, hz0, hz1, hz2⟩ := info_parts info_str
  have HOA : Hid (∀ o o' : Obj, ((w.alloc o).alloc o').ownsRow B 9 1 (.slice V l.length vc) l.length (l.map S)) := fun o o' => (HO.out.alloc o).alloc o'
  have HC1 : Hid (∀ o : Obj, ∀ (j : Nat) (u : Value), [S a][j]? = some u → ((w.alloc o).alloc (.cells #[S a] 9)).cell? ((⟨w.heap.size + 1, 0, none⟩ : Addr).add j) = some u) := fun o => cells_new (w := w.alloc o) (by simp) [S a] 9
  have HC2 : Hid (∀ u ∈ [S a], u.oneCell' = true) := by
    intro u hu
    simp at hu
    rw [hu]; rfl
  have HC5 : Hid (∀ o o' : Obj, B ≤ ((w.alloc o).alloc o').heap.size) := fun o o' => by have := HB.out; simp; omega
  have bnd : (l.length + 1) * 16 ≤ 140737488355328 := by omega
  have bnd2 : l.length + 1 ≤ maxLen := by unfold maxLen; omega
  have FIN : Hid (∀ (o o' : Obj) (v' : Value) (w2 : World), w2.ownsRow B 9 1 v' (l.length + 1) (l.map S ++ [S a]) → ((w.alloc o).alloc o').grownBy w2 (Value.slice V l.length vc).ownBlock →
      (v'.ownBlock = (Value.slice V l.length vc).ownBlock ∨ v'.ownBlock = some ((w.alloc o).alloc o').heap.size) → AddL B (fsT a k bd l) w (.slice V l.length vc) (.returned v') w2) := by
    intro o o' v' w2 h1 h2 h3
    rw [HE.out]
    exact AddL.snoc (((Fr.refl _ w).alloc o).alloc o') h1 h2 h3
  go_wp2_with (at_builtin; go_must (refine wpList_append_own_at _ rfl _ _ 24 rfl B 9 i0 (.string ⟨#[]⟩) 1 16 Tryd.underlying24 hi0 hz0 hz1 hz2 rfl (by decide) _ l.length (l.map S) rfl (HOA.out _ _) ⟨w.heap.size + 1, 0, none⟩ 1 1 [S a] rfl rfl (HC1.out _) HC2.out bnd2 bnd (HC5.out _ _) ?_); intro v' w2 hown' hgrow _ hloc; have HG := Lib.hid (FIN.out _ _ v' w2 hown' hgrow hloc); clear hown' hgrow hloc)
  go_ret
  exact HG.out
end Go.Proofs.YthbidlcfahdfhaaDoor
