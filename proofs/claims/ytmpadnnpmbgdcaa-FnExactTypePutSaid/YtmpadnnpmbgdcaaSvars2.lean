import Derived.Test.YtmpadnnpmbgdcaaSvars
import Derived.Deep.RegionHeld3
namespace Go.Proofs.Ytmpadnnpmbgdcaa
open Go.RowKit Go.ChangeMaps

theorem isVar_letter {n : Nat} (h : n < 25) : isVar [Ty.letter n] = true := (var_iff _).2 ⟨n, h, rfl⟩

theorem letS_snoc (vs : List Nat) (n : Nat) : letS (vs ++ [n]) = letS vs ++ [[Ty.letter n]] := by simp [letS]
theorem letS_len (vs : List Nat) : (letS vs).length = vs.length := by simp [letS]

set_option maxRecDepth 100000 in
set_option maxHeartbeats 1000000 in
theorem sv_var (n : Nat) (hn : n < 25) : SvSaid (.v n) := by
  intro w A c T B V vc vs hvs hlen hB _ _ ho
  have hll := letS_len vs
  simp only [Ty.size] at hlen
  have hl2 : (letS vs).length ≤ 1000 := by omega
  have HLL := Lib.hid hll
  clear hll
  have HO := Lib.hid ho
  have hmem := let_mem hvs hn
  have hown := ho.lt
  simp only [Ty.atom, Ty.kids, Fo.len]
  have b0 := Blk.new w 47 #[S [Ty.letter n], .slice A 0 c]
  have CON : Hid (∀ o : Obj, Calls Try.prog 34 #[.slice V (letS vs).length vc, S [Ty.letter n]] (w.alloc o) fun e w' => HasS (letS vs) [Ty.letter n] (w.alloc o) e w') :=
    fun o => has_any _ V (letS vs) vc [Ty.letter n] (SSl.of_own (ho.alloc o)) (by omega)
  have HV := Lib.hid (isVar_letter hn)
  have HNO : Hid (n ∉ vs → addV vs (.v n) = vs ++ [n]) := fun h => by simp [addV, h]
  have HYES : Hid (n ∈ vs → addV vs (.v n) = vs) := fun h => by simp [addV, h]
  have hsnoc := letS_snoc vs n
  have HSN := Lib.hid hsnoc
  have HVL : Hid ([Ty.letter n].length ≤ maxLen) := by show 1 ≤ maxLen; unfold maxLen; omega
  clear ho hsnoc
  generalize Ty.letter n = x at b0 CON HV HSN hmem HVL ⊢
  have c0 : (w.alloc (.cells #[S [x], .slice A 0 c] 47)).cell? ⟨w.heap.size, 0, none⟩ = some (S [x]) := (b0.cell 0).trans rfl
  go_enter Try.func45, Try.ntmps45
  go_wp2_with fail
  refine (var_any2 [x] _ HVL.out).mono ?_
  rintro e w' ⟨rfl, rfl⟩
  rw [HV.out]
  go_wp2_with fail
  refine (CON.out _).mono ?_
  rintro e w' ⟨bb, rfl, hbb, rfl⟩
  clear b0
  cases bb
  · have hni : n ∉ vs := fun h => by have := hbb.2 (hmem.2 h); cases this
    have HE := Lib.hid (HNO.out hni)
    clear hbb hmem hni
    obtain ⟨i0, hi0, hz0, hz1, hz2⟩ := info_parts info_str
    have HOA : Hid (∀ o o' : Obj, ((w.alloc o).alloc o').ownsRow B 9 1 (.slice V (letS vs).length vc) (letS vs).length ((letS vs).map S)) := fun o o' => (HO.out.alloc o).alloc o'
    have HC1 : Hid (∀ o : Obj, ∀ (j : Nat) (u : Value), [S [x]][j]? = some u → ((w.alloc o).alloc (.cells #[S [x]] 9)).cell? ((⟨w.heap.size + 1, 0, none⟩ : Addr).add j) = some u) := fun o => cells_new (w := w.alloc o) (by simp) [S [x]] 9
    have HC2 : Hid (∀ u ∈ [S [x]], u.oneCell' = true) := by
      intro u hu
      simp at hu
      rw [hu]; rfl
    have HC5 : Hid (∀ o o' : Obj, B ≤ ((w.alloc o).alloc o').heap.size) := fun o o' => by simp; omega
    have bnd : ((letS vs).length + 1) * 16 ≤ 140737488355328 := by omega
    have bnd2 : (letS vs).length + 1 ≤ maxLen := by unfold maxLen; omega
    have FIN : Hid (∀ (o o' : Obj) (v' : Value) (w2 : World), w2.ownsRow B 9 1 v' ((letS vs).length + 1) ((letS vs).map S ++ [S [x]]) → ((w.alloc o).alloc o').grownBy w2 (Value.slice V (letS vs).length vc).ownBlock →
        (v'.ownBlock = (Value.slice V (letS vs).length vc).ownBlock ∨ v'.ownBlock = some ((w.alloc o).alloc o').heap.size) → AddS B (addV vs (.v n)) w (.slice V (letS vs).length vc) (.returned v') w2) := by
      intro o o' v' w2 h1 h2 h3
      rw [HE.out]
      obtain ⟨A', c', rfl⟩ := own_form h1
      have e1 : (letS vs).map S ++ [S [x]] = (letS (vs ++ [n])).map S := by rw [HSN.out]; simp
      have e2 : (letS (vs ++ [n])).length = (letS vs).length + 1 := by rw [HSN.out]; simp
      rw [e1] at h1
      refine ⟨A', c', by rw [e2], ?_, by rw [e2]; exact h1, ?_⟩
      · exact (((Fr.refl _ w).alloc o).alloc o').grown h2 (fun k hk => .inl hk)
      · rw [e2]
        rcases h3 with h3 | h3
        · exact .inl h3
        · refine .inr (fun b hb => ?_)
          have hb' : some ((w.alloc o).alloc o').heap.size = some b := h3.symm.trans hb
          injection hb' with hb'
          rw [← hb']; simp; omega
    go_wp2_with (at_builtin; go_must (refine wpList_append_own_at _ rfl _ _ 22 rfl B 9 i0 (.string ⟨#[]⟩) 1 16 Try.underlying22 hi0 hz0 hz1 hz2 rfl (by decide) _ (letS vs).length ((letS vs).map S) rfl (HOA.out _ _) ⟨w.heap.size + 1, 0, none⟩ 1 1 [S [x]] rfl rfl (HC1.out _) HC2.out bnd2 bnd (HC5.out _ _) ?_); intro v' w2 hown' hgrow _ hloc; have HF := Lib.hid (FIN.out _ _ v' w2 hown' hgrow hloc); clear hown' hgrow hloc)
    go_ret
    exact HF.out
  · have hni : n ∈ vs := hmem.1 (hbb.1 rfl)
    have HE := Lib.hid (HYES.out hni)
    clear hbb hmem hni
    have FIN : Hid (∀ o : Obj, AddS B (addV vs (.v n)) w (.slice V (letS vs).length vc) (.returned (.slice V (letS vs).length vc)) (w.alloc o)) := by
      intro o
      rw [HE.out]
      exact ⟨V, vc, rfl, (Fr.refl _ w).alloc o, HO.out.alloc o, .inl rfl⟩
    go_wp2_with fail
    go_ret
    exact FIN.out _

set_option maxHeartbeats 1000000 in
theorem sv_o : SvSaid .o := by
  intro w A c T B V vc vs hvs hlen hB _ _ ho
  have FIN : Hid (∀ o : Obj, AddS B (addV vs .o) w (.slice V (letS vs).length vc) (.returned (.slice V (letS vs).length vc)) (w.alloc o)) := fun o => ⟨V, vc, rfl, (Fr.refl _ w).alloc o, ho.alloc o, .inl rfl⟩
  have HV : Hid (isVar [111] = false) := rfl
  have HVL : Hid (([111] : List UInt8).length ≤ maxLen) := by show 1 ≤ maxLen; unfold maxLen; omega
  clear ho
  simp only [Ty.atom, Ty.kids, Fo.len]
  generalize (letS vs).length = k at FIN ⊢
  go_enter Try.func45, Try.ntmps45
  go_wp2_with fail
  refine (var_any2 [111] _ HVL.out).mono ?_
  rintro e w' ⟨rfl, rfl⟩
  rw [HV.out]
  go_wp2_with fail
  go_ret
  exact FIN.out _
end Go.Proofs.Ytmpadnnpmbgdcaa
