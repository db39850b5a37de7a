/- Lists of texts copied by the model (l1With), nothing behind them; the draw of what is put. -/
import Derived.Test.YtngbpcphkfmncaaDrm
import Derived.Test.YtngbpcphkfmncaaTpt
import Derived.Maps.AppendAt
import Derived.Deep.Upon
namespace Go.Proofs.Ytngbpcphkfmncaa
open Go.RowKit Go.ChangeMaps

theorem ownEmpty (w : World) (B : Nat) (h : B ≤ w.heap.size) (o : Obj) (ho : o = .cells #[] 9) : (w.alloc o).ownsRow B 9 1 (.slice (some ⟨w.heap.size, 0, none⟩) 0 0) 0 [] := by
  subst ho
  exact ⟨rfl, .inr ⟨w.heap.size, 0, #[], rfl, h, heap_alloc_new w _, Nat.le_refl _, Nat.zero_le _, rfl, rfl⟩⟩

theorem infoStr : ∃ i0, Try.prog.info? 9 = some i0 ∧ i0.zero = some (.string ⟨#[]⟩) ∧ i0.size = 1 ∧ i0.bytes = 16 := by
  have h := info_str
  cases hi : Try.prog.info? 9 with
  | none => rw [hi] at h; cases h
  | some i0 =>
    rw [hi] at h
    simp only [Option.map_some, Option.some.injEq, Prod.mk.injEq] at h
    exact ⟨i0, rfl, h.1, h.2.1, h.2.2⟩

set_option maxRecDepth 100000 in
set_option maxHeartbeats 1000000 in
theorem with0_any (w : World) (g o : Nat) (bd : List (List UInt8)) (c : Nat) (hsl : SSl w (some ⟨g, o, none⟩) bd) (hl : bd.length ≤ 100000) :
    Calls Try.prog 62 #[.slice (some ⟨g, o, none⟩) bd.length c, .slice none 0 0] w fun e w' => ∃ A' c', e = .returned (.slice A' bd.length c') ∧ w'.ownsRow w.heap.size 9 1 (.slice A' bd.length c') bd.length (bd.map S) ∧ Fr No w w' := by
  obtain ⟨i0, hi0, hz0, hz1, hz2⟩ := infoStr
  have HO : Hid (∀ ob : Obj, ob = .cells #[] 9 → (w.alloc ob).ownsRow w.heap.size 9 1 (.slice (some ⟨w.heap.size, 0, none⟩) 0 0) 0 []) := fun ob e => ownEmpty w _ (Nat.le_refl _) ob e
  have HC1 : Hid (∀ ob : Obj, ∀ (j : Nat) (u : Value), (bd.map S)[j]? = some u → (w.alloc ob).cell? ((⟨g, o, none⟩ : Addr).add j) = some u) := by
    intro ob j u hj
    rw [List.getElem?_map] at hj
    obtain ⟨y, hy, rfl⟩ := Option.map_eq_some_iff.1 hj
    obtain ⟨g', o', e, hc⟩ := (sslFr (T := No) hsl ((Fr.refl _ w).alloc ob) (fun _ _ _ h => h)) j y hy
    simp only [Option.some.injEq, Addr.mk.injEq, and_true] at e
    obtain ⟨rfl, rfl⟩ := e
    rw [addr_add]
    exact hc
  have HC2 : Hid (∀ u ∈ bd.map S, u.oneCell' = true) := by
    intro u hu
    obtain ⟨y, _, rfl⟩ := List.mem_map.1 hu
    rfl
  have HL1 : Hid ((bd.map S).length = bd.length * 1) := by refine Lib.hid ?_; rw [List.length_map, Nat.mul_one]
  have bnd : (0 + bd.length) * 16 ≤ 140737488355328 := by omega
  have bnd2 : 0 + bd.length ≤ maxLen := by unfold maxLen; omega
  have HB : Hid (∀ ob : Obj, w.heap.size ≤ (w.alloc ob).heap.size) := fun ob => by simp
  have SECOND : Hid (∀ (ob : Obj) (v' : Value) (w2 : World), w2.ownsRow w.heap.size 9 1 v' (0 + bd.length) ([] ++ bd.map S) → (w.alloc ob).grownBy w2 (some w.heap.size) →
      ∃ A' c', v' = .slice A' bd.length c' ∧ bd.length ≤ c' ∧ Hid (w2.ownsRow w.heap.size 9 1 (.slice A' bd.length c') bd.length (bd.map S) ∧ Fr No w w2)) := by
    intro ob v' w2 h1 h2
    have hf : Fr No w w2 := ((Fr.refl _ w).alloc ob).grown h2 (fun b hb => .inr (by injection hb with hb; omega))
    rw [Nat.zero_add, List.nil_append] at h1
    have h3 := h1
    rcases h1.2 with ⟨rfl, hn⟩ | ⟨g', cap', cur, rfl, _, _, h5, _⟩
    · rw [hn] at h3 ⊢
      exact ⟨none, 0, rfl, Nat.le_refl _, h3, hf⟩
    · exact ⟨_, cap', rfl, by omega, h3, hf⟩
  clear hsl
  go_enter Try.func62, Try.ntmps62
  go_wp2_with (at_builtin; (refine wpList_append_own_at _ rfl _ _ 23 rfl w.heap.size 9 i0 (.string ⟨#[]⟩) 1 16 Try.underlying23 hi0 hz0 hz1 hz2 rfl (by decide) _ 0 [] rfl (HO.out _ rfl) ⟨g, o, none⟩ bd.length c (bd.map S) rfl HL1.out (HC1.out _) HC2.out bnd2 bnd (HB.out _) ?_); intro v' w2 hown' hgrow _ hloc; obtain ⟨A', c', rfl, hle, HN⟩ := SECOND.out _ v' w2 hown' hgrow; clear hown' hgrow hloc)
  all_goals go_simp
  all_goals go_wp2_with fail
  all_goals go_ret
  all_goals exact ⟨_, _, rfl, HN.out⟩
end Go.Proofs.Ytngbpcphkfmncaa
