import Derived.Test.YtjkkjdmfhdoojaaTvars
namespace Go.Proofs.Ytjkkjdmfhdoojaa
open Go.RowKit Go.ChangeMaps

theorem own_empty (w : World) (B : Nat) (h : B ≤ w.heap.size) (o : Obj) (ho : o = .cells #[] 9) : (w.alloc o).ownsRow B 9 1 (.slice (some ⟨w.heap.size, 0, none⟩) 0 0) 0 [] := by
  subst ho
  exact ⟨rfl, .inr ⟨w.heap.size, 0, #[], rfl, h, heap_alloc_new w _, Nat.le_refl _, Nat.zero_le _, rfl, rfl⟩⟩

set_option maxRecDepth 100000 in
set_option maxHeartbeats 1000000 in
theorem specVars (w : World) (s : List UInt8) (hs : s.length ≤ maxLen) :
    Calls Try.prog 20 #[S s] w fun e w' => AnsVars s w e w' := by
  go_enter Try.func20, Try.ntmps20
  go_wp2_with fail
  refine (type_any s _ hs).mono ?_
  rintro e w1 ⟨hf, ⟨t, A, c, hi, rfl, hsl⟩ | ⟨a, A, m, c, hno, rfl⟩⟩
  · have hsz := hi.2.2
    have hlets := hi.2.1
    have SV : Hid (∀ w2 : World, Fr No w1 w2 → ∀ g, w1.heap.size ≤ g → w2.ownsRow w.heap.size 9 1 (.slice (some ⟨g, 0, none⟩) 0 0) 0 [] →
        Calls Try.prog 53 #[.agg #[S t.atom, .slice A t.kids.len c], .slice (some ⟨g, 0, none⟩) 0 0] w2 fun e w' => AddS w.heap.size (addV [] t) w2 (.slice (some ⟨g, 0, none⟩) 0 0) e w') := by
      intro w2 h2 g hg ho
      have hT : ∀ b, New w w1 b → b < w1.heap.size := fun b hb => hb.2
      refine sv_any t hlets w2 A c (New w w1) w.heap.size (some ⟨g, 0, none⟩) 0 [] (by simp) (by simp; omega) (Nat.le_trans hf.size h2.size) ?_ (hsl.fr hT h2) ho
      intro b hb
      refine ⟨Nat.lt_of_lt_of_le (hT b hb) h2.size, fun e => ?_⟩
      have := hT b hb
      simp only [Value.ownBlock, Option.some.injEq] at e
      omega
    have HI := Lib.hid hi
    have HF := Lib.hid hf
    have hsz1 : w.heap.size ≤ w1.heap.size := hf.size
    clear hsl hsz hlets hi hf
    generalize t.atom = a0 at *
    generalize t.kids.len = k0 at *
    have CALLV : Hid (Calls Try.prog 53 #[.agg #[S a0, .slice A k0 c], .slice (some ⟨w1.heap.size + 1, 0, none⟩) 0 0] ((w1.alloc (.cells #[S a0, .slice A k0 c] 54)).alloc (.cells #[] 9)) fun e w' =>
        ∃ V vc, e = .returned (.slice V (letS (addV [] t)).length vc) ∧ Fr No w w' ∧ w'.ownsRow w.heap.size 9 1 (.slice V (letS (addV [] t)).length vc) (letS (addV [] t)).length ((letS (addV [] t)).map S)) := by
      refine (SV.out _ (((Fr.refl _ _).alloc _).alloc _) (w1.heap.size + 1) (by omega) ?_).mono ?_
      · have := own_empty (w1.alloc (.cells #[S a0, .slice A k0 c] 54)) w.heap.size (by simp; omega) _ rfl
        simpa using this
      · rintro e w' ⟨V, vc, rfl, g1, g2, _⟩
        refine ⟨V, vc, rfl, ((HF.out.alloc _).alloc _).then_ g1 (fun i hi e => ?_), g2⟩
        simp only [Value.ownBlock, Option.some.injEq] at e
        omega
    have FIN : Hid (∀ (V : Option Addr) (vc : Nat) (w' : World), Fr No w w' → w'.ownsRow w.heap.size 9 1 (.slice V (letS (addV [] t)).length vc) (letS (addV [] t)).length ((letS (addV [] t)).map S) → AnsVars s w (.returned (.tuple #[.slice V (letS (addV [] t)).length vc, .bool true])) w') :=
      fun V vc w' h1 h2 => ⟨V, vc, true, _, rfl, h2, h1, .inl ⟨t, HI.out, rfl, rfl⟩⟩
    clear SV HI HF
    generalize letS (addV [] t) = ls at *
    go_wp2_with fail
    go_wp2_with fail
    refine CALLV.out.mono ?_
    rintro e w4 ⟨V, vc, rfl, g1, g2⟩
    have HG := Lib.hid (FIN.out V vc w4 g1 g2)
    clear g1 g2 FIN CALLV
    go_wp2_with fail
    refine bodyPost_ret (v := .tuple #[.slice V ls.length vc, .bool true]) (by simp [results, Try.results20, go_sem]) rfl ?_
    exact HG.out
  · have HN : Hid (∀ t, ¬ Ty.Is s t) := fun t h => hno _ h
    clear hno
    have HF := Lib.hid hf
    clear hf
    go_wp2_with fail
    refine bodyPost_ret (v := .tuple #[.slice (some ⟨w1.heap.size + 1, 0, none⟩) 0 0, .bool false]) (by simp [results, Try.results20, go_sem]) rfl ?_
    refine ⟨some ⟨w1.heap.size + 1, 0, none⟩, 0, false, [], rfl, ?_, (HF.out.alloc _).alloc _, .inr ⟨HN.out, rfl, rfl⟩⟩
    have := own_empty (w1.alloc (.cells #[S a, .slice A m c] 54)) w.heap.size (by have := HF.out.size; simp; omega) _ rfl
    simpa using this
end Go.Proofs.Ytjkkjdmfhdoojaa
