/- TermFree of the program and of the model. -/
import Derived.Test.YthbidlcfahdfhaaDoorS2free2
namespace Go.Proofs.YthbidlcfahdfhaaDoor
open Go.RowKit Go.ChangeMaps

theorem fs_any (N : Nat) : ∀ k : Fo, SizeOf.sizeOf k < N → FsSaid k := by
  induction N with
  | zero => intro k h; omega
  | succ N ih =>
    intro k hN a A c w T B V vc l VB vb bd htm hs hls hbs hB hT hA hbd hbv ho
    by_cases he : a = []
    · subst he
      have h2 : isTms none k = true := by simpa [isTm] using htm
      have e1 : fsT [] k bd l = fsU k (.top bd) l := by simp [fsT]
      have e2 : treeSize [] k = k.size := by simp [treeSize]
      rw [e1]
      rw [e2] at hs hls hbs
      cases k with
      | nil => cases h2
      | cons g k0 r => exact fs_node g k0 r (fun a' k' j hn => ih k' (by have := Fo.nth_small _ j a' k' hn; omega)) A c w T B V vc l VB vb bd h2 hs hls hbs hB hT hA hbd hbv ho
    · have h1 : isAtomTm a = true := by simpa [isTm, he] using htm
      have := (atom_bytes h1).2.2.2
      exact fs_atom k a A c w B V vc l VB vb bd he (by omega) (by omega) (by omega) hB hbd ho

def FreeIs (s : List UInt8) (xs : List (List UInt8)) (b : Bool) : Prop := (∃ a k, TmOk s a k ∧ xs = fsT a k [] [] ∧ b = true) ∨ ((∀ a k, ¬ TmOk s a k) ∧ xs = [] ∧ b = false)

theorem FreeIs.one {s : List UInt8} {xs xs' : List (List UInt8)} {b b' : Bool} (h : FreeIs s xs b) (h' : FreeIs s xs' b') : xs' = xs ∧ b' = b := by
  rcases h with ⟨a, k, i1, rfl, rfl⟩ | ⟨n1, rfl, rfl⟩ <;> rcases h' with ⟨a', k', i2, rfl, rfl⟩ | ⟨n2, rfl, rfl⟩
  · obtain ⟨rfl, rfl⟩ := i1.unique i2
    exact ⟨rfl, rfl⟩
  · exact absurd i1 (n2 a k)
  · exact absurd i2 (n1 a' k')
  · exact ⟨rfl, rfl⟩

theorem FreeIs.len {s : List UInt8} {xs : List (List UInt8)} {b : Bool} (h : FreeIs s xs b) : xs.length ≤ 900 := by
  rcases h with ⟨a, k, i1, rfl, rfl⟩ | ⟨n1, rfl, rfl⟩
  · have h1 := fst_len a k [] []
    have h2 := i1.2.2.2
    simp at h1
    omega
  · simp

def AnsFree (s : List UInt8) (w : World) (e : Ending) (w' : World) : Prop :=
  ∃ V vc b xs, e = .returned (.tuple #[.slice V xs.length vc, .bool b]) ∧ w'.ownsRow w.heap.size 9 1 (.slice V xs.length vc) xs.length (xs.map S) ∧ Fr No w w' ∧ FreeIs s xs b

theorem AnsFree.none_ {s : List UInt8} {w w1 : World} (hf : Fr No w w1) (hno : ∀ a k, ¬ TmOk s a k) : AnsFree s w (.returned (.tuple #[.slice (some ⟨w1.heap.size, 0, none⟩) 0 0, .bool false])) (w1.alloc (.cells #[] 9)) :=
  ⟨some ⟨w1.heap.size, 0, none⟩, 0, false, [], rfl, own_empty w1 _ hf.size _ rfl, hf.alloc _, .inr ⟨hno, rfl, rfl⟩⟩

set_option maxHeartbeats 1000000 in
theorem freeNames_any (w : World) (T : Nat → Prop) (h a : List UInt8) (d p : Nat) (k : Ts) (hs : k.size ≤ 5000) (hT : ∀ b, T b → b < w.heap.size) (ht : Tm w T p h a d k) :
    Calls Tryd.prog 39 #[Ptr p] w fun e w' => ∃ A c, e = .returned (.slice A (frN h a k []).length c) ∧ Fr No w w' ∧ w'.ownsRow w.heap.size 9 1 (.slice A (frN h a k []).length c) (frN h a k []).length ((frN h a k []).map S) := by
  have CALL : Hid (Calls Tryd.prog 60 #[.slice (some ⟨w.heap.size, 0, none⟩) 0 0, Ptr p] (w.alloc (.cells #[] 9)) fun e w' => ∃ A c, e = .returned (.slice A (frN h a k []).length c) ∧ Fr No w w' ∧ w'.ownsRow w.heap.size 9 1 (.slice A (frN h a k []).length c) (frN h a k []).length ((frN h a k []).map S)) := by
    have hfa : Fr No w (w.alloc (.cells #[] 9)) := (Fr.refl _ _).alloc _
    refine (free_all _ k (Nat.lt_succ_self _) h a d p _ T w.heap.size (some ⟨w.heap.size, 0, none⟩) 0 [] hs (by simp; omega) hfa.size (fun b hb => ⟨Nat.lt_of_lt_of_le (hT b hb) hfa.size, fun e => ?_⟩) (ht.mono (fun _ h => h) (fun b hb => hfa.block b (hT b hb) (fun h => h))) (own_empty w _ (Nat.le_refl _) _ rfl)).mono ?_
    · have := hT b hb
      simp only [Value.ownBlock, Option.some.injEq] at e
      omega
    · rintro e w' ⟨A, c, rfl, g1, g2, _⟩
      refine ⟨A, c, rfl, hfa.then_ g1 (fun i hi e => ?_), g2⟩
      simp only [Value.ownBlock, Option.some.injEq] at e
      omega
  clear ht hT
  generalize frN h a k [] = xs at *
  go_enter Tryd.func39, Tryd.ntmps39
  go_wp2_with fail
  refine CALL.out.mono ?_
  rintro e w1 ⟨A, c, rfl, g1, g2⟩
  have HG := Lib.hid (And.intro g1 g2)
  clear g1 g2
  go_wp2_with fail
  go_ret
  exact ⟨A, c, rfl, HG.out.1, HG.out.2⟩

set_option maxHeartbeats 1000000 in
theorem implTmFree (w : World) (s : List UInt8) (hs : s.length ≤ maxLen) :
    Calls Tryd.prog 21 #[S s] w fun e w' => AnsFree s w e w' := by
  go_enter Tryd.func21, Tryd.ntmps21
  go_wp2_with fail
  refine (readTerm_any w s hs).mono ?_
  rintro e w1 ⟨hf, ⟨a, k, p, hi, rfl, htm⟩ | ⟨hno, rfl⟩⟩
  · have hw := hi.2.wf
    have hsz := node_size [] hi.2.2.1 hw.1 hw.2
    have hsm := hi.2.2.2
    have FN := Lib.hid (freeNames_any w1 _ _ _ _ p _ (by split at hsz <;> omega) (fun b hb => hb.2) htm)
    rw [fr_term [] hi.2.2.1 hw.1 hw.2] at FN
    have HI := Lib.hid hi
    have HF := Lib.hid hf
    obtain ⟨xs, HX⟩ : ∃ xs, Hid (fsT a k [] [] = xs) := ⟨_, rfl⟩
    rw [HX.out] at FN
    clear htm hi hf hw hsz hsm
    go_wp2_with fail
    refine FN.out.mono ?_
    rintro e w2 ⟨A, c, rfl, g1, g2⟩
    have FIN : Hid (AnsFree s w (.returned (.tuple #[.slice A xs.length c, .bool true])) w2) := ⟨A, c, true, xs, rfl, ⟨g2.1, by
      rcases g2.2 with h | ⟨g, cap, cur, h1, h2, h3⟩
      · exact .inl h
      · exact .inr ⟨g, cap, cur, h1, Nat.le_trans HF.out.size h2, h3⟩⟩, HF.out.trans g1, .inl ⟨a, k, HI.out, HX.out.symm, rfl⟩⟩
    clear g1 g2
    go_wp2_with fail
    refine bodyPost_ret (v := .tuple #[.slice A xs.length c, .bool true]) (by simp [results, Tryd.results21, go_sem]) rfl ?_
    exact FIN.out
  · have FIN := Lib.hid (AnsFree.none_ hf hno)
    clear hno hf
    go_wp2_with fail
    refine bodyPost_ret (v := .tuple #[.slice (some ⟨w1.heap.size, 0, none⟩) 0 0, .bool false]) (by simp [results, Tryd.results21, go_sem]) rfl ?_
    exact FIN.out

set_option maxHeartbeats 1000000 in
theorem specTmFree (w : World) (s : List UInt8) (hs : s.length ≤ maxLen) :
    Calls Tryd.prog 20 #[S s] w fun e w' => AnsFree s w e w' := by
  go_enter Tryd.func20, Tryd.ntmps20
  go_wp2_with fail
  refine (term_any s _ hs).mono ?_
  rintro e w1 ⟨hf, ⟨a, k, A, c, hi, rfl, hsl⟩ | ⟨a, A, m, c, hno, rfl⟩⟩
  · obtain ⟨xs, HX⟩ : ∃ xs, Hid (fsT a k [] [] = xs) := ⟨_, rfl⟩
    have CALL : Hid (∀ o : Obj, Calls Tryd.prog 38 #[.agg #[S a, .slice A k.len c], .slice (some ⟨w1.heap.size + 1, 0, none⟩) 0 0, .slice (some ⟨w1.heap.size + 2, 0, none⟩) 0 0] (((w1.alloc o).alloc (.cells #[] 9)).alloc (.cells #[] 9)) fun e w' =>
        ∃ V vc, e = .returned (.slice V xs.length vc) ∧ Fr No w w' ∧ w'.ownsRow w.heap.size 9 1 (.slice V xs.length vc) xs.length (xs.map S)) := by
      intro o
      have hT : ∀ b, New w w1 b → b < w1.heap.size := fun b hb => hb.2
      have hfa : Fr No w1 (((w1.alloc o).alloc (.cells #[] 9)).alloc (.cells #[] 9)) := (((Fr.refl _ _).alloc _).alloc _).alloc _
      have hsm := hi.2.2.2
      have hown : (((w1.alloc o).alloc (.cells #[] 9)).alloc (.cells #[] 9)).ownsRow w.heap.size 9 1 (.slice (some ⟨w1.heap.size + 2, 0, none⟩) 0 0) 0 [] := by
        have := own_empty ((w1.alloc o).alloc (.cells #[] 9)) w.heap.size (by have := hf.size; simp; omega) _ rfl
        simpa using this
      refine (fs_any _ k (Nat.lt_succ_self _) a A c _ (New w w1) w.heap.size (some ⟨w1.heap.size + 2, 0, none⟩) 0 [] (some ⟨w1.heap.size + 1, 0, none⟩) 0 [] hi.2.2.1 (by omega) (by simp; omega) (by simp; omega) (Nat.le_trans hf.size hfa.size) (fun b hb => ⟨Nat.lt_of_lt_of_le (hT b hb) hfa.size, fun e => ?_⟩) (hsl.fr hT hfa) ⟨fun j x hj => by simp at hj, _, _, rfl, by simp⟩ (fun g o e e2 => ?_) hown).mono ?_
      · have := hT b hb
        simp only [Value.ownBlock, Option.some.injEq] at e
        omega
      · simp only [Option.some.injEq, Addr.mk.injEq, and_true] at e
        simp only [Value.ownBlock, Option.some.injEq] at e2
        omega
      · rw [HX.out]
        rintro e w' ⟨V, vc, rfl, g1, g2, _⟩
        refine ⟨V, vc, rfl, (hf.trans hfa).then_ g1 (fun i hi e => ?_), g2⟩
        simp only [Value.ownBlock, Option.some.injEq] at e
        have := hf.size
        omega
    have FIN : Hid (∀ (V : Option Addr) (vc : Nat) (w' : World), Fr No w w' → w'.ownsRow w.heap.size 9 1 (.slice V xs.length vc) xs.length (xs.map S) → AnsFree s w (.returned (.tuple #[.slice V xs.length vc, .bool true])) w') := by
      have HI := Lib.hid hi
      exact fun V vc w' h1 h2 => ⟨V, vc, true, xs, rfl, h2, h1, .inl ⟨a, k, HI.out, HX.out.symm, rfl⟩⟩
    clear hsl hi hf HX
    generalize k.len = kl at *
    go_wp2_with fail
    refine (CALL.out _).mono ?_
    rintro e w4 ⟨V, vc, rfl, g1, g2⟩
    have HG := Lib.hid (FIN.out V vc w4 g1 g2)
    clear g1 g2 FIN CALL
    go_wp2_with fail
    refine bodyPost_ret (v := .tuple #[.slice V xs.length vc, .bool true]) (by simp [results, Tryd.results20, go_sem]) rfl ?_
    exact HG.out
  · have FIN : Hid (∀ o : Obj, AnsFree s w (.returned (.tuple #[.slice (some ⟨w1.heap.size + 1, 0, none⟩) 0 0, .bool false])) ((w1.alloc o).alloc (.cells #[] 9))) := fun o => by
      have := AnsFree.none_ (hf.alloc o) hno
      simpa using this
    clear hno hf
    go_wp2_with fail
    refine bodyPost_ret (v := .tuple #[.slice (some ⟨w1.heap.size + 1, 0, none⟩) 0 0, .bool false]) (by simp [results, Tryd.results20, go_sem]) rfl ?_
    exact FIN.out _
end Go.Proofs.YthbidlcfahdfhaaDoor
