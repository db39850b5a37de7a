/- Redexes of the model: l4Redex, l4Count. -/
import Derived.Test.YtnjgaenhjdjpfaaGreatDoorLawT2
import Derived.Test.YtnjgaenhjdjpfaaGreatDoorTst
namespace Go.Proofs.YtnjgaenhjdjpfaaGreatDoor
open Go.RowKit Go.ChangeMaps

theorem headOf_eq (a : List UInt8) (k : Fo) : headOf a k = if a = [] then hd1 k else [] := by
  unfold headOf
  cases k <;> rfl

theorem head_is {a : List UInt8} {k : Fo} {g : List UInt8} (hg : g ≠ []) : (headOf a k == g) = (a == [] && hd1 k == g) := by
  rw [headOf_eq]
  by_cases ha : a = []
  · subst ha; simp
  · rw [if_neg ha, Bool.eq_iff_iff]
    simp [ha]
    exact fun e => hg e

def rxB (a : List UInt8) (k : Fo) : Bool := if a = [] then rxF k else false

set_option maxRecDepth 100000 in
set_option maxHeartbeats 4000000 in
theorem redex4_any (w : World) (T : Nat → Prop) (a : List UInt8) (A : Option Addr) (c : Nat) (k : Fo) (h : OkT a k) (hA : Sl w T A k) (hT : ∀ b, T b → b < w.heap.size) :
    Calls Tryz.prog 44 #[.agg #[S a, .slice A k.len c]] w fun e w' => e = .returned (.bool (rxB a k)) ∧ Fr No w w' := by
  by_cases ha : a = []
  · subst ha
    have er : rxB [] k = rxF k := rfl
    rw [er]
    have hk := kdT h
    have P : ∀ j, j < k.len → ∃ g o a' k' A' c', A = some ⟨g, o, none⟩ ∧ g < w.heap.size ∧ k.nth j = some (a', k') ∧ w.cell? ⟨g, o + j * 2, none⟩ = some (S a') ∧ w.cell? ⟨g, o + j * 2 + 1, none⟩ = some (.slice A' k'.len c') ∧ Sl w T A' k' := fun j hj => by
      obtain ⟨g, o, a', k', A', c', e1, e2, e3, e4, e5, e6⟩ := hA.nth hj
      exact ⟨g, o, a', k', A', c', e1, hT g e2, e3, e4, e5, e6⟩
    have l0 : 1 < k.len := by cases hk <;> simp [Fo.len]
    obtain ⟨g, o, h0, k0, A0, c0, rfl, lg, n0, x0, _, _⟩ := P 0 (by omega)
    obtain ⟨g', o', a1, k1, A1, c1, e, _, n1, x1, x2, s1⟩ := P 1 l0
    simp only [Option.some.injEq, Addr.mk.injEq, and_true] at e
    obtain ⟨rfl, rfl⟩ := e
    have y0 : w.cell? ⟨g, o, none⟩ = some (S h0) := x0
    have y1 : w.cell? ⟨g, o + 2, none⟩ = some (S a1) := x1
    have y2 : w.cell? ⟨g, o + 2 + 1, none⟩ = some (.slice A1 k1.len c1) := x2
    obtain ⟨L, HL⟩ : ∃ L, Hid (k.len = L) := ⟨_, rfl⟩
    have i1 : (1 : Int) < (L : Int) := by have := HL.out; omega
    have i0 : (0 : Int) < (L : Int) := by omega
    have HH : Hid (∀ o' : Obj, Calls Tryz.prog 71 #[.agg #[S a1, .slice A1 k1.len c1]] (w.alloc o') fun e w' => e = .returned (S (headOf a1 k1)) ∧ Fr No w w') := fun o' =>
      (head_any _ T a1 k1 A1 c1 (s1.mono (fun _ h => h) (fun b hb => ((Fr.refl No w).alloc o').block b (hT b hb) (fun h => h)))).mono (by rintro e w' ⟨rfl, h2⟩; exact ⟨rfl, ((Fr.refl No w).alloc o').trans h2⟩)
    rw [HL.out]
    have HFA : Hid (∀ o' : Obj, Fr No w (w.alloc o')) := fun o' => (Fr.refl _ _).alloc _
    have e1 : ∀ {r : Fo}, (Fo.cons h0 k0 r).nth 0 = some (h0, k0) := rfl
    obtain ⟨kl, HKL⟩ : ∃ z, Hid (k1.len = z) := ⟨_, rfl⟩
    rw [HKL.out] at HH y2
    clear P hA hT er x0 x1 x2 s1 l0
    cases hk with
    | let_ x kx a2 k2 a3 k3 =>
      obtain ⟨rfl, rfl⟩ : hLet = h0 ∧ Fo.nil = k0 := by simpa [Fo.nth] using n0
      have er : rxF (.cons hLet .nil (.cons x kx (.cons a2 k2 (.cons a3 k3 .nil)))) = true := rfl
      rw [er]
      unfold hLet at y0
      clear er h n0 n1 HL e1
      go_enter Tryz.func44, Tryz.ntmps44
      go_wp2_with fail
      go_ret
      exact ⟨rfl, HFA.out _⟩
    | lam x kx a2 k2 =>
      obtain ⟨rfl, rfl⟩ : hLam = h0 ∧ Fo.nil = k0 := by simpa [Fo.nth] using n0
      have er : rxF (.cons hLam .nil (.cons x kx (.cons a2 k2 .nil))) = false := rfl
      rw [er]
      unfold hLam at y0
      clear er h n0 n1 HL e1
      go_enter Tryz.func44, Tryz.ntmps44
      go_wp2_with fail
      go_ret
      exact ⟨rfl, HFA.out _⟩
    | two hh b1 j1 b2 j2 hg =>
      obtain ⟨rfl, rfl⟩ : hh = h0 ∧ Fo.nil = k0 := by simpa [Fo.nth] using n0
      obtain ⟨rfl, rfl⟩ : b1 = a1 ∧ j1 = k1 := by simpa [Fo.nth] using n1
      rcases hg with rfl | rfl
      · have er : rxF (.cons hApp .nil (.cons b1 j1 (.cons b2 j2 .nil))) = (headOf b1 j1 == [108, 97, 109]) := by
          rw [head_is (by simp)]
          simp only [rxF, show (hApp == hLet) = false from by decide, show (hApp == hApp) = true from by decide, show (hApp == hFst) = false from by decide, show (hApp == hSnd) = false from by decide, show (hApp == hIf) = false from by decide, Bool.false_or, Bool.true_and, Bool.false_and, Bool.or_false]
          rfl
        rw [er]
        unfold hApp at y0
        clear er h n0 n1 HL e1
        go_enter Tryz.func44, Tryz.ntmps44
        go_wp2_with fail
        refine (HH.out _).mono ?_
        rintro e w' ⟨rfl, hf⟩
        go_wp2_with fail
        go_ret
        exact ⟨rfl, hf⟩
      · have er : rxF (.cons hPair .nil (.cons b1 j1 (.cons b2 j2 .nil))) = false := rfl
        rw [er]
        unfold hPair at y0
        clear er h n0 n1 HL e1
        go_enter Tryz.func44, Tryz.ntmps44
        go_wp2_with fail
        go_ret
        exact ⟨rfl, HFA.out _⟩
    | one hh b1 j1 hg =>
      obtain ⟨rfl, rfl⟩ : hh = h0 ∧ Fo.nil = k0 := by simpa [Fo.nth] using n0
      obtain ⟨rfl, rfl⟩ : b1 = a1 ∧ j1 = k1 := by simpa [Fo.nth] using n1
      rcases hg with rfl | rfl
      · have er : rxF (.cons hFst .nil (.cons b1 j1 .nil)) = (headOf b1 j1 == [112, 97, 105, 114]) := by
          rw [head_is (by simp)]
          simp only [rxF, show (hFst == hLet) = false from by decide, show (hFst == hApp) = false from by decide, show (hFst == hFst) = true from by decide, show (hFst == hIf) = false from by decide, Bool.false_or, Bool.true_and, Bool.false_and, Bool.or_false, Bool.true_or]
          rfl
        rw [er]
        unfold hFst at y0
        clear er h n0 n1 HL e1
        go_enter Tryz.func44, Tryz.ntmps44
        go_wp2_with fail
        refine (HH.out _).mono ?_
        rintro e w' ⟨rfl, hf⟩
        go_wp2_with fail
        go_ret
        exact ⟨rfl, hf⟩
      · have er : rxF (.cons hSnd .nil (.cons b1 j1 .nil)) = (headOf b1 j1 == [112, 97, 105, 114]) := by
          rw [head_is (by simp)]
          simp only [rxF, show (hSnd == hLet) = false from by decide, show (hSnd == hApp) = false from by decide, show (hSnd == hFst) = false from by decide, show (hSnd == hSnd) = true from by decide, show (hSnd == hIf) = false from by decide, Bool.false_or, Bool.true_and, Bool.false_and, Bool.or_false]
          rfl
        rw [er]
        unfold hSnd at y0
        clear er h n0 n1 HL e1
        go_enter Tryz.func44, Tryz.ntmps44
        go_wp2_with fail
        refine (HH.out _).mono ?_
        rintro e w' ⟨rfl, hf⟩
        go_wp2_with fail
        go_ret
        exact ⟨rfl, hf⟩
    | if_ b1 j1 b2 j2 b3 j3 =>
      obtain ⟨rfl, rfl⟩ : hIf = h0 ∧ Fo.nil = k0 := by simpa [Fo.nth] using n0
      obtain ⟨rfl, rfl⟩ : b1 = a1 ∧ j1 = k1 := by simpa [Fo.nth] using n1
      have er : rxF (.cons hIf .nil (.cons b1 j1 (.cons b2 j2 (.cons b3 j3 .nil)))) = (b1 == [116, 114, 117, 101] || b1 == [102, 97, 108, 115, 101]) := by
        simp only [rxF, show (hIf == hLet) = false from by decide, show (hIf == hApp) = false from by decide, show (hIf == hFst) = false from by decide, show (hIf == hSnd) = false from by decide, show (hIf == hIf) = true from by decide, Bool.false_or, Bool.true_and, Bool.false_and, Bool.or_false]
        rfl
      rw [er]
      unfold hIf at y0
      clear er h n0 n1 HL e1
      by_cases ht : b1 = [116, 114, 117, 101]
      · subst ht
        go_enter Tryz.func44, Tryz.ntmps44
        go_wp2_with fail
        go_ret
        exact ⟨rfl, HFA.out _⟩
      · have nt : (b1 == [116, 114, 117, 101]) = false := beq_eq_false_iff_ne.2 ht
        rw [nt]
        clear ht
        go_enter Tryz.func44, Tryz.ntmps44
        go_wp2_with fail
        go_ret
        exact ⟨rfl, HFA.out _⟩
  · have hae : a.isEmpty = false := by cases a; exact absurd rfl ha; rfl
    have er : rxB a k = false := by simp [rxB, ha]
    rw [er]
    generalize k.len = n
    clear er hA hT ha h
    go_enter Tryz.func44, Tryz.ntmps44
    go_wp2_with fail
    go_ret
    exact ⟨rfl, (Fr.refl _ _).alloc _⟩
end Go.Proofs.YtnjgaenhjdjpfaaGreatDoor
