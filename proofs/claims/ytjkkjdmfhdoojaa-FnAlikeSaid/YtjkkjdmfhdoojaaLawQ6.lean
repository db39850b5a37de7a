/- The law FnAlike: alike types are instances of each other. -/
import Derived.Test.YtjkkjdmfhdoojaaLaw5
import Derived.Test.YtjkkjdmfhdoojaaLaw2
import Derived.Test.YtjkkjdmfhdoojaaInst
import Derived.Test.YtjkkjdmfhdoojaaUci
import Derived.Test.YtjkkjdmfhdoojaaDrw
namespace Go.Proofs.Ytjkkjdmfhdoojaa
open Go.RowKit Go.ChangeMaps

/-- two texts that are drawn -/
def DrwN (w : World) (e : Ending) (w' : World) : Prop := ∃ x y, e = .returned (.tuple #[S x, S y]) ∧ x.length ≤ 1300 ∧ y.length ≤ 1300 ∧ Fr No w w'

theorem Rdc.fr1 {w w' : World} {r : Nat} {A : Option Addr} {n c p : Nat} (h : Rdc w r A n c p) (hf : Fr No w w') : Rdc w' r A n c p := h.fr hf (fun h => h) (fun _ _ _ h => h)

set_option maxRecDepth 100000 in
set_option maxHeartbeats 2000000 in
theorem drawTAlike (w : World) (A : Option Addr) (n c : Nat) (hn : n ≤ maxLen) (hnc : n ≤ c) (hb : Byt w A n) :
    Calls Try.prog 30 #[.slice A n c] w fun e w' => DrwN w e w' := by
  have OP := Lib.hid (open_any w A n c hn hnc hb)
  clear hb
  go_enter Try.func30, Try.ntmps30
  go_wp2_with fail
  refine OP.out.mono ?_
  rintro e w1 ⟨r, A1, n1, c1, rfl, hf1, hr1, hd1⟩
  have HF1 := Lib.hid hf1
  have HR1 := Lib.hid hr1
  have TX := Lib.hid (text_draw w1 r A1 n1 c1 0 hd1 (by omega))
  clear hf1 hr1 hd1
  go_wp2_with fail
  refine TX.out.mono ?_
  rintro e w2 ⟨x, p2, rfl, hx, hf2, hp2, hd2⟩
  have HF2 : Hid (Fr No w w2) := HF1.out.then_ hf2 (fun i hi e => by unfold One at e; have := HR1.out; omega)
  have HD2 := Lib.hid hd2
  have CA := Lib.hid (specCanon w2 x (by unfold maxLen; omega))
  clear hf2 hd2
  go_wp2_with fail
  refine CA.out.mono ?_
  rintro e w3 ⟨y, ok, rfl, hcy, hf3⟩
  have HF3 := Lib.hid (HF2.out.trans hf3)
  have HD3 : Hid (Rdc w3 r A1 n1 c1 p2) := HD2.out.fr1 hf3
  have hyl : y.length ≤ 1300 := by
    rcases hcy with ⟨t, h, rfl, _⟩ | ⟨_, rfl, _⟩
    · have h2 : Ty.Is t.canon.text t.canon := ⟨rfl, Ty.canon_lets h.2.1, by rw [Ty.canon_size]; exact h.2.2⟩
      have := h2.short
      omega
    · simp
  clear hf3 hcy CA HD2
  have LAST : Hid (∀ (V : World) (p : Nat), p ≤ 2000 → Fr No w V → Rdc V r A1 n1 c1 p → Calls Try.prog 46 #[Ptr r] V fun e w' => ∃ y, e = .returned (S y) ∧ y.length ≤ 1300 ∧ Fr No w w') := fun V p hp hf hd => (text_draw V r A1 n1 c1 p hd (by omega)).mono (by
    rintro e w' ⟨y, p3, rfl, hy, hf', _, _⟩
    exact ⟨y, rfl, hy, hf.then_ hf' (fun i hi e => by unfold One at e; have := HR1.out; omega)⟩)
  cases ok with
  | false =>
    go_wp2_with fail
    refine (LAST.out w3 p2 (by omega) HF3.out HD3.out).mono ?_
    rintro e w4 ⟨z, rfl, hz, hf4⟩
    have FIN : Hid (DrwN w (.returned (.tuple #[S x, S z])) w4) := ⟨x, z, rfl, hx, hz, hf4⟩
    clear hf4
    go_wp2_with fail
    refine bodyPost_ret (v := .tuple #[S x, S z]) (by simp [results, Try.results30, go_sem]) rfl ?_
    exact FIN.out
  | true =>
    have PK := Lib.hid (pick_any w3 r A1 n1 c1 p2 3 HD3.out (by omega) (by omega) (by omega))
    go_wp2_with fail
    refine PK.out.mono ?_
    rintro e w4 ⟨q, rfl, hq, hf4, hd4⟩
    have HF4 : Hid (Fr No w w4) := HF3.out.then_ hf4 (fun i hi e => by unfold One at e; have := HR1.out; omega)
    have HD4 := Lib.hid hd4
    clear hf4 hd4
    by_cases hq0 : q = 0
    · subst hq0
      go_wp2_with fail
      refine (LAST.out w4 (p2 + 1) (by omega) HF4.out HD4.out).mono ?_
      rintro e w5 ⟨z, rfl, hz, hf5⟩
      have FIN : Hid (DrwN w (.returned (.tuple #[S x, S z])) w5) := ⟨x, z, rfl, hx, hz, hf5⟩
      clear hf5
      go_wp2_with fail
      refine bodyPost_ret (v := .tuple #[S x, S z]) (by simp [results, Try.results30, go_sem]) rfl ?_
      exact FIN.out
    · have hqI : (0 : Int) < (q : Int) := by omega
      have FIN : Hid (DrwN w (.returned (.tuple #[S x, S y])) w4) := ⟨x, y, rfl, hx, hyl, HF4.out⟩
      go_wp2_with fail
      refine bodyPost_ret (v := .tuple #[S x, S y]) (by simp [results, Try.results30, go_sem]) rfl ?_
      exact FIN.out

theorem Alike.inst {a b : List UInt8} : Alike a b ↔ Inst a b ∧ Inst b a := by
  constructor
  · rintro ⟨t, u, h1, h2, e⟩
    exact ⟨⟨t, u, h1, h2, inst_iff.2 (alike_both.1 e).1⟩, ⟨u, t, h2, h1, inst_iff.2 (alike_both.1 e).2⟩⟩
  · rintro ⟨⟨t, u, h1, h2, e⟩, h⟩
    exact ⟨t, u, h1, h2, alike_both.2 ⟨inst_iff.1 e, inst_iff.1 ((Inst.iff h2 h1).1 h)⟩⟩

set_option maxRecDepth 100000 in
set_option maxHeartbeats 4000000 in
theorem lawPAlike (w : World) (A : Option Addr) (n c : Nat) (hn : n ≤ maxLen) (hnc : n ≤ c) (hb : Byt w A n) :
    Calls Try.prog 7 #[.slice A n c] w fun e w' => Yes w e w' := by
  have DR := Lib.hid (drawTAlike w A n c hn hnc hb)
  clear hb
  have hn' := hn
  unfold maxLen at hn'
  by_cases hl : 1048576 < n
  · have hd : decide ((1048576 : Int) < (n : Int)) = true := by simp; omega
    go_enter Try.func7, Try.ntmps7
    go_wp2_with fail
    go_ret
    exact ⟨rfl, Fr.refl _ _⟩
  have hd : decide ((1048576 : Int) < (n : Int)) = false := by simp; omega
  clear hl
  go_enter Try.func7, Try.ntmps7
  go_wp2_with fail
  refine DR.out.mono ?_
  rintro e w1 ⟨a, b, rfl, ha, hb, hf1⟩
  have HF1 := Lib.hid hf1
  clear hf1
  have ham : a.length ≤ maxLen := by unfold maxLen; omega
  have hbm : b.length ≤ maxLen := by unfold maxLen; omega
  have BO : ∀ P : Prop, ∃ q : Bool, q = true ↔ P := fun P => by
    by_cases h : P
    · exact ⟨true, by simpa using h⟩
    · exact ⟨false, by simpa using h⟩
  obtain ⟨i1, h1⟩ := BO (Inst a b)
  obtain ⟨i2, h2⟩ := BO (Inst b a)
  have hal : ∀ q : Bool, (q = true ↔ Alike a b) → q = (i1 && i2) := fun q h => by
    rw [Bool.eq_iff_iff, h, Alike.inst, Bool.and_eq_true, h1, h2]
  have hla : ∀ q : Bool, (q = true ↔ Alike b a) → q = (i1 && i2) := fun q h => by
    rw [Bool.eq_iff_iff, h, Alike.inst, Bool.and_eq_true, h1, h2, and_comm]
  have IA : Hid (∀ W, Calls Try.prog 28 #[S a, S b] W fun e w' => e = .returned (.bool (i1 && i2)) ∧ Fr No W w') := fun W => (implAlike W a b ham hbm).mono (by
    rintro e w' ⟨q, rfl, hq, hf⟩
    exact ⟨by rw [hal q hq], hf⟩)
  have SA : Hid (∀ W, Calls Try.prog 31 #[S a, S b] W fun e w' => e = .returned (.bool (i1 && i2)) ∧ Fr No W w') := fun W => (specAlike W a b ham hbm).mono (by
    rintro e w' ⟨q, rfl, hq, hf⟩
    exact ⟨by rw [hal q hq], hf⟩)
  have IB : Hid (∀ W, Calls Try.prog 28 #[S b, S a] W fun e w' => e = .returned (.bool (i1 && i2)) ∧ Fr No W w') := fun W => (implAlike W b a hbm ham).mono (by
    rintro e w' ⟨q, rfl, hq, hf⟩
    exact ⟨by rw [hla q hq], hf⟩)
  have I1 : Hid (∀ W, Calls Try.prog 29 #[S a, S b] W fun e w' => e = .returned (.bool i1) ∧ Fr No W w') := fun W => (implInst W a b ham hbm).mono (by
    rintro e w' ⟨q, rfl, hq, hf⟩
    exact ⟨by rw [Bool.eq_iff_iff.2 (hq.trans h1.symm)], hf⟩)
  have I2 : Hid (∀ W, Calls Try.prog 29 #[S b, S a] W fun e w' => e = .returned (.bool i2) ∧ Fr No W w') := fun W => (implInst W b a hbm ham).mono (by
    rintro e w' ⟨q, rfl, hq, hf⟩
    exact ⟨by rw [Bool.eq_iff_iff.2 (hq.trans h2.symm)], hf⟩)
  clear BO hal hla h1 h2 ham hbm
  rcases i1 with _ | _ <;> rcases i2 with _ | _ <;> simp only [Bool.and_true, Bool.and_false] at IA SA IB
  · skip
    go_wp2_with fail
    refine (IA.out _).mono ?_
    rintro e w2 ⟨rfl, hf2⟩
    have HF2 := Lib.hid (HF1.out.trans hf2)
    clear hf2
    go_wp2_with fail
    refine (SA.out _).mono ?_
    rintro e w3 ⟨rfl, hf3⟩
    have HF3 := Lib.hid (HF2.out.trans hf3)
    clear hf3
    go_wp2_with fail
    refine (I1.out _).mono ?_
    rintro e w4 ⟨rfl, hf4⟩
    have HF4 := Lib.hid (HF3.out.trans hf4)
    clear hf4
    go_wp2_with fail
    refine (IB.out _).mono ?_
    rintro e w5 ⟨rfl, hf5⟩
    have HF5 := Lib.hid (HF4.out.trans hf5)
    clear hf5
    go_wp2_with fail
    go_ret
    exact ⟨rfl, HF5.out⟩
  · skip
    go_wp2_with fail
    refine (IA.out _).mono ?_
    rintro e w2 ⟨rfl, hf2⟩
    have HF2 := Lib.hid (HF1.out.trans hf2)
    clear hf2
    go_wp2_with fail
    refine (SA.out _).mono ?_
    rintro e w3 ⟨rfl, hf3⟩
    have HF3 := Lib.hid (HF2.out.trans hf3)
    clear hf3
    go_wp2_with fail
    refine (I1.out _).mono ?_
    rintro e w4 ⟨rfl, hf4⟩
    have HF4 := Lib.hid (HF3.out.trans hf4)
    clear hf4
    go_wp2_with fail
    refine (IB.out _).mono ?_
    rintro e w5 ⟨rfl, hf5⟩
    have HF5 := Lib.hid (HF4.out.trans hf5)
    clear hf5
    go_wp2_with fail
    go_ret
    exact ⟨rfl, HF5.out⟩
  · skip
    go_wp2_with fail
    refine (IA.out _).mono ?_
    rintro e w2 ⟨rfl, hf2⟩
    have HF2 := Lib.hid (HF1.out.trans hf2)
    clear hf2
    go_wp2_with fail
    refine (SA.out _).mono ?_
    rintro e w3 ⟨rfl, hf3⟩
    have HF3 := Lib.hid (HF2.out.trans hf3)
    clear hf3
    go_wp2_with fail
    refine (I1.out _).mono ?_
    rintro e w4 ⟨rfl, hf4⟩
    have HF4 := Lib.hid (HF3.out.trans hf4)
    clear hf4
    go_wp2_with fail
    refine (I2.out _).mono ?_
    rintro e w5 ⟨rfl, hf5⟩
    have HF5 := Lib.hid (HF4.out.trans hf5)
    clear hf5
    go_wp2_with fail
    refine (IB.out _).mono ?_
    rintro e w6 ⟨rfl, hf6⟩
    have HF6 := Lib.hid (HF5.out.trans hf6)
    clear hf6
    go_wp2_with fail
    go_ret
    exact ⟨rfl, HF6.out⟩
  · skip
    go_wp2_with fail
    refine (IA.out _).mono ?_
    rintro e w2 ⟨rfl, hf2⟩
    have HF2 := Lib.hid (HF1.out.trans hf2)
    clear hf2
    go_wp2_with fail
    refine (SA.out _).mono ?_
    rintro e w3 ⟨rfl, hf3⟩
    have HF3 := Lib.hid (HF2.out.trans hf3)
    clear hf3
    go_wp2_with fail
    refine (I1.out _).mono ?_
    rintro e w4 ⟨rfl, hf4⟩
    have HF4 := Lib.hid (HF3.out.trans hf4)
    clear hf4
    go_wp2_with fail
    refine (I2.out _).mono ?_
    rintro e w5 ⟨rfl, hf5⟩
    have HF5 := Lib.hid (HF4.out.trans hf5)
    clear hf5
    go_wp2_with fail
    refine (IB.out _).mono ?_
    rintro e w6 ⟨rfl, hf6⟩
    have HF6 := Lib.hid (HF5.out.trans hf6)
    clear hf6
    go_wp2_with fail
    go_ret
    exact ⟨rfl, HF6.out⟩
end Go.Proofs.Ytjkkjdmfhdoojaa
