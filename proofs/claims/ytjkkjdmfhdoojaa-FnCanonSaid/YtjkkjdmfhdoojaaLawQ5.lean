/- The law FnCanon: canonical types are their own ones. -/
import Derived.Test.YtjkkjdmfhdoojaaLaw5
import Derived.Test.YtjkkjdmfhdoojaaLaw4
import Derived.Test.YtjkkjdmfhdoojaaLaw2
import Derived.Test.YtjkkjdmfhdoojaaInst
import Derived.Test.YtjkkjdmfhdoojaaUci
import Derived.Test.YtjkkjdmfhdoojaaDrw
namespace Go.Proofs.Ytjkkjdmfhdoojaa
open Go.RowKit Go.ChangeMaps

/-- a text that was drawn -/
def DrwS (w : World) (e : Ending) (w' : World) : Prop := ∃ x, e = .returned (S x) ∧ x.length ≤ 1300 ∧ Fr No w w'

set_option maxRecDepth 100000 in
set_option maxHeartbeats 1000000 in
theorem drawTCanon (w : World) (A : Option Addr) (n c : Nat) (hn : n ≤ maxLen) (hnc : n ≤ c) (hb : Byt w A n) :
    Calls Try.prog 25 #[.slice A n c] w fun e w' => DrwS w e w' := by
  have OP := Lib.hid (open_any w A n c hn hnc hb)
  clear hb
  go_enter Try.func25, Try.ntmps25
  go_wp2_with fail
  refine OP.out.mono ?_
  rintro e w1 ⟨r, A1, n1, c1, rfl, hf1, hr1, hd1⟩
  have HF1 := Lib.hid hf1
  have HR1 := Lib.hid hr1
  have TX := Lib.hid (text_draw w1 r A1 n1 c1 0 hd1 (by omega))
  clear hf1 hr1 hd1
  go_wp2_with fail
  refine TX.out.mono ?_
  rintro e w2 ⟨x, p2, rfl, hx, hf2, hp2, hd2⟩
  have FIN : Hid (DrwS w (.returned (S x)) w2) := ⟨x, rfl, hx, HF1.out.then_ hf2 (fun i hi e => by unfold One at e; have := HR1.out; omega)⟩
  clear hf2 hd2
  go_wp2_with fail
  go_ret
  exact FIN.out

set_option maxRecDepth 100000 in
set_option maxHeartbeats 4000000 in
theorem lawPCanon (w : World) (A : Option Addr) (n c : Nat) (hn : n ≤ maxLen) (hnc : n ≤ c) (hb : Byt w A n) :
    Calls Try.prog 6 #[.slice A n c] w fun e w' => Yes w e w' := by
  have DR := Lib.hid (drawTCanon w A n c hn hnc hb)
  clear hb
  have hn' := hn
  unfold maxLen at hn'
  by_cases hl : 1048576 < n
  · have hd : decide ((1048576 : Int) < (n : Int)) = true := by simp; omega
    go_enter Try.func6, Try.ntmps6
    go_wp2_with fail
    go_ret
    exact ⟨rfl, Fr.refl _ _⟩
  have hd : decide ((1048576 : Int) < (n : Int)) = false := by simp; omega
  clear hl
  go_enter Try.func6, Try.ntmps6
  go_wp2_with fail
  refine DR.out.mono ?_
  rintro e w1 ⟨s, rfl, hs, hf1⟩
  have HF1 := Lib.hid hf1
  clear hf1
  have hsm : s.length ≤ maxLen := by unfold maxLen; omega
  by_cases ht : ∃ t, Ty.Is s t
  · obtain ⟨t, hi⟩ := ht
    have HI := Lib.hid hi
    have HC : Hid (Ty.Is t.canon.text t.canon) := ⟨rfl, Ty.canon_lets HI.out.2.1, by rw [Ty.canon_size]; exact HI.out.2.2⟩
    have hcm : t.canon.text.length ≤ maxLen := by have := HC.out.short; unfold maxLen; omega
    obtain ⟨vl, hvl⟩ : ∃ l, l = (addV [] t).length := ⟨_, rfl⟩
    have hv40 : vl ≤ 100 := by rw [hvl]; have := vars_bound HI.out.2.1; omega
    have CA : Hid (∀ W, Calls Try.prog 26 #[S s] W fun e w' => e = .returned (.tuple #[S t.canon.text, .bool true]) ∧ Fr No W w') := fun W => (implCanon W s hsm).mono (by
      rintro e w' ⟨a, ok, rfl, ⟨t', h', rfl, rfl⟩ | ⟨h, _⟩, hf⟩
      · rw [h'.unique HI.out]; exact ⟨rfl, hf⟩
      · exact absurd HI.out (h t))
    have SC : Hid (∀ W, Calls Try.prog 27 #[S s] W fun e w' => e = .returned (.tuple #[S t.canon.text, .bool true]) ∧ Fr No W w') := fun W => (specCanon W s hsm).mono (by
      rintro e w' ⟨a, ok, rfl, ⟨t', h', rfl, rfl⟩ | ⟨h, _⟩, hf⟩
      · rw [h'.unique HI.out]; exact ⟨rfl, hf⟩
      · exact absurd HI.out (h t))
    have CB : Hid (∀ W, Calls Try.prog 26 #[S t.canon.text] W fun e w' => e = .returned (.tuple #[S t.canon.text, .bool true]) ∧ Fr No W w') := fun W => (implCanon W t.canon.text hcm).mono (by
      rintro e w' ⟨a, ok, rfl, ⟨t', h', rfl, rfl⟩ | ⟨h, _⟩, hf⟩
      · rw [h'.unique HC.out, canon_idem]; exact ⟨rfl, hf⟩
      · exact absurd HC.out (h t.canon))
    have VA : Hid (∀ W, Calls Try.prog 16 #[S s] W fun e w' => (∃ V vc, e = .returned (.tuple #[.slice V vl vc, .bool true])) ∧ Fr No W w') := fun W => (implVars W s hsm).mono (by
      rintro e w' ⟨V, vc, b, ys, rfl, ho, hf, ⟨t', h', rfl, rfl⟩ | ⟨h, rfl, rfl⟩⟩
      · rw [h'.unique HI.out, letS_len, hvl]
        exact ⟨⟨_, _, rfl⟩, hf⟩
      · exact absurd HI.out (h t))
    have VB : Hid (∀ W, Calls Try.prog 16 #[S t.canon.text] W fun e w' => (∃ V vc, e = .returned (.tuple #[.slice V vl vc, .bool true])) ∧ Fr No W w') := fun W => (implVars W t.canon.text hcm).mono (by
      rintro e w' ⟨V, vc, b, ys, rfl, ho, hf, ⟨t', h', rfl, rfl⟩ | ⟨h, rfl, rfl⟩⟩
      · rw [h'.unique HC.out, letS_len, canon_vars, hvl]
        exact ⟨⟨_, _, rfl⟩, hf⟩
      · exact absurd HC.out (h t.canon))
    have AL : Hid (∀ W, Calls Try.prog 28 #[S s, S t.canon.text] W fun e w' => e = .returned (.bool true) ∧ Fr No W w') := fun W => (implAlike W s t.canon.text hsm hcm).mono (by
      rintro e w' ⟨b, rfl, hb, hf⟩
      exact ⟨by rw [hb.2 ((Alike.iff HI.out HC.out).2 (canon_idem t).symm)], hf⟩)
    have I1 : Hid (∀ W, Calls Try.prog 29 #[S s, S t.canon.text] W fun e w' => e = .returned (.bool true) ∧ Fr No W w') := fun W => (implInst W s t.canon.text hsm hcm).mono (by
      rintro e w' ⟨b, rfl, hb, hf⟩
      exact ⟨by rw [hb.2 ((Inst.iff HI.out HC.out).2 (inst_iff.2 (alike_both.1 (canon_idem t).symm).1))], hf⟩)
    have I2 : Hid (∀ W, Calls Try.prog 29 #[S t.canon.text, S s] W fun e w' => e = .returned (.bool true) ∧ Fr No W w') := fun W => (implInst W t.canon.text s hcm hsm).mono (by
      rintro e w' ⟨b, rfl, hb, hf⟩
      exact ⟨by rw [hb.2 ((Inst.iff HC.out HI.out).2 (inst_iff.2 (alike_both.1 (canon_idem t).symm).2))], hf⟩)
    generalize t.canon.text = ct at CA SC CB VB AL I1 I2
    clear hi HI HC hcm hvl hsm
    go_wp2_with fail
    refine (CA.out _).mono ?_
    rintro e w2 ⟨rfl, hf2⟩
    have HF2 := Lib.hid (HF1.out.trans hf2)
    clear hf2
    go_wp2_with fail
    refine (SC.out _).mono ?_
    rintro e w3 ⟨rfl, hf3⟩
    have HF3 := Lib.hid (HF2.out.trans hf3)
    clear hf3
    go_wp2_with fail
    refine (CB.out _).mono ?_
    rintro e w4 ⟨rfl, hf4⟩
    have HF4 := Lib.hid (HF3.out.trans hf4)
    clear hf4
    go_wp2_with fail
    refine (VA.out _).mono ?_
    rintro e w5 ⟨⟨V, vc, rfl⟩, hf5⟩
    have HF5 := Lib.hid (HF4.out.trans hf5)
    clear hf5
    go_wp2_with fail
    refine (VB.out _).mono ?_
    rintro e w6 ⟨⟨V', vc', rfl⟩, hf6⟩
    have HF6 := Lib.hid (HF5.out.trans hf6)
    clear hf6
    go_wp2_with fail
    refine (AL.out _).mono ?_
    rintro e w7 ⟨rfl, hf7⟩
    have HF7 := Lib.hid (HF6.out.trans hf7)
    clear hf7
    go_wp2_with fail
    refine (I1.out _).mono ?_
    rintro e w8 ⟨rfl, hf8⟩
    have HF8 := Lib.hid (HF7.out.trans hf8)
    clear hf8
    go_wp2_with fail
    refine (I2.out _).mono ?_
    rintro e w9 ⟨rfl, hf9⟩
    have HF9 := Lib.hid (HF8.out.trans hf9)
    clear hf9
    go_wp2_with fail
    go_ret
    exact ⟨rfl, HF9.out⟩
  · have hno : ∀ t, ¬ Ty.Is s t := fun t h => ht ⟨t, h⟩
    have CA : Hid (∀ W, Calls Try.prog 26 #[S s] W fun e w' => e = .returned (.tuple #[S [], .bool false]) ∧ Fr No W w') := fun W => (implCanon W s hsm).mono (by
      rintro e w' ⟨a, ok, rfl, ⟨t', h', rfl, rfl⟩ | ⟨h, rfl, rfl⟩, hf⟩
      · exact absurd h' (hno t')
      · exact ⟨rfl, hf⟩)
    have SC : Hid (∀ W, Calls Try.prog 27 #[S s] W fun e w' => e = .returned (.tuple #[S [], .bool false]) ∧ Fr No W w') := fun W => (specCanon W s hsm).mono (by
      rintro e w' ⟨a, ok, rfl, ⟨t', h', rfl, rfl⟩ | ⟨h, rfl, rfl⟩, hf⟩
      · exact absurd h' (hno t')
      · exact ⟨rfl, hf⟩)
    clear ht hno hsm
    go_wp2_with fail
    refine (CA.out _).mono ?_
    rintro e w2 ⟨rfl, hf2⟩
    have HF2 := Lib.hid (HF1.out.trans hf2)
    clear hf2
    go_wp2_with fail
    refine (SC.out _).mono ?_
    rintro e w3 ⟨rfl, hf3⟩
    have HF3 := Lib.hid (HF2.out.trans hf3)
    clear hf3
    go_wp2_with fail
    go_ret
    exact ⟨rfl, HF3.out⟩
end Go.Proofs.Ytjkkjdmfhdoojaa
