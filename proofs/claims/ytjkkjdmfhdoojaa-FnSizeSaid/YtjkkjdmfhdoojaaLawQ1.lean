/- The law FnSize: sizes are odd. -/
import Derived.Test.YtjkkjdmfhdoojaaLaw5
import Derived.Test.YtjkkjdmfhdoojaaLaw2
import Derived.Test.YtjkkjdmfhdoojaaDrw
namespace Go.Proofs.Ytjkkjdmfhdoojaa
open Go.RowKit Go.ChangeMaps

/-- a text that was drawn -/
def DrwS (w : World) (e : Ending) (w' : World) : Prop := ∃ x, e = .returned (S x) ∧ x.length ≤ 1300 ∧ Fr No w w'

theorem Ty.size_pos1 : ∀ t : Ty, 1 ≤ t.size := fun t => by cases t <;> simp [Ty.size] <;> omega

theorem size_is {x : List UInt8} {u : Ty} (hu : Ty.Is x u) (W : World) : Calls Try.prog 17 #[S x] W fun e w' => e = .returned (.int .i64 (u.size : Int)) ∧ Fr No W w' :=
  (implSize W x (by have := hu.short; unfold maxLen; omega)).mono (by
    rintro e w' ⟨n, rfl, ⟨t', h', rfl⟩ | ⟨h, _⟩, hf⟩
    · rw [h'.unique hu]; exact ⟨rfl, hf⟩
    · exact absurd hu (h u))

theorem Ty.size_odd : ∀ t : Ty, t.size % 2 = 1
  | .o => rfl
  | .v _ => rfl
  | .n _ l r => by have h1 := Ty.size_odd l; have h2 := Ty.size_odd r; simp only [Ty.size]; omega

set_option maxRecDepth 100000 in
set_option maxHeartbeats 1000000 in
theorem drawTSize (w : World) (A : Option Addr) (n c : Nat) (hn : n ≤ maxLen) (hnc : n ≤ c) (hb : Byt w A n) :
    Calls Try.prog 41 #[.slice A n c] w fun e w' => DrwS w e w' := by
  have OP := Lib.hid (open_any w A n c hn hnc hb)
  clear hb
  go_enter Try.func41, Try.ntmps41
  go_wp2_with fail
  refine OP.out.mono ?_
  rintro e w1 ⟨r, A1, n1, c1, rfl, hf1, hr1, hd1⟩
  have HF1 := Lib.hid hf1
  have HR1 := Lib.hid hr1
  have TX := Lib.hid (text_draw w1 r A1 n1 c1 0 hd1 (by omega))
  clear hf1 hr1 hd1
  go_wp2_with fail
  refine TX.out.mono ?_
  rintro e w2 ⟨x, p2, rfl, hx, hf2, hp2, hd2⟩
  have FIN : Hid (DrwS w (.returned (S x)) w2) := ⟨x, rfl, hx, HF1.out.then_ hf2 (fun i hi e => by unfold One at e; have := HR1.out; omega)⟩
  clear hf2 hd2
  go_wp2_with fail
  go_ret
  exact FIN.out

set_option maxRecDepth 100000 in
set_option maxHeartbeats 4000000 in
theorem lawPSize (w : World) (A : Option Addr) (n c : Nat) (hn : n ≤ maxLen) (hnc : n ≤ c) (hb : Byt w A n) :
    Calls Try.prog 11 #[.slice A n c] w fun e w' => Yes w e w' := by
  have DR := Lib.hid (drawTSize w A n c hn hnc hb)
  clear hb
  have hn' := hn
  unfold maxLen at hn'
  by_cases hl : 1048576 < n
  · have hd : decide ((1048576 : Int) < (n : Int)) = true := by simp; omega
    go_enter Try.func11, Try.ntmps11
    go_wp2_with fail
    go_ret
    exact ⟨rfl, Fr.refl _ _⟩
  have hd : decide ((1048576 : Int) < (n : Int)) = false := by simp; omega
  clear hl
  go_enter Try.func11, Try.ntmps11
  go_wp2_with fail
  refine DR.out.mono ?_
  rintro e w1 ⟨s, rfl, hs, hf1⟩
  have HF1 := Lib.hid hf1
  clear hf1
  by_cases ht : ∃ t, Ty.Is s t
  · obtain ⟨t, hi⟩ := ht
    have HI := Lib.hid hi
    have hsm : s.length ≤ maxLen := by have := hi.short; unfold maxLen; omega
    have SZ : Hid (∀ W, Calls Try.prog 17 #[S s] W fun e w' => e = .returned (.int .i64 (t.size : Int)) ∧ Fr No W w') := fun W => size_is HI.out W
    have SC : Hid (∀ W, Calls Try.prog 17 #[S t.canon.text] W fun e w' => e = .returned (.int .i64 (t.size : Int)) ∧ Fr No W w') := fun W => by
      have h := size_is (x := t.canon.text) (u := t.canon) ⟨rfl, Ty.canon_lets HI.out.2.1, by rw [Ty.canon_size]; exact HI.out.2.2⟩ W
      rwa [Ty.canon_size] at h
    have SS : Hid (∀ W, Calls Try.prog 42 #[S s] W fun e w' => e = .returned (.int .i64 (t.size : Int)) ∧ Fr No W w') := fun W => (specSize W s hsm).mono (by
      rintro e w' ⟨n, rfl, ⟨t', h', rfl⟩ | ⟨h, _⟩, hf⟩
      · rw [h'.unique HI.out]; exact ⟨rfl, hf⟩
      · exact absurd HI.out (h t))
    have CA : Hid (∀ W, Calls Try.prog 26 #[S s] W fun e w' => e = .returned (.tuple #[S t.canon.text, .bool true]) ∧ Fr No W w') := fun W => (implCanon W s hsm).mono (by
      rintro e w' ⟨a, ok, rfl, ⟨t', h', rfl, rfl⟩ | ⟨h, _⟩, hf⟩
      · rw [h'.unique HI.out]; exact ⟨rfl, hf⟩
      · exact absurd HI.out (h t))
    have VA : Hid (∀ W, Calls Try.prog 13 #[S s] W fun e w' => e = .returned (.bool true) ∧ Fr No W w') := fun W => (implValid W s hsm).mono (by
      rintro e w' ⟨b, rfl, hb, hf⟩
      exact ⟨by rw [hb.2 ⟨t, HI.out⟩], hf⟩)
    have hq : (t.size : Int).tmod 2 = 1 := by
      have h := Ty.size_odd t
      rw [Int.tmod_eq_emod_of_nonneg (by omega)]
      omega
    have hneg : ¬ (t.size : Int) < 0 := by omega
    have hsz : t.size ≤ 40 := hi.2.2
    generalize t.size = z at SZ SC SS hq hneg hsz
    clear hi hsm
    go_wp2_with fail
    refine (SZ.out _).mono ?_
    rintro e w2 ⟨rfl, hf2⟩
    have HF2 := Lib.hid (HF1.out.trans hf2)
    clear hf2
    go_wp2_with fail
    refine (SS.out _).mono ?_
    rintro e w3 ⟨rfl, hf3⟩
    have HF3 := Lib.hid (HF2.out.trans hf3)
    clear hf3
    go_wp2_with fail
    refine (CA.out _).mono ?_
    rintro e w4 ⟨rfl, hf4⟩
    have HF4 := Lib.hid (HF3.out.trans hf4)
    clear hf4
    go_wp2_with fail
    refine (SC.out _).mono ?_
    rintro e w5 ⟨rfl, hf5⟩
    have HF5 := Lib.hid (HF4.out.trans hf5)
    clear hf5
    go_wp2_with fail
    refine (VA.out _).mono ?_
    rintro e w6 ⟨rfl, hf6⟩
    have HF6 := Lib.hid (HF5.out.trans hf6)
    clear hf6
    go_wp2_with fail
    go_ret
    exact ⟨rfl, HF6.out⟩
  · have hno : ∀ t, ¬ Ty.Is s t := fun t h => ht ⟨t, h⟩
    have hsm : s.length ≤ maxLen := by unfold maxLen; omega
    have HNO := Lib.hid hno
    have SZ : Hid (∀ W, Calls Try.prog 17 #[S s] W fun e w' => e = .returned (.int .i64 (-1)) ∧ Fr No W w') := fun W => (implSize W s hsm).mono (by
      rintro e w' ⟨n, rfl, ⟨t', h', rfl⟩ | ⟨h, rfl⟩, hf⟩
      · exact absurd h' (HNO.out t')
      · exact ⟨rfl, hf⟩)
    have SS : Hid (∀ W, Calls Try.prog 42 #[S s] W fun e w' => e = .returned (.int .i64 (-1)) ∧ Fr No W w') := fun W => (specSize W s hsm).mono (by
      rintro e w' ⟨n, rfl, ⟨t', h', rfl⟩ | ⟨h, rfl⟩, hf⟩
      · exact absurd h' (HNO.out t')
      · exact ⟨rfl, hf⟩)
    clear hno ht hsm
    go_wp2_with fail
    refine (SZ.out _).mono ?_
    rintro e w2 ⟨rfl, hf2⟩
    have HF2 := Lib.hid (HF1.out.trans hf2)
    clear hf2
    go_wp2_with fail
    refine (SS.out _).mono ?_
    rintro e w3 ⟨rfl, hf3⟩
    have HF3 := Lib.hid (HF2.out.trans hf3)
    clear hf3
    go_wp2_with fail
    go_ret
    exact ⟨rfl, HF3.out⟩
end Go.Proofs.Ytjkkjdmfhdoojaa
