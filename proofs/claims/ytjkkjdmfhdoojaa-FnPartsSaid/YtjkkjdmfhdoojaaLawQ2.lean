/- The law FnParts: parts make the type. -/
import Derived.Test.YtjkkjdmfhdoojaaLaw3
import Derived.Test.YtjkkjdmfhdoojaaLaw2
import Derived.Test.YtjkkjdmfhdoojaaDrw
namespace Go.Proofs.Ytjkkjdmfhdoojaa
open Go.RowKit Go.ChangeMaps

/-- a text that was drawn -/
def DrwS (w : World) (e : Ending) (w' : World) : Prop := ∃ x, e = .returned (S x) ∧ x.length ≤ 1300 ∧ Fr No w w'

theorem Ty.size_pos1 : ∀ t : Ty, 1 ≤ t.size := fun t => by cases t <;> simp [Ty.size] <;> omega

theorem size_is {x : List UInt8} {u : Ty} (hu : Ty.Is x u) (W : World) : Calls Try.prog 17 #[S x] W fun e w' => e = .returned (.int .i64 (u.size : Int)) ∧ Fr No W w' :=
  (implSize W x (by have := hu.short; unfold maxLen; omega)).mono (by
    rintro e w' ⟨n, rfl, ⟨t', h', rfl⟩ | ⟨h, _⟩, hf⟩
    · rw [h'.unique hu]; exact ⟨rfl, hf⟩
    · exact absurd hu (h u))

set_option maxRecDepth 100000 in
set_option maxHeartbeats 1000000 in
theorem drawTParts (w : World) (A : Option Addr) (n c : Nat) (hn : n ≤ maxLen) (hnc : n ≤ c) (hb : Byt w A n) :
    Calls Try.prog 23 #[.slice A n c] w fun e w' => DrwS w e w' := by
  have OP := Lib.hid (open_any w A n c hn hnc hb)
  clear hb
  go_enter Try.func23, Try.ntmps23
  go_wp2_with fail
  refine OP.out.mono ?_
  rintro e w1 ⟨r, A1, n1, c1, rfl, hf1, hr1, hd1⟩
  have HF1 := Lib.hid hf1
  have HR1 := Lib.hid hr1
  have TX := Lib.hid (text_draw w1 r A1 n1 c1 0 hd1 (by omega))
  clear hf1 hr1 hd1
  go_wp2_with fail
  refine TX.out.mono ?_
  rintro e w2 ⟨x, p2, rfl, hx, hf2, hp2, hd2⟩
  have FIN : Hid (DrwS w (.returned (S x)) w2) := ⟨x, rfl, hx, HF1.out.then_ hf2 (fun i hi e => by unfold One at e; have := HR1.out; omega)⟩
  clear hf2 hd2
  go_wp2_with fail
  go_ret
  exact FIN.out

set_option maxRecDepth 100000 in
set_option maxHeartbeats 4000000 in
theorem lawPParts (w : World) (A : Option Addr) (n c : Nat) (hn : n ≤ maxLen) (hnc : n ≤ c) (hb : Byt w A n) :
    Calls Try.prog 5 #[.slice A n c] w fun e w' => Yes w e w' := by
  have DR := Lib.hid (drawTParts w A n c hn hnc hb)
  clear hb
  have hn' := hn
  unfold maxLen at hn'
  by_cases hl : 1048576 < n
  · have hd : decide ((1048576 : Int) < (n : Int)) = true := by simp; omega
    go_enter Try.func5, Try.ntmps5
    go_wp2_with fail
    go_ret
    exact ⟨rfl, Fr.refl _ _⟩
  have hd : decide ((1048576 : Int) < (n : Int)) = false := by simp; omega
  clear hl
  go_enter Try.func5, Try.ntmps5
  go_wp2_with fail
  refine DR.out.mono ?_
  rintro e w1 ⟨s, rfl, hs, hf1⟩
  have HF1 := Lib.hid hf1
  clear hf1
  have hsm : s.length ≤ maxLen := by unfold maxLen; omega
  by_cases ht : ∃ f l r, Ty.Is s (.n f l r)
  · obtain ⟨f, l, r, hi⟩ := ht
    have HI := Lib.hid hi
    have PA : ∀ W e w', AnsParts s W e w' → e = .returned (.tuple #[S l.text, S r.text, S [Ty.sign f], .bool true]) ∧ Fr No W w' := by
      rintro W e w' ⟨a, b, c, ok, rfl, ⟨f', l', r', h', rfl, rfl, rfl, rfl⟩ | ⟨h, _⟩, hf⟩
      · have e := h'.unique HI.out
        injection e with e1 e2 e3
        subst e1 e2 e3
        exact ⟨rfl, hf⟩
      · exact absurd HI.out (h f l r)
    have IP : Hid (∀ W, Calls Try.prog 15 #[S s] W fun e w' => e = .returned (.tuple #[S l.text, S r.text, S [Ty.sign f], .bool true]) ∧ Fr No W w') := fun W => (implParts W s hsm).mono (fun e w' h => PA W e w' h)
    have SP : Hid (∀ W, Calls Try.prog 24 #[S s] W fun e w' => e = .returned (.tuple #[S l.text, S r.text, S [Ty.sign f], .bool true]) ∧ Fr No W w') := fun W => (specParts W s hsm).mono (fun e w' h => PA W e w' h)
    have hsz : 1 + l.size + r.size ≤ 40 := by have h := hi.2.2; simp only [Ty.size] at h; omega
    have SZ : Hid (∀ W, Calls Try.prog 17 #[S s] W fun e w' => e = .returned (.int .i64 (1 + (l.size : Int) + (r.size : Int))) ∧ Fr No W w') := fun W => (size_is HI.out W).mono (by
      rintro e w' ⟨rfl, hf⟩
      refine ⟨?_, hf⟩
      have h : (((Ty.n f l r).size : Nat) : Int) = 1 + (l.size : Int) + (r.size : Int) := by simp only [Ty.size]; omega
      rw [h])
    have SL : Hid (∀ W, Calls Try.prog 17 #[S l.text] W fun e w' => e = .returned (.int .i64 (l.size : Int)) ∧ Fr No W w') := fun W => size_is (u := l) ⟨rfl, HI.out.2.1.1, by omega⟩ W
    have SR : Hid (∀ W, Calls Try.prog 17 #[S r.text] W fun e w' => e = .returned (.int .i64 (r.size : Int)) ∧ Fr No W w') := fun W => size_is (u := r) ⟨rfl, HI.out.2.1.2, by omega⟩ W
    have hst : s = 40 :: Ty.sign f :: 32 :: (l.text ++ 32 :: (r.text ++ [41])) := by rw [hi.1]; simp [Ty.text]
    have hsh := hi.short
    rw [hst] at hsh
    simp only [List.length_cons, List.length_append, List.length_nil] at hsh
    have hll : l.text.length ≤ 240 := by omega
    have hrl : r.text.length ≤ 240 := by omega
    clear hsh
    generalize l.size = lz at SZ SL hsz
    generalize r.size = rz at SZ SR hsz
    generalize Ty.sign f = sg at IP SP hst
    generalize l.text = lt at IP SP hst SL hll
    generalize r.text = rt at IP SP hst SR hrl
    have HST := Lib.hid hst
    clear hi PA HI hsm hst
    go_wp2_with fail
    refine (IP.out _).mono ?_
    rintro e w2 ⟨rfl, hf2⟩
    have HF2 := Lib.hid (HF1.out.trans hf2)
    clear hf2
    go_wp2_with fail
    refine (SP.out _).mono ?_
    rintro e w3 ⟨rfl, hf3⟩
    have HF3 := Lib.hid (HF2.out.trans hf3)
    clear hf3
    have heq : (({ data := #[40] } : ByteArray) ++ { data := #[sg] } ++ { data := #[32] } ++ { data := lt.toArray } ++ { data := #[32] } ++ { data := rt.toArray } ++ { data := #[41] }).toList = s := by
      rw [HST.out]
      simp [ByteArray.toList_eq]
    go_wp2_with fail
    refine (SZ.out _).mono ?_
    rintro e w4 ⟨rfl, hf4⟩
    have HF4 := Lib.hid (HF3.out.trans hf4)
    clear hf4
    go_wp2_with fail
    refine (SL.out _).mono ?_
    rintro e w5 ⟨rfl, hf5⟩
    have HF5 := Lib.hid (HF4.out.trans hf5)
    clear hf5
    go_wp2_with fail
    refine (SR.out _).mono ?_
    rintro e w6 ⟨rfl, hf6⟩
    have HF6 := Lib.hid (HF5.out.trans hf6)
    clear hf6
    go_wp2_with fail
    go_ret
    exact ⟨rfl, HF6.out⟩
  · have hno : ∀ f l r, ¬ Ty.Is s (.n f l r) := fun f l r h => ht ⟨f, l, r, h⟩
    have PA : ∀ W e w', AnsParts s W e w' → e = .returned (.tuple #[S [], S [], S [], .bool false]) ∧ Fr No W w' := by
      rintro W e w' ⟨a, b, c, ok, rfl, ⟨f', l', r', h', rfl, rfl, rfl, rfl⟩ | ⟨h, rfl, rfl, rfl, rfl⟩, hf⟩
      · exact absurd h' (hno f' l' r')
      · exact ⟨rfl, hf⟩
    have IP : Hid (∀ W, Calls Try.prog 15 #[S s] W fun e w' => e = .returned (.tuple #[S [], S [], S [], .bool false]) ∧ Fr No W w') := fun W => (implParts W s hsm).mono (fun e w' h => PA W e w' h)
    have SP : Hid (∀ W, Calls Try.prog 24 #[S s] W fun e w' => e = .returned (.tuple #[S [], S [], S [], .bool false]) ∧ Fr No W w') := fun W => (specParts W s hsm).mono (fun e w' h => PA W e w' h)
    clear hno ht hsm PA
    go_wp2_with fail
    refine (IP.out _).mono ?_
    rintro e w2 ⟨rfl, hf2⟩
    have HF2 := Lib.hid (HF1.out.trans hf2)
    clear hf2
    go_wp2_with fail
    refine (SP.out _).mono ?_
    rintro e w3 ⟨rfl, hf3⟩
    have HF3 := Lib.hid (HF2.out.trans hf3)
    clear hf3
    go_wp2_with fail
    go_ret
    exact ⟨rfl, HF3.out⟩
end Go.Proofs.Ytjkkjdmfhdoojaa
