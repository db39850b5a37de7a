/- The law FnPut: what is put makes an instance. -/
import Derived.Test.YtngbpcphkfmncaaDpt
import Derived.Test.YtngbpcphkfmncaaSpp
import Derived.Test.YtngbpcphkfmncaaInst
import Derived.Test.YtngbpcphkfmncaaUci
import Derived.Test.YtngbpcphkfmncaaLaw2
namespace Go.Proofs.Ytngbpcphkfmncaa
open Go.RowKit Go.ChangeMaps

theorem size_is {x : List UInt8} {u : Ty} (hu : Ty.Is x u) (W : World) : Calls Try.prog 13 #[S x] W fun e w' => e = .returned (.int .i64 (u.size : Int)) ∧ Fr No W w' :=
  (implSize W x (by have := hu.short; unfold maxLen; omega)).mono (by
    rintro e w' ⟨n, rfl, ⟨t', h', rfl⟩ | ⟨h, _⟩, hf⟩
    · rw [h'.unique hu]; exact ⟨rfl, hf⟩
    · exact absurd hu (h u))

theorem Ty.put_asg_nil : ∀ t : Ty, t.put (asg []) = t
  | .o => rfl
  | .v k => rfl
  | .n f l r => by simp only [Ty.put, Ty.put_asg_nil l, Ty.put_asg_nil r]

theorem Ty.size_one : ∀ t : Ty, 1 ≤ t.size
  | .o => by simp [Ty.size]
  | .v _ => by simp [Ty.size]
  | .n _ l r => by simp only [Ty.size]; omega

theorem Ty.put_grows (σ : Nat → Option Ty) : ∀ t : Ty, t.size ≤ (t.put σ).size
  | .o => Nat.le_refl _
  | .v k => by
    cases h : σ k with
    | none => simp [Ty.put, h]
    | some u => simp only [Ty.put, h, Option.getD_some]; exact Ty.size_one u
  | .n f l r => by
    have h1 := Ty.put_grows σ l
    have h2 := Ty.put_grows σ r
    simp only [Ty.put, Ty.size]
    omega

theorem Ty.put_inst (t : Ty) (σ : Nat → Option Ty) : (mt t (t.put σ) []).isSome = true := inst_iff.2 ⟨_, (Ty.put_app t σ).symm⟩

def DrT (w : World) (e : Ending) (w' : World) : Prop :=
  ∃ s N nc Z zc, ∃ (xs ys : List (List UInt8)), e = .returned (.tuple #[S s, .slice N xs.length nc, .slice Z ys.length zc]) ∧ s.length ≤ 1300 ∧ xs.length ≤ nc ∧ xs.length ≤ 4 ∧ ys.length ≤ 4 ∧ (∀ x ∈ xs, x.length ≤ 216) ∧ (∀ y ∈ ys, y.length ≤ 216) ∧ SSl w' N xs ∧ SSl w' Z ys ∧ Fr No w w'

theorem sslN {w w' : World} {A : Option Addr} {xs : List (List UInt8)} (h : SSl w A xs) (hf : Fr No w w') : SSl w' A xs := sslFr h hf (fun _ _ _ h => h)

set_option maxRecDepth 100000 in
set_option maxHeartbeats 2000000 in
theorem drawTPut (w : World) (A : Option Addr) (n c : Nat) (hn : n ≤ maxLen) (hnc : n ≤ c) (hb : Byt w A n) :
    Calls Try.prog 9 #[.slice A n c] w fun e w' => DrT w e w' := by
  have OP := Lib.hid (open_any w A n c hn hnc hb)
  clear hb
  go_enter Try.func9, Try.ntmps9
  go_wp2_with fail
  refine OP.out.mono ?_
  rintro e w1 ⟨r, A1, n1, c1, rfl, hf1, hr1, hd1⟩
  have HR1 := Lib.hid hr1
  have HG1 : Hid (Fr (One r) w w1) := hf1.mono (fun _ _ h => h.elim)
  have TX := Lib.hid (text_draw w1 r A1 n1 c1 0 hd1 (by omega))
  clear hf1 hr1 hd1
  go_wp2_with fail
  refine TX.out.mono ?_
  rintro e w2 ⟨s, p2, rfl, hs, hf2, hp2, hd2⟩
  have HG2 : Hid (Fr (One r) w w2) := HG1.out.trans hf2
  have PD := Lib.hid (puts_draw w2 r A1 n1 c1 p2 hd2 (by omega))
  clear hf2 hd2
  go_wp2_with fail
  refine PD.out.mono ?_
  rintro e w3 ⟨N, nc, Z, zc, xs, ys, p3, rfl, h1, _, h2, h3, h4, h5, h6, h7, hf3, _, _⟩
  have FIN : Hid (DrT w (.returned (.tuple #[S s, .slice N xs.length nc, .slice Z ys.length zc])) w3) := ⟨s, N, nc, Z, zc, xs, ys, rfl, hs, h1, h2, h3, h4, h5, h6, h7, ((HG2.out.trans hf3).mono (fun i hi e => by unfold One at e; have := HR1.out; omega))⟩
  clear hf3 h1 h2 h3 h4 h5 h6 h7
  go_wp2_with fail
  refine bodyPost_ret (v := .tuple #[S s, .slice N xs.length nc, .slice Z ys.length zc]) (by simp [results, Try.results9, go_sem]) rfl ?_
  exact FIN.out

set_option maxRecDepth 100000 in
set_option maxHeartbeats 4000000 in
theorem lawPPut (w : World) (A : Option Addr) (n c : Nat) (hn : n ≤ maxLen) (hnc : n ≤ c) (hb : Byt w A n) :
    Calls Try.prog 3 #[.slice A n c] w fun e w' => Yes w e w' := by
  have DR := Lib.hid (drawTPut w A n c hn hnc hb)
  clear hb
  have hn' := hn
  unfold maxLen at hn'
  by_cases hl : 1048576 < n
  · have hd : decide ((1048576 : Int) < (n : Int)) = true := by simp; omega
    go_enter Try.func3, Try.ntmps3
    go_wp2_with fail
    go_ret
    exact ⟨rfl, Fr.refl _ _⟩
  have hd : decide ((1048576 : Int) < (n : Int)) = false := by simp; omega
  clear hl
  go_enter Try.func3, Try.ntmps3
  go_wp2_with fail
  refine DR.out.mono ?_
  rintro e w1 ⟨s, N, nc, Z, zc, xs, ys, rfl, hs, h1, h2, h3, h4, h5, h6, h7, hf1⟩
  have HF1 := Lib.hid hf1
  have HN := Lib.hid h6
  have HZ := Lib.hid h7
  have hsm : s.length ≤ maxLen := by unfold maxLen; omega
  have hxm : ∀ x ∈ xs, x.length ≤ maxLen := fun x hx => by have := h4 x hx; unfold maxLen; omega
  have hym : ∀ x ∈ ys, x.length ≤ maxLen := fun x hx => by have := h5 x hx; unfold maxLen; omega
  have IP := Lib.hid (implPut w1 s N Z xs ys nc zc hsm h6 h7 (by omega) (by omega) hxm hym)
  have SP : Hid (∀ W, Fr No w1 W → Calls Try.prog 11 #[S s, .slice N xs.length nc, .slice Z ys.length zc] W fun e w' => AnsPut s xs ys W e w') := fun W hf => specPut W s N Z xs ys nc zc h1 hsm (sslN HN.out hf) (sslN HZ.out hf) (by omega) (by omega) hxm hym
  have EP : Hid (∀ W (g1 g2 : Nat), Calls Try.prog 10 #[S s, .slice (some ⟨g1, 0, none⟩) 0 0, .slice (some ⟨g2, 0, none⟩) 0 0] W fun e w' => AnsPut s [] [] W e w') := fun W g1 g2 => implPut W s (some ⟨g1, 0, none⟩) (some ⟨g2, 0, none⟩) [] [] 0 0 hsm (fun j x hj => by simp at hj) (fun j x hj => by simp at hj) (by simp) (by simp) (by simp) (by simp)
  clear hf1 h4 h5 h6 h7 h1 hxm hym HN HZ
  go_wp2_with fail
  refine IP.out.mono ?_
  rintro e w2 ⟨a, ok, rfl, hpt, hf2⟩
  have HF2 := Lib.hid hf2
  have HPT := Lib.hid hpt
  have SM : Hid (∀ W, Fr No w1 W → Calls Try.prog 11 #[S s, .slice N xs.length nc, .slice Z ys.length zc] W fun e w' => e = .returned (.tuple #[S a, .bool ok]) ∧ Fr No W w') := fun W hf => (SP.out W hf).mono (by
    rintro e w' ⟨a', ok', rfl, hpt', hf'⟩
    obtain ⟨rfl, rfl⟩ := hpt.one hpt'
    exact ⟨rfl, hf'⟩)
  clear hf2 hpt IP SP
  go_wp2_with fail
  refine (SM.out w2 HF2.out).mono ?_
  rintro e w3 ⟨rfl, hf3⟩
  have HF3 := Lib.hid (HF2.out.trans hf3)
  clear hf3
  clear SM
  cases ok with
  | false =>
    go_wp2_with fail
    go_ret
    exact ⟨rfl, HF1.out.trans HF3.out⟩
  | true =>
    obtain ⟨t, ms, ht, hms, hsz, ha⟩ : ∃ t ms, Ty.Is s t ∧ PutIs xs ys ms ∧ (t.put (asg ms)).size ≤ 40 ∧ a = (t.put (asg ms)).text := by
      rcases HPT.out with ⟨t, ms, h1, h2, h3, h4, _⟩ | ⟨_, _, h⟩
      · exact ⟨t, ms, h1, h2, h3, h4⟩
      · cases h
    have hau : Ty.Is a (t.put (asg ms)) := ⟨ha, hms.put_lets ht.2.1, hsz⟩
    have EM : Hid (∀ W (g1 g2 : Nat), Calls Try.prog 10 #[S s, .slice (some ⟨g1, 0, none⟩) 0 0, .slice (some ⟨g2, 0, none⟩) 0 0] W fun e w' => e = .returned (.tuple #[S s, .bool true]) ∧ Fr No W w') := fun W g1 g2 => (EP.out W g1 g2).mono (by
      rintro e w' ⟨a', ok', rfl, hpt', hf'⟩
      obtain ⟨rfl, rfl⟩ := (show PtR s [] [] s true from .inl ⟨t, [], ht, PutIs.nil, by rw [Ty.put_asg_nil]; exact ht.2.2, by rw [Ty.put_asg_nil]; exact ht.1, rfl⟩).one hpt'
      exact ⟨rfl, hf'⟩)
    have IN : Hid (∀ W, Calls Try.prog 12 #[S s, S a] W fun e w' => e = .returned (.bool true) ∧ Fr No W w') := fun W => (implInst W s a hsm (by have := hau.short; unfold maxLen; omega)).mono (by
      rintro e w' ⟨b, rfl, hb, hf'⟩
      obtain rfl : b = true := hb.2 ((Inst.iff ht hau).2 (Ty.put_inst t _))
      exact ⟨rfl, hf'⟩)
    have SA : Hid (∀ W, Calls Try.prog 13 #[S a] W fun e w' => e = .returned (.int .i64 ((t.put (asg ms)).size : Int)) ∧ Fr No W w') := fun W => size_is hau W
    have SS : Hid (∀ W, Calls Try.prog 13 #[S s] W fun e w' => e = .returned (.int .i64 (t.size : Int)) ∧ Fr No W w') := fun W => size_is ht W
    have hge : t.size ≤ (t.put (asg ms)).size := Ty.put_grows _ t
    generalize (t.put (asg ms)).size = z1 at SA hge hsz
    generalize t.size = z2 at SS hge
    have hgI : (z2 : Int) ≤ (z1 : Int) := by omega
    clear hau ht hms ha HPT EP hsz hge
    obtain ⟨W4, hW4, hf4, hs4⟩ : ∃ W, W = w3.alloc (.cells #[] 9) ∧ Fr No w3 W ∧ W.heap.size = w3.heap.size + 1 := ⟨_, rfl, (Fr.refl _ _).alloc _, by simp⟩
    have EM5 := Lib.hid (EM.out (W4.alloc (.cells #[] 9)) w3.heap.size (w3.heap.size + 1))
    have HF5 : Hid (Fr No w1 (W4.alloc (.cells #[] 9))) := HF3.out.trans (hf4.alloc _)
    clear hf4 EM
    subst hW4
    clear hs4
    go_wp2_with fail
    refine EM5.out.mono ?_
    rintro e w6 ⟨rfl, hf6⟩
    have HF6 := Lib.hid (HF5.out.trans hf6)
    clear hf6 EM5
    go_wp2_with fail
    refine (IN.out _).mono ?_
    rintro e w7 ⟨rfl, hf7⟩
    have HF7 := Lib.hid (HF6.out.trans hf7)
    clear hf7
    go_wp2_with fail
    refine (SA.out _).mono ?_
    rintro e w8 ⟨rfl, hf8⟩
    have HF8 := Lib.hid (HF7.out.trans hf8)
    clear hf8
    go_wp2_with fail
    refine (SS.out _).mono ?_
    rintro e w9 ⟨rfl, hf9⟩
    have HF9 := Lib.hid (HF8.out.trans hf9)
    clear hf9
    go_wp2_with fail
    go_ret
    exact ⟨rfl, HF1.out.trans HF9.out⟩
end Go.Proofs.Ytngbpcphkfmncaa
