/- The law FnType: a type is o, a variable, or has two parts. -/
import Derived.Test.YtjkkjdmfhdoojaaLaw4
import Derived.Test.YtjkkjdmfhdoojaaDrw
import Derived.StillTailTactics
namespace Go.Proofs.Ytjkkjdmfhdoojaa
open Go.RowKit Go.ChangeMaps

/-- a text that was drawn -/
def DrwS (w : World) (e : Ending) (w' : World) : Prop := ∃ x, e = .returned (S x) ∧ x.length ≤ 300000 ∧ Fr No w w'

theorem Ty.size_pos1 : ∀ t : Ty, 1 ≤ t.size := fun t => by cases t <;> simp [Ty.size] <;> omega

theorem size_is {x : List UInt8} {u : Ty} (hu : Ty.Is x u) (W : World) : Calls Try.prog 17 #[S x] W fun e w' => e = .returned (.int .i64 (u.size : Int)) ∧ Fr No W w' :=
  (implSize W x (by have := hu.short; unfold maxLen; omega)).mono (by
    rintro e w' ⟨n, rfl, ⟨t', h', rfl⟩ | ⟨h, _⟩, hf⟩
    · rw [h'.unique hu]; exact ⟨rfl, hf⟩
    · exact absurd hu (h u))

set_option maxRecDepth 100000 in
set_option maxHeartbeats 1000000 in
/-- two lists of the same single text are the same -/
theorem same_one (w : World) (g o g' o' c c' : Nat) (x : List UInt8) (h1 : w.cell? ⟨g, o, none⟩ = some (S x)) (h2 : w.cell? ⟨g', o', none⟩ = some (S x)) :
    Calls Try.prog 18 #[.slice (some ⟨g, o, none⟩) 1 c, .slice (some ⟨g', o', none⟩) 1 c'] w fun e w' => e = .returned (.bool true) ∧ Fr No w w' := by
  have H1 := Lib.hid h1
  have H2 := Lib.hid h2
  clear h1 h2
  go_enter Try.func18, Try.ntmps18
  go_wp2_with fail
  go_loopw [5] (fun v wr => ∃ j : Nat, j ≤ 1 ∧ v = .int .i64 j ∧ Fr No w wr ∧ wr.cell? ⟨g, o, none⟩ = some (S x) ∧ wr.cell? ⟨g', o', none⟩ = some (S x)) (fun v _ => 1 - (intOf v).toNat)
  case atStart => exact ⟨0, Nat.zero_le _, rfl, Fr.refl _ _, H1.out, H2.out⟩
  case round =>
    obtain ⟨j, hj, rfl, hf, hc, hc'⟩ := hrel
    by_cases hlt : j < 1
    · obtain rfl : j = 0 := by omega
      have HFD : Hid (Fr No w wr.drew) := hf.drew
      have HC := Lib.hid hc
      have HC' := Lib.hid hc'
      clear hf
      go_wp2_with fail
      refine wp_region_still_lit (by kernel_rfl) (by kernel_rfl) ?_
      change wpStill _ _ (World.drew _) (fun a' => _) _ _
      repeat still_step
      refine wpStill_nil ?_
      go_wp2
      go_round
      case rel => exact ⟨1, by omega, by go_num, HFD.out, HC.out, HC'.out⟩
      case measure => simp [intOf]
    · obtain rfl : j = 1 := by omega
      have HF := Lib.hid hf
      clear hf hc hc'
      go_wp2_with fail
      go_ret
      exact ⟨rfl, HF.out⟩

set_option maxRecDepth 100000 in
set_option maxHeartbeats 1000000 in
theorem drawTValid (w : World) (A : Option Addr) (n c : Nat) (hn : n ≤ maxLen) (hnc : n ≤ c) (hb : Byt w A n) :
    Calls Try.prog 12 #[.slice A n c] w fun e w' => DrwS w e w' := by
  have OP := Lib.hid (open_any w A n c hn hnc hb)
  clear hb
  go_enter Try.func12, Try.ntmps12
  go_wp2_with fail
  refine OP.out.mono ?_
  rintro e w1 ⟨r, A1, n1, c1, rfl, hf1, hr1, hd1⟩
  have HF1 := Lib.hid hf1
  have HR1 := Lib.hid hr1
  have PK := Lib.hid (pick_any w1 r A1 n1 c1 0 16 hd1 (by omega) (by omega) (by omega))
  clear hf1 hr1 hd1
  go_wp2_with fail
  refine PK.out.mono ?_
  rintro e w2 ⟨z, rfl, hz, hf2, hd2⟩
  have HF2 : Hid (Fr No w w2) := HF1.out.then_ hf2 (fun i hi e => by unfold One at e; have := HR1.out; omega)
  clear hf2
  by_cases hz0 : z = 0
  · subst hz0
    have T1 : Hid (Calls Try.prog 45 #[Ptr r, .int .i64 6] w2 fun e w' => DrwP r A1 n1 c1 (0 + 1) 2187 279936 w2 e w') := type_draw 6 (by decide) w2 r A1 n1 c1 (0 + 1) hd2 (by decide)
    clear hd2
    go_wp2_with fail
    refine T1.out.mono ?_
    rintro e w3 ⟨x, p2, rfl, hx, hf, hp2, hr⟩
    have FIN : Hid (DrwS w (.returned (S x)) w3) := ⟨x, rfl, by omega, HF2.out.then_ hf (fun i hi e => by unfold One at e; have := HR1.out; omega)⟩
    clear hf hr
    go_wp2_with fail
    go_ret
    exact FIN.out
  · have z0 : ((z : Int) == 0) = false := beq_eq_false_iff_ne.2 (by omega)
    have TX := Lib.hid (text_draw w2 r A1 n1 c1 (0 + 1) hd2 (by omega))
    clear hd2 hz0
    go_wp2_with fail
    refine TX.out.mono ?_
    rintro e w3 ⟨x, p2, rfl, hx, hf, hp2, hr⟩
    have FIN : Hid (DrwS w (.returned (S x)) w3) := ⟨x, rfl, by omega, HF2.out.then_ hf (fun i hi e => by unfold One at e; have := HR1.out; omega)⟩
    clear hf hr
    go_wp2_with fail
    go_ret
    exact FIN.out

/-- whether a type has parts -/
def isN : Ty → Bool
  | .n _ _ _ => true
  | _ => false

set_option maxRecDepth 100000 in
set_option maxHeartbeats 4000000 in
theorem lawPType (w : World) (A : Option Addr) (n c : Nat) (hn : n ≤ maxLen) (hnc : n ≤ c) (hb : Byt w A n) :
    Calls Try.prog 3 #[.slice A n c] w fun e w' => Yes w e w' := by
  have DR := Lib.hid (drawTValid w A n c hn hnc hb)
  clear hb
  have hn' := hn
  unfold maxLen at hn'
  by_cases hl : 1048576 < n
  · have hd : decide ((1048576 : Int) < (n : Int)) = true := by simp; omega
    go_enter Try.func3, Try.ntmps3
    go_wp2_with fail
    go_ret
    exact ⟨rfl, Fr.refl _ _⟩
  have hd : decide ((1048576 : Int) < (n : Int)) = false := by simp; omega
  clear hl
  go_enter Try.func3, Try.ntmps3
  go_wp2_with fail
  refine DR.out.mono ?_
  rintro e w1 ⟨s, rfl, hs, hf1⟩
  have HF1 := Lib.hid hf1
  clear hf1
  have hsm : s.length ≤ maxLen := by unfold maxLen; omega
  by_cases ht : ∃ t, Ty.Is s t
  · obtain ⟨t, hi⟩ := ht
    have HI := Lib.hid hi
    have IV : Hid (∀ W, Calls Try.prog 13 #[S s] W fun e w' => e = .returned (.bool true) ∧ Fr No W w') := fun W => (implValid W s hsm).mono (by
      rintro e w' ⟨b, rfl, hb, hf⟩
      exact ⟨by rw [hb.2 ⟨t, HI.out⟩], hf⟩)
    have SV : Hid (∀ W, Calls Try.prog 14 #[S s] W fun e w' => e = .returned (.bool true) ∧ Fr No W w') := fun W => (specValid W s hsm).mono (by
      rintro e w' ⟨b, rfl, hb, hf⟩
      exact ⟨by rw [hb.2 ⟨t, HI.out⟩], hf⟩)
    have IP : Hid (∀ W, Calls Try.prog 15 #[S s] W fun e w' => ∃ a b c, e = .returned (.tuple #[S a, S b, S c, .bool (isN t)]) ∧ Fr No W w') := fun W => (implParts W s hsm).mono (by
      rintro e w' ⟨a, b, c, ok, rfl, ⟨f', l', r', h', rfl, rfl, rfl, rfl⟩ | ⟨h, rfl, rfl, rfl, rfl⟩, hf⟩
      · exact ⟨_, _, _, by rw [HI.out.unique h']; rfl, hf⟩
      · refine ⟨[], [], [], ?_, hf⟩
        cases t with
        | n f l r => exact absurd HI.out (h f l r)
        | o => rfl
        | v j => rfl)
    have VR : Hid (∀ W, Calls Try.prog 16 #[S s] W fun e w' => ∃ V vc, e = .returned (.tuple #[.slice V (letS (addV [] t)).length vc, .bool true]) ∧ Hid (w'.ownsRow W.heap.size 9 1 (.slice V (letS (addV [] t)).length vc) (letS (addV [] t)).length ((letS (addV [] t)).map S)) ∧ Fr No W w') := fun W => (implVars W s hsm).mono (by
      rintro e w' ⟨V, vc, b, xs, rfl, ho, hf, ⟨t', h', rfl, rfl⟩ | ⟨h, rfl, rfl⟩⟩
      · have e := h'.unique HI.out
        subst e
        exact ⟨_, _, rfl, ho, hf⟩
      · exact absurd HI.out (h t))
    have SZ : Hid (∀ W, Calls Try.prog 17 #[S s] W fun e w' => e = .returned (.int .i64 (t.size : Int)) ∧ Fr No W w') := fun W => size_is HI.out W
    have hsz : t.size ≤ 40 := hi.2.2
    obtain ⟨z, hz⟩ : ∃ z, z = t.size := ⟨_, rfl⟩
    obtain ⟨pb, hpb⟩ : ∃ b, b = isN t := ⟨_, rfl⟩
    obtain ⟨xs, hxs⟩ : ∃ x, x = letS (addV [] t) := ⟨_, rfl⟩
    rw [← hz] at SZ hsz
    rw [← hpb] at IP
    rw [← hxs] at VR
    have HZ := Lib.hid hz
    have HPB := Lib.hid hpb
    have HXS := Lib.hid hxs
    clear hi hsm hz hpb hxs
    go_wp2_with fail
    refine (IV.out _).mono ?_
    rintro e w2 ⟨rfl, hf2⟩
    have HF2 := Lib.hid (HF1.out.trans hf2)
    clear hf2
    go_wp2_with fail
    refine (SV.out _).mono ?_
    rintro e w3 ⟨rfl, hf3⟩
    have HF3 := Lib.hid (HF2.out.trans hf3)
    clear hf3
    go_wp2_with fail
    refine (IP.out _).mono ?_
    rintro e w4 ⟨pa, pc, pd, rfl, hf4⟩
    have HF4 := Lib.hid (HF3.out.trans hf4)
    clear hf4
    go_wp2_with fail
    refine (VR.out _).mono ?_
    rintro e w5 ⟨V, vc, rfl, HO5, hf5⟩
    have HF5 := Lib.hid (HF4.out.trans hf5)
    clear hf5
    go_wp2_with fail
    refine (SZ.out _).mono ?_
    rintro e w6 ⟨rfl, hf6⟩
    have HF6 := Lib.hid (HF5.out.trans hf6)
    have HG6 := Lib.hid hf6
    clear hf6 IV SV IP VR SZ
    cases t with
    | o =>
      obtain rfl : z = 1 := HZ.out
      obtain rfl : pb = false := HPB.out
      obtain rfl : xs = [] := HXS.out
      obtain rfl : s = [111] := HI.out.1
      clear HO5
      go_wp2_with fail
      go_ret
      exact ⟨rfl, HF6.out⟩
    | v j =>
      obtain rfl : z = 1 := HZ.out
      obtain rfl : pb = false := HPB.out
      have hl : Ty.letter j ≠ 111 := (Ty.letter_ne HI.out.2.1).1
      have hsj : s = [Ty.letter j] := HI.out.1
      have hxj : xs = [[Ty.letter j]] := by rw [HXS.out]; simp [addV, letS]
      clear HI HXS
      generalize Ty.letter j = y at hl hsj hxj
      subst hsj
      subst hxj
      obtain ⟨g, rfl, hcl⟩ : ∃ g, V = some ⟨g, 0, none⟩ ∧ w5.cell? ⟨g, 0, none⟩ = some (S [y]) := by
        rcases HO5.out.2 with ⟨_, hn⟩ | ⟨g, cap, cur, hv, _⟩
        · simp at hn
        · injection hv with e1 e2 e3
          refine ⟨g, e1, ?_⟩
          have := HO5.out.cells (g := g) (by rw [e1]; rfl) 0 (S [y]) (by simp)
          rw [addr_add] at this
          exact this
      have hc6 : w6.cell? ⟨g, 0, none⟩ = some (S [y]) := (HG6.out.cell (p := ⟨g, 0, none⟩) (World.block_lt_of_cell? w5 _ hcl) (fun h => h)).trans hcl
      have SM : Hid (Calls Try.prog 18 #[.slice (some ⟨g, 0, none⟩) 1 vc, .slice (some ⟨w6.heap.size, 0, none⟩) 1 1] (w6.alloc (.cells #[S [y]] 9)) fun e w' => e = .returned (.bool true) ∧ Fr No (w6.alloc (.cells #[S [y]] 9)) w') :=
        same_one _ g 0 w6.heap.size 0 vc 1 [y] (((Fr.refl No w6).alloc _).cell (p := ⟨g, 0, none⟩) (World.block_lt_of_cell? w6 _ hc6) (fun h => h) |>.trans hc6) (((Blk.new w6 9 #[S [y]]).cell 0).trans rfl)
      clear hc6 hcl HO5
      go_wp2_with fail
      refine SM.out.mono ?_
      rintro e w7 ⟨rfl, hf7⟩
      have HF7 := Lib.hid (HF6.out.trans (((Fr.refl No w6).alloc _).trans hf7))
      clear hf7
      go_wp2_with fail
      go_ret
      exact ⟨rfl, HF7.out⟩
    | n f l r =>
      obtain rfl : pb = true := HPB.out
      have hz3 : (1 : Int) < (z : Int) := by
        have h := HZ.out
        have h1 := Ty.size_pos1 l
        simp only [Ty.size] at h
        omega
      clear HO5
      go_wp2_with fail
      go_ret
      exact ⟨rfl, HF6.out⟩
  · have IV : Hid (∀ W, Calls Try.prog 13 #[S s] W fun e w' => e = .returned (.bool false) ∧ Fr No W w') := fun W => (implValid W s hsm).mono (by
      rintro e w' ⟨b, rfl, hb, hf⟩
      cases b with
      | false => exact ⟨rfl, hf⟩
      | true => exact absurd (hb.1 rfl) ht)
    have SV : Hid (∀ W, Calls Try.prog 14 #[S s] W fun e w' => e = .returned (.bool false) ∧ Fr No W w') := fun W => (specValid W s hsm).mono (by
      rintro e w' ⟨b, rfl, hb, hf⟩
      cases b with
      | false => exact ⟨rfl, hf⟩
      | true => exact absurd (hb.1 rfl) ht)
    clear ht hsm
    go_wp2_with fail
    refine (IV.out _).mono ?_
    rintro e w2 ⟨rfl, hf2⟩
    have HF2 := Lib.hid (HF1.out.trans hf2)
    clear hf2
    go_wp2_with fail
    refine (SV.out _).mono ?_
    rintro e w3 ⟨rfl, hf3⟩
    have HF3 := Lib.hid (HF2.out.trans hf3)
    clear hf3
    go_wp2_with fail
    go_ret
    exact ⟨rfl, HF3.out⟩
end Go.Proofs.Ytjkkjdmfhdoojaa
