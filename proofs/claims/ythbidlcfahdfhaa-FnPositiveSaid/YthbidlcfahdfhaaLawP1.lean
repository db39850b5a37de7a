/- The law FnPositive: signs turn on the left of functions. -/
import Derived.Test.YthbidlcfahdfhaaLaw2
import Derived.Test.YthbidlcfahdfhaaDrw
namespace Go.Proofs.Ythbidlcfahdfhaa
open Go.RowKit Go.ChangeMaps

/-- bytes that came in -/
theorem byt_row {w : World} {x : Addr} {n : Nat} {zs : List Int} (hz : n ≤ zs.length) (hc : ∀ i, i < zs.length → w.cell? (x.add i) = some (.int .u8 (zs.getD i 0))) (hw : ∀ m ∈ zs, (Lit.int .u8 m).wf = true) : Byt w (some x) n := by
  intro j hj
  obtain ⟨g, o, spot⟩ := x
  have hspot : spot = none := by simpa [Addr.add] using World.cell?_spot (hc 0 (by omega))
  subst hspot
  have hj2 : j < zs.length := by omega
  have h1 := hc j hj2
  have h2 := hw zs[j] (List.getElem_mem hj2)
  rw [List.getD_eq_getElem?_getD, List.getElem?_eq_getElem hj2, Option.getD_some] at h1
  simp [Lit.wf, IntKind.min, IntKind.max, IntKind.signed, IntKind.bits] at h2
  refine ⟨g, o, zs[j].toNat, rfl, by omega, ?_⟩
  rw [addr_add] at h1
  rw [h1]
  congr 2
  omega

/-- two texts that are drawn -/
def Drw2 (N : Nat) (w : World) (e : Ending) (w' : World) : Prop := ∃ x y, e = .returned (.tuple #[S x, S y]) ∧ x.length ≤ N ∧ y.length ≤ N ∧ Fr No w w'

set_option maxRecDepth 100000 in
set_option maxHeartbeats 1000000 in
theorem drawPositive (w : World) (A : Option Addr) (n c : Nat) (hn : n ≤ maxLen) (hnc : n ≤ c) (hb : Byt w A n) :
    Calls Try.prog 22 #[.slice A n c] w fun e w' => Drw2 1300 w e w' := by
  have OP := Lib.hid (open_any w A n c hn hnc hb)
  clear hb
  go_enter Try.func22, Try.ntmps22
  go_wp2_with fail
  refine OP.out.mono ?_
  rintro e w1 ⟨r, A1, n1, c1, rfl, hf1, hr1, hd1⟩
  have HF1 := Lib.hid hf1
  have HR1 := Lib.hid hr1
  have TX := Lib.hid (text_draw w1 r A1 n1 c1 0 hd1 (by omega))
  clear hf1 hr1 hd1
  go_wp2_with fail
  refine TX.out.mono ?_
  rintro e w2 ⟨x, p2, rfl, hx, hf2, hp2, hd2⟩
  have HF2 : Hid (Fr No w w2) := HF1.out.then_ hf2 (fun i hi e => by unfold One at e; have := HR1.out; omega)
  have OF := Lib.hid (of_lit w2 r A1 n1 c1 p2 1 5 [[97], [98], [99], [111], [122]] #[.string ⟨#[97]⟩, .string ⟨#[98]⟩, .string ⟨#[99]⟩, .string ⟨#[111]⟩, .string ⟨#[122]⟩] rfl rfl hd2 (by omega) (by omega) (by omega) (by decide))
  clear hf2 hd2
  go_wp2_with fail
  refine OF.out.mono ?_
  rintro e w3 ⟨y, rfl, _, hy, hf3, _⟩
  have FIN : Hid (Drw2 1300 w (.returned (.tuple #[S x, S y])) w3) := ⟨x, y, rfl, hx, by omega, HF2.out.then_ hf3 (fun i hi e => by unfold One at e; have := HR1.out; omega)⟩
  clear hf3
  go_wp2_with fail
  refine bodyPost_ret (v := .tuple #[S x, S y]) (by simp [results, Try.results22, go_sem]) rfl ?_
  exact FIN.out

theorem pos_x {s nm : List UInt8} (h : OnlyP true s nm) (hv : ∃ u, Ty.Is (40 :: 42 :: 32 :: (s ++ [32, 111, 41])) u) : OnlyP true (40 :: 42 :: 32 :: (s ++ [32, 111, 41])) nm := by
  obtain ⟨t, i, ht, hi, hn, ho⟩ := h
  obtain ⟨u, hu⟩ := hv
  have e : (40 :: 42 :: 32 :: (s ++ [32, 111, 41]) : List UInt8) = (Ty.n false t .o).text := by rw [ht.1]; simp [Ty.text, Ty.sign]
  have e2 : u = .n false t .o := Ty.text_inj hu.2.1 ⟨ht.2.1, trivial⟩ (by rw [← hu.1, e])
  exact ⟨u, i, hu, hi, hn, by rw [e2]; simp [only, ho]⟩

theorem pos_y {s nm : List UInt8} (h : OnlyP true s nm) (hv : ∃ u, Ty.Is (40 :: 62 :: 32 :: 111 :: 32 :: (s ++ [41])) u) : OnlyP true (40 :: 62 :: 32 :: 111 :: 32 :: (s ++ [41])) nm := by
  obtain ⟨t, i, ht, hi, hn, ho⟩ := h
  obtain ⟨u, hu⟩ := hv
  have e : (40 :: 62 :: 32 :: 111 :: 32 :: (s ++ [41]) : List UInt8) = (Ty.n true .o t).text := by rw [ht.1]; simp [Ty.text, Ty.sign]
  have e2 : u = .n true .o t := Ty.text_inj hu.2.1 ⟨trivial, ht.2.1⟩ (by rw [← hu.1, e])
  exact ⟨u, i, hu, hi, hn, by rw [e2]; simp [only, ho]⟩

theorem pos_z {s nm : List UInt8} (h : OnlyP true s nm) (hv : ∃ u, Ty.Is (40 :: 62 :: 32 :: (s ++ [32, 111, 41])) u) : OnlyP false (40 :: 62 :: 32 :: (s ++ [32, 111, 41])) nm := by
  obtain ⟨t, i, ht, hi, hn, ho⟩ := h
  obtain ⟨u, hu⟩ := hv
  have e : (40 :: 62 :: 32 :: (s ++ [32, 111, 41]) : List UInt8) = (Ty.n true t .o).text := by rw [ht.1]; simp [Ty.text, Ty.sign]
  have e2 : u = .n true t .o := Ty.text_inj hu.2.1 ⟨ht.2.1, trivial⟩ (by rw [← hu.1, e])
  exact ⟨u, i, hu, hi, hn, by rw [e2]; simp [only, ho]⟩

set_option maxRecDepth 100000 in
set_option maxHeartbeats 4000000 in
theorem lawPPositive (w : World) (A : Option Addr) (n c : Nat) (hn : n ≤ maxLen) (hnc : n ≤ c) (hb : Byt w A n) :
    Calls Try.prog 4 #[.slice A n c] w fun e w' => Yes w e w' := by
  have DR := Lib.hid (drawPositive w A n c hn hnc hb)
  have hn' := hn
  unfold maxLen at hn'
  clear hb
  by_cases hl : 1048576 < n
  · have hd : decide ((1048576 : Int) < (n : Int)) = true := by simp; omega
    go_enter Try.func4, Try.ntmps4
    go_wp2_with fail
    go_ret
    exact ⟨rfl, Fr.refl _ _⟩
  have hd : decide ((1048576 : Int) < (n : Int)) = false := by simp; omega
  clear hl
  go_enter Try.func4, Try.ntmps4
  go_wp2_with fail
  refine DR.out.mono ?_
  rintro e w1 ⟨s, nm, rfl, hs, hm, hf1⟩
  have HF1 := Lib.hid hf1
  have IP := Lib.hid (fun W => implPositive W s nm (by unfold maxLen; omega) (by unfold maxLen; omega))
  have SP := Lib.hid (fun W => specPositive W s nm (by unfold maxLen; omega) (by unfold maxLen; omega))
  have VAL : Hid (∀ (W : World) (x : ByteArray) (X : List UInt8), x.data.toList = X → X.length ≤ 2000 → Calls Try.prog 25 #[.string x] W fun e w' => AnsB (∃ t, Ty.Is X t) W e w') := by
    intro W x X hx hl
    rw [show Value.string x = S X by rw [← hx]]
    exact implValid W X (by unfold maxLen; omega)
  have POS : Hid (∀ (W : World) (x : ByteArray) (X : List UInt8), x.data.toList = X → X.length ≤ 2000 → OnlyP true X nm → Calls Try.prog 23 #[.string x, S nm] W fun e w' => e = .returned (.bool true) ∧ Fr No W w') := by
    intro W x X hx hl ho
    rw [show Value.string x = S X by rw [← hx]]
    refine (implPositive W X nm (by unfold maxLen; omega) (by unfold maxLen; omega)).mono ?_
    rintro e w' ⟨b, rfl, hb, hf⟩
    exact ⟨by rw [hb.2 ho], hf⟩
  have NEG : Hid (∀ (W : World) (x : ByteArray) (X : List UInt8), x.data.toList = X → X.length ≤ 2000 → OnlyP false X nm → Calls Try.prog 26 #[.string x, S nm] W fun e w' => e = .returned (.bool true) ∧ Fr No W w') := by
    intro W x X hx hl ho
    rw [show Value.string x = S X by rw [← hx]]
    refine (implNegative W X nm (by unfold maxLen; omega) (by unfold maxLen; omega)).mono ?_
    rintro e w' ⟨b, rfl, hb, hf⟩
    exact ⟨by rw [hb.2 ho], hf⟩
  have HS := Lib.hid hs
  clear hf1 hm
  go_wp2_with fail
  refine (IP.out _).mono ?_
  rintro e w2 ⟨b1, rfl, h1, hf2⟩
  go_wp2_with fail
  refine (SP.out _).mono ?_
  rintro e w3 ⟨b2, rfl, h2, hf3⟩
  obtain rfl : b1 = b2 := Bool.eq_iff_iff.2 (h1.trans h2.symm)
  have HF3 := Lib.hid ((HF1.out.trans hf2).trans hf3)
  cases b1
  · clear h1 h2 hf2 hf3
    go_wp2_with fail
    go_ret
    exact ⟨rfl, HF3.out⟩
  have HO := Lib.hid (h1.1 rfl)
  have PX := Lib.hid (pos_x HO.out)
  have PY := Lib.hid (pos_y HO.out)
  have PZ := Lib.hid (pos_z HO.out)
  have sl : s.length ≤ 1300 := hs
  clear h1 h2 hf2 hf3
  go_wp2_with fail
  refine (VAL.out _ _ (40 :: 42 :: 32 :: (s ++ [32, 111, 41])) (by simp) (by simp; omega)).mono ?_
  rintro e w4 ⟨bx, rfl, hx, hf4⟩
  have HF4 := Lib.hid (HF3.out.trans hf4)
  clear hf4
  cases bx
  · clear hx
    go_wp2_with fail
    refine (VAL.out _ _ (40 :: 62 :: 32 :: 111 :: 32 :: (s ++ [41])) (by simp) (by simp; omega)).mono ?_
    rintro e w6 ⟨by_, rfl, hy, hf6⟩
    have HF6 := Lib.hid (HF4.out.trans hf6)
    clear hf6
    cases by_
    · clear hy
      go_wp2_with fail
      refine (VAL.out _ _ (40 :: 62 :: 32 :: (s ++ [32, 111, 41])) (by simp) (by simp; omega)).mono ?_
      rintro e w8 ⟨bz, rfl, hz, hf8⟩
      have HF8 := Lib.hid (HF6.out.trans hf8)
      clear hf8
      cases bz
      · clear hz
        go_wp2_with fail
        go_ret
        exact ⟨rfl, HF8.out⟩
      · have HZ := Lib.hid (PZ.out (hz.1 rfl))
        clear hz
        go_wp2_with fail
        refine (NEG.out _ _ _ (by simp) (by simp; omega) HZ.out).mono ?_
        rintro e w9 ⟨rfl, hf9⟩
        have HF9 := Lib.hid (HF8.out.trans hf9)
        clear hf9
        go_wp2_with fail
        go_ret
        exact ⟨rfl, HF9.out⟩
    · have HY := Lib.hid (PY.out (hy.1 rfl))
      clear hy
      go_wp2_with fail
      refine (POS.out _ _ _ (by simp) (by simp; omega) HY.out).mono ?_
      rintro e w7 ⟨rfl, hf7⟩
      have HF7 := Lib.hid (HF6.out.trans hf7)
      clear hf7
      go_wp2_with fail
      refine (VAL.out _ _ (40 :: 62 :: 32 :: (s ++ [32, 111, 41])) (by simp) (by simp; omega)).mono ?_
      rintro e w8 ⟨bz, rfl, hz, hf8⟩
      have HF8 := Lib.hid (HF7.out.trans hf8)
      clear hf8
      cases bz
      · clear hz
        go_wp2_with fail
        go_ret
        exact ⟨rfl, HF8.out⟩
      · have HZ := Lib.hid (PZ.out (hz.1 rfl))
        clear hz
        go_wp2_with fail
        refine (NEG.out _ _ _ (by simp) (by simp; omega) HZ.out).mono ?_
        rintro e w9 ⟨rfl, hf9⟩
        have HF9 := Lib.hid (HF8.out.trans hf9)
        clear hf9
        go_wp2_with fail
        go_ret
        exact ⟨rfl, HF9.out⟩
  · have HX := Lib.hid (PX.out (hx.1 rfl))
    clear hx
    go_wp2_with fail
    refine (POS.out _ _ _ (by simp) (by simp; omega) HX.out).mono ?_
    rintro e w5 ⟨rfl, hf5⟩
    have HF5 := Lib.hid (HF4.out.trans hf5)
    clear hf5
    go_wp2_with fail
    refine (VAL.out _ _ (40 :: 62 :: 32 :: 111 :: 32 :: (s ++ [41])) (by simp) (by simp; omega)).mono ?_
    rintro e w6 ⟨by_, rfl, hy, hf6⟩
    have HF6 := Lib.hid (HF5.out.trans hf6)
    clear hf6
    cases by_
    · clear hy
      go_wp2_with fail
      refine (VAL.out _ _ (40 :: 62 :: 32 :: (s ++ [32, 111, 41])) (by simp) (by simp; omega)).mono ?_
      rintro e w8 ⟨bz, rfl, hz, hf8⟩
      have HF8 := Lib.hid (HF6.out.trans hf8)
      clear hf8
      cases bz
      · clear hz
        go_wp2_with fail
        go_ret
        exact ⟨rfl, HF8.out⟩
      · have HZ := Lib.hid (PZ.out (hz.1 rfl))
        clear hz
        go_wp2_with fail
        refine (NEG.out _ _ _ (by simp) (by simp; omega) HZ.out).mono ?_
        rintro e w9 ⟨rfl, hf9⟩
        have HF9 := Lib.hid (HF8.out.trans hf9)
        clear hf9
        go_wp2_with fail
        go_ret
        exact ⟨rfl, HF9.out⟩
    · have HY := Lib.hid (PY.out (hy.1 rfl))
      clear hy
      go_wp2_with fail
      refine (POS.out _ _ _ (by simp) (by simp; omega) HY.out).mono ?_
      rintro e w7 ⟨rfl, hf7⟩
      have HF7 := Lib.hid (HF6.out.trans hf7)
      clear hf7
      go_wp2_with fail
      refine (VAL.out _ _ (40 :: 62 :: 32 :: (s ++ [32, 111, 41])) (by simp) (by simp; omega)).mono ?_
      rintro e w8 ⟨bz, rfl, hz, hf8⟩
      have HF8 := Lib.hid (HF7.out.trans hf8)
      clear hf8
      cases bz
      · clear hz
        go_wp2_with fail
        go_ret
        exact ⟨rfl, HF8.out⟩
      · have HZ := Lib.hid (PZ.out (hz.1 rfl))
        clear hz
        go_wp2_with fail
        refine (NEG.out _ _ _ (by simp) (by simp; omega) HZ.out).mono ?_
        rintro e w9 ⟨rfl, hf9⟩
        have HF9 := Lib.hid (HF8.out.trans hf9)
        clear hf9
        go_wp2_with fail
        go_ret
        exact ⟨rfl, HF9.out⟩
end Go.Proofs.Ythbidlcfahdfhaa
