/- The law FnNegative: what stands nowhere positive and nowhere negative is not there. -/
import Derived.Test.YtjkkjdmfhdoojaaLaw4
import Derived.Test.YtjkkjdmfhdoojaaLaw2
import Derived.Test.YtjkkjdmfhdoojaaDrw
namespace Go.Proofs.Ytjkkjdmfhdoojaa
open Go.RowKit Go.ChangeMaps

set_option maxRecDepth 100000 in
set_option maxHeartbeats 1000000 in
theorem hasT_big (w : World) (A : Option Addr) (xs : List (List UInt8)) (c : Nat) (s : List UInt8) (hx : SSl w A xs) (hl : xs.length ≤ 2000000) :
    Calls Try.prog 21 #[.slice A xs.length c, S s] w fun e w' => HasS xs s w e w' := by
  have HX := Lib.hid hx
  clear hx
  have hl' : (xs.length : Int) ≤ 2000000 := by omega
  go_enter Try.func21, Try.ntmps21
  go_wp2_with fail
  go_loop [5] (fun v => ∃ j : Nat, j ≤ xs.length ∧ v = .int .i64 j ∧ s ∉ xs.take j) (fun v => xs.length - (intOf v).toNat)
  case atStart => exact ⟨0, Nat.zero_le _, rfl, by simp⟩
  case round =>
    obtain ⟨j, hj, rfl, hno⟩ := hrel
    have HN := Lib.hid hno
    clear hno
    by_cases hlt : j < xs.length
    · obtain ⟨x, hxj⟩ : ∃ x, xs[j]? = some x := ⟨_, List.getElem?_eq_getElem hlt⟩
      obtain ⟨g, o, rfl, hc⟩ := HX.out j x hxj
      have HXJ := Lib.hid hxj
      clear hxj
      by_cases hpx : x = s
      · subst hpx
        go_wp2
        go_ret
        exact ⟨true, rfl, ⟨fun _ => List.mem_of_getElem? HXJ.out, fun _ => rfl⟩, rfl⟩
      · have hb : (x == s) = false := by simpa using hpx
        have HPX := Lib.hid hpx
        clear hpx
        go_wp2
        go_round
        case rel => exact ⟨j + 1, by omega, by go_num, nots_more HN.out HXJ.out HPX.out⟩
        case measure => simp [intOf]; omega
    · have hjl : j = xs.length := by omega
      have HF : Hid (s ∉ xs) := by
        have := HN.out
        rw [hjl, List.take_length] at this
        exact this
      clear hjl
      go_wp2
      go_ret
      exact ⟨false, rfl, ⟨fun h => (by cases h), fun h => (HF.out h).elim⟩, rfl⟩

theorem only_not : ∀ (t : Ty) (b : Bool) (i : Nat), only b t i = true → (only (!b) t i = true ↔ ¬ t.has i)
  | .v j, b, i => by cases b <;> simp [only, Ty.has]
  | .o, b, i => by simp [only, Ty.has]
  | .n f l r, b, i => by
    intro h
    simp only [only, Bool.and_eq_true] at h
    have h1 := only_not l _ i h.1
    have h2 := only_not r _ i h.2
    have e : (if f = true then !!b else !b) = !(if f = true then !b else b) := by cases f <;> simp
    simp only [only, Bool.and_eq_true, Ty.has]
    rw [e, h1, h2]
    simp

theorem pos_zf {s nm : List UInt8} (h : OnlyP false s nm) (hv : ∃ u, Ty.Is (40 :: 62 :: 32 :: (s ++ [32, 111, 41])) u) : OnlyP true (40 :: 62 :: 32 :: (s ++ [32, 111, 41])) nm := by
  obtain ⟨t, i, ht, hi, hn, ho⟩ := h
  obtain ⟨u, hu⟩ := hv
  have e : (40 :: 62 :: 32 :: (s ++ [32, 111, 41]) : List UInt8) = (Ty.n true t .o).text := by rw [ht.1]; simp [Ty.text, Ty.sign]
  have e2 : u = .n true t .o := Ty.text_inj hu.2.1 ⟨ht.2.1, trivial⟩ (by rw [← hu.1, e])
  exact ⟨u, i, hu, hi, hn, by rw [e2]; simp [only, ho]⟩

/-- two texts that are drawn -/
def DrwN (w : World) (e : Ending) (w' : World) : Prop := ∃ x y, e = .returned (.tuple #[S x, S y]) ∧ x.length ≤ 1300 ∧ y.length ≤ 1300 ∧ Fr No w w'

set_option maxRecDepth 100000 in
set_option maxHeartbeats 1000000 in
theorem drawNegative (w : World) (A : Option Addr) (n c : Nat) (hn : n ≤ maxLen) (hnc : n ≤ c) (hb : Byt w A n) :
    Calls Try.prog 37 #[.slice A n c] w fun e w' => DrwN w e w' := by
  have OP := Lib.hid (open_any w A n c hn hnc hb)
  clear hb
  go_enter Try.func37, Try.ntmps37
  go_wp2_with fail
  refine OP.out.mono ?_
  rintro e w1 ⟨r, A1, n1, c1, rfl, hf1, hr1, hd1⟩
  have HF1 := Lib.hid hf1
  have HR1 := Lib.hid hr1
  have PK := Lib.hid (pick_any w1 r A1 n1 c1 0 2 hd1 (by omega) (by omega) (by omega))
  clear hf1 hr1 hd1
  go_wp2_with fail
  refine PK.out.mono ?_
  rintro e w2 ⟨z, rfl, hz, hf2, hd2⟩
  have HF2 : Hid (Fr No w w2) := HF1.out.then_ hf2 (fun i hi e => by unfold One at e; have := HR1.out; omega)
  clear hf2
  by_cases hz0 : z = 0
  · subst hz0
    have T1 : Hid (Calls Try.prog 45 #[Ptr r, .int .i64 2] w2 fun e w' => DrwP r A1 n1 c1 (0 + 1) 27 216 w2 e w') := type_draw 2 (by decide) w2 r A1 n1 c1 (0 + 1) hd2 (by decide)
    clear hd2
    go_wp2_with fail
    refine T1.out.mono ?_
    rintro e w3 ⟨x, p2, rfl, hx, hf, hp2, hr⟩
    have HF3 : Hid (Fr No w w3) := HF2.out.then_ hf (fun i hi e => by unfold One at e; have := HR1.out; omega)
    have OF := Lib.hid (of_lit w3 r A1 n1 c1 p2 1 2 [[111], [98]] #[.string ⟨#[111]⟩, .string ⟨#[98]⟩] rfl rfl hr (by omega) (by omega) (by omega) (by decide))
    clear hf hr
    go_wp2_with fail
    refine OF.out.mono ?_
    rintro e w4 ⟨y, rfl, _, hy, hf4, _⟩
    have HF4 : Hid (Fr No w w4) := HF3.out.then_ hf4 (fun i hi e => by unfold One at e; have := HR1.out; omega)
    have FIN : Hid (∀ s : ByteArray, s.data.toList = 40 :: 62 :: 32 :: (x ++ 32 :: (y ++ [41])) → DrwN w (.returned (.tuple #[.string s, S [97]])) w4) := by
      intro s hs
      refine ⟨40 :: 62 :: 32 :: (x ++ 32 :: (y ++ [41])), [97], ?_, by simp; omega, by simp, HF4.out⟩
      rw [show Value.string s = S (40 :: 62 :: 32 :: (x ++ 32 :: (y ++ [41]))) by rw [← hs]]
    clear hf4
    go_wp2_with fail
    refine bodyPost_ret (v := .tuple #[.string ?s, S [97]]) (by simp [results, Try.results37, go_sem]; rfl) rfl ?_
    exact FIN.out _ (by simp)
  · have z0 : ((z : Int) == 0) = false := beq_eq_false_iff_ne.2 (by omega)
    have TX := Lib.hid (text_draw w2 r A1 n1 c1 (0 + 1) hd2 (by omega))
    clear hd2 hz0
    go_wp2_with fail
    refine TX.out.mono ?_
    rintro e w3 ⟨x, p2, rfl, hx, hf, hp2, hr⟩
    have HF3 : Hid (Fr No w w3) := HF2.out.then_ hf (fun i hi e => by unfold One at e; have := HR1.out; omega)
    have OF := Lib.hid (of_lit w3 r A1 n1 c1 p2 1 4 [[97], [98], [99], [111]] #[.string ⟨#[97]⟩, .string ⟨#[98]⟩, .string ⟨#[99]⟩, .string ⟨#[111]⟩] rfl rfl hr (by omega) (by omega) (by omega) (by decide))
    clear hf hr
    go_wp2_with fail
    refine OF.out.mono ?_
    rintro e w4 ⟨y, rfl, _, hy, hf4, _⟩
    have FIN : Hid (DrwN w (.returned (.tuple #[S x, S y])) w4) := ⟨x, y, rfl, by omega, by omega, HF3.out.then_ hf4 (fun i hi e => by unfold One at e; have := HR1.out; omega)⟩
    clear hf4
    go_wp2_with fail
    refine bodyPost_ret (v := .tuple #[S x, S y]) (by simp [results, Try.results37, go_sem]) rfl ?_
    exact FIN.out

set_option maxRecDepth 100000 in
set_option maxHeartbeats 4000000 in
theorem lawPNegative (w : World) (A : Option Addr) (n c : Nat) (hn : n ≤ maxLen) (hnc : n ≤ c) (hb : Byt w A n) :
    Calls Try.prog 10 #[.slice A n c] w fun e w' => Yes w e w' := by
  have DR := Lib.hid (drawNegative w A n c hn hnc hb)
  clear hb
  have hn' := hn
  unfold maxLen at hn'
  by_cases hl : 1048576 < n
  · have hd : decide ((1048576 : Int) < (n : Int)) = true := by simp; omega
    go_enter Try.func10, Try.ntmps10
    go_wp2_with fail
    go_ret
    exact ⟨rfl, Fr.refl _ _⟩
  have hd : decide ((1048576 : Int) < (n : Int)) = false := by simp; omega
  clear hl
  go_enter Try.func10, Try.ntmps10
  go_wp2_with fail
  refine DR.out.mono ?_
  rintro e w1 ⟨s, nm, rfl, hs, hm, hf1⟩
  have HF1 := Lib.hid hf1
  have hsm : s.length ≤ maxLen := by unfold maxLen; omega
  have hnm : nm.length ≤ maxLen := by unfold maxLen; omega
  obtain ⟨b, HB, IN, SN⟩ : ∃ b : Bool, Hid (b = true ↔ OnlyP false s nm) ∧ Hid (∀ W, Calls Try.prog 38 #[S s, S nm] W fun e w' => e = .returned (.bool b) ∧ Fr No W w') ∧ Hid (∀ W, Calls Try.prog 39 #[S s, S nm] W fun e w' => e = .returned (.bool b) ∧ Fr No W w') := by
    have key : ∀ (b b' : Bool), (b = true ↔ OnlyP false s nm) → (b' = true ↔ OnlyP false s nm) → b = b' := fun b b' h h' => Bool.eq_iff_iff.2 (h.trans h'.symm)
    obtain ⟨b, hb⟩ : ∃ b : Bool, b = true ↔ OnlyP false s nm := by
      by_cases h : OnlyP false s nm
      · exact ⟨true, by simpa using h⟩
      · exact ⟨false, by simpa using h⟩
    refine ⟨b, hb, fun W => (implNegative W s nm hsm hnm).mono ?_, fun W => (specNegative W s nm hsm hnm).mono ?_⟩
    · rintro e w' ⟨b', rfl, hb', hf'⟩
      exact ⟨by rw [key b b' hb hb'], hf'⟩
    · rintro e w' ⟨b', rfl, hb', hf'⟩
      exact ⟨by rw [key b b' hb hb'], hf'⟩
  clear hf1
  go_wp2_with fail
  refine (IN.out _).mono ?_
  rintro e w2 ⟨rfl, hf2⟩
  have HF2 := Lib.hid (HF1.out.trans hf2)
  clear hf2
  go_wp2_with fail
  refine (SN.out _).mono ?_
  rintro e w3 ⟨rfl, hf3⟩
  have HF3 := Lib.hid (HF2.out.trans hf3)
  clear hf3 IN SN
  cases b with
  | false =>
    go_wp2_with fail
    go_ret
    exact ⟨rfl, HF3.out⟩
  | true =>
    have hO := HB.out.1 rfl
    have HO := Lib.hid hO
    obtain ⟨t, i, hi, hi25, hni, hon⟩ := hO
    have HI := Lib.hid hi
    obtain ⟨xs, hxs⟩ : ∃ x, x = letS (addV [] t) := ⟨_, rfl⟩
    have hlx : xs.length ≤ 100 := by
      rw [hxs]
      have h := vars_bound hi.2.1
      simp only [letS, List.length_map]
      omega
    have VR : Hid (∀ W, Calls Try.prog 16 #[S s] W fun e w' => ∃ V vc, e = .returned (.tuple #[.slice V xs.length vc, .bool true]) ∧ Hid (SSl w' V xs) ∧ Fr No W w') := fun W => (implVars W s hsm).mono (by
      rintro e w' ⟨V, vc, b, ys, rfl, ho, hf, ⟨t', h', rfl, rfl⟩ | ⟨h, rfl, rfl⟩⟩
      · have e := h'.unique HI.out
        subst e
        subst hxs
        exact ⟨_, _, rfl, SSl.of_own ho, hf⟩
      · exact absurd HI.out (h t))
    have hmem : nm ∈ xs ↔ t.has i := by
      rw [hxs, hni, let_mem (addV_lt t [] (by simp) hi.2.1) hi25, addV_mem]
      simp
    have hpos : OnlyP true s nm ↔ ¬ nm ∈ xs := by
      rw [hmem, ← only_not t false i hon]
      constructor
      · rintro ⟨t', i', h1, h2, h3, h4⟩
        obtain rfl := h1.unique hi
        have e : i' = i := by
          rw [hni] at h3
          injection h3 with h3
          exact (Ty.letter_inj h2 hi25 h3.symm)
        rw [← e]
        exact h4
      · intro h
        exact ⟨t, i, hi, hi25, hni, h⟩
    obtain ⟨q, hq⟩ : ∃ q : Bool, q = decide (nm ∈ xs) := ⟨_, rfl⟩
    have PO : Hid (∀ W, Calls Try.prog 40 #[S s, S nm] W fun e w' => e = .returned (.bool (!q)) ∧ Fr No W w') := fun W => (implPositive W s nm hsm hnm).mono (by
      rintro e w' ⟨b, rfl, hb, hf⟩
      refine ⟨?_, hf⟩
      have : b = !q := by
        rw [hq, Bool.eq_iff_iff, hb, hpos]
        simp
      rw [this])
    have HT : Hid (∀ W V vc, SSl W V xs → Calls Try.prog 21 #[.slice V xs.length vc, S nm] W fun e w' => e = .returned (.bool q) ∧ W = w') := fun W V vc h => (hasT_big W V xs vc nm h (by omega)).mono (by
      rintro e w' ⟨b, rfl, hb, hf⟩
      refine ⟨?_, hf⟩
      have : b = q := by
        rw [hq, Bool.eq_iff_iff, hb]
        simp
      rw [this])
    have VAL : Hid (∀ (W : World) (x : ByteArray) (X : List UInt8), x.data.toList = X → X.length ≤ 2000 → Calls Try.prog 13 #[.string x] W fun e w' => AnsB (∃ t, Ty.Is X t) W e w') := by
      intro W x X hx hl
      rw [show Value.string x = S X by rw [← hx]]
      exact implValid W X (by unfold maxLen; omega)
    have POS : Hid (∀ (W : World) (x : ByteArray) (X : List UInt8), x.data.toList = X → X.length ≤ 2000 → OnlyP true X nm → Calls Try.prog 40 #[.string x, S nm] W fun e w' => e = .returned (.bool true) ∧ Fr No W w') := by
      intro W x X hx hl ho
      rw [show Value.string x = S X by rw [← hx]]
      refine (implPositive W X nm (by unfold maxLen; omega) hnm).mono ?_
      rintro e w' ⟨b, rfl, hb, hf⟩
      exact ⟨by rw [hb.2 ho], hf⟩
    have PZ := Lib.hid (pos_zf HO.out)
    have sl : s.length ≤ 1300 := hs
    clear hi hi25 hni hon hxs hlx hmem hpos hq HI hsm hnm
    go_wp2_with fail
    refine (VR.out _).mono ?_
    rintro e w4 ⟨V, vc, rfl, HV, hf4⟩
    have HF4 := Lib.hid (HF3.out.trans hf4)
    clear hf4
    go_wp2_with fail
    refine (PO.out _).mono ?_
    rintro e w5 ⟨rfl, hf5⟩
    have HF5 := Lib.hid (HF4.out.trans hf5)
    have HV5 : Hid (SSl w5 V xs) := fun j x hj => by
      obtain ⟨g, o, e, hc⟩ := HV.out j x hj
      exact ⟨g, o, e, (hf5.cell (p := ⟨g, o + j, none⟩) (World.block_lt_of_cell? w4 _ hc) (fun h => h)).trans hc⟩
    clear hf5
    go_wp2_with fail
    refine (HT.out w5 V vc HV5.out).mono ?_
    rintro e w6 ⟨rfl, rfl⟩
    cases q
    all_goals
      go_wp2_with fail
      refine (VAL.out _ _ (40 :: 62 :: 32 :: (s ++ [32, 111, 41])) (by simp) (by simp; omega)).mono ?_
      rintro e w8 ⟨bz, rfl, hz, hf8⟩
      have HF8 := Lib.hid (HF5.out.trans hf8)
      clear hf8
      cases bz
      · clear hz
        go_wp2_with fail
        go_ret
        exact ⟨rfl, HF8.out⟩
      · have HZ := Lib.hid (PZ.out (hz.1 rfl))
        clear hz
        go_wp2_with fail
        refine (POS.out _ _ _ (by simp) (by simp; omega) HZ.out).mono ?_
        rintro e w9 ⟨rfl, hf9⟩
        have HF9 := Lib.hid (HF8.out.trans hf9)
        clear hf9
        go_wp2_with fail
        go_ret
        exact ⟨rfl, HF9.out⟩
end Go.Proofs.Ytjkkjdmfhdoojaa
