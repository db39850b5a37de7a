/- The laws TermCanon and TermAlike. -/
import Derived.Test.YthbidlcfahdfhaaDoorTsame
import Derived.Test.YthbidlcfahdfhaaDoorS2canon
import Derived.Test.YthbidlcfahdfhaaDoorLawT1
namespace Go.Proofs.YthbidlcfahdfhaaDoor
open Go.RowKit Go.ChangeMaps

set_option maxHeartbeats 1000000 in
theorem lawTmCanon (w : World) (htab : Lib.TabIs Tryd.prog w "internal/strconv.uint64pow10" .u64 Lib.pow10Tab) (s : List UInt8) (hs : s.length ≤ maxLen) :
    Calls Tryd.prog 7 #[S s] w fun e w' => Yes w e w' := by
  have HTB : Hid (Tb w.heap.size w) := Lib.tabBelow_of_tabIs htab
  have hs' := hs
  unfold maxLen at hs'
  by_cases hl : 1048576 < s.length
  · have hb : decide ((1048576 : Int) < (s.length : Int)) = true := by simp; omega
    go_enter Tryd.func7, Tryd.ntmps7
    go_wp2_with fail
    go_ret
    exact ⟨rfl, Fr.refl _ _⟩
  · have hb : decide ((1048576 : Int) < (s.length : Int)) = false := by simp; omega
    go_enter Tryd.func7, Tryd.ntmps7
    go_wp2_with fail
    refine (specTmCanon _ s hs).mono ?_
    rintro e w1 ⟨a, ok, rfl, h1, hf1⟩
    go_wp2_with fail
    refine (implTmCanon _ w.heap.size s hs hf1.size (HTB.out.fr hf1 (Nat.le_refl _) (fun _ h => h.elim))).mono ?_
    rintro e w2 ⟨a', ok', rfl, h2, hf2⟩
    obtain ⟨rfl, rfl⟩ := CanonIs.one h1 h2
    clear h1 h2
    go_wp2
    go_ret
    exact ⟨rfl, hf1.trans hf2⟩

/-- two texts that are terms which are alike -/
def TAlike (s t : List UInt8) : Prop := ∃ a k a' k', TmOk s a k ∧ TmOk t a' k' ∧ cnT a k = cnT a' k'

theorem TAlike.no1 {s t : List UInt8} (h : ∀ a k, ¬ TmOk s a k) : ¬ TAlike s t := fun ⟨a, k, _, _, i, _⟩ => h a k i
theorem TAlike.no2 {s t : List UInt8} (h : ∀ a k, ¬ TmOk t a k) : ¬ TAlike s t := fun ⟨_, _, a, k, _, i, _⟩ => h a k i
theorem TAlike.iff {s t a a' : List UInt8} {k k' : Fo} (h1 : TmOk s a k) (h2 : TmOk t a' k') : TAlike s t ↔ cnT a k = cnT a' k' :=
  ⟨fun ⟨b, j, b', j', i1, i2, e⟩ => by
    obtain ⟨rfl, rfl⟩ := h1.unique i1
    obtain ⟨rfl, rfl⟩ := h2.unique i2
    exact e, fun e => ⟨a, k, a', k', h1, h2, e⟩⟩

set_option maxRecDepth 100000 in
set_option maxHeartbeats 1000000 in
theorem specTmAlike (w : World) (a b : List UInt8) (ha : a.length ≤ maxLen) (hb : b.length ≤ maxLen) :
    Calls Tryd.prog 24 #[S a, S b] w fun e w' => AnsB (TAlike a b) w e w' := by
  go_enter Tryd.func24, Tryd.ntmps24
  go_wp2_with fail
  refine (specTmCanon _ a ha).mono ?_
  rintro e w1 ⟨x, p, rfl, h1, hf1⟩
  have H1 := Lib.hid h1
  clear h1
  go_wp2_with fail
  refine (specTmCanon _ b hb).mono ?_
  rintro e w2 ⟨y, q, rfl, h2, hf2⟩
  rcases H1.out with ⟨t, k, i1, e1, rfl⟩ | ⟨n1, e1, rfl⟩
  · rcases h2 with ⟨u, k2, i2, e2, rfl⟩ | ⟨n2, e2, rfl⟩
    · have hiff : x = y ↔ TAlike a b := by rw [TAlike.iff i1 i2, e1, e2]
      have HI := Lib.hid hiff
      clear e1 e2 hiff
      by_cases hxy : x = y
      · subst hxy
        go_wp2
        go_ret
        exact ⟨true, rfl, ⟨fun _ => HI.out.1 (by trivial), fun _ => rfl⟩, hf1.trans hf2⟩
      · have hne : (x == y) = false := by simpa using hxy
        have HX := Lib.hid hxy
        clear hxy
        go_wp2
        go_ret
        exact ⟨false, by simp, ⟨fun h => (by cases h), fun h => (HX.out (HI.out.2 h)).elim⟩, hf1.trans hf2⟩
    · have HN := Lib.hid n2
      clear e1 e2 n2
      go_wp2
      go_ret
      exact ⟨false, rfl, ⟨fun h => (by cases h), fun h => (TAlike.no2 HN.out h).elim⟩, hf1.trans hf2⟩
  · have HN := Lib.hid n1
    clear e1 h2
    go_wp2
    go_ret
    exact ⟨false, rfl, ⟨fun h => (by cases h), fun h => (TAlike.no1 HN.out h).elim⟩, hf1.trans hf2⟩

theorem ndD_le (bs : List (List UInt8)) (a : List UInt8) : ndD bs a ≤ bs.length := by
  unfold ndD
  split
  · exact Nat.zero_le _
  · split
    · exact Nat.zero_le _
    · cases hd : depOf a bs with
      | none => exact Nat.zero_le _
      | some d => exact Nat.le_of_lt (dep_lt hd)

theorem dep_cv : ∀ (f : Fo) (m : Md) (n : Nat), f.wf → (match m with | .kids bs _ _ _ => bs.length | .parts bs => bs.length | .name bs _ => bs.length) + f.deep + n ≤ 99999 → DepOk (cv f m)
  | .nil, _, _, _, _ => by cases ‹Md› <;> trivial
  | .cons a k r, .kids bs h x i, n, hw, hl => by
    simp only [Fo.deep] at hl
    have hi := ins_len bs h x i
    have h1 := ndD_le (insB bs h x i) a
    refine ⟨by omega, ?_, dep_cv r (.kids bs h x (i + 1)) 0 hw.2.2 (by simp only; omega)⟩
    by_cases ha : a = []
    · rw [if_pos ha] at hl
      exact dep_cv k (.parts (insB bs h x i)) 0 hw.2.1 (by simp only; omega)
    · rw [hw.1 ha]; trivial
  | .cons h k r, .parts bs, n, hw, hl => by
    simp only [Fo.deep] at hl
    simp only [cv]
    split
    · exact dep_cv r (.name bs h) 0 hw.2.2 (by simp only; omega)
    · exact dep_cv r (.kids bs h [] 0) 0 hw.2.2 (by simp only; omega)
  | .cons x k r, .name bs h, n, hw, hl => by
    simp only [Fo.deep] at hl
    exact dep_cv r (.kids bs h x 0) 0 hw.2.2 (by simp only; omega)

theorem dep_term {a : List UInt8} {k : Fo} (h : isTm a k = true) (hw : a ≠ [] → k = .nil) (hk : k.wf) (hs : treeSize a k ≤ 300) : DepOk (cv k (.parts [])) := by
  have hd := isTm_deep h
  by_cases ha : a = []
  · rw [treeDeep, if_pos ha] at hd
    exact dep_cv k (.parts []) 0 hk (by simp only [List.length_nil]; omega)
  · rw [hw ha]; trivial

set_option maxRecDepth 100000 in
set_option maxHeartbeats 1000000 in
theorem implTmAlike (w : World) (s t : List UInt8) (hs : s.length ≤ maxLen) (ht : t.length ≤ maxLen) :
    Calls Tryd.prog 25 #[S s, S t] w fun e w' => AnsB (TAlike s t) w e w' := by
  have HT := Lib.hid ht
  clear ht
  go_enter Tryd.func25, Tryd.ntmps25
  go_wp2_with fail
  refine (readTerm_any w s hs).mono ?_
  rintro e w1 ⟨hf1, ⟨a, k, p, hi, rfl, htm⟩ | ⟨hno, rfl⟩⟩
  · have HI := Lib.hid hi
    have HM := Lib.hid htm
    have HF1 := Lib.hid hf1
    clear hi htm hf1
    go_wp2_with fail
    refine (readTerm_any w1 t HT.out).mono ?_
    rintro e w2 ⟨hf2, ⟨a', k', p', hi', rfl, htm'⟩ | ⟨hno, rfl⟩⟩
    · have hw := HI.out.2.wf
      have hw' := hi'.2.wf
      have hz := nd_size [] HI.out.2.2.1 hw.1 hw.2
      have hz' := nd_size [] hi'.2.2.1 hw'.1 hw'.2
      have hsm := HI.out.2.2.2
      have hsm' := hi'.2.2.2
      simp only [nd, Ts.size] at hz hz'
      have hal := alike_iff HI.out.2.2.1 hw.1 hw.2 hsm hi'.2.2.1 hw'.1 hw'.2 hsm'
      rw [← TAlike.iff HI.out hi'] at hal
      have hd := ndD_le [] a
      have hd' := ndD_le [] a'
      simp only [List.length_nil] at hd hd'
      have CALL := Lib.hid (same_any _ (cv k (.parts [])) (Nat.lt_succ_self _) _ _ _ p _ _ _ p' (cv k' (.parts [])) w2 (NewT w w1) (NewT w1 w2) (by split at hz <;> omega) (by split at hz' <;> omega) (by omega) (by omega) (dep_term HI.out.2.2.1 hw.1 hw.2 hsm) (dep_term hi'.2.2.1 hw'.1 hw'.2 hsm') (fun b hb => Nat.lt_of_lt_of_le hb.2 hf2.size) (fun b hb => hb.2)
        (HM.out.mono (fun _ h => h) (fun b hb => hf2.block b hb.2 (fun h => h))) htm')
      have HB : Hid (smN (ndH a k) (ndA [] a k) (ndD [] a) (cv k (.parts [])) (ndH a' k') (ndA [] a' k') (ndD [] a') (cv k' (.parts [])) = true ↔ TAlike s t) := by
        refine Lib.hid ?_
        rw [← hal]
        simp only [nd, sm_cons, smL, Bool.and_true]
      have HF := Lib.hid (HF1.out.trans hf2)
      obtain ⟨bb, HBB⟩ : ∃ z, Hid (smN (ndH a k) (ndA [] a k) (ndD [] a) (cv k (.parts [])) (ndH a' k') (ndA [] a' k') (ndD [] a') (cv k' (.parts [])) = z) := ⟨_, rfl⟩
      rw [HBB.out] at CALL HB
      clear hw hw' hz hz' hsm hsm' hal hd hd' htm' hi' hf2
      go_wp2_with fail
      refine CALL.out.mono ?_
      rintro e w3 ⟨rfl, hf3⟩
      go_wp2_with fail
      go_ret
      exact ⟨bb, rfl, HB.out, HF.out.trans hf3⟩
    · have HN := Lib.hid hno
      have HF := Lib.hid (HF1.out.trans hf2)
      clear hno hf2
      go_wp2
      go_ret
      exact ⟨false, rfl, ⟨fun h => (by cases h), fun h => (TAlike.no2 HN.out h).elim⟩, HF.out⟩
  · have HN := Lib.hid hno
    have HF1 := Lib.hid hf1
    clear hno hf1
    go_wp2_with fail
    refine (readTerm_any w1 t HT.out).mono ?_
    rintro e w2 ⟨hf2, hor⟩
    have hret : ∃ v : Option Addr, e = .returned (.pointer v) := by rcases hor with ⟨_, _, _, _, he, _⟩ | ⟨_, he⟩ <;> exact ⟨_, he⟩
    obtain ⟨v, rfl⟩ := hret
    have HF := Lib.hid (HF1.out.trans hf2)
    clear hor hf2
    go_wp2
    go_ret
    exact ⟨false, rfl, ⟨fun h => (by cases h), fun h => (TAlike.no1 HN.out h).elim⟩, HF.out⟩

set_option maxHeartbeats 1000000 in
theorem lawTmAlike (w : World) (a b : List UInt8) (ha : a.length ≤ maxLen) (hb : b.length ≤ maxLen) :
    Calls Tryd.prog 8 #[S a, S b] w fun e w' => Yes w e w' := by
  have ha' := ha
  have hb' := hb
  unfold maxLen at ha' hb'
  by_cases hl : 1048576 < a.length
  · have hd : decide ((1048576 : Int) < (a.length : Int)) = true := by simp; omega
    go_enter Tryd.func8, Tryd.ntmps8
    go_wp2_with fail
    go_ret
    exact ⟨rfl, Fr.refl _ _⟩
  · have hd : decide ((1048576 : Int) < (a.length : Int)) = false := by simp; omega
    by_cases hl2 : 1048576 < b.length
    · have hd2 : decide ((1048576 : Int) < (b.length : Int)) = true := by simp; omega
      go_enter Tryd.func8, Tryd.ntmps8
      go_wp2_with fail
      go_ret
      exact ⟨rfl, Fr.refl _ _⟩
    · have hd2 : decide ((1048576 : Int) < (b.length : Int)) = false := by simp; omega
      go_enter Tryd.func8, Tryd.ntmps8
      go_wp2_with fail
      refine (specTmAlike _ a b ha hb).mono ?_
      rintro e w1 ⟨b1, rfl, h1, hf1⟩
      go_wp2_with fail
      refine (implTmAlike _ a b ha hb).mono ?_
      rintro e w2 ⟨b2, rfl, h2, hf2⟩
      obtain rfl : b1 = b2 := Bool.eq_iff_iff.2 (h1.trans h2.symm)
      clear h1 h2
      go_wp2
      go_ret
      exact ⟨rfl, hf1.trans hf2⟩
end Go.Proofs.YthbidlcfahdfhaaDoor
