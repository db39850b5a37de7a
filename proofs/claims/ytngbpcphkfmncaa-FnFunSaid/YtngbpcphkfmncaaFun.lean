/- SetFun of the program. -/
import Derived.Test.YtngbpcphkfmncaaElm
namespace Go.Proofs.Ytngbpcphkfmncaa
open Go.RowKit Go.ChangeMaps

set_option maxRecDepth 100000 in
set_option maxHeartbeats 1000000 in
theorem implFun (w : World) (s : List UInt8) (A A' L : Option Addr) (ns : List (List UInt8)) (zs lst : List Int) (c c' lc : Nat) (hss : s.length ≤ maxLen) (hN : SSl w A ns) (hZ : ISl w A' zs) (hL : ISl w L lst) (hl : ns.length ≤ 2000000) (hl' : zs.length ≤ 2000000) (hll : lst.length ≤ 2000000) (hs : ∀ x ∈ ns, x.length ≤ maxLen) :
    Calls Try.prog 27 #[S s, .slice A ns.length c, .slice A' zs.length c', .slice L lst.length lc] w fun e w' => AnsFun s ns zs lst w e w' := by
  have CALL := Lib.hid (readSetOf_any w true s A A' ns zs c c' hss hN hZ hl hl' hs)
  have HL := Lib.hid hL
  have hlI : (lst.length : Int) ≤ 2000000 := by omega
  clear hN hZ hs hL
  go_enter Try.func27, Try.ntmps27
  go_wp2_with fail
  refine CALL.out.mono ?_
  rintro e w1 ⟨hf, ⟨l, r, ms, a, b, d, g, hi, rfl, hfs⟩ | ⟨hno, rfl⟩⟩
  · have HI := Lib.hid hi
    obtain ⟨gl, gr, hpl, hpl2, hpr, HASR⟩ : ∃ gl gr, w1.cell? ⟨g, 3, none⟩ = some (Ptr gl) ∧ w1.cell? ⟨gl, 2, none⟩ = some (.int .i64 a) ∧ w1.cell? ⟨g, 4, none⟩ = some (Ptr gr) ∧ (∀ d', Calls Try.prog 54 #[Ptr gr, .int .i64 d'] w1 fun e w' => e = .returned (.bool (decide (0 ≤ d' ∧ d' < (b : Int)))) ∧ w1 = w') := by
      obtain ⟨gl, gr, sz, s1, z1, p1, q1, s2, z2, p2, q2, h1, h2, h3⟩ := hfs
      exact ⟨gl, gr, (h1.cell 3).trans rfl, (h2.cell 2).trans rfl, (h1.cell 4).trans rfl, fun d' => has_set w1 gr _ _ _ _ b d' h3⟩
    have HASR := Lib.hid HASR
    have HFS := Lib.hid hfs
    have hbnd := hi.2.2.2.2.2
    have HBND := Lib.hid hbnd
    have ha4 : (a : Int) ≤ 4096 := by have := hbnd.2.2.1; omega
    have HLW : Hid (ISl w1 L lst) := HL.out.keep hf (fun _ h => h.elim)
    clear hi hfs hbnd
    by_cases hla : lst.length = a
    · have HLA := Lib.hid hla
      rw [← hla] at hpl2
      clear hla
      go_wp2_with fail
      go_loop [33] (fun u => ∃ j : Nat, j ≤ lst.length ∧ u = .int .i64 j ∧ ∀ z ∈ lst.take j, 0 ≤ z ∧ z < (b : Int)) (fun u => lst.length - (intOf u).toNat)
      case atStart => exact ⟨0, Nat.zero_le _, rfl, by simp⟩
      case round =>
        obtain ⟨j, hj, rfl, hok⟩ := hrel
        have HOK := Lib.hid hok
        clear hok
        by_cases hlt : j < lst.length
        · obtain ⟨z, hz⟩ : ∃ z, lst[j]? = some z := ⟨_, List.getElem?_eq_getElem hlt⟩
          obtain ⟨g3, o3, rfl, hcz⟩ := HLW.out j z hz
          have HZJ := Lib.hid hz
          clear hz
          go_wp2_with fail
          refine (HASR.out z).mono ?_
          rintro e w4 ⟨rfl, rfl⟩
          by_cases hin : 0 ≤ z ∧ z < (b : Int)
          · rw [decide_eq_true hin]
            have HOK1 : Hid (∀ z ∈ lst.take (j + 1), 0 ≤ z ∧ z < (b : Int)) := by
              intro y hy
              rw [List.take_add_one, HZJ.out] at hy
              rcases List.mem_append.1 hy with hy | hy
              · exact HOK.out y hy
              · simp at hy; rw [hy]; exact hin
            clear hin
            go_wp2_with fail
            go_round
            case rel => exact ⟨j + 1, by omega, by go_num, HOK1.out⟩
            case measure => simp [intOf]; omega
          · rw [decide_eq_false hin]
            have HNO : Hid (∀ l r ms a b d, SfIs s true ns zs l r ms a b d → ¬ LstOk lst a b) := fun l r ms a' b' d' h hlk => by
              have e := (h.unique HI.out).2.1
              subst e
              exact hin (hlk.2 z (List.mem_of_getElem? HZJ.out))
            clear hin
            go_wp2_with fail
            go_ret2
            exact ⟨_, _, rfl, .inr ⟨HNO.out, rfl, rfl⟩, hf⟩
        · have hjl : j = lst.length := by omega
          have hok : ∀ z ∈ lst, 0 ≤ z ∧ z < (b : Int) := by
            have h := HOK.out
            rw [hjl, List.take_length] at h
            exact h
          have HLK : Hid (LstOk lst a b) := ⟨HLA.out, hok⟩
          have hbn := HBND.out
          have CF : Hid (Calls Try.prog 59 #[Ptr g, .slice L lst.length lc] w1 fun e w' => e = .returned (.int .i64 ((undI b lst : Nat) : Int)) ∧ Fr No w1 w') :=
            elem_any w1 g true a b d HFS.out L lc lst HLW.out hbn.2.2.2.1 hbn.2.2.2.2.1 hok (by rw [HLA.out]; have h1 := hbn.1; simp only [if_true] at h1; have h2 := hbn.2.2.2.2.2; omega) (by rw [HLA.out]; exact hbn.2.2.1) (by rw [HLA.out]; exact hbn.2.1)
          clear hjl hok hbn
          go_wp2_with fail
          refine CF.out.mono ?_
          rintro e w4 ⟨rfl, hf4⟩
          have HF4 := Lib.hid (hf.trans hf4)
          clear hf4
          go_wp2_with fail
          go_ret2
          exact ⟨_, _, rfl, .inl ⟨l, r, ms, a, b, d, HI.out, HLK.out, rfl, rfl⟩, HF4.out⟩
    · have hd : ((lst.length : Int) == (a : Int)) = false := beq_eq_false_iff_ne.2 (by omega)
      have HNO : Hid (∀ l r ms a b d, SfIs s true ns zs l r ms a b d → ¬ LstOk lst a b) := fun l r ms a' b' d' h hlk => hla (by rw [hlk.1]; exact (h.unique HI.out).1)
      clear hla
      go_wp2_with fail
      go_ret2
      exact ⟨_, _, rfl, .inr ⟨HNO.out, rfl, rfl⟩, hf⟩
  · have HNO := Lib.hid hno
    clear hno
    go_wp2_with fail
    go_ret2
    exact ⟨_, _, rfl, .inr ⟨fun l r ms a b d h => (HNO.out l r ms a b d h).elim, rfl, rfl⟩, hf⟩
end Go.Proofs.Ytngbpcphkfmncaa
