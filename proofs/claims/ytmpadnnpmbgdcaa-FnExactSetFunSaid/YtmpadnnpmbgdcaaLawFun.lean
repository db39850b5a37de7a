/- The law SetFun. -/
import Derived.Test.YtmpadnnpmbgdcaaFun
namespace Go.Proofs.Ytmpadnnpmbgdcaa
open Go.RowKit Go.ChangeMaps

set_option maxRecDepth 100000 in
set_option maxHeartbeats 1000000 in
theorem lawFun (w : World) (s : List UInt8) (hs : s.length ≤ maxLen) (A : Option Addr) (n c : Nat) (ns : List (List UInt8)) (hns : StrsIn w A n c ns) (A' : Option Addr) (n' c' : Nat) (zs : List Int) (hzs : IntsIn w A' n' c' zs) (L : Option Addr) (ln lc : Nat) (lst : List Int) (hlst : IntsIn w L ln lc lst) :
    Calls Try.prog 10 #[S s, .slice A n c, .slice A' n' c', .slice L ln lc] w fun e w' => Yes w e w' := by
  obtain ⟨rfl, hcns, hmns, hSns, hLns⟩ := hns
  have HSns := Lib.hid hSns
  have HLns := Lib.hid hLns
  have HMns := Lib.hid hmns
  unfold maxLen at hmns
  have hMns : (ns.length : Int) ≤ 9223372036854775807 := by omega
  clear hSns hLns
  obtain ⟨rfl, hczs, hmzs, hSzs, hLzs⟩ := hzs
  have HSzs := Lib.hid hSzs
  have HLzs := Lib.hid hLzs
  have HMzs := Lib.hid hmzs
  unfold maxLen at hmzs
  have hMzs : (zs.length : Int) ≤ 9223372036854775807 := by omega
  clear hSzs hLzs
  obtain ⟨rfl, hclst, hmlst, hSlst, hLlst⟩ := hlst
  have HSlst := Lib.hid hSlst
  have HLlst := Lib.hid hLlst
  have HMlst := Lib.hid hmlst
  unfold maxLen at hmlst
  have hMlst : (lst.length : Int) ≤ 9223372036854775807 := by omega
  clear hSlst hLlst
  have HBs := Lib.hid hs
  unfold maxLen at hs
  by_cases hbigs : 1048576 < s.length
  · have hbs : decide ((1048576 : Int) < (s.length : Int)) = true := by simp; omega
    go_enter Try.func10, Try.ntmps10
    go_wp2_with fail
    go_ret
    exact ⟨rfl, Fr.refl _ _⟩
  have hbs : decide ((1048576 : Int) < (s.length : Int)) = false := by simp; omega
  have hns : s.length ≤ 1048576 := by omega
  have HNs := Lib.hid hns
  clear hbigs hns
  by_cases hbigzs : 1048576 < zs.length
  · have hbzs : decide ((1048576 : Int) < (zs.length : Int)) = true := by simp; omega
    go_enter Try.func10, Try.ntmps10
    go_wp2_with fail
    go_ret
    exact ⟨rfl, Fr.refl _ _⟩
  have hbzs : decide ((1048576 : Int) < (zs.length : Int)) = false := by simp; omega
  have hnzs : zs.length ≤ 1048576 := by omega
  have HNzs := Lib.hid hnzs
  clear hbigzs hnzs
  by_cases hbiglst : 1048576 < lst.length
  · have hblst : decide ((1048576 : Int) < (lst.length : Int)) = true := by simp; omega
    go_enter Try.func10, Try.ntmps10
    go_wp2_with fail
    go_ret
    exact ⟨rfl, Fr.refl _ _⟩
  have hblst : decide ((1048576 : Int) < (lst.length : Int)) = false := by simp; omega
  have hnlst : lst.length ≤ 1048576 := by omega
  have HNlst := Lib.hid hnlst
  clear hbiglst hnlst
  go_enter Try.func10, Try.ntmps10
  go_wp2_with fail
  refine (szS_any w A ns c (1048576) (by omega) (by omega) HSns.out HMns.out HLns.out).mono ?_
  rintro e w0 ⟨left0, rfl, hl10, hl20, hl30, rfl⟩
  by_cases hneg0 : left0 < 0
  · clear hl30
    go_wp2_with fail
    go_ret
    exact ⟨rfl, Fr.refl _ _⟩
  have hnns : ns.length ≤ 1048576 := by have := hl30 (by omega); omega
  have HNns := Lib.hid hnns
  clear hl30 hnns
  have CPns : Hid (∀ w', Fr No w w' → Calls Try.prog 13 #[.slice A ns.length c] w' fun e w2 => ∃ g, e = .returned (.slice (some ⟨g, 0, none⟩) ns.length ns.length) ∧ Fr No w' w2 ∧ Fr No w w2 ∧ ∀ w3, Fr No w2 w3 → SSl w3 (some ⟨g, 0, none⟩) ns) := fun w' hf => copyS_in HSns.out rfl (by have := HNns.out; omega) w' hf
  have CPzs : Hid (∀ w', Fr No w w' → Calls Try.prog 21 #[.slice A' zs.length c'] w' fun e w2 => ∃ g, e = .returned (.slice (some ⟨g, 0, none⟩) zs.length zs.length) ∧ Fr No w' w2 ∧ Fr No w w2 ∧ ∀ w3, Fr No w2 w3 → ISl w3 (some ⟨g, 0, none⟩) zs) := fun w' hf => copyI_in HSzs.out rfl (by have := HNzs.out; omega) w' hf
  have CPlst : Hid (∀ w', Fr No w w' → Calls Try.prog 21 #[.slice L lst.length lc] w' fun e w2 => ∃ g, e = .returned (.slice (some ⟨g, 0, none⟩) lst.length lst.length) ∧ Fr No w' w2 ∧ Fr No w w2 ∧ ∀ w3, Fr No w2 w3 → ISl w3 (some ⟨g, 0, none⟩) lst) := fun w' hf => copyI_in HSlst.out rfl (by have := HNlst.out; omega) w' hf
  have f0 : Fr No w w := Fr.refl _ _
  clear hcns hczs hclst
  go_wp2_with fail
  refine (CPns.out _ f0).mono ?_
  rintro e wa1 ⟨gans, rfl, s1, f1, hqans⟩
  have HQans := Lib.hid hqans
  clear hqans
  go_wp2_with fail
  refine (CPzs.out _ f1).mono ?_
  rintro e wa2 ⟨gazs, rfl, s2, f2, hqazs⟩
  have HQazs := Lib.hid hqazs
  clear hqazs
  go_wp2_with fail
  refine (CPlst.out _ f2).mono ?_
  rintro e wa3 ⟨galst, rfl, s3, f3, hqalst⟩
  have HQalst := Lib.hid hqalst
  clear hqalst
  go_wp2_with fail
  refine (specFun _ s (some ⟨gans, 0, none⟩) (some ⟨gazs, 0, none⟩) (some ⟨galst, 0, none⟩) ns zs lst ns.length zs.length lst.length (Nat.le_refl _) HBs.out (HQans.out _ (((Fr.refl No wa1).trans s2).trans s3)) (HQazs.out _ ((Fr.refl No wa2).trans s3)) (HQalst.out _ (Fr.refl No wa3)) HNns.out HNzs.out HNlst.out HLns.out).mono ?_
  rintro e v4 ⟨x1, o1, rfl, h1, s4⟩
  have f4 := f3.trans s4
  go_wp2_with fail
  refine (CPns.out _ f4).mono ?_
  rintro e wb5 ⟨gbns, rfl, s5, f5, hqbns⟩
  have HQbns := Lib.hid hqbns
  clear hqbns
  go_wp2_with fail
  refine (CPzs.out _ f5).mono ?_
  rintro e wb6 ⟨gbzs, rfl, s6, f6, hqbzs⟩
  have HQbzs := Lib.hid hqbzs
  clear hqbzs
  go_wp2_with fail
  refine (CPlst.out _ f6).mono ?_
  rintro e wb7 ⟨gblst, rfl, s7, f7, hqblst⟩
  have HQblst := Lib.hid hqblst
  clear hqblst
  go_wp2_with fail
  refine (implFun _ s (some ⟨gbns, 0, none⟩) (some ⟨gbzs, 0, none⟩) (some ⟨gblst, 0, none⟩) ns zs lst ns.length zs.length lst.length HBs.out (HQbns.out _ (((Fr.refl No wb5).trans s6).trans s7)) (HQbzs.out _ ((Fr.refl No wb6).trans s7)) (HQblst.out _ (Fr.refl No wb7)) (by have := HNns.out; omega) (by have := HNzs.out; omega) (by have := HNlst.out; omega) HLns.out).mono ?_
  rintro e v8 ⟨x2, o2, rfl, h2, s8⟩
  have f8 := f7.trans s8
  obtain ⟨rfl, rfl⟩ := h1.one h2
  clear h1 h2
  go_wp2_with fail
  refine (CPns.out _ f8).mono ?_
  rintro e wc9 ⟨gcns, rfl, s9, f9, hqcns⟩
  have HQcns := Lib.hid hqcns
  clear hqcns
  go_wp2_with fail
  refine (sameS_in f9 (HQbns.out _ (((((Fr.refl No wb5).trans s6).trans s7).trans s8).trans s9)) (HQcns.out _ (Fr.refl _ _)) rfl (by have := HNns.out; omega)).mono ?_
  rintro e we10 ⟨rfl, s10, f10⟩
  go_wp2_with fail
  refine (CPzs.out _ f10).mono ?_
  rintro e wc11 ⟨gczs, rfl, s11, f11, hqczs⟩
  have HQczs := Lib.hid hqczs
  clear hqczs
  go_wp2_with fail
  refine (sameI_in f11 (HQbzs.out _ ((((((Fr.refl No wb6).trans s7).trans s8).trans s9).trans s10).trans s11)) (HQczs.out _ (Fr.refl _ _)) rfl (by have := HNzs.out; omega)).mono ?_
  rintro e we12 ⟨rfl, s12, f12⟩
  go_wp2_with fail
  refine (CPlst.out _ f12).mono ?_
  rintro e wc13 ⟨gclst, rfl, s13, f13, hqclst⟩
  have HQclst := Lib.hid hqclst
  clear hqclst
  go_wp2_with fail
  refine (sameI_in f13 (HQblst.out _ (((((((Fr.refl No wb7).trans s8).trans s9).trans s10).trans s11).trans s12).trans s13)) (HQclst.out _ (Fr.refl _ _)) rfl (by have := HNlst.out; omega)).mono ?_
  rintro e we14 ⟨rfl, s14, f14⟩
  go_wp2_with fail
  go_ret
  exact ⟨rfl, f14⟩
end Go.Proofs.Ytmpadnnpmbgdcaa
