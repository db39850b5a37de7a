/- The law Related. -/
import Derived.Test.YtloecimlimoanaaDoorL6s
import Derived.Test.YtloecimlimoanaaDoorRdl
import Derived.Test.YtloecimlimoanaaDoorRlh
namespace Go.Proofs.YtloecimlimoanaaDoor
open Go.RowKit Go.ChangeMaps

set_option maxRecDepth 100000 in
set_option maxHeartbeats 4000000 in
theorem lawRelated (w : World) (HTAB : TZt w) (s : List UInt8) (hs : s.length ≤ maxLen) (A : Option Addr) (n c : Nat) (ns : List (List UInt8)) (hns : StrsIn w A n c ns) (A' : Option Addr) (n' c' : Nat) (rs : List (Int × Int × List Int)) (hrs : RelsIn w A' n' c' rs) (x : Int) (_ : -9223372036854775808 ≤ x ∧ x ≤ 9223372036854775807) (y : Int) (_ : -9223372036854775808 ≤ y ∧ y ≤ 9223372036854775807) :
    Calls Tryd.prog 10 #[S s, .slice A n c, .slice A' n' c', .int .i64 x, .int .i64 y] w fun e w' => Yes w e w' := by
  obtain ⟨rfl, hcns, hmns, hSns, hLns⟩ := hns
  have HSns := Lib.hid hSns
  have HLns := Lib.hid hLns
  have HMns := Lib.hid hmns
  unfold maxLen at hmns
  have hMns : (ns.length : Int) ≤ 9223372036854775807 := by omega
  clear hSns hLns
  have HRS := Lib.hid hrs
  obtain ⟨rfl, hczs, hmzs, hSzs⟩ := hrs
  have HSzs := Lib.hid hSzs
  unfold maxLen at hmzs
  have hMzs : (rs.length : Int) ≤ 9223372036854775807 := by omega
  clear hSzs
  have HT := Lib.hid HTAB
  clear HTAB
  have HBs := Lib.hid hs
  unfold maxLen at hs
  by_cases hbigs : 1048576 < s.length
  · have hbs : decide ((1048576 : Int) < (s.length : Int)) = true := by simp; omega
    go_enter Tryd.func10, Tryd.ntmps10
    go_wp2_with fail
    go_ret
    exact ⟨rfl, Fr.refl _ _⟩
  have hbs : decide ((1048576 : Int) < (s.length : Int)) = false := by simp; omega
  have hns : s.length ≤ 1048576 := by omega
  have HNs := Lib.hid hns
  clear hbigs hns
  go_enter Tryd.func10, Tryd.ntmps10
  go_wp2_with fail
  refine (szS_any w A ns c (1048576) (by omega) (by omega) HSns.out HMns.out HLns.out).mono ?_
  rintro e w0 ⟨left0, rfl, hl10, hl20, hl30, rfl⟩
  by_cases hneg0 : left0 < 0
  · clear hl30
    go_wp2_with fail
    go_ret
    exact ⟨rfl, Fr.refl _ _⟩
  have hnns : ns.length ≤ 1048576 := by have := hl30 (by omega); omega
  have HNns := Lib.hid hnns
  clear hl30 hnns
  go_wp2_with fail
  refine (szRS_any w A' _ c' rs left0 (by omega) (by omega) HRS.out).mono ?_
  rintro e w0 ⟨left1, rfl, hl11, hl21, hl31, f0⟩
  by_cases hneg1 : left1 < 0
  · clear hl31
    have HF := Lib.hid f0
    clear f0
    go_wp2_with fail
    go_ret
    exact ⟨rfl, HF.out⟩
  have hnzs : rs.length + tot rs ≤ 1048576 := by have := hl31 (by omega); omega
  have HNzs := Lib.hid hnzs
  have HRR : Hid (Rels w A' rs) := HSzs.out.rels (fun r hr => by have := tot_le hr; omega)
  clear hl31 hnzs HSzs HRS
  have CPns : Hid (∀ w', Fr No w w' → Calls Tryd.prog 40 #[.slice A ns.length c] w' fun e w2 => ∃ g, e = .returned (.slice (some ⟨g, 0, none⟩) ns.length ns.length) ∧ Fr No w' w2 ∧ Fr No w w2 ∧ ∀ w3, Fr No w2 w3 → SSl w3 (some ⟨g, 0, none⟩) ns) := fun w' hf => copyS_in HSns.out rfl (by have := HNns.out; omega) w' hf
  have CPzs : Hid (∀ w', Fr No w w' → Calls Tryd.prog 41 #[.slice A' rs.length c'] w' fun e w2 => ∃ g, e = .returned (.slice (some ⟨g, 0, none⟩) rs.length rs.length) ∧ Fr No w' w2 ∧ Fr No w w2 ∧ ∀ w3, Fr No w2 w3 → Rels w3 (some ⟨g, 0, none⟩) rs) := fun w' hf => copyRS_in HRR.out rfl (by have := HNzs.out; omega) w' hf
  clear hcns hczs
  go_wp2_with fail
  refine (CPns.out _ f0).mono ?_
  rintro e wa1 ⟨gans, rfl, s1, f1, hqans⟩
  have HQans := Lib.hid hqans
  clear hqans
  go_wp2_with fail
  refine (CPzs.out _ f1).mono ?_
  rintro e wa2 ⟨gazs, rfl, s2, f2, hqazs⟩
  have HQazs := Lib.hid hqazs
  clear hqazs
  go_wp2_with fail
  refine (specRelated_any _ s (some ⟨gans, 0, none⟩) (some ⟨gazs, 0, none⟩) ns.length rs.length ns rs x y HBs.out (Nat.le_refl _) (HQans.out _ ((Fr.refl No wa1).trans s2)) (HQazs.out _ (Fr.refl No wa2)) HNns.out (by have := HNzs.out; omega) HLns.out).mono ?_
  rintro e v3 ⟨s3, b1, rfl, h1⟩
  have f3 := f2.trans s3
  go_wp2_with fail
  refine (CPns.out _ f3).mono ?_
  rintro e wb4 ⟨gbns, rfl, s4, f4, hqbns⟩
  have HQbns := Lib.hid hqbns
  clear hqbns
  go_wp2_with fail
  refine (CPzs.out _ f4).mono ?_
  rintro e wb5 ⟨gbzs, rfl, s5, f5, hqbzs⟩
  have HQbzs := Lib.hid hqbzs
  clear hqbzs
  go_wp2_with fail
  refine (related_any _ s (some ⟨gbns, 0, none⟩) (some ⟨gbzs, 0, none⟩) ns.length rs.length ns rs x y HBs.out (HQbns.out _ ((Fr.refl No wb4).trans s5)) (HQbzs.out _ (Fr.refl No wb5)) HNns.out (by have := HNzs.out; omega) HLns.out (HT.out.fr f5 (fun h => h))).mono ?_
  rintro e v6 ⟨s6, b2, rfl, h2⟩
  have f6 := f5.trans s6
  obtain rfl : b1 = b2 := Bool.eq_iff_iff.2 (h1.trans h2.symm)
  clear h1 h2
  go_wp2_with fail
  refine (CPns.out _ f6).mono ?_
  rintro e wc7 ⟨gcns, rfl, s7, f7, hqcns⟩
  have HQcns := Lib.hid hqcns
  clear hqcns
  go_wp2_with fail
  refine (sameS_in f7 (HQbns.out _ ((((Fr.refl No wb4).trans s5).trans s6).trans s7)) (HQcns.out _ (Fr.refl _ _)) rfl (by have := HNns.out; omega)).mono ?_
  rintro e we8 ⟨rfl, s8, f8⟩
  go_wp2_with fail
  refine (CPzs.out _ f8).mono ?_
  rintro e wc9 ⟨gczs, rfl, s9, f9, hqczs⟩
  have HQczs := Lib.hid hqczs
  clear hqczs
  go_wp2_with fail
  refine (eqRS_any _ (some ⟨gbzs, 0, none⟩) (some ⟨gczs, 0, none⟩) rs rs.length rs.length (HQbzs.out _ (((((Fr.refl No wb5).trans s6).trans s7).trans s8).trans s9)) (HQczs.out _ (Fr.refl _ _)) (by have := HNzs.out; omega)).mono ?_
  rintro e we10 ⟨rfl, s10⟩
  have f10 := f9.trans s10
  go_wp2_with fail
  go_ret
  exact ⟨rfl, f10⟩
end Go.Proofs.YtloecimlimoanaaDoor
