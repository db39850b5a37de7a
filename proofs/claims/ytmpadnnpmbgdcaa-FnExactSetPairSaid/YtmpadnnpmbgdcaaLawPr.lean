/- The laws SetPair and SetAt. -/
import Derived.Test.YtmpadnnpmbgdcaaSpa
namespace Go.Proofs.Ytmpadnnpmbgdcaa
open Go.RowKit Go.ChangeMaps

set_option maxRecDepth 100000 in
set_option maxHeartbeats 1000000 in
theorem lawPair (w : World) (s : List UInt8) (hs : s.length ≤ maxLen) (A : Option Addr) (n c : Nat) (ns : List (List UInt8)) (hns : StrsIn w A n c ns) (A' : Option Addr) (n' c' : Nat) (zs : List Int) (hzs : IntsIn w A' n' c' zs) (k : Int) (hk : -9223372036854775808 ≤ k ∧ k ≤ 9223372036854775807) :
    Calls Try.prog 8 #[S s, .slice A n c, .slice A' n' c', .int .i64 k] w fun e w' => Yes w e w' := by
  obtain ⟨rfl, hcns, hmns, hSns, hLns⟩ := hns
  have HSns := Lib.hid hSns
  have HLns := Lib.hid hLns
  have HMns := Lib.hid hmns
  unfold maxLen at hmns
  have hMns : (ns.length : Int) ≤ 9223372036854775807 := by omega
  clear hSns hLns
  obtain ⟨rfl, hczs, hmzs, hSzs, hLzs⟩ := hzs
  have HSzs := Lib.hid hSzs
  have HLzs := Lib.hid hLzs
  have HMzs := Lib.hid hmzs
  unfold maxLen at hmzs
  have hMzs : (zs.length : Int) ≤ 9223372036854775807 := by omega
  clear hSzs hLzs
  have HBs := Lib.hid hs
  unfold maxLen at hs
  have HIk := Lib.hid hk
  obtain ⟨hlk, huk⟩ := hk
  by_cases hbigs : 1048576 < s.length
  · have hbs : decide ((1048576 : Int) < (s.length : Int)) = true := by simp; omega
    go_enter Try.func8, Try.ntmps8
    go_wp2_with fail
    go_ret
    exact ⟨rfl, Fr.refl _ _⟩
  have hbs : decide ((1048576 : Int) < (s.length : Int)) = false := by simp; omega
  have hns : s.length ≤ 1048576 := by omega
  have HNs := Lib.hid hns
  clear hbigs hns
  by_cases hbigzs : 1048576 < zs.length
  · have hbzs : decide ((1048576 : Int) < (zs.length : Int)) = true := by simp; omega
    go_enter Try.func8, Try.ntmps8
    go_wp2_with fail
    go_ret
    exact ⟨rfl, Fr.refl _ _⟩
  have hbzs : decide ((1048576 : Int) < (zs.length : Int)) = false := by simp; omega
  have hnzs : zs.length ≤ 1048576 := by omega
  have HNzs := Lib.hid hnzs
  clear hbigzs hnzs
  go_enter Try.func8, Try.ntmps8
  go_wp2_with fail
  refine (szS_any w A ns c (1048576) (by omega) (by omega) HSns.out HMns.out HLns.out).mono ?_
  rintro e w0 ⟨left0, rfl, hl10, hl20, hl30, rfl⟩
  by_cases hneg0 : left0 < 0
  · clear hl30
    go_wp2_with fail
    go_ret
    exact ⟨rfl, Fr.refl _ _⟩
  have hnns : ns.length ≤ 1048576 := by have := hl30 (by omega); omega
  have HNns := Lib.hid hnns
  clear hl30 hnns
  have CPns : Hid (∀ w', Fr No w w' → Calls Try.prog 13 #[.slice A ns.length c] w' fun e w2 => ∃ g, e = .returned (.slice (some ⟨g, 0, none⟩) ns.length ns.length) ∧ Fr No w' w2 ∧ Fr No w w2 ∧ ∀ w3, Fr No w2 w3 → SSl w3 (some ⟨g, 0, none⟩) ns) := fun w' hf => copyS_in HSns.out rfl (by have := HNns.out; omega) w' hf
  have CPzs : Hid (∀ w', Fr No w w' → Calls Try.prog 21 #[.slice A' zs.length c'] w' fun e w2 => ∃ g, e = .returned (.slice (some ⟨g, 0, none⟩) zs.length zs.length) ∧ Fr No w' w2 ∧ Fr No w w2 ∧ ∀ w3, Fr No w2 w3 → ISl w3 (some ⟨g, 0, none⟩) zs) := fun w' hf => copyI_in HSzs.out rfl (by have := HNzs.out; omega) w' hf
  have f0 : Fr No w w := Fr.refl _ _
  clear hcns hczs
  go_wp2_with fail
  refine (CPns.out _ f0).mono ?_
  rintro e wa1 ⟨gans, rfl, s1, f1, hqans⟩
  have HQans := Lib.hid hqans
  clear hqans
  go_wp2_with fail
  refine (CPzs.out _ f1).mono ?_
  rintro e wa2 ⟨gazs, rfl, s2, f2, hqazs⟩
  have HQazs := Lib.hid hqazs
  clear hqazs
  go_wp2_with fail
  refine (specPair _ s (some ⟨gans, 0, none⟩) (some ⟨gazs, 0, none⟩) ns zs ns.length zs.length k (Nat.le_refl _) HBs.out (HQans.out _ ((Fr.refl No wa1).trans s2)) (HQazs.out _ (Fr.refl No wa2)) HNns.out HNzs.out HLns.out).mono ?_
  rintro e v3 ⟨x1, y1, o1, rfl, h1, s3⟩
  have f3 := f2.trans s3
  go_wp2_with fail
  refine (CPns.out _ f3).mono ?_
  rintro e wb4 ⟨gbns, rfl, s4, f4, hqbns⟩
  have HQbns := Lib.hid hqbns
  clear hqbns
  go_wp2_with fail
  refine (CPzs.out _ f4).mono ?_
  rintro e wb5 ⟨gbzs, rfl, s5, f5, hqbzs⟩
  have HQbzs := Lib.hid hqbzs
  clear hqbzs
  go_wp2_with fail
  refine (implPair _ s (some ⟨gbns, 0, none⟩) (some ⟨gbzs, 0, none⟩) ns zs ns.length zs.length k HBs.out (HQbns.out _ ((Fr.refl No wb4).trans s5)) (HQbzs.out _ (Fr.refl No wb5)) (by have := HNns.out; omega) (by have := HNzs.out; omega) HLns.out).mono ?_
  rintro e v6 ⟨x2, y2, o2, rfl, h2, s6⟩
  have f6 := f5.trans s6
  obtain ⟨rfl, rfl, rfl⟩ := h1.one h2
  clear h1 h2
  go_wp2_with fail
  refine (CPns.out _ f6).mono ?_
  rintro e wc7 ⟨gcns, rfl, s7, f7, hqcns⟩
  have HQcns := Lib.hid hqcns
  clear hqcns
  go_wp2_with fail
  refine (sameS_in f7 (HQbns.out _ ((((Fr.refl No wb4).trans s5).trans s6).trans s7)) (HQcns.out _ (Fr.refl _ _)) rfl (by have := HNns.out; omega)).mono ?_
  rintro e we8 ⟨rfl, s8, f8⟩
  go_wp2_with fail
  refine (CPzs.out _ f8).mono ?_
  rintro e wc9 ⟨gczs, rfl, s9, f9, hqczs⟩
  have HQczs := Lib.hid hqczs
  clear hqczs
  go_wp2_with fail
  refine (sameI_in f9 (HQbzs.out _ (((((Fr.refl No wb5).trans s6).trans s7).trans s8).trans s9)) (HQczs.out _ (Fr.refl _ _)) rfl (by have := HNzs.out; omega)).mono ?_
  rintro e we10 ⟨rfl, s10, f10⟩
  go_wp2_with fail
  go_ret
  exact ⟨rfl, f10⟩

set_option maxRecDepth 100000 in
set_option maxHeartbeats 1000000 in
theorem lawAt (w : World) (s : List UInt8) (hs : s.length ≤ maxLen) (A : Option Addr) (n c : Nat) (ns : List (List UInt8)) (hns : StrsIn w A n c ns) (A' : Option Addr) (n' c' : Nat) (zs : List Int) (hzs : IntsIn w A' n' c' zs) (k : Int) (hk : -9223372036854775808 ≤ k ∧ k ≤ 9223372036854775807) (q : Int) (hq : -9223372036854775808 ≤ q ∧ q ≤ 9223372036854775807) :
    Calls Try.prog 9 #[S s, .slice A n c, .slice A' n' c', .int .i64 k, .int .i64 q] w fun e w' => Yes w e w' := by
  obtain ⟨rfl, hcns, hmns, hSns, hLns⟩ := hns
  have HSns := Lib.hid hSns
  have HLns := Lib.hid hLns
  have HMns := Lib.hid hmns
  unfold maxLen at hmns
  have hMns : (ns.length : Int) ≤ 9223372036854775807 := by omega
  clear hSns hLns
  obtain ⟨rfl, hczs, hmzs, hSzs, hLzs⟩ := hzs
  have HSzs := Lib.hid hSzs
  have HLzs := Lib.hid hLzs
  have HMzs := Lib.hid hmzs
  unfold maxLen at hmzs
  have hMzs : (zs.length : Int) ≤ 9223372036854775807 := by omega
  clear hSzs hLzs
  have HBs := Lib.hid hs
  unfold maxLen at hs
  have HIk := Lib.hid hk
  obtain ⟨hlk, huk⟩ := hk
  have HIq := Lib.hid hq
  obtain ⟨hlq, huq⟩ := hq
  by_cases hbigs : 1048576 < s.length
  · have hbs : decide ((1048576 : Int) < (s.length : Int)) = true := by simp; omega
    go_enter Try.func9, Try.ntmps9
    go_wp2_with fail
    go_ret
    exact ⟨rfl, Fr.refl _ _⟩
  have hbs : decide ((1048576 : Int) < (s.length : Int)) = false := by simp; omega
  have hns : s.length ≤ 1048576 := by omega
  have HNs := Lib.hid hns
  clear hbigs hns
  by_cases hbigzs : 1048576 < zs.length
  · have hbzs : decide ((1048576 : Int) < (zs.length : Int)) = true := by simp; omega
    go_enter Try.func9, Try.ntmps9
    go_wp2_with fail
    go_ret
    exact ⟨rfl, Fr.refl _ _⟩
  have hbzs : decide ((1048576 : Int) < (zs.length : Int)) = false := by simp; omega
  have hnzs : zs.length ≤ 1048576 := by omega
  have HNzs := Lib.hid hnzs
  clear hbigzs hnzs
  go_enter Try.func9, Try.ntmps9
  go_wp2_with fail
  refine (szS_any w A ns c (1048576) (by omega) (by omega) HSns.out HMns.out HLns.out).mono ?_
  rintro e w0 ⟨left0, rfl, hl10, hl20, hl30, rfl⟩
  by_cases hneg0 : left0 < 0
  · clear hl30
    go_wp2_with fail
    go_ret
    exact ⟨rfl, Fr.refl _ _⟩
  have hnns : ns.length ≤ 1048576 := by have := hl30 (by omega); omega
  have HNns := Lib.hid hnns
  clear hl30 hnns
  have CPns : Hid (∀ w', Fr No w w' → Calls Try.prog 13 #[.slice A ns.length c] w' fun e w2 => ∃ g, e = .returned (.slice (some ⟨g, 0, none⟩) ns.length ns.length) ∧ Fr No w' w2 ∧ Fr No w w2 ∧ ∀ w3, Fr No w2 w3 → SSl w3 (some ⟨g, 0, none⟩) ns) := fun w' hf => copyS_in HSns.out rfl (by have := HNns.out; omega) w' hf
  have CPzs : Hid (∀ w', Fr No w w' → Calls Try.prog 21 #[.slice A' zs.length c'] w' fun e w2 => ∃ g, e = .returned (.slice (some ⟨g, 0, none⟩) zs.length zs.length) ∧ Fr No w' w2 ∧ Fr No w w2 ∧ ∀ w3, Fr No w2 w3 → ISl w3 (some ⟨g, 0, none⟩) zs) := fun w' hf => copyI_in HSzs.out rfl (by have := HNzs.out; omega) w' hf
  have f0 : Fr No w w := Fr.refl _ _
  clear hcns hczs
  go_wp2_with fail
  refine (CPns.out _ f0).mono ?_
  rintro e wa1 ⟨gans, rfl, s1, f1, hqans⟩
  have HQans := Lib.hid hqans
  clear hqans
  go_wp2_with fail
  refine (CPzs.out _ f1).mono ?_
  rintro e wa2 ⟨gazs, rfl, s2, f2, hqazs⟩
  have HQazs := Lib.hid hqazs
  clear hqazs
  go_wp2_with fail
  refine (specAt _ s (some ⟨gans, 0, none⟩) (some ⟨gazs, 0, none⟩) ns zs ns.length zs.length k q (Nat.le_refl _) HBs.out (HQans.out _ ((Fr.refl No wa1).trans s2)) (HQazs.out _ (Fr.refl No wa2)) HNns.out HNzs.out HLns.out).mono ?_
  rintro e v3 ⟨x1, o1, rfl, h1, s3⟩
  have f3 := f2.trans s3
  go_wp2_with fail
  refine (CPns.out _ f3).mono ?_
  rintro e wb4 ⟨gbns, rfl, s4, f4, hqbns⟩
  have HQbns := Lib.hid hqbns
  clear hqbns
  go_wp2_with fail
  refine (CPzs.out _ f4).mono ?_
  rintro e wb5 ⟨gbzs, rfl, s5, f5, hqbzs⟩
  have HQbzs := Lib.hid hqbzs
  clear hqbzs
  go_wp2_with fail
  refine (implAt _ s (some ⟨gbns, 0, none⟩) (some ⟨gbzs, 0, none⟩) ns zs ns.length zs.length k q HBs.out (HQbns.out _ ((Fr.refl No wb4).trans s5)) (HQbzs.out _ (Fr.refl No wb5)) (by have := HNns.out; omega) (by have := HNzs.out; omega) HLns.out).mono ?_
  rintro e v6 ⟨x2, o2, rfl, h2, s6⟩
  have f6 := f5.trans s6
  obtain ⟨rfl, rfl⟩ := h1.one h2
  clear h1 h2
  go_wp2_with fail
  refine (CPns.out _ f6).mono ?_
  rintro e wc7 ⟨gcns, rfl, s7, f7, hqcns⟩
  have HQcns := Lib.hid hqcns
  clear hqcns
  go_wp2_with fail
  refine (sameS_in f7 (HQbns.out _ ((((Fr.refl No wb4).trans s5).trans s6).trans s7)) (HQcns.out _ (Fr.refl _ _)) rfl (by have := HNns.out; omega)).mono ?_
  rintro e we8 ⟨rfl, s8, f8⟩
  go_wp2_with fail
  refine (CPzs.out _ f8).mono ?_
  rintro e wc9 ⟨gczs, rfl, s9, f9, hqczs⟩
  have HQczs := Lib.hid hqczs
  clear hqczs
  go_wp2_with fail
  refine (sameI_in f9 (HQbzs.out _ (((((Fr.refl No wb5).trans s6).trans s7).trans s8).trans s9)) (HQczs.out _ (Fr.refl _ _)) rfl (by have := HNzs.out; omega)).mono ?_
  rintro e we10 ⟨rfl, s10, f10⟩
  go_wp2_with fail
  go_ret
  exact ⟨rfl, f10⟩
end Go.Proofs.Ytmpadnnpmbgdcaa
