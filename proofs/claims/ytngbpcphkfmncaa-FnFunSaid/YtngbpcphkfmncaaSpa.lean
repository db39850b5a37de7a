/- SetAt of the model. -/
import Derived.Test.YtngbpcphkfmncaaSpr
namespace Go.Proofs.Ytngbpcphkfmncaa
open Go.RowKit Go.ChangeMaps

set_option maxRecDepth 100000 in
set_option maxHeartbeats 1000000 in
theorem l5At_any (w : World) (k b a : Nat) (hb : 1 ≤ b) (hb2 : b ≤ 4096) (hk : k ≤ 4096) (ha : a ≤ 4096) :
    Calls Try.prog 58 #[.int .i64 k, .int .i64 b, .int .i64 a] w fun e w' => e = .returned (.int .i64 ((k / b ^ a % b : Nat) : Int)) ∧ w = w' := by
  have hbI : (1 : Int) ≤ (b : Int) := by omega
  have hbI2 : (b : Int) ≤ 4096 := by omega
  have haI : (a : Int) ≤ 4096 := by omega
  have hbn : ¬ b = 0 := by omega
  go_enter Try.func58, Try.ntmps58
  go_wp2_with fail
  go_loop [0, 7] (fun v u => ∃ j : Nat, j ≤ a ∧ u = .int .i64 j ∧ v = .int .i64 ((k / b ^ j : Nat) : Int)) (fun _ u => a - (intOf u).toNat)
  case atStart => exact ⟨0, Nat.zero_le _, rfl, by simp⟩
  case round =>
    obtain ⟨j, hj, rfl, rfl⟩ := hrel
    have hp : k / b ^ j ≤ 4096 := Nat.le_trans (Nat.div_le_self _ _) hk
    have HD : Hid (((k / b ^ j : Nat) : Int) / (b : Int) = ((k / b ^ (j + 1) : Nat) : Int)) := by show _ = _; rw [← div_step]; simp
    have hd1 : k / b ^ (j + 1) ≤ 4096 := Nat.le_trans (Nat.div_le_self _ _) hk
    have hdI : ((k / b ^ j : Nat) : Int) / (b : Int) ≤ 4096 := by rw [HD.out]; omega
    have hd0 : 0 ≤ ((k / b ^ j : Nat) : Int) / (b : Int) := by rw [HD.out]; exact Int.natCast_nonneg _
    have HM : Hid (((k / b ^ j : Nat) : Int) % (b : Int) = ((k / b ^ j % b : Nat) : Int)) := by show _ = _; simp
    have hm1 : k / b ^ j % b < b := Nat.mod_lt _ (by omega)
    have hmI : ((k / b ^ j : Nat) : Int) % (b : Int) ≤ 4096 := by rw [HM.out]; omega
    have hm0 : 0 ≤ ((k / b ^ j : Nat) : Int) % (b : Int) := by rw [HM.out]; exact Int.natCast_nonneg _
    by_cases hlt : j < a
    · clear hm1 hmI hm0 HM
      generalize hp1 : k / b ^ (j + 1) = p1 at *
      have HP1 := Lib.hid hp1
      clear hp1 hd1
      generalize k / b ^ j = p0 at *
      go_wp2_with fail
      go_round
      case rel => exact ⟨j + 1, by omega, by go_num, by rw [HD.out, HP1.out]⟩
      case measure => simp [intOf]; omega
    · have hjl : j = a := by omega
      subst hjl
      clear hdI hd0 hd1 HD hm1
      have HFIN : Hid (((k / b ^ j : Nat) : Int) % (b : Int) = (k : Int) / (b : Int) ^ j % (b : Int)) := by show _ = _; simp
      clear HM
      generalize k / b ^ j = p0 at *
      go_wp2_with fail
      go_ret
      exact ⟨congrArg (fun z => Ending.returned (Value.int .i64 z)) HFIN.out, rfl⟩

set_option maxRecDepth 100000 in
set_option maxHeartbeats 1000000 in
theorem specAt (w : World) (s : List UInt8) (A A' : Option Addr) (ns : List (List UInt8)) (zs : List Int) (c c' : Nat) (k q : Int) (hc : ns.length ≤ c) (hss : s.length ≤ maxLen) (hN : SSl w A ns) (hZ : ISl w A' zs) (hl : ns.length ≤ 1048576) (hl' : zs.length ≤ 1048576) (hs : ∀ x ∈ ns, x.length ≤ maxLen) :
    Calls Try.prog 26 #[S s, .slice A ns.length c, .slice A' zs.length c', .int .i64 k, .int .i64 q] w fun e w' => AnsAt s ns zs k q w e w' := by
  have CALL := Lib.hid (el_any w s true A A' ns zs c c' k hc hss hN hZ hl hl' hs)
  have HN := Lib.hid hN
  have HZ := Lib.hid hZ
  clear hN hZ hs
  go_enter Try.func26, Try.ntmps26
  go_wp2_with fail
  refine CALL.out.mono ?_
  rintro e w1 ⟨hf, ⟨l, r, ms, d, X, xc, hel, rfl, hsl⟩ | ⟨a0, X, m, xc, hno, rfl⟩⟩
  · obtain ⟨g, o, A1, c1, A2, c2, rfl, hparts⟩ := parts_at hsl
    have HP := Lib.hid hparts
    obtain ⟨a, b, hsf⟩ := hel.sf
    have HSF := Lib.hid hsf
    have HEL := Lib.hid hel
    have hfa : Fr No w1 (w1.alloc (.cells #[S [], .slice (some ⟨g, o, none⟩) 3 xc] 68)) := (Fr.refl _ _).alloc _
    have HB : Hid (∀ w', Fr No (w1.alloc (.cells #[S [], .slice (some ⟨g, o, none⟩) 3 xc] 68)) w' → w'.cell? ⟨w1.heap.size, 1, none⟩ = some (.slice (some ⟨g, o, none⟩) 3 xc)) := fun w' hf => ((Blk.fr (Blk.new w1 68 #[S [], .slice (some ⟨g, o, none⟩) 3 xc]) hf (fun h => h)).cell 1).trans rfl
    have HFW := Lib.hid hfa
    have HF0 := Lib.hid hf
    clear hsl hparts hel hsf hfa hf
    have CL : Hid (∀ w', Fr No w1 w' → Calls Try.prog 49 #[.agg #[S l.atom, .slice A1 l.kids.len c1], .slice A ns.length c, .slice A' zs.length c'] w' fun e w2 => e = .returned (.int .i64 a) ∧ Fr No w' w2) := by
      intro w' hf
      obtain ⟨_, _, _, _, _, sl1, _⟩ := HP.out w' hf
      have := ct_any ns zs ms HSF.out.2.1 l HSF.out.1.2.1.1 w' _ A1 c1 A A' c c' (fun b hb => hb) sl1 (HN.out.keep (HF0.out.trans hf) (fun _ h => h.elim)) (HZ.out.keep (HF0.out.trans hf) (fun _ h => h.elim))
      rw [cntI_some HSF.out.2.2.1] at this
      exact this
    have CR : Hid (∀ w', Fr No w1 w' → Calls Try.prog 49 #[.agg #[S r.atom, .slice A2 r.kids.len c2], .slice A ns.length c, .slice A' zs.length c'] w' fun e w2 => e = .returned (.int .i64 b) ∧ Fr No w' w2) := by
      intro w' hf
      obtain ⟨_, _, _, _, _, _, sl2⟩ := HP.out w' hf
      have := ct_any ns zs ms HSF.out.2.1 r HSF.out.1.2.1.2 w' _ A2 c2 A A' c c' (fun b hb => hb) sl2 (HN.out.keep (HF0.out.trans hf) (fun _ h => h.elim)) (HZ.out.keep (HF0.out.trans hf) (fun _ h => h.elim))
      rw [cntI_some HSF.out.2.2.2.1] at this
      exact this
    have hbnd := HSF.out.2.2.2.2.2
    have HBND := Lib.hid hbnd
    have ha1 : (1 : Int) ≤ (a : Int) := by have := hbnd.2.1; omega
    have ha2 : (a : Int) ≤ 4096 := by have := hbnd.2.2.1; omega
    have IN : Hid (∀ w', Calls Try.prog 47 #[.int .i64 q, .int .i64 0, .int .i64 ((a : Int) - 1)] w' fun e w2 => e = .returned (.bool (decide (0 ≤ q ∧ q < (a : Int)))) ∧ w' = w2) := fun w' => by
      have h := in_any w' q 0 ((a : Int) - 1)
      have e : decide (0 ≤ q ∧ q ≤ (a : Int) - 1) = decide (0 ≤ q ∧ q < (a : Int)) := by
        apply decide_eq_decide.2
        omega
      rw [e] at h
      exact h
    clear hbnd
    obtain ⟨y2, y3, y4, y5, y6, _, _⟩ := HP.out _ HFW.out
    have x1 := HB.out _ (Fr.refl _ _)
    go_wp2_with fail
    generalize w1.alloc (.cells #[S [], .slice (some ⟨g, o, none⟩) 3 xc] 68) = W at *
    refine (CL.out W HFW.out).mono ?_
    rintro e w2 ⟨rfl, hf2⟩
    have HF2 := Lib.hid hf2
    clear hf2 y2 y3 y4 y5 y6 x1
    obtain ⟨y2, y3, y4, y5, y6, _, _⟩ := HP.out w2 (HFW.out.trans HF2.out)
    have x1 := HB.out w2 HF2.out
    go_wp2_with fail
    refine (IN.out _).mono ?_
    rintro e w3 ⟨rfl, rfl⟩
    by_cases hq : 0 ≤ q ∧ q < (a : Int)
    · rw [decide_eq_true hq]
      obtain ⟨kn, rfl⟩ : ∃ kn : Nat, k = (kn : Int) := ⟨k.toNat, by have := HEL.out.2.2.2.1; omega⟩
      obtain ⟨qn, rfl⟩ : ∃ qn : Nat, q = (qn : Int) := ⟨q.toNat, by omega⟩
      have HQ := Lib.hid hq
      clear hq
      go_wp2_with fail
      refine (CR.out w2 (HFW.out.trans HF2.out)).mono ?_
      rintro e w3 ⟨rfl, hf3⟩
      have HF3 := Lib.hid hf3
      clear hf3
      have hbn := HBND.out
      go_wp2_with fail
      refine (l5At_any w3 kn b qn hbn.2.2.2.1 hbn.2.2.2.2.1 (by have := HEL.out.2.2.2.2; have := hbn.2.2.2.2.2; omega) (by have := HQ.out.2; omega)).mono ?_
      rintro e w4 ⟨rfl, rfl⟩
      generalize hx : kn / b ^ qn % b = x0 at *
      have HX := Lib.hid hx
      clear hx hbn
      go_wp2_with fail
      go_ret2
      exact ⟨_, _, rfl, .inl ⟨l, r, ms, a, b, d, kn, qn, HSF.out, rfl, rfl, by have := HEL.out.2.2.2.2; omega, by have := HQ.out.2; omega, by rw [HX.out], rfl⟩, ((HF0.out.trans HFW.out).trans HF2.out).trans HF3.out⟩
    · rw [decide_eq_false hq]
      have HNO : Hid (∀ l r ms a b d, SfIs s true ns zs l r ms a b d → ¬ ((0 ≤ k ∧ k < (d : Int)) ∧ 0 ≤ q ∧ q < (a : Int))) := fun l r ms a' b' d' h => by rw [(h.unique HSF.out).1]; exact fun h => hq h.2
      clear hq
      go_wp2_with fail
      go_ret2
      exact ⟨_, _, rfl, .inr ⟨HNO.out, rfl, rfl⟩, (HF0.out.trans HFW.out).trans HF2.out⟩
  · have HNO : Hid (∀ l r ms a b d, SfIs s true ns zs l r ms a b d → ¬ ((0 ≤ k ∧ k < (d : Int)) ∧ 0 ≤ q ∧ q < (a : Int))) := fun l r ms a b d h h1 => hno _ _ _ _ (h.el h1.1.1 h1.1.2)
    have HFA := Lib.hid (hf.alloc (.cells #[S a0, .slice X m xc] 68))
    clear hno
    go_wp2_with fail
    go_ret2
    exact ⟨_, _, rfl, .inr ⟨HNO.out, rfl, rfl⟩, HFA.out⟩
end Go.Proofs.Ytngbpcphkfmncaa
