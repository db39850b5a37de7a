/- StepMany of the model, out of l4At's contract. -/
import Derived.Test.YtnjgaenhjdjpfaaGreatDoorS4s
namespace Go.Proofs.YtnjgaenhjdjpfaaGreatDoor
open Go.RowKit Go.ChangeMaps

theorem cn_tm {a : List UInt8} {k : Fo} (h : OkT a k) (hs : treeSize a k ≤ 300) : ∃ k', TmOk (cnT a k) a k' ∧ Et a k' = Et a k := by
  have co := cn_self h.tm h.at_ h.wf (by omega)
  refine ⟨cnK (fvs a k) a k, text_ok ⟨co.tm, co.at_, co.wf⟩ (by rw [co.size]; exact hs), ?_⟩
  show er (nd [] a (cnK (fvs a k) a k)) = _
  rw [← co.node]; exact er_rn _ _ _ (h.nw [])

theorem in300_yes (n : Int) (w : World) (h1 : 0 ≤ n) (h2 : n ≤ 300) : Calls Tryz.prog 20 #[.int .i64 n, .int .i64 0, .int .i64 300] w fun e w' => e = .returned (.bool true) ∧ w = w' := by
  go_enter Tryz.func20, Tryz.ntmps20
  go_wp2_with fail
  go_ret
  exact ⟨rfl, rfl⟩

theorem in300_no (n : Int) (w : World) (h : n < 0 ∨ 300 < n) : Calls Tryz.prog 20 #[.int .i64 n, .int .i64 0, .int .i64 300] w fun e w' => e = .returned (.bool false) ∧ w = w' := by
  rcases h with h | h
  · have d : decide (0 ≤ n) = false := decide_eq_false (by omega)
    have h' : ¬ 0 ≤ n := by omega
    go_enter Tryz.func20, Tryz.ntmps20
    go_wp2_with fail
    go_ret
    exact ⟨rfl, rfl⟩
  · have h' : ¬ n ≤ 300 := by omega
    have h0 : 0 ≤ n := by omega
    go_enter Tryz.func20, Tryz.ntmps20
    go_wp2_with fail
    go_ret
    exact ⟨by simp, rfl⟩

set_option maxRecDepth 100000 in
set_option maxHeartbeats 2000000 in
theorem specStepMany (hAT : At4Said) (w : World) (s : List UInt8) (n : Int) (hs : s.length ≤ maxLen) :
    Calls Tryz.prog 10 #[S s, .int .i64 n] w fun e w' => AnsMany s n w e w' := by
  have HAT := Lib.hid hAT
  clear hAT
  go_enter Tryz.func10, Tryz.ntmps10
  go_wp2_with fail
  refine (specTmValid w s hs).mono ?_
  rintro e w1 ⟨b, rfl, hb, hf⟩
  have HF := Lib.hid hf
  have HB := Lib.hid hb
  have HS := Lib.hid hs
  clear hf hb hs
  cases b with
  | false =>
    go_wp2_with fail
    refine bodyPost_ret (v := .tuple #[S [], .int .i64 0, .bool false]) (by simp [results, Tryz.results10, go_sem]) rfl ?_
    refine ⟨_, _, _, rfl, .inr ⟨.inl fun a k h => ?_, rfl, rfl, rfl⟩, HF.out⟩
    exact absurd (HB.out.2 ⟨a, k, h⟩) (by simp)
  | true =>
    obtain ⟨a, k, hi⟩ := HB.out.1 rfl
    have HI := Lib.hid hi
    clear hi
    by_cases hn : n < 0 ∨ 300 < n
    · have HN : Hid (n < 0 ∨ 300 < n) := hn
      go_wp2_with fail
      refine (in300_no n w1 HN.out).mono ?_
      rintro e w2 ⟨rfl, rfl⟩
      clear hn
      go_wp2_with fail
      refine bodyPost_ret (v := .tuple #[S [], .int .i64 0, .bool false]) (by simp [results, Tryz.results10, go_sem]) rfl ?_
      exact ⟨_, _, _, rfl, .inr ⟨.inr HN.out, rfl, rfl, rfl⟩, HF.out⟩
    · obtain ⟨m, rfl⟩ : ∃ m : Nat, n = m := ⟨n.toNat, by omega⟩
      have hm : m ≤ 300 := by omega
      have HM : Hid (m ≤ 300) := hm
      go_wp2_with fail
      refine (in300_yes (m : Int) w1 (by omega) (by omega)).mono ?_
      rintro e w2 ⟨rfl, rfl⟩
      clear hn
      go_wp2_with fail
      go_loopw [0, 7] (fun u v wr => ∃ (i : Nat) (t : List UInt8) (b : List UInt8) (j : Fo), i ≤ m ∧ u = S t ∧ v = .int .i64 (i : Int) ∧ Fr No w wr ∧ TmOk t b j ∧ t.length ≤ maxLen ∧ ((i = 0 ∧ t = s) ∨ (i ≠ 0 ∧ CnOf (Et b j) t)) ∧ (itT m (Et a k)).1 = (itT (m - i) (Et b j)).1 ∧ (itT m (Et a k)).2 = i + (itT (m - i) (Et b j)).2) (fun _ v _ => m - (intOf v).toNat)
      case atStart =>
        exact ⟨0, s, a, k, Nat.zero_le _, rfl, rfl, HF.out, HI.out, HS.out, .inl ⟨rfl, rfl⟩, rfl, (Nat.zero_add _).symm⟩
      case round =>
        obtain ⟨i, t, b, j, hi, rfl, rfl, hfr, htm, htl, hor, e1, e2⟩ := hrel
        have DONE : Hid ((itT (m - i) (Et b j)) = (Et b j, 0) → ∀ w3, Fr No wr w3 → AnsMany s (m : Int) w (.returned (.tuple #[S t, .int .i64 (i : Int), .bool true])) w3) := fun h0 w3 hf3 => by
          rw [h0] at e1 e2
          simp only [Nat.add_zero] at e1 e2
          refine ⟨_, _, _, rfl, .inl ⟨a, k, m, HI.out, rfl, HM.out, by rw [e2], rfl, ?_⟩, hfr.trans hf3⟩
          rw [e1, e2]
          rcases hor with ⟨h1, h2⟩ | ⟨h1, h2⟩
          · exact .inl ⟨h1, h2⟩
          · exact .inr ⟨h1, h2⟩
        by_cases hlt : i < m
        · have i1 : (i : Int) < (m : Int) := by omega
          have i2 : (0 : Int) ≤ (i : Int) := by omega
          have i3 : IntKind.i64.wrap ((i : Int) + 1) = (i : Int) + 1 := IntWalk.i64_in _ (by omega)
          have ST := Lib.hid (specStep HAT.out wr t htl)
          have HT := Lib.hid htm
          have HFR := Lib.hid hfr
          have HE : Hid ((itT m (Et a k)).1 = (itT (m - i) (Et b j)).1 ∧ (itT m (Et a k)).2 = i + (itT (m - i) (Et b j)).2) := ⟨e1, e2⟩
          obtain ⟨g, hg⟩ : ∃ g, m - i = g + 1 := ⟨m - i - 1, by omega⟩
          have HG := Lib.hid hg
          clear hfr htm htl hor e1 e2 hg
          go_wp2_with fail
          refine ST.out.mono ?_
          rintro e w3 ⟨r, bb, rfl, hins, hf3⟩
          have ho := HT.out.2.okT
          have hz := HT.out.2.2.2
          rcases hins with ⟨a', k', m0, q1, q2, q3, q4, q5, rfl, rfl⟩ | ⟨q1, rfl, rfl⟩
          · obtain ⟨rfl, rfl⟩ := HT.out.unique q1
            obtain rfl : m0 = 0 := by omega
            obtain ⟨_, s2, s3⟩ := et_step ho hz q3
            have hy : 0 < cR (Et b j) ∧ (stF (Et b j) 0).size ≤ 300 := by
              rw [et_cR ho hz, s3]
              exact ⟨q3, q5⟩
            have hit := itT_yes (n := g) hy
            obtain ⟨k'', t1, t2⟩ := cn_tm q4 q5
            have REL : Hid (∃ (i' : Nat) (t' : List UInt8) (b' : List UInt8) (j' : Fo), i' ≤ m ∧ S (cnT (atA j 0) (atK j 0)) = S t' ∧ Value.int .i64 ((i : Int) + 1) = .int .i64 (i' : Int) ∧ Fr No w w3 ∧ TmOk t' b' j' ∧ t'.length ≤ maxLen ∧ ((i' = 0 ∧ t' = s) ∨ (i' ≠ 0 ∧ CnOf (Et b' j') t')) ∧ (itT m (Et a k)).1 = (itT (m - i') (Et b' j')).1 ∧ (itT m (Et a k)).2 = i' + (itT (m - i') (Et b' j')).2) := by
              refine ⟨i + 1, _, atA j 0, k'', hlt, rfl, rfl, HFR.out.trans hf3, t1, ?_, .inr ⟨by omega, ⟨_, _, q4, q5, t2.symm, rfl⟩⟩, ?_, ?_⟩
              · have := t1.1; unfold maxLen; omega
              · rw [HE.out.1, HG.out, hit, t2, s2, show m - (i + 1) = g by have := HG.out; omega]
              · rw [HE.out.2, HG.out, hit, t2, s2, show m - (i + 1) = g by have := HG.out; omega]
                simp only; omega
            generalize cnT (atA j 0) (atK j 0) = t' at REL ⊢
            clear ho hz q1 q2 q3 q4 q5 s2 s3 hy hit t1 t2 hf3 ST
            go_wp2_with fail
            go_roundw
            case rel => exact REL.out
            case measure => simp [intOf]; omega
          · have hno2 : ¬ (0 < cR (Et b j) ∧ (stF (Et b j) 0).size ≤ 300) := by
              rintro ⟨h1, h2⟩
              rw [et_cR ho hz] at h1
              obtain ⟨_, _, s3⟩ := et_step ho hz h1
              rcases q1 with q1 | ⟨a', k', q1, q2⟩
              · exact q1 b j HT.out
              · obtain ⟨rfl, rfl⟩ := HT.out.unique q1
                have := q2 0 rfl h1
                omega
            have FIN := Lib.hid (DONE.out (by rw [HG.out]; exact itT_no hno2) w3 hf3)
            clear ho hz q1 hno2 hf3 ST
            go_wp2_with fail
            refine bodyPost_ret (v := .tuple #[S t, .int .i64 (i : Int), .bool true]) (by simp [results, Tryz.results10, go_sem]) rfl ?_
            exact FIN.out
        · have hin : i = m := by omega
          subst hin
          have FIN := Lib.hid (DONE.out (by rw [Nat.sub_self]; rfl) wr (Fr.refl _ _))
          clear hfr htm htl hor e1 e2 hlt
          go_wp2_with fail
          refine bodyPost_ret (v := .tuple #[S t, .int .i64 (i : Int), .bool true]) (by simp [results, Tryz.results10, go_sem]) rfl ?_
          exact FIN.out
end Go.Proofs.YtnjgaenhjdjpfaaGreatDoor
