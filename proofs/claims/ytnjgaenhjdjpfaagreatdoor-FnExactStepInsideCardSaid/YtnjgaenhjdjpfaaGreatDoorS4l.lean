/- NormalOf of the model; the laws of steps, out of l4At's contract. -/
import Derived.Test.YtnjgaenhjdjpfaaGreatDoorS4m
namespace Go.Proofs.YtnjgaenhjdjpfaaGreatDoor
open Go.RowKit Go.ChangeMaps

theorem itT_zero : ∀ (n : Nat) (t : Ts), (itT n t).2 = 0 → (itT n t).1 = t
  | 0, _, _ => rfl
  | n + 1, t, h => by
    simp only [itT] at h ⊢
    split at h
    · simp only at h; omega
    · next hq => rw [if_neg hq]

theorem cnOf_tm {t : Ts} {r : List UInt8} (h : CnOf t r) : ∃ a k, TmOk r a k ∧ Et a k = t := by
  obtain ⟨a, k, h1, h2, h3, rfl⟩ := h
  obtain ⟨k', g1, g2⟩ := cn_tm h1 h2
  exact ⟨a, k', g1, g2.trans h3⟩

theorem ManyIs.one {s r r' : List UInt8} {n c c' : Int} {b b' : Bool} (h : ManyIs s n r c b) (h' : ManyIs s n r' c' b') : r' = r ∧ c' = c ∧ b' = b := by
  rcases h with ⟨a, k, m, h1, h2, h3, h4, rfl, h5⟩ | ⟨h1, rfl, rfl, rfl⟩ <;> rcases h' with ⟨a', k', m', g1, g2, g3, g4, rfl, g5⟩ | ⟨g1, rfl, rfl, rfl⟩
  · obtain ⟨rfl, rfl⟩ := h1.unique g1
    obtain rfl : m = m' := by omega
    refine ⟨?_, g4.trans h4.symm, rfl⟩
    rcases h5 with ⟨x1, x2⟩ | ⟨x1, x2⟩ <;> rcases g5 with ⟨y1, y2⟩ | ⟨y1, y2⟩
    · rw [x2, y2]
    · exact absurd x1 y1
    · exact absurd y1 x1
    · exact y2.unique x2
  · rcases g1 with g1 | g1 | g1
    · exact absurd h1 (g1 a k)
    · omega
    · omega
  · rcases h1 with h1 | h1 | h1
    · exact absurd g1 (h1 a' k')
    · omega
    · omega
  · exact ⟨rfl, rfl, rfl⟩

set_option maxRecDepth 100000 in
set_option maxHeartbeats 1000000 in
theorem specNormalOf (hAT : At4Said) (w : World) (s : List UInt8) (hs : s.length ≤ maxLen) :
    Calls Tryz.prog 12 #[S s] w fun e w' => AnsNof s w e w' := by
  have MN := Lib.hid (specStepMany hAT w s 300 hs)
  clear hAT hs
  go_enter Tryz.func12, Tryz.ntmps12
  go_wp2_with fail
  refine MN.out.mono ?_
  rintro e w1 ⟨r, c, b, rfl, h1, hf1⟩
  have HF1 := Lib.hid hf1
  rcases h1 with ⟨a, k, m, q1, q2, q3, q4, rfl, q5⟩ | ⟨q1, rfl, rfl, rfl⟩
  · obtain rfl : m = 300 := by omega
    have HR : ∃ a' k', TmOk r a' k' ∧ Et a' k' = (itT 300 (Et a k)).1 := by
      rcases q5 with ⟨x1, rfl⟩ | ⟨x1, x2⟩
      · exact ⟨a, k, q1, (itT_zero _ _ x1).symm⟩
      · exact cnOf_tm x2
    obtain ⟨a', k', r1, r2⟩ := HR
    have hl : r.length ≤ maxLen := by have := r1.1; unfold maxLen; omega
    have hcr : cR (itT 300 (Et a k)).1 = cT a' k' := by rw [← r2]; exact et_cR r1.2.okT r1.2.2.2
    have NI := Lib.hid (specNormalIs w1 r hl)
    have TC := Lib.hid (fun w => specTmCanon w r hl)
    have HQ := Lib.hid q1
    have HR := Lib.hid r1
    have HE := Lib.hid r2
    have HC := Lib.hid hcr
    clear q1 q2 q3 q4 q5 r1 r2 hl hcr hf1
    go_wp2_with fail
    refine NI.out.mono ?_
    rintro e w2 ⟨b, rfl, hb, hf2⟩
    have HF2 := Lib.hid (HF1.out.trans hf2)
    have HB := Lib.hid hb
    clear hb hf2
    cases b with
    | false =>
      go_wp2_with fail
      refine bodyPost_ret (v := .tuple #[S [], .bool false]) (by simp [results, Tryz.results12, go_sem]) rfl ?_
      refine ⟨_, _, rfl, .inr ⟨.inr ⟨a, k, HQ.out, fun h0 => ?_⟩, rfl, rfl⟩, HF2.out⟩
      rw [HC.out] at h0
      exact absurd (HB.out.2 ⟨a', k', HR.out, h0⟩) (by simp)
    | true =>
      go_wp2_with fail
      refine (TC.out w2).mono ?_
      rintro e w3 ⟨r', b', rfl, h3, hf3⟩
      have FIN : Hid (AnsNof s w (.returned (.tuple #[S r', .bool b'])) w3) := by
        obtain ⟨a2, k2, t1, t2⟩ := HB.out.1 trivial
        obtain ⟨rfl, rfl⟩ := HR.out.unique t1
        refine ⟨r', b', rfl, ?_, HF2.out.trans hf3⟩
        rcases h3 with ⟨a3, k3, u1, rfl, rfl⟩ | ⟨u1, _, _⟩
        · obtain ⟨rfl, rfl⟩ := HR.out.unique u1
          exact .inl ⟨a, k, HQ.out, HC.out.trans t2, ⟨_, _, HR.out.2.okT, HR.out.2.2.2, HE.out, rfl⟩, rfl⟩
        · exact absurd HR.out (u1 a' k')
      clear h3 hf3
      go_wp2_with fail
      refine bodyPost_ret (v := .tuple #[S r', .bool b']) (by simp [results, Tryz.results12, go_sem]) rfl ?_
      exact FIN.out
  · have HN : Hid (∀ a k, ¬ TmOk s a k) := by
      rcases q1 with q1 | q1 | q1
      · exact q1
      · omega
      · omega
    clear q1 hf1
    go_wp2_with fail
    refine bodyPost_ret (v := .tuple #[S [], .bool false]) (by simp [results, Tryz.results12, go_sem]) rfl ?_
    exact ⟨_, _, rfl, .inr ⟨.inl HN.out, rfl, rfl⟩, HF1.out⟩

set_option maxHeartbeats 1000000 in
theorem implStep (w : World) (B : Nat) (s : List UInt8) (hs : s.length ≤ maxLen) (hB : B ≤ w.heap.size) (htb : Tb B w) :
    Calls Tryz.prog 9 #[S s] w fun e w' => AnsIns s 0 w e w' := by
  have ST := Lib.hid (implStepInside w B s 0 hs hB htb)
  clear hs hB htb
  go_enter Tryz.func9, Tryz.ntmps9
  go_wp2_with fail
  refine ST.out.mono ?_
  rintro e w1 ⟨r, b, rfl, h1, h2⟩
  have FIN : Hid (AnsIns s 0 w (.returned (.tuple #[S r, .bool b])) w1) := ⟨r, b, rfl, h1, h2⟩
  clear h1 h2
  go_wp2_with fail
  refine bodyPost_ret (v := .tuple #[S r, .bool b]) (by simp [results, Tryz.results9, go_sem]) rfl ?_
  exact FIN.out

set_option maxHeartbeats 1000000 in
theorem lawStep (hAT : At4Said) (w : World) (htab : Lib.TabIs Tryz.prog w "internal/strconv.uint64pow10" .u64 Lib.pow10Tab) (s : List UInt8) (hs : s.length ≤ maxLen) :
    Calls Tryz.prog 3 #[S s] w fun e w' => Yes w e w' := by
  have HTB : Hid (Tb w.heap.size w) := Lib.tabBelow_of_tabIs htab
  have hs' := hs
  unfold maxLen at hs'
  by_cases hl : 1048576 < s.length
  · have hb : decide ((1048576 : Int) < (s.length : Int)) = true := by simp; omega
    go_enter Tryz.func3, Tryz.ntmps3
    go_wp2_with fail
    go_ret
    exact ⟨rfl, Fr.refl _ _⟩
  · have hb : decide ((1048576 : Int) < (s.length : Int)) = false := by simp; omega
    go_enter Tryz.func3, Tryz.ntmps3
    go_wp2_with fail
    refine (specStep hAT _ s hs).mono ?_
    rintro e w1 ⟨r, ok, rfl, h1, hf1⟩
    go_wp2_with fail
    refine (implStep _ w.heap.size s hs hf1.size (HTB.out.fr hf1 (Nat.le_refl _) (fun _ h => h.elim))).mono ?_
    rintro e w2 ⟨r', ok', rfl, h2, hf2⟩
    obtain ⟨rfl, rfl⟩ := InsIs.one h1 h2
    clear h1 h2
    go_wp2
    go_ret
    exact ⟨rfl, hf1.trans hf2⟩

set_option maxHeartbeats 1000000 in
theorem lawNormalOf (hAT : At4Said) (w : World) (htab : Lib.TabIs Tryz.prog w "internal/strconv.uint64pow10" .u64 Lib.pow10Tab) (s : List UInt8) (hs : s.length ≤ maxLen) :
    Calls Tryz.prog 5 #[S s] w fun e w' => Yes w e w' := by
  have HTB : Hid (Tb w.heap.size w) := Lib.tabBelow_of_tabIs htab
  have hs' := hs
  unfold maxLen at hs'
  by_cases hl : 1048576 < s.length
  · have hb : decide ((1048576 : Int) < (s.length : Int)) = true := by simp; omega
    go_enter Tryz.func5, Tryz.ntmps5
    go_wp2_with fail
    go_ret
    exact ⟨rfl, Fr.refl _ _⟩
  · have hb : decide ((1048576 : Int) < (s.length : Int)) = false := by simp; omega
    go_enter Tryz.func5, Tryz.ntmps5
    go_wp2_with fail
    refine (specNormalOf hAT _ s hs).mono ?_
    rintro e w1 ⟨r, ok, rfl, h1, hf1⟩
    go_wp2_with fail
    refine (implNormalOf _ w.heap.size s hs hf1.size (HTB.out.fr hf1 (Nat.le_refl _) (fun _ h => h.elim))).mono ?_
    rintro e w2 ⟨r', ok', rfl, h2, hf2⟩
    obtain ⟨rfl, rfl⟩ := NofIs.one h1 h2
    clear h1 h2
    go_wp2
    go_ret
    exact ⟨rfl, hf1.trans hf2⟩

set_option maxHeartbeats 1000000 in
theorem lawStepInside (hAT : At4Said) (w : World) (htab : Lib.TabIs Tryz.prog w "internal/strconv.uint64pow10" .u64 Lib.pow10Tab) (s : List UInt8) (kk : Int) (hs : s.length ≤ maxLen) (hkk : kk ≤ 9223372036854775807) :
    Calls Tryz.prog 7 #[S s, .int .i64 kk] w fun e w' => Yes w e w' := by
  have HTB : Hid (Tb w.heap.size w) := Lib.tabBelow_of_tabIs htab
  have hs' := hs
  unfold maxLen at hs'
  by_cases hl : 1048576 < s.length
  · have hb : decide ((1048576 : Int) < (s.length : Int)) = true := by simp; omega
    go_enter Tryz.func7, Tryz.ntmps7
    go_wp2_with fail
    go_ret
    exact ⟨rfl, Fr.refl _ _⟩
  · have hb : decide ((1048576 : Int) < (s.length : Int)) = false := by simp; omega
    go_enter Tryz.func7, Tryz.ntmps7
    go_wp2_with fail
    refine (specStepInside hAT _ s kk hs hkk).mono ?_
    rintro e w1 ⟨r, ok, rfl, h1, hf1⟩
    go_wp2_with fail
    refine (implStepInside _ w.heap.size s kk hs hf1.size (HTB.out.fr hf1 (Nat.le_refl _) (fun _ h => h.elim))).mono ?_
    rintro e w2 ⟨r', ok', rfl, h2, hf2⟩
    obtain ⟨rfl, rfl⟩ := InsIs.one h1 h2
    clear h1 h2
    go_wp2
    go_ret
    exact ⟨rfl, hf1.trans hf2⟩

set_option maxHeartbeats 1000000 in
theorem lawStepMany (hAT : At4Said) (w : World) (htab : Lib.TabIs Tryz.prog w "internal/strconv.uint64pow10" .u64 Lib.pow10Tab) (s : List UInt8) (n : Int) (hs : s.length ≤ maxLen) :
    Calls Tryz.prog 4 #[S s, .int .i64 n] w fun e w' => Yes w e w' := by
  have HTB : Hid (Tb w.heap.size w) := Lib.tabBelow_of_tabIs htab
  have hs' := hs
  unfold maxLen at hs'
  by_cases hl : 1048576 < s.length
  · have hb : decide ((1048576 : Int) < (s.length : Int)) = true := by simp; omega
    go_enter Tryz.func4, Tryz.ntmps4
    go_wp2_with fail
    go_ret
    exact ⟨rfl, Fr.refl _ _⟩
  · have hb : decide ((1048576 : Int) < (s.length : Int)) = false := by simp; omega
    go_enter Tryz.func4, Tryz.ntmps4
    go_wp2_with fail
    refine (specStepMany hAT _ s n hs).mono ?_
    rintro e w1 ⟨r, c, ok, rfl, h1, hf1⟩
    go_wp2_with fail
    refine (implStepMany _ w.heap.size s n hs hf1.size (HTB.out.fr hf1 (Nat.le_refl _) (fun _ h => h.elim))).mono ?_
    rintro e w2 ⟨r', c', ok', rfl, h2, hf2⟩
    obtain ⟨rfl, rfl, rfl⟩ := ManyIs.one h1 h2
    clear h1 h2
    go_wp2
    go_ret
    exact ⟨rfl, hf1.trans hf2⟩
end Go.Proofs.YtnjgaenhjdjpfaaGreatDoor
