/- StepMany, NormalOf, TermEqual of the program. -/
import Derived.Test.YtnjgaenhjdjpfaaGreatDoorSon
namespace Go.Proofs.YtnjgaenhjdjpfaaGreatDoor
open Go.RowKit Go.ChangeMaps

theorem et_cn {a a' : List UInt8} {k k' : Fo} (h : OkT a k) (hs : treeSize a k ≤ 300) (h' : OkT a' k') (hs' : treeSize a' k' ≤ 300) : Et a k = Et a' k' ↔ cnT a k = cnT a' k' := by
  rw [← alike_iff h.tm h.at_ h.wf hs h'.tm h'.at_ h'.wf hs', sm_er _ _ (h.nw []) (h'.nw [])]

/-- a canonical text of a term that is given without the names of what is bound -/
def CnOf (t : Ts) (r : List UInt8) : Prop := ∃ a k, OkT a k ∧ treeSize a k ≤ 300 ∧ Et a k = t ∧ r = cnT a k

theorem CnOf.unique {t : Ts} {r r' : List UInt8} (h : CnOf t r) (h' : CnOf t r') : r = r' := by
  obtain ⟨a, k, h1, h2, h3, rfl⟩ := h
  obtain ⟨a', k', g1, g2, g3, rfl⟩ := h'
  exact (et_cn h1 h2 g1 g2).1 (h3.trans g3.symm)

/-- what StepMany answers -/
def ManyIs (s : List UInt8) (n : Int) (r : List UInt8) (c : Int) (b : Bool) : Prop :=
  (∃ a k, ∃ m : Nat, TmOk s a k ∧ n = m ∧ m ≤ 300 ∧ c = (itT m (Et a k)).2 ∧ b = true ∧ (((itT m (Et a k)).2 = 0 ∧ r = s) ∨ ((itT m (Et a k)).2 ≠ 0 ∧ CnOf (itT m (Et a k)).1 r))) ∨
  (((∀ a k, ¬ TmOk s a k) ∨ n < 0 ∨ 300 < n) ∧ r = [] ∧ c = 0 ∧ b = false)

def AnsMany (s : List UInt8) (n : Int) (w : World) (e : Ending) (w' : World) : Prop := ∃ r c b, e = .returned (.tuple #[S r, .int .i64 c, .bool b]) ∧ ManyIs s n r c b ∧ Fr No w w'

theorem Bel.fr {w w' : World} (hf : Fr No w w') {p : Nat} {a : List UInt8} {k : Fo} (h : TmAl w (Bel w) p a k) : TmAl w' (Bel w') p a k :=
  h.mono (fun _ hb => Nat.lt_of_lt_of_le hb hf.size) (fun b hb => hf.block b hb (fun h => h))

set_option maxRecDepth 100000 in
set_option maxHeartbeats 1000000 in
theorem implStepMany (w : World) (B : Nat) (s : List UInt8) (n : Int) (hs : s.length ≤ maxLen) (hB : B ≤ w.heap.size) (htb : Tb B w) :
    Calls Tryz.prog 11 #[S s, .int .i64 n] w fun e w' => AnsMany s n w e w' := by
  have HB := Lib.hid hB
  have HTB := Lib.hid htb
  clear hB htb
  go_enter Tryz.func11, Tryz.ntmps11
  go_wp2_with fail
  refine (read_al w s hs).mono ?_
  rintro e w1 ⟨hf1, ⟨a, k, p, hi, rfl, hal⟩ | ⟨hno, rfl⟩⟩
  · have HI := Lib.hid hi
    have HF1 := Lib.hid hf1
    have HAL := Lib.hid hal
    clear hi hf1 hal
    by_cases hn0 : n < 0
    · have HN : Hid (n < 0) := hn0
      go_wp2_with fail
      refine bodyPost_ret (v := .tuple #[S [], .int .i64 0, .bool false]) (by simp [results, Tryz.results11, go_sem]) rfl ?_
      exact ⟨_, _, _, rfl, .inr ⟨.inr (.inl HN.out), rfl, rfl, rfl⟩, HF1.out⟩
    · by_cases hn3 : 300 < n
      · have HN : Hid (300 < n) := hn3
        go_wp2_with fail
        refine bodyPost_ret (v := .tuple #[S [], .int .i64 0, .bool false]) (by simp [results, Tryz.results11, go_sem]) rfl ?_
        exact ⟨_, _, _, rfl, .inr ⟨.inr (.inr HN.out), rfl, rfl, rfl⟩, HF1.out⟩
      · obtain ⟨m, rfl⟩ : ∃ m : Nat, n = m := ⟨n.toNat, by omega⟩
        have ON := Lib.hid (on_any HAL.out m (by omega))
        have HM : Hid (m ≤ 300) := by show _ ≤ _; omega
        go_wp2_with fail
        refine ON.out.mono ?_
        rintro e w2 ⟨p', a', k', rfl, hf2, hal2, het⟩
        by_cases hc : (itT m (Et a k)).2 = 0
        · have HC := Lib.hid hc
          have HF2 := Lib.hid (HF1.out.trans hf2)
          rw [hc]
          clear hc hf2 hal2 het ON
          go_wp2_with fail
          refine bodyPost_ret (v := .tuple #[S s, .int .i64 0, .bool true]) (by simp [results, Tryz.results11, go_sem]) rfl ?_
          exact ⟨_, _, _, rfl, .inl ⟨a, k, m, HI.out, rfl, HM.out, by rw [HC.out]; rfl, rfl, .inl ⟨HC.out, rfl⟩⟩, HF2.out⟩
        · have hfw := HF1.out.trans hf2
          have TX := Lib.hid (hal2.text (B := B) (fun b hb => hb) (Nat.le_trans HB.out hfw.size) (HTB.out.fr hfw HB.out (fun _ h => h.elim)))
          have HC := Lib.hid hc
          have CN : Hid (CnOf (itT m (Et a k)).1 (cnT a' k')) := ⟨a', k', hal2.ok, hal2.sz, het, rfl⟩
          have HFW := Lib.hid hfw
          obtain ⟨c, HCC⟩ : ∃ c, Hid ((itT m (Et a k)).2 = c) := ⟨_, rfl⟩
          rw [HCC.out] at hc ⊢
          have hc0 : ¬ (c : Int) = 0 := by omega
          clear hf2 hal2 het hfw ON hc
          go_wp2_with fail
          refine TX.out.mono ?_
          rintro e w3 ⟨rfl, hf3⟩
          have HF3 := Lib.hid (HFW.out.trans hf3)
          clear hf3
          go_wp2_with fail
          refine bodyPost_ret (v := .tuple #[S (cnT a' k'), .int .i64 (c : Int), .bool true]) (by simp [results, Tryz.results11, go_sem]) rfl ?_
          exact ⟨_, _, _, rfl, .inl ⟨a, k, m, HI.out, rfl, HM.out, by rw [HCC.out], rfl, .inr ⟨HC.out, CN.out⟩⟩, HF3.out⟩
  · have HN := Lib.hid hno
    have HF1 := Lib.hid hf1
    clear hno hf1
    go_wp2_with fail
    refine bodyPost_ret (v := .tuple #[S [], .int .i64 0, .bool false]) (by simp [results, Tryz.results11, go_sem]) rfl ?_
    exact ⟨_, _, _, rfl, .inr ⟨.inl HN.out, rfl, rfl, rfl⟩, HF1.out⟩

/-- what NormalOf answers -/
def NofIs (s : List UInt8) (r : List UInt8) (b : Bool) : Prop :=
  (∃ a k, TmOk s a k ∧ cR (itT 300 (Et a k)).1 = 0 ∧ CnOf (itT 300 (Et a k)).1 r ∧ b = true) ∨
  (((∀ a k, ¬ TmOk s a k) ∨ ∃ a k, TmOk s a k ∧ cR (itT 300 (Et a k)).1 ≠ 0) ∧ r = [] ∧ b = false)

theorem NofIs.one {s r r' : List UInt8} {b b' : Bool} (h : NofIs s r b) (h' : NofIs s r' b') : r' = r ∧ b' = b := by
  rcases h with ⟨a, k, h1, h2, h3, rfl⟩ | ⟨h1, rfl, rfl⟩ <;> rcases h' with ⟨a', k', g1, g2, g3, rfl⟩ | ⟨g1, rfl, rfl⟩
  · obtain ⟨rfl, rfl⟩ := h1.unique g1
    exact ⟨g3.unique h3, rfl⟩
  · rcases g1 with g1 | ⟨a', k', g1, g2⟩
    · exact absurd h1 (g1 a k)
    · obtain ⟨rfl, rfl⟩ := h1.unique g1
      exact absurd h2 g2
  · rcases h1 with h1 | ⟨a, k, h1, h2⟩
    · exact absurd g1 (h1 a' k')
    · obtain ⟨rfl, rfl⟩ := h1.unique g1
      exact absurd g2 h2
  · exact ⟨rfl, rfl⟩

def AnsNof (s : List UInt8) (w : World) (e : Ending) (w' : World) : Prop := ∃ r b, e = .returned (.tuple #[S r, .bool b]) ∧ NofIs s r b ∧ Fr No w w'

set_option maxRecDepth 100000 in
set_option maxHeartbeats 1000000 in
theorem implNormalOf (w : World) (B : Nat) (s : List UInt8) (hs : s.length ≤ maxLen) (hB : B ≤ w.heap.size) (htb : Tb B w) :
    Calls Tryz.prog 13 #[S s] w fun e w' => AnsNof s w e w' := by
  have HB := Lib.hid hB
  have HTB := Lib.hid htb
  clear hB htb
  go_enter Tryz.func13, Tryz.ntmps13
  go_wp2_with fail
  refine (read_al w s hs).mono ?_
  rintro e w1 ⟨hf1, ⟨a, k, p, hi, rfl, hal⟩ | ⟨hno, rfl⟩⟩
  · have HI := Lib.hid hi
    have HF1 := Lib.hid hf1
    have ON := Lib.hid (on_any hal 300 (by omega))
    clear hi hf1 hal
    go_wp2_with fail
    refine ON.out.mono ?_
    rintro e w2 ⟨p', a', k', rfl, hf2, hal2, het⟩
    have CT := Lib.hid (hal2.count (fun b hb => hb))
    have HAL := Lib.hid hal2
    have HET := Lib.hid het
    have HFW := Lib.hid (HF1.out.trans hf2)
    clear hf2 hal2 het ON
    go_wp2_with fail
    refine CT.out.mono ?_
    rintro e w3 ⟨rfl, hf3⟩
    have hcr : cR (itT 300 (Et a k)).1 = cT a' k' := by rw [← HET.out]; exact et_cR HAL.out.ok HAL.out.sz
    by_cases hc : cT a' k' = 0
    · have HC : Hid (cR (itT 300 (Et a k)).1 = 0) := hcr.trans hc
      have hal3 := Bel.fr hf3 HAL.out
      have hfw := HFW.out.trans hf3
      have TX := Lib.hid (hal3.text (B := B) (fun b hb => hb) (Nat.le_trans HB.out hfw.size) (HTB.out.fr hfw HB.out (fun _ h => h.elim)))
      have HF3 := Lib.hid hfw
      rw [hc]
      clear hf3 hcr hc hal3 hfw CT
      go_wp2_with fail
      refine TX.out.mono ?_
      rintro e w4 ⟨rfl, hf4⟩
      have HF4 := Lib.hid (HF3.out.trans hf4)
      clear hf4
      go_wp2_with fail
      refine bodyPost_ret (v := .tuple #[S (cnT a' k'), .bool true]) (by simp [results, Tryz.results13, go_sem]) rfl ?_
      exact ⟨_, _, rfl, .inl ⟨a, k, HI.out, HC.out, ⟨a', k', HAL.out.ok, HAL.out.sz, HET.out, rfl⟩, rfl⟩, HF4.out⟩
    · have HC : Hid (cR (itT 300 (Et a k)).1 ≠ 0) := by show _ ≠ _; rw [hcr]; exact hc
      have HF3 := Lib.hid (HFW.out.trans hf3)
      have hc0 : (0 : Int) < (cT a' k' : Nat) := by omega
      clear hf3 hcr hc CT
      go_wp2_with fail
      refine bodyPost_ret (v := .tuple #[S [], .bool false]) (by simp [results, Tryz.results13, go_sem]) rfl ?_
      exact ⟨_, _, rfl, .inr ⟨.inr ⟨a, k, HI.out, HC.out⟩, rfl, rfl⟩, HF3.out⟩
  · have HN := Lib.hid hno
    have HF1 := Lib.hid hf1
    clear hno hf1
    go_wp2_with fail
    refine bodyPost_ret (v := .tuple #[S [], .bool false]) (by simp [results, Tryz.results13, go_sem]) rfl ?_
    exact ⟨_, _, rfl, .inr ⟨.inl HN.out, rfl, rfl⟩, HF1.out⟩
end Go.Proofs.YtnjgaenhjdjpfaaGreatDoor
