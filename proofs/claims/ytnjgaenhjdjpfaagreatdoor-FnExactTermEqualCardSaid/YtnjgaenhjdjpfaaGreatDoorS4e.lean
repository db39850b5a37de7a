/- TermEqual of both, and its law, out of l4At's contract. -/
import Derived.Test.YtnjgaenhjdjpfaaGreatDoorS4l
namespace Go.Proofs.YtnjgaenhjdjpfaaGreatDoor
open Go.RowKit Go.ChangeMaps

def AnsEq (s t : List UInt8) (w : World) (e : Ending) (w' : World) : Prop := ∃ b : Bool, e = .returned (.bool b) ∧ (b = true ↔ ∃ r, NofIs s r true ∧ NofIs t r true) ∧ Fr No w w'

theorem eq_cases {s t r r' : List UInt8} {b b' : Bool} (h : NofIs s r b) (h' : NofIs t r' b') : ((b && (b' && (r == r'))) = true ↔ ∃ r, NofIs s r true ∧ NofIs t r true) := by
  constructor
  · intro hq
    simp only [Bool.and_eq_true, beq_iff_eq] at hq
    obtain ⟨rfl, rfl, rfl⟩ := hq
    exact ⟨r, h, h'⟩
  · rintro ⟨q, h1, h2⟩
    obtain ⟨rfl, rfl⟩ := h.one h1
    obtain ⟨rfl, rfl⟩ := h'.one h2
    simp

set_option maxHeartbeats 1000000 in
theorem specTermEqual (hAT : At4Said) (w : World) (s t : List UInt8) (hs : s.length ≤ maxLen) (ht : t.length ≤ maxLen) :
    Calls Tryz.prog 14 #[S s, S t] w fun e w' => AnsEq s t w e w' := by
  have N1 := Lib.hid (specNormalOf hAT w s hs)
  have N2 := Lib.hid (fun w => specNormalOf hAT w t ht)
  clear hAT hs ht
  go_enter Tryz.func14, Tryz.ntmps14
  go_wp2_with fail
  refine N1.out.mono ?_
  rintro e w1 ⟨r1, b1, rfl, h1, hf1⟩
  have H1 := Lib.hid h1
  have HF1 := Lib.hid hf1
  clear h1 hf1
  go_wp2_with fail
  refine (N2.out _).mono ?_
  rintro e w2 ⟨r2, b2, rfl, h2, hf2⟩
  have FIN : Hid (AnsEq s t w (.returned (.bool (b1 && (b2 && (r1 == r2))))) w2) := ⟨_, rfl, eq_cases H1.out h2, HF1.out.trans hf2⟩
  clear h2 hf2
  cases b1 <;> cases b2 <;>
    (go_wp2_with fail
     go_ret
     exact FIN.out)

set_option maxHeartbeats 1000000 in
theorem implTermEqual (w : World) (B : Nat) (s t : List UInt8) (hs : s.length ≤ maxLen) (ht : t.length ≤ maxLen) (hB : B ≤ w.heap.size) (htb : Tb B w) :
    Calls Tryz.prog 15 #[S s, S t] w fun e w' => AnsEq s t w e w' := by
  have N1 := Lib.hid (implNormalOf w B s hs hB htb)
  have N2 : Hid (∀ w1, Fr No w w1 → Calls Tryz.prog 13 #[S t] w1 fun e w' => AnsNof t w1 e w') := fun w1 hf => implNormalOf w1 B t ht (Nat.le_trans hB hf.size) (htb.fr hf hB (fun _ h => h.elim))
  clear hs ht hB htb
  go_enter Tryz.func15, Tryz.ntmps15
  go_wp2_with fail
  refine N1.out.mono ?_
  rintro e w1 ⟨r1, b1, rfl, h1, hf1⟩
  have H1 := Lib.hid h1
  have HF1 := Lib.hid hf1
  clear h1 hf1
  cases b1 with
  | false =>
    have FIN : Hid (AnsEq s t w (.returned (.bool false)) w1) := by
      refine ⟨_, rfl, ⟨fun h => (by cases h), ?_⟩, HF1.out⟩
      rintro ⟨q, h1, _⟩
      exact (H1.out.one h1).2.symm
    go_wp2_with fail
    go_ret
    exact FIN.out
  | true =>
    go_wp2_with fail
    refine (N2.out w1 HF1.out).mono ?_
    rintro e w2 ⟨r2, b2, rfl, h2, hf2⟩
    have FIN : Hid (AnsEq s t w (.returned (.bool (true && (b2 && (r1 == r2))))) w2) := ⟨_, rfl, eq_cases H1.out h2, HF1.out.trans hf2⟩
    clear h2 hf2
    cases b2 <;>
      (go_wp2_with fail
       go_ret
       exact FIN.out)

theorem AnsEq.same {s t : List UInt8} {b b' : Bool} (h : b = true ↔ ∃ r, NofIs s r true ∧ NofIs t r true) (h' : b' = true ↔ ∃ r, NofIs s r true ∧ NofIs t r true) : b = b' := by
  rw [Bool.eq_iff_iff]; exact h.trans h'.symm

set_option maxHeartbeats 1000000 in
theorem lawTermEqual (hAT : At4Said) (w : World) (htab : Lib.TabIs Tryz.prog w "internal/strconv.uint64pow10" .u64 Lib.pow10Tab) (s t : List UInt8) (hs : s.length ≤ maxLen) (ht : t.length ≤ maxLen) :
    Calls Tryz.prog 6 #[S s, S t] w fun e w' => Yes w e w' := by
  have HTB : Hid (Tb w.heap.size w) := Lib.tabBelow_of_tabIs htab
  have hs' := hs
  have ht' := ht
  unfold maxLen at hs' ht'
  by_cases hl : 1048576 < s.length
  · have hb : decide ((1048576 : Int) < (s.length : Int)) = true := by simp; omega
    go_enter Tryz.func6, Tryz.ntmps6
    go_wp2_with fail
    go_ret
    exact ⟨rfl, Fr.refl _ _⟩
  · have hb : decide ((1048576 : Int) < (s.length : Int)) = false := by simp; omega
    by_cases hl2 : 1048576 < t.length
    · have hb2 : decide ((1048576 : Int) < (t.length : Int)) = true := by simp; omega
      go_enter Tryz.func6, Tryz.ntmps6
      go_wp2_with fail
      go_ret
      exact ⟨rfl, Fr.refl _ _⟩
    · have hb2 : decide ((1048576 : Int) < (t.length : Int)) = false := by simp; omega
      go_enter Tryz.func6, Tryz.ntmps6
      go_wp2_with fail
      refine (specTermEqual hAT _ s t hs ht).mono ?_
      rintro e w1 ⟨b1, rfl, h1, hf1⟩
      go_wp2_with fail
      refine (implTermEqual _ w.heap.size s t hs ht hf1.size (HTB.out.fr hf1 (Nat.le_refl _) (fun _ h => h.elim))).mono ?_
      rintro e w2 ⟨b2, rfl, h2, hf2⟩
      obtain rfl := AnsEq.same h1 h2
      clear h1 h2
      go_wp2
      go_ret
      exact ⟨rfl, hf1.trans hf2⟩
end Go.Proofs.YtnjgaenhjdjpfaaGreatDoor
