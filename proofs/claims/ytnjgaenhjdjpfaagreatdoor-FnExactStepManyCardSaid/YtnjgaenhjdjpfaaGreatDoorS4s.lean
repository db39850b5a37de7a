/- Steps of the model: l4Step, StepInside, Step, out of l4At's contract (At4Said). -/
import Derived.Test.YtnjgaenhjdjpfaaGreatDoorS4g
import Derived.Test.YtnjgaenhjdjpfaaGreatDoorSom
namespace Go.Proofs.YtnjgaenhjdjpfaaGreatDoor
open Go.RowKit Go.ChangeMaps

theorem st_size : ∀ (t : Ts) (n : Nat), WfT t → t.size ≤ 300 → (stF t n).size ≤ t.size + 90000
  | .nil, _, _, _ => by simp only [stF]; omega
  | .cons h a d k r, n, hw, hs => by
    simp only [Ts.size] at hs
    have h0 : 1 ≤ (if bindsB h then 2 else 1) := by split <;> omega
    simp only [stF]
    split
    · split
      · next hq =>
        have := rd_size hw.2.2.1 hw.1 hq.1 (by omega)
        simp only [app_size, Ts.size]
        omega
      · have := st_size k (n - rx1 h k) hw.2.2.1 (by omega)
        simp only [Ts.size]
        omega
    · have := st_size r (n - (rx1 h k + cR k)) hw.2.2.2 (by omega)
      simp only [Ts.size]
      omega

theorem wf_er : ∀ t : Ts, WfT t → WfT (er t)
  | .nil, _ => trivial
  | .cons h a d k r, hw => by
    refine ⟨by rw [er_len]; exact hw.1, fun h0 => ?_, wf_er k hw.2.2.1, wf_er r hw.2.2.2⟩
    rw [er_len] at h0
    exact ⟨(hw.2.1 h0).1, fun _ => if_neg h0⟩

theorem at_size {a : List UInt8} {k : Fo} (h : OkT a k) (hs : treeSize a k ≤ 300) {m : Nat} (hm : m < cT a k) : treeSize (atA k m) (atK k m) ≤ 100000 := by
  obtain ⟨_, _, q3⟩ := et_step h hs hm
  have hw : WfT (Et a k) := wf_er _ (h.nw [])
  have hz : (Et a k).size = treeSize a k := by rw [er_size, h.size]
  have := st_size (Et a k) m hw (by omega)
  omega

theorem gr_size {a : List UInt8} {k : Fo} (h : OkT a k) (hs : treeSize a k ≤ 300) {m : Nat} (hm : m < cT a k) (hg : grT k m = true) : 300 < treeSize (atA k m) (atK k m) := by
  by_cases ha : a = []
  · subst ha
    have e : treeSize [] k = k.size := by simp [treeSize]
    exact ((st_term (n := m) h (by omega) []).2 hm).gr hg
  · rw [(ct_atom h ha []).1] at hm
    exact absurd hm (Nat.not_lt_zero m)

/-- what l4At answers -/
def AtP (T : Nat → Prop) (a : List UInt8) (k : Fo) (m : Nat) (w : World) (e : Ending) (w' : World) : Prop :=
  Fr No w w' ∧
  ((m < cT a k ∧ grT k m = false ∧ ∃ A c, e = .returned (.tuple #[.agg #[S (atA k m), .slice A (atK k m).len c], .int .i64 (-1), .bool true]) ∧ Sl w' (TN T w w') A (atK k m)) ∨
  (m < cT a k ∧ grT k m = true ∧ ∃ x A l c, e = .returned (.tuple #[.agg #[S x, .slice A l c], .int .i64 (-1), .bool false])) ∨
  (cT a k ≤ m ∧ ∃ x A l c, e = .returned (.tuple #[.agg #[S x, .slice A l c], .int .i64 ((m : Int) - (cT a k : Nat)), .bool false])))

def At4Said : Prop := ∀ (k : Fo) (a : List UInt8) (A : Option Addr) (c : Nat) (w : World) (T : Nat → Prop) (m : Nat), (m : Int) ≤ 9223372036854775807 → OkT a k → treeSize a k ≤ 300 → (∀ b, T b → b < w.heap.size) → Sl w T A k →
  Calls Tryz.prog 29 #[.agg #[S a, .slice A k.len c], .int .i64 (m : Int)] w fun e w' => AtP T a k m w e w'

set_option maxRecDepth 100000 in
set_option maxHeartbeats 2000000 in
theorem spec4Step (hAT : At4Said) (w : World) (s : List UInt8) (kk : Int) (hs : s.length ≤ maxLen) (hkk : kk ≤ 9223372036854775807) :
    Calls Tryz.prog 18 #[S s, .int .i64 kk] w fun e w' => AnsIns s kk w e w' := by
  have HAT := Lib.hid hAT
  have HKK := Lib.hid hkk
  clear hAT hkk
  go_enter Tryz.func18, Tryz.ntmps18
  go_wp2_with fail
  refine (term_any s _ hs).mono ?_
  rintro e w1 ⟨hf, ⟨a, k, A, c, hi, rfl, hsl⟩ | ⟨a, A, m, c, hno, rfl⟩⟩
  · by_cases hk0 : kk < 0
    · have HN : Hid (kk < 0) := hk0
      have HI := Lib.hid hi
      have HF := Lib.hid hf
      clear hi hsl hf
      go_wp2_with fail
      refine bodyPost_ret (v := .tuple #[S [], .bool false]) (by simp [results, Tryz.results18, go_sem]) rfl ?_
      refine ⟨_, _, rfl, .inr ⟨.inr ⟨a, k, HI.out, fun m hm => ?_⟩, rfl, rfl⟩, HF.out.alloc _⟩
      have := HN.out
      omega
    · obtain ⟨m, rfl⟩ : ∃ m : Nat, kk = m := ⟨kk.toNat, by omega⟩
      have ho := hi.2.okT
      have hz := hi.2.2.2
      have CALL : Hid (∀ o : Obj, Calls Tryz.prog 29 #[.agg #[S a, .slice A k.len c], .int .i64 (m : Int)] (w1.alloc o) fun e w' => AtP (New w w1) a k m (w1.alloc o) e w') := fun o =>
        HAT.out k a A c (w1.alloc o) (New w w1) m HKK.out ho hz (fun b hb => by have := hb.2; simp; omega) (hsl.fr (fun b hb => hb.2) ((Fr.refl _ _).alloc o))
      have HI := Lib.hid hi
      have HF := Lib.hid hf
      obtain ⟨kl, HKL⟩ : ∃ z, Hid (k.len = z) := ⟨_, rfl⟩
      rw [HKL.out] at CALL
      rw [HKL.out]
      clear hi hsl hf ho hz
      go_wp2_with fail
      refine (CALL.out _).mono ?_
      rintro e w2 ⟨hf2, ⟨hm, hg, A2, c2, rfl, hsl2⟩ | ⟨hm, hg, x, A2, l2, c2, rfl⟩ | ⟨hm, x, A2, l2, c2, rfl⟩⟩
      · obtain ⟨q1, _, _⟩ := et_step HI.out.2.okT HI.out.2.2.2 hm
        have hsz := at_size HI.out.2.okT HI.out.2.2.2 hm
        have hfw : Fr No w w2 := (HF.out.alloc _).trans hf2
        have TX : Hid (∀ o : Obj, Calls Tryz.prog 30 #[.agg #[S (atA k m), .slice A2 (atK k m).len c2]] (w2.alloc o) fun e w3 => e = .returned (S (treeText (atA k m) (atK k m))) ∧
            Hid (Calls Tryz.prog 25 #[S (treeText (atA k m) (atK k m))] w3 fun e w4 => AnsIns s (m : Int) w e w4)) := by
          intro o
          have hfo : Fr No w2 (w2.alloc o) := (Fr.refl _ _).alloc o
          have hl := text_len q1.tm q1.wf
          obtain ⟨b1, b2, b3⟩ := term_small2 q1 hsz
          refine (spec_text _ (atK k m) (Nat.lt_succ_self _) (atA k m) A2 c2 (w2.alloc o) (fun b => b < w2.heap.size) _ (Nat.le_refl _) b1 b2 b3 (fun b hb => Nat.lt_of_lt_of_le hb hfo.size) (hsl2.mono (fun b hb => hb.elim (fun h => by have := hf2.size; have := h.2; simp at *; omega) (fun h => h.2)) (fun b hb => hfo.block b (hb.elim (fun h => by have := hf2.size; have := h.2; simp at *; omega) (fun h => h.2)) (fun h => h)))).mono ?_
          rintro e w3 ⟨rfl, g3⟩
          refine ⟨rfl, Lib.hid ((specTmCanon w3 _ (by unfold maxLen; omega)).mono ?_)⟩
          rintro e w4 ⟨r, b, rfl, g4, g5⟩
          have hall := ((hfw.trans hfo).trans g3).trans g5
          rcases canon_is q1 g4 with ⟨z1, z2, z3⟩ | ⟨z1, z2, z3⟩
          · exact ⟨r, b, rfl, .inl ⟨a, k, m, HI.out, rfl, hm, q1, z1, z2, z3⟩, hall⟩
          · refine ⟨r, b, rfl, .inr ⟨.inr ⟨a, k, HI.out, fun m' hm' _ => ?_⟩, z2, z3⟩, hall⟩
            obtain rfl : m = m' := by omega
            exact z1
        obtain ⟨kl2, HKL2⟩ : ∃ z, Hid ((atK k m).len = z) := ⟨_, rfl⟩
        obtain ⟨aa, HAA⟩ : ∃ z, Hid (atA k m = z) := ⟨_, rfl⟩
        rw [HKL2.out] at TX ⊢
        rw [HAA.out] at TX ⊢
        clear q1 hsz hfw hsl2 hf2 hm hg CALL
        go_wp2_with fail
        refine (TX.out _).mono ?_
        rintro e w3 ⟨rfl, CN⟩
        go_wp2_with fail
        refine CN.out.mono ?_
        rintro e w4 ⟨r, b, rfl, z1, z2⟩
        have FIN : Hid (AnsIns s (m : Int) w (.returned (.tuple #[S r, .bool b])) w4) := ⟨r, b, rfl, z1, z2⟩
        clear z1 z2
        go_wp2_with fail
        refine bodyPost_ret (v := .tuple #[S r, .bool b]) (by simp [results, Tryz.results18, go_sem]) rfl ?_
        exact FIN.out
      · have FIN : Hid (∀ o, AnsIns s (m : Int) w (.returned (.tuple #[S [], .bool false])) (w2.alloc o)) := fun o => by
          refine ⟨_, _, rfl, .inr ⟨.inr ⟨a, k, HI.out, fun m' hm' _ => ?_⟩, rfl, rfl⟩, ((HF.out.alloc _).trans hf2).alloc o⟩
          obtain rfl : m = m' := by omega
          exact gr_size HI.out.2.okT HI.out.2.2.2 hm hg
        clear hf2 hm hg CALL
        go_wp2_with fail
        refine bodyPost_ret (v := .tuple #[S [], .bool false]) (by simp [results, Tryz.results18, go_sem]) rfl ?_
        exact FIN.out _
      · have FIN : Hid (∀ o, AnsIns s (m : Int) w (.returned (.tuple #[S [], .bool false])) (w2.alloc o)) := fun o => by
          refine ⟨_, _, rfl, .inr ⟨.inr ⟨a, k, HI.out, fun m' hm' hlt => ?_⟩, rfl, rfl⟩, ((HF.out.alloc _).trans hf2).alloc o⟩
          omega
        clear hf2 hm CALL
        go_wp2_with fail
        refine bodyPost_ret (v := .tuple #[S [], .bool false]) (by simp [results, Tryz.results18, go_sem]) rfl ?_
        exact FIN.out _
  · have HN := Lib.hid hno
    have HF := Lib.hid hf
    clear hno hf
    go_wp2_with fail
    refine bodyPost_ret (v := .tuple #[S [], .bool false]) (by simp [results, Tryz.results18, go_sem]) rfl ?_
    exact ⟨_, _, rfl, .inr ⟨.inl HN.out, rfl, rfl⟩, HF.out.alloc _⟩

set_option maxHeartbeats 1000000 in
theorem specStepInside (hAT : At4Said) (w : World) (s : List UInt8) (kk : Int) (hs : s.length ≤ maxLen) (hkk : kk ≤ 9223372036854775807) :
    Calls Tryz.prog 16 #[S s, .int .i64 kk] w fun e w' => AnsIns s kk w e w' := by
  have ST := Lib.hid (spec4Step hAT w s kk hs hkk)
  clear hAT hs hkk
  go_enter Tryz.func16, Tryz.ntmps16
  go_wp2_with fail
  refine ST.out.mono ?_
  rintro e w1 ⟨r, b, rfl, h1, h2⟩
  have FIN : Hid (AnsIns s kk w (.returned (.tuple #[S r, .bool b])) w1) := ⟨r, b, rfl, h1, h2⟩
  clear h1 h2
  go_wp2_with fail
  refine bodyPost_ret (v := .tuple #[S r, .bool b]) (by simp [results, Tryz.results16, go_sem]) rfl ?_
  exact FIN.out

set_option maxHeartbeats 1000000 in
theorem specStep (hAT : At4Said) (w : World) (s : List UInt8) (hs : s.length ≤ maxLen) :
    Calls Tryz.prog 8 #[S s] w fun e w' => AnsIns s 0 w e w' := by
  have ST := Lib.hid (spec4Step hAT w s 0 hs (by omega))
  clear hAT hs
  go_enter Tryz.func8, Tryz.ntmps8
  go_wp2_with fail
  refine ST.out.mono ?_
  rintro e w1 ⟨r, b, rfl, h1, h2⟩
  have FIN : Hid (AnsIns s 0 w (.returned (.tuple #[S r, .bool b])) w1) := ⟨r, b, rfl, h1, h2⟩
  clear h1 h2
  go_wp2_with fail
  refine bodyPost_ret (v := .tuple #[S r, .bool b]) (by simp [results, Tryz.results8, go_sem]) rfl ?_
  exact FIN.out

theorem InsIs.one {s r r' : List UInt8} {kk : Int} {b b' : Bool} (h : InsIs s kk r b) (h' : InsIs s kk r' b') : r' = r ∧ b' = b := by
  rcases h with ⟨a, k, m, h1, rfl, h2, h3, h4, rfl, rfl⟩ | ⟨h1, rfl, rfl⟩ <;> rcases h' with ⟨a', k', m', g1, g5, g2, g3, g4, rfl, rfl⟩ | ⟨g1, rfl, rfl⟩
  · obtain ⟨rfl, rfl⟩ := h1.unique g1
    obtain rfl : m = m' := by omega
    exact ⟨rfl, rfl⟩
  · rcases g1 with g1 | ⟨a', k', g1, g2⟩
    · exact absurd h1 (g1 a k)
    · obtain ⟨rfl, rfl⟩ := h1.unique g1
      have := g2 m rfl h2
      omega
  · rcases h1 with h1 | ⟨a, k, h1, h2⟩
    · exact absurd g1 (h1 a' k')
    · obtain ⟨rfl, rfl⟩ := h1.unique g1
      have := h2 m' g5 g2
      omega
  · exact ⟨rfl, rfl⟩
end Go.Proofs.YtnjgaenhjdjpfaaGreatDoor
