/- TermCanon of the program. -/
import Derived.Test.YthbidlcfahdfhaaDoorTrename
import Derived.Test.YthbidlcfahdfhaaDoorTkids
namespace Go.Proofs.YthbidlcfahdfhaaDoor
open Go.RowKit Go.ChangeMaps

theorem head_short {h : List UInt8} (hh : shapeOf h ≠ []) : h.length ≤ 4 := (shape_head hh).2.2

theorem texts_len : ∀ (f : Fo), f.wf → (∀ sh : List Bool, isTms (some sh) f = true → f.stexts.length ≤ 8 * f.size) ∧ (isTms none f = true → f.stexts.length + 3 ≤ 8 * f.size ∧ 1 ≤ f.stexts.length)
  | .nil, _ => ⟨fun sh _ => by simp [Fo.stexts], fun h => (by cases h)⟩
  | .cons a k r, hw => by
    have hk := texts_len k hw.2.1
    have hr := texts_len r hw.2.2
    have tk : (isTm a k = true) → (treeText a k).length + 1 ≤ 8 * treeSize a k := by
      intro h
      by_cases ha : a = []
      · subst ha
        simp only [isTm, if_true] at h
        obtain ⟨h1, h2⟩ := hk.2 h
        simp only [treeText, treeSize, if_true, List.length_cons, List.length_append, List.length_nil]
        cases k with
        | nil => cases h
        | cons b j q =>
          rw [Fo.texts_eq]
          simp only [Fo.stexts, List.length_cons, List.length_append] at h1 h2 ⊢
          omega
      · simp only [isTm, if_neg ha] at h
        have := (atom_bytes h).2.2.2
        simp only [treeText, treeSize, if_neg ha]
        omega
    have es : (Fo.cons a k r).size = treeSize a k + r.size := rfl
    have et : (Fo.cons a k r).stexts.length = (treeText a k).length + 1 + r.stexts.length := by
      simp only [Fo.stexts, List.length_cons, List.length_append]; omega
    rw [es, et]
    refine ⟨?_, ?_⟩
    · intro sh hs
      cases sh with
      | nil => simp [isTms] at hs
      | cons b sh =>
        cases b with
        | true =>
          simp only [isTms, Bool.and_eq_true] at hs
          have h1 := tk hs.1
          have h2 := hr.1 sh hs.2
          omega
        | false =>
          simp only [isTms, Bool.and_eq_true] at hs
          have h0 := (name_bytes hs.1)
          have h2 := hr.1 sh hs.2
          have e1 : treeText a k = a := by simp [treeText, h0.1]
          have e2 : treeSize a k = 1 := by simp [treeSize, h0.1]
          have := h0.2.2.2
          rw [e1, e2]
          omega
    · intro hs
      simp only [isTms, Bool.and_eq_true] at hs
      have hs0 : shapeOf a ≠ [] := by intro e; rw [e] at hs; cases hs.1
      have h0 := shape_head hs0
      have h2 := hr.1 _ hs.2
      have e1 : treeText a k = a := by simp [treeText, h0.1]
      have e2 : treeSize a k = 1 := by simp [treeSize, h0.1]
      have := h0.2.2
      rw [e1, e2]
      omega

theorem text_len {a : List UInt8} {k : Fo} (h : isTm a k = true) (hk : k.wf) : (treeText a k).length ≤ 8 * treeSize a k := by
  by_cases ha : a = []
  · subst ha
    simp only [isTm, if_true] at h
    obtain ⟨h1, h2⟩ := (texts_len k hk).2 h
    simp only [treeText, treeSize, if_true, List.length_cons, List.length_append, List.length_nil]
    cases k with
    | nil => cases h
    | cons b j q =>
      rw [Fo.texts_eq]
      simp only [Fo.stexts, List.length_cons, List.length_append] at h1 h2 ⊢
      omega
  · simp only [isTm, if_neg ha] at h
    have := (atom_bytes h).2.2.2
    simp only [treeText, treeSize, if_neg ha]
    omega

theorem tokN_term {a : List UInt8} {k : Fo} (h : isTm a k = true) (hw : a ≠ [] → k = .nil) (hk : k.wf) : TokN [] (ndH a k) (ndA [] a k) (ndD [] a) (cv k (.parts [])) := by
  refine ⟨?_, tok_term h hw hk⟩
  by_cases ha : a = []
  · subst ha
    rintro ⟨h1, _⟩
    simp only [isTm, if_true] at h
    have h2 := ((wf_cv k hk).2.1 [] h).2
    have h3 := top_len [] hk h
    simp only [ndH, if_true] at h1
    rw [h2, h1] at h3
    exact absurd kids_name h3
  · obtain rfl := hw ha
    simp only [isTm, if_neg ha] at h
    exact (nm_tok [] a h).1

set_option maxRecDepth 100000 in
set_option maxHeartbeats 1000000 in
theorem canonText_any (w : World) (B : Nat) (T : Nat → Prop) (p : Nat) (h a : List UInt8) (d : Nat) (k : Ts) (hT : ∀ b, T b → b < w.heap.size) (ht : Tm w T p h a d k) (hB : B ≤ w.heap.size) (htb : Tb B w)
    (a' : List UInt8) (k' : Fo) (hcn : (rnT (frN h a k []) (.cons h a d k .nil) 0).1 = nd [] a' k') (htm : isTm a' k' = true) (hat : a' ≠ [] → k' = .nil) (hwf : k'.wf) (hsz : treeSize a' k' ≤ 300) :
    Calls Tryd.prog 41 #[Ptr p] w fun e w' => e = .returned (S (treeText a' k')) ∧ Fr No w w' := by
  have e0 := congrArg Ts.size hcn
  rw [rnT_size, nd_size [] htm hat hwf] at e0
  have hks : k.size + 1 ≤ 300 := by
    simp only [Ts.size] at e0
    split at e0 <;> omega
  have FN := Lib.hid (freeNames_any w T h a d p k (by omega) hT ht)
  have hfl := fr_nlen h a k []
  simp only [List.length_nil] at hfl
  obtain ⟨tk, htk⟩ : ∃ tk, tk = frN h a k [] := ⟨_, rfl⟩
  rw [← htk] at FN hcn hfl
  have hend := rnT_bound tk (.cons h a d k .nil)
  simp only [rnT, Ts.size] at hend hcn
  simp only [nd, Ts.cons.injEq] at hcn
  obtain ⟨q1, q2, q3, q4, _⟩ := hcn
  have HQ := Lib.hid (And.intro q1 (And.intro q2 (And.intro q3 q4)))
  have HT := Lib.hid hT
  have HTM := Lib.hid ht
  have HB := Lib.hid hB
  have HTB := Lib.hid htb
  have HE : Hid ((rnT tk k (rnG tk h k 0)).2 ≤ 4000) := by show _ ≤ _; split at hend <;> omega
  have HTL : Hid (tk.length ≤ 1000) := by show _ ≤ _; omega
  have HK : Hid (k.size ≤ 5000) := by show _ ≤ _; omega
  have HTX := Lib.hid (text_len htm hwf)
  have HTK := Lib.hid (tokN_term htm hat hwf)
  have HNT := Lib.hid (tx_term [] htm hat hwf)
  have HSZ := Lib.hid hsz
  have HCV : Hid ((cv k' (.parts [])).size ≤ 300) := by
    have := nd_size [] htm hat hwf
    simp only [nd, Ts.size] at this
    show _ ≤ _
    split at this <;> omega
  clear e0 hks htk hend q1 q2 q3 q4 hT ht hB htb htm hat hwf hsz
  go_enter Tryd.func41, Tryd.ntmps41
  go_wp2_with fail
  refine FN.out.mono ?_
  rintro e w1 ⟨A, c, rfl, hf1, ho⟩
  have HF1 := Lib.hid hf1
  have hfa : Fr No w (w1.alloc (.cells #[.slice A tk.length c, .int .i64 0] 80)) := hf1.alloc _
  have RN : Hid (Calls Tryd.prog 62 #[Ptr w1.heap.size, Ptr p] (w1.alloc (.cells #[.slice A tk.length c, .int .i64 0] 80)) fun e w' =>
      ∃ p', e = .returned (Ptr p') ∧ Fr No w w' ∧ Tm w' (fun b => b < w'.heap.size) p' (ndH a' k') (ndA [] a' k') (ndD [] a') (cv k' (.parts []))) := by
    have hs1 := hf1.size
    refine (rename_any _ k (Nat.lt_succ_self _) h a d p _ T B w1.heap.size A c 0 tk HK.out (fun b hb => ⟨Nat.lt_of_lt_of_le (HT.out b hb) hfa.size, by have := HT.out b hb; omega⟩) (HTM.out.mono (fun _ h => h) (fun b hb => hfa.block b (HT.out b hb) (fun h => h))) (Nat.le_trans HB.out hs1)
      (HTB.out.fr hfa HB.out (fun _ h => h.elim)) (Blk.new _ _ _) ((SSl.of_own ho).frT (T := No) ((Fr.refl _ _).alloc _) (fun _ _ _ h => h)) (fun b o e => ?_) HTL.out HE.out).mono ?_
    · subst e
      have := (ho.lt b rfl).2
      omega
    · rintro e w' ⟨p', rfl, g1, g2, g3⟩
      refine ⟨p', rfl, hfa.then_ g1 (fun i hi e => by unfold One at e; omega), ?_⟩
      obtain ⟨e1, e2, e3, e4⟩ := HQ.out
      rw [e2, e3, e4, e1] at g3
      exact g3.mono (fun b hb => hb.elim (fun hb => Nat.lt_of_lt_of_le (HT.out b hb) (Nat.le_trans hfa.size g1.size)) (fun hb => hb.2)) (fun _ _ => rfl)
  obtain ⟨l, HL⟩ : ∃ l, Hid (tk.length = l) := ⟨_, rfl⟩
  rw [HL.out] at RN
  rw [HL.out]
  clear hf1 ho hfa
  go_wp2_with fail
  refine RN.out.mono ?_
  rintro e w3 ⟨p3, rfl, hf3, ht3⟩
  have HF3 := Lib.hid hf3
  have TXT : Hid (Calls Tryd.prog 35 #[Ptr p3, .slice none 0 0] w3 fun e w' => e = .returned (S (treeText a' k')) ∧ Fr No w3 w') := by
    have := tx_any _ (cv k' (.parts [])) (Nat.lt_succ_self _) _ _ _ p3 w3 _ none 0 [] HTK.out (by rw [HNT.out]; have := HTX.out; have := HSZ.out; omega) (by have := HCV.out; simp; omega) (fun b hb => hb) ht3 (fun j x hj => by simp at hj)
    rw [HNT.out] at this
    exact this
  clear hf3 ht3
  go_wp2_with fail
  refine TXT.out.mono ?_
  rintro e w4 ⟨rfl, hf4⟩
  go_wp2_with fail
  go_ret
  exact ⟨rfl, HF3.out.trans hf4⟩

def CanonIs (s r : List UInt8) (b : Bool) : Prop := (∃ a k, TmOk s a k ∧ r = cnT a k ∧ b = true) ∨ ((∀ a k, ¬ TmOk s a k) ∧ r = [] ∧ b = false)

theorem CanonIs.one {s r r' : List UInt8} {b b' : Bool} (h : CanonIs s r b) (h' : CanonIs s r' b') : r' = r ∧ b' = b := by
  rcases h with ⟨a, k, i1, rfl, rfl⟩ | ⟨n1, rfl, rfl⟩ <;> rcases h' with ⟨a', k', i2, rfl, rfl⟩ | ⟨n2, rfl, rfl⟩
  · obtain ⟨rfl, rfl⟩ := i1.unique i2
    exact ⟨rfl, rfl⟩
  · exact absurd i1 (n2 a k)
  · exact absurd i2 (n1 a' k')
  · exact ⟨rfl, rfl⟩

/-- the canonical term, or the failure -/
def AnsCanon (s : List UInt8) (w : World) (e : Ending) (w' : World) : Prop := ∃ r b, e = .returned (.tuple #[S r, .bool b]) ∧ CanonIs s r b ∧ Fr No w w'

set_option maxHeartbeats 1000000 in
theorem implTmCanon (w : World) (B : Nat) (s : List UInt8) (hs : s.length ≤ maxLen) (hB : B ≤ w.heap.size) (htb : Tb B w) :
    Calls Tryd.prog 23 #[S s] w fun e w' => AnsCanon s w e w' := by
  have HB := Lib.hid hB
  have HTB := Lib.hid htb
  clear hB htb
  go_enter Tryd.func23, Tryd.ntmps23
  go_wp2_with fail
  refine (readTerm_any w s hs).mono ?_
  rintro e w1 ⟨hf, ⟨a, k, p, hi, rfl, htm⟩ | ⟨hno, rfl⟩⟩
  · have hw := hi.2.wf
    have hsm := hi.2.2.2
    have HI := Lib.hid hi
    have HF := Lib.hid hf
    have CN : Hid (Calls Tryd.prog 41 #[Ptr p] w1 fun e w' => e = .returned (S (cnT a k)) ∧ Fr No w1 w') := by
      have co := cn_self hi.2.2.1 hw.1 hw.2 (by omega)
      refine canonText_any w1 B _ p _ _ _ _ (fun b hb => hb.2) htm (Nat.le_trans HB.out hf.size) (HTB.out.fr hf HB.out (fun _ h => h.elim)) a (cnK (fvs a k) a k) ?_ co.tm co.at_ co.wf (by rw [co.size]; exact hsm)
      have e1 : frN (ndH a k) (ndA [] a k) (cv k (.parts [])) [] = fvs a k := fr_term [] hi.2.2.1 hw.1 hw.2
      rw [e1]
      exact co.node
    clear hw hsm htm hi hf
    go_wp2_with fail
    refine CN.out.mono ?_
    rintro e w2 ⟨rfl, hf2⟩
    have FIN : Hid (AnsCanon s w (.returned (.tuple #[S (cnT a k), .bool true])) w2) := ⟨_, _, rfl, .inl ⟨a, k, HI.out, rfl, rfl⟩, HF.out.trans hf2⟩
    clear hf2
    go_wp2_with fail
    refine bodyPost_ret (v := .tuple #[S (cnT a k), .bool true]) (by simp [results, Tryd.results23, go_sem]) rfl ?_
    exact FIN.out
  · have FIN : Hid (AnsCanon s w (.returned (.tuple #[S [], .bool false])) w1) := ⟨_, _, rfl, .inr ⟨hno, rfl, rfl⟩, hf⟩
    clear hno hf
    go_wp2_with fail
    refine bodyPost_ret (v := .tuple #[S [], .bool false]) (by simp [results, Tryd.results23, go_sem]) rfl ?_
    exact FIN.out
end Go.Proofs.YthbidlcfahdfhaaDoor
