/- TermKids of the program. -/
import Derived.Test.YthbidlcfahdfhaaDoorTtext2
import Derived.Test.YthbidlcfahdfhaaDoorS2kids
namespace Go.Proofs.YthbidlcfahdfhaaDoor
open Go.RowKit Go.ChangeMaps

/-- the model's texts of the parts that are terms are those of the program's parts -/
theorem sk_kids (h : List UInt8) : ∀ (f : Fo) (i c : Nat), c + i = kidsOf h → isTms (some (List.replicate c true)) f = true → skU h f (i + if bindsB h then 2 else 1) = f.tlist
  | .nil, _, _, _, _ => rfl
  | .cons a k r, i, 0, _, hs => by simp [isTms] at hs
  | .cons a k r, i, c + 1, hc, hs => by
    rw [List.replicate_succ] at hs
    simp only [isTms, Bool.and_eq_true] at hs
    have hin := inn_kid h i (by omega)
    have := sk_kids h r (i + 1) c (by omega) hs.2
    simp only [skU, hin, if_true, Fo.tlist, List.singleton_append]
    rw [show (i + if bindsB h then 2 else 1) + 1 = i + 1 + if bindsB h then 2 else 1 by omega, this]

theorem kid_texts {a : List UInt8} {k : Fo} (h : isTm a k = true) (hw : a ≠ [] → k = .nil) (hk : k.wf) : txL (cv k (.parts [])) [] (ndH a k) (ndA [] a k) 0 = kidL a k := by
  by_cases ha : a = []
  · subst ha
    cases k with
    | nil => simp [isTm, isTms] at h
    | cons g k0 r =>
      have hs : isTms none (.cons g k0 r) = true := by simpa [isTm] using h
      simp only [isTms, Bool.and_eq_true] at hs
      have hs0 : shapeOf g ≠ [] := by intro e; rw [e] at hs; cases hs.1
      have e0 : kidL [] (.cons g k0 r) = skU g r 1 := rfl
      have eH : ndH [] (.cons g k0 r) = g := rfl
      rw [e0, eH]
      rcases shape_cases g with ⟨e, _⟩ | ⟨hb, e, hk1⟩ | ⟨hb, e, hk1⟩
      · exact absurd e hs0
      · rw [e] at hs
        cases r with
        | nil => simp [isTms] at hs
        | cons b nk r' =>
          have eA : ndA [] [] (.cons g k0 (.cons b nk r')) = b := by simp [ndA, hd1, hd2, hb]
          have e1 : cv (.cons g k0 (.cons b nk r')) (.parts []) = cv r' (.kids [] g b 0) := by simp [cv, hb]
          simp only [isTms, Bool.and_eq_true] at hs
          have h1 := ((tx_eq r' hk.2.2.2.2).1 [] g b 0 _ hs.2.2)
          have h2 := sk_kids g r' 0 _ (by omega) hs.2.2
          rw [hb] at h2
          have e3 : innB g 1 = false := by unfold innB; rw [e]; rfl
          rw [eA, e1, h1, ← h2]
          simp [skU, e3]
      · rw [e] at hs
        have eA : ndA [] [] (.cons g k0 r) = [] := by simp [ndA, hd1, hb]
        have e1 : cv (.cons g k0 r) (.parts []) = cv r (.kids [] g [] 0) := by simp [cv, hb]
        have h1 := ((tx_eq r hk.2.2).1 [] g [] 0 _ hs.2)
        have h2 := sk_kids g r 0 _ (by omega) hs.2
        rw [hb] at h2
        rw [eA, e1, h1, ← h2]
        rfl
  · obtain rfl := hw ha
    cases a
    · exact absurd rfl ha
    · rfl

theorem AnsKids.none_ {s : List UInt8} {w w1 : World} {A : Option Addr} {c : Nat} (ho : w1.ownsRow w.heap.size 9 1 (.slice A 0 c) 0 []) (hf : Fr No w w1) (hno : ∀ a k, ¬ TmOk s a k) : AnsKids s w (.returned (.tuple #[.slice A 0 c, .bool false])) w1 :=
  ⟨A, c, false, [], rfl, ho, hf, .inr ⟨hno, rfl, rfl⟩⟩

theorem tok_term {a : List UInt8} {k : Fo} (h : isTm a k = true) (hw : a ≠ [] → k = .nil) (hk : k.wf) : Tok (cv k (.parts [])) [] (ndH a k) (ndA [] a k) 0 := by
  by_cases ha : a = []
  · subst ha
    have h2 : isTms none k = true := by simpa [isTm] using h
    simp only [ndH, ndA, if_true]
    exact (tok_eq k hk).2.1 [] h2
  · obtain rfl := hw ha
    trivial

set_option maxRecDepth 100000 in
set_option maxHeartbeats 2000000 in
theorem implTmKids (w : World) (s : List UInt8) (hs : s.length ≤ maxLen) :
    Calls Tryd.prog 16 #[S s] w fun e w' => AnsKids s w e w' := by
  have ho0 := own_empty w w.heap.size (Nat.le_refl _) _ rfl
  have hf0 : Fr No w (w.alloc (.cells #[] 9)) := (Fr.refl _ _).alloc _
  go_enter Tryd.func16, Tryd.ntmps16
  go_wp2_with fail
  refine (readTerm_any _ s hs).mono ?_
  rintro e w1 ⟨hf, ⟨a, k0, p, hi, rfl, htm⟩ | ⟨hno, rfl⟩⟩
  · have hw := hi.2.wf
    have hsz := node_size [] hi.2.2.1 hw.1 hw.2
    have hsm := hi.2.2.2
    have hkt := kid_texts hi.2.2.1 hw.1 hw.2
    have HTOK := Lib.hid (tok_term hi.2.2.1 hw.1 hw.2)
    have HTX := Lib.hid (tx_term [] hi.2.2.1 hw.1 hw.2)
    have HLEN : Hid ((treeText a k0).length ≤ 6000) := by
      have := hi.1
      rw [hi.2.text] at this
      exact this
    have HK3 := Lib.hid (kidL_len hi)
    have HI := Lib.hid hi
    have HO1 := Lib.hid (own_fr ho0 hf (fun _ _ h => h))
    have HF1 := Lib.hid (hf0.trans hf)
    have hks : (cv k0 (.parts [])).size ≤ 300 := by split at hsz <;> omega
    have HNB0 : (cv k0 (.parts [])).len ≠ 0 → ¬ (ndH a k0 = hName ∧ ndA [] a k0 = []) := by
      intro hl
      by_cases ha : a = []
      · subst ha
        have htm2 := hi.2.2.1
        have hne : ndH [] k0 ≠ hName := by
          cases k0 with
          | nil => exact fun e => by cases e
          | cons g _ _ =>
            simp only [ndH, if_true, hd1]
            rintro rfl
            simp only [isTm, if_true, isTms, Bool.and_eq_true] at htm2
            revert htm2; simp [shapeOf, hName, hLam, hApp, hPair, hFst, hSnd, hIf, hLet]
        exact fun e => hne e.1
      · obtain rfl := hw.1 ha
        exact absurd rfl hl
    have HNB1 := Lib.hid HNB0
    clear HNB0
    obtain ⟨all, HALL⟩ : ∃ z, Hid (kidL a k0 = z) := ⟨_, rfl⟩
    rw [HALL.out] at hkt HK3
    have HKT := Lib.hid hkt
    generalize hh : ndH a k0 = h at *
    generalize ha2 : ndA [] a k0 = a2 at *
    generalize hkk : cv k0 (.parts []) = k at *
    generalize hdd : ndD [] a = d at *
    obtain ⟨hp, AK, ck, hb, hsl⟩ := htm.open_
    have HT : Hid (∀ b, NewT (w.alloc (.cells #[] 9)) w1 b → b < w1.heap.size) := fun b hb => hb.2
    have c0 : w1.cell? ⟨p, 0, none⟩ = some (S h) := (hb.cell 0).trans rfl
    have c1 : w1.cell? ⟨p, 1, none⟩ = some (S a2) := (hb.cell 1).trans rfl
    have c3 : w1.cell? ⟨p, 3, none⟩ = some (.slice AK k.len ck) := (hb.cell 3).trans rfl
    have hlt := hb.lt
    have HBK := Lib.hid hb
    have HSL := Lib.hid hsl
    have hkl := Ts.len_size k
    have hk6 : (k.len : Int) ≤ 800 := by omega
    have HKTL : Hid (k.len ≤ 3) := by
      have := txL_len k [] h a2 0
      rw [HKT.out] at this
      have := HK3.out
      refine Lib.hid ?_
      omega
    clear hi hf hw hsz hsm hkt hb hsl htm ho0 hf0 hh ha2 hkk hdd
    go_wp2_with fail
    go_loopw [4, 19] (fun v i wr => ∃ (j : Nat) (l' : List (List UInt8)) (A' : Option Addr) (c' : Nat), j ≤ k.len ∧ i = .int .i64 j ∧ v = .slice A' l'.length c' ∧ l' ++ txL (k.from_ j) [] h a2 j = all ∧ Fr No w wr ∧ Fr (fun b => w.heap.size = b) w1 wr ∧ (∀ b, (Value.slice A' l'.length c').ownBlock = some b → w.heap.size = b ∨ w1.heap.size ≤ b) ∧
        wr.ownsRow w.heap.size 9 1 (.slice A' l'.length c') l'.length (l'.map S)) (fun _ i _ => k.len - (intOf i).toNat)
    case atStart => exact ⟨0, [], _, 0, Nat.zero_le _, rfl, rfl, by rw [Ts.from_zero]; exact HKT.out, HF1.out, Fr.refl _ _, fun b hb => by simp only [Value.ownBlock, Option.some.injEq] at hb; exact .inl hb, HO1.out⟩
    case round =>
      obtain ⟨j, l', A', c', hj, rfl, rfl, hsum, hfr, hfr1, hloc, hown⟩ := hrel
      have HS := Lib.hid hsum
      have HW := Lib.hid hown
      have HFR := Lib.hid hfr
      have HFR1 := Lib.hid hfr1
      have HLO := Lib.hid hloc
      have hll : l'.length ≤ 900 := by
        have h1 := congrArg List.length hsum
        have := HK3.out
        simp only [List.length_append] at h1
        omega
      clear hsum hown hfr hfr1 hloc
      by_cases hlt2 : j < k.len
      · have HTN : Hid (∀ b, NewT (w.alloc (.cells #[] 9)) w1 b → ¬ w.heap.size = b) := fun b hb => by
          have := hb.1
          simp at this
          omega
        have HPN : Hid (¬ w.heap.size = p) := HTN.out p hp
        obtain ⟨g, o, q, h', a', d', k', rfl, hg, hn, hc, htm⟩ := (HSL.out.mono (T' := NewT (w.alloc (.cells #[] 9)) w1) (fun _ h => h) (fun b hb => HFR1.out.block b (HT.out b hb) (HTN.out b hb))).at_ hlt2
        have hst := tx_step (i := j) (ph := h) (pa := a2) (bs := []) hn
        have hz := Ts.nth_size hn
        have htk := tok_at k j 0 h' a' h a2 d' k' [] HTOK.out hn
        rw [Nat.zero_add] at htk
        have hlg := block_lt hc
        have hjk : j ≤ 1000 := by omega
        have hil := ins_len [] h a2 j
        simp only [List.length_nil] at hil
        obtain ⟨tx, HTXX⟩ : ∃ z, Hid (txN (insB [] h a2 j) h' a' d' k' = z) := ⟨_, rfl⟩
        have HTT : Hid ((l' ++ [tx]) ++ txL (k.from_ (j + 1)) [] h a2 (j + 1) = all) := by
          have := HS.out
          rw [hst, HTXX.out] at this
          refine Lib.hid ?_
          simpa using this
        have htl : tx.length ≤ 10000 := by
          have h1 : tx ∈ txL k [] h a2 0 := by rw [HKT.out, ← HTT.out]; simp
          have h2 := HTX.out
          have h3 := HLEN.out
          rw [← h2] at h3
          unfold txN at h3
          have hkne : k.len ≠ 0 := by omega
          by_cases hbb : h = hName ∧ a2 = []
          · exact absurd hbb (HNB1.out hkne)
          · rw [if_neg hbb, if_neg hkne] at h3
            have h4 := spj_le (x := tx) (l := h :: ((if bindsB h then [a2] else []) ++ txL k [] h a2 0)) (by simp [h1])
            simp only [List.length_cons, List.length_append, List.length_nil] at h3
            omega
        have HBW : Hid (∀ w', Fr No wr w' → w'.cell? ⟨p, 0, none⟩ = some (S h) ∧ w'.cell? ⟨p, 1, none⟩ = some (S a2) ∧ p < w'.heap.size) := fun w' hf => by
          have h1 := (HBK.out.fr HFR1.out HPN.out).fr hf (fun h => h)
          exact ⟨(h1.cell 0).trans rfl, (h1.cell 1).trans rfl, h1.lt⟩
        have INS : Hid (∀ w', w' = wr.drew → Calls Tryd.prog 36 #[.slice none 0 0, S h, S a2, .int .i64 j] w' fun e w1 => ∃ Z zc, e = .returned (.slice Z (insB [] h a2 j).length zc) ∧ Fr No wr w1 ∧ NSl w1 Z (insB [] h a2 j)) := by
          rintro w' rfl
          have hfd : Fr No wr wr.drew := (Fr.refl _ _).drew
          refine (inside_any wr.drew none [] 0 0 rfl h a2 j (fun j x hj => by simp at hj) (by omega) hjk).mono ?_
          rintro e w1 ⟨Z, zc, rfl, z1, z2, _⟩
          exact ⟨Z, zc, rfl, hfd.trans z1, z2⟩
        have TXC : Hid (∀ (wa : World) (Z : Option Addr) (zc : Nat), Fr No wr wa → NSl wa Z (insB [] h a2 j) → Calls Tryd.prog 35 #[Ptr q, .slice Z (insB [] h a2 j).length zc] wa fun e w2 => e = .returned (S tx) ∧ Fr No wr w2) := by
          intro wa Z zc hf hz1
          refine (tx_any _ k' (Nat.lt_succ_self _) h' a' d' q wa (NewT (w.alloc (.cells #[] 9)) w1) Z zc _ htk (by rw [HTXX.out]; exact htl) (by omega) (fun b hb => Nat.lt_of_lt_of_le (HT.out b hb) (Nat.le_trans HFR1.out.size hf.size)) (htm.mono (fun _ h => h) (fun b hb => hf.block b (Nat.lt_of_lt_of_le (HT.out b hb) HFR1.out.size) (fun h => h))) hz1).mono ?_
          rintro e w2 ⟨rfl, hf2⟩
          exact ⟨by rw [HTXX.out], hf.trans hf2⟩
        obtain ⟨i0, hi0, hz0, hz1, hz2⟩ := info_parts info_str
        have HOWA : Hid (∀ w2, Fr No wr w2 → ∀ ob : Obj, (w2.alloc ob).ownsRow w.heap.size 9 1 (.slice A' l'.length c') l'.length (l'.map S)) := fun w2 hf ob => own_fr HW.out (hf.alloc ob) (fun _ _ h => h)
        have HNW : Hid (∀ w2 : World, ∀ (j : Nat) (u : Value), [S tx][j]? = some u → (w2.alloc (.cells #[S tx] 9)).cell? ((⟨w2.heap.size, 0, none⟩ : Addr).add j) = some u) := fun w2 => cells_new rfl [S tx] 9
        have HC2 : Hid (∀ u ∈ [S tx], u.oneCell' = true) := by
          intro u hu
          simp at hu
          rw [hu]; rfl
        have HBB : Hid (∀ w2, Fr No wr w2 → ∀ ob : Obj, w.heap.size ≤ (w2.alloc ob).heap.size) := fun w2 hf ob => Nat.le_trans HFR.out.size (hf.alloc ob).size
        have bnd : (l'.length + 1) * 16 ≤ 140737488355328 := by omega
        have bnd2 : l'.length + 1 ≤ maxLen := by unfold maxLen; omega
        have FINN : Hid (∀ w2, Fr No wr w2 → ∀ (ob : Obj) (g4 cap4 : Nat) (w4 : World), w4.ownsRow w.heap.size 9 1 (.slice (some ⟨g4, 0, none⟩) (l'.length + 1) cap4) (l'.length + 1) (l'.map S ++ [S tx]) → (w2.alloc ob).grownBy w4 (Value.slice A' l'.length c').ownBlock →
            ((Value.slice A' l'.length c').ownBlock = some g4 ∨ g4 = w2.heap.size + 1) →
            w4.cell? ⟨p, 0, none⟩ = some (S h) ∧ w4.cell? ⟨p, 1, none⟩ = some (S a2) ∧ Fr No w w4 ∧ Fr (fun b => w.heap.size = b) w1 w4 ∧ (∀ b, (Value.slice (some ⟨g4, 0, none⟩) (l' ++ [tx]).length cap4).ownBlock = some b → w.heap.size = b ∨ w1.heap.size ≤ b) ∧ w4.ownsRow w.heap.size 9 1 (.slice (some ⟨g4, 0, none⟩) (l' ++ [tx]).length cap4) (l' ++ [tx]).length ((l' ++ [tx]).map S)) := by
          intro w2 hf ob g4 cap4 w4 h2 h3 h4
          have e1 : l'.map S ++ [S tx] = (l' ++ [tx]).map S := by simp
          have e2 : (l' ++ [tx]).length = l'.length + 1 := by simp
          rw [e1, ← e2] at h2
          have hfw : Fr No w w4 := (HFR.out.trans (hf.alloc ob)).grown h3 (fun b hb => .inr (HW.out.lt b hb).1)
          have hfw1 : Fr (fun b => w.heap.size = b) w1 w4 := (HFR1.out.then_ (hf.alloc ob) (fun _ _ h => h.elim)).grown h3 (fun b hb => HLO.out b hb)
          have hbw := HBK.out.fr hfw1 HPN.out
          refine ⟨(hbw.cell 0).trans rfl, (hbw.cell 1).trans rfl, hfw, hfw1, fun b hb => ?_, h2⟩
          simp only [Value.ownBlock, Option.some.injEq] at hb
          subst hb
          rcases h4 with h4 | h4
          · exact HLO.out _ h4
          · right
            have h5 := HFR1.out.size
            have h6 := hf.size
            omega
        obtain ⟨b0, b1, bl⟩ := HBW.out wr (Fr.refl _ _)
        obtain ⟨ib, HIB⟩ : ∃ z, Hid ((insB [] h a2 j).length = z) := ⟨_, rfl⟩
        rw [HIB.out] at INS TXC
        clear hst hn hz htk htm htl hil
        go_wp2_with fail
        go_region_held3 (fun w' => w'.cell? ⟨p, 0, none⟩ = some (S h) ∧ w'.cell? ⟨p, 1, none⟩ = some (S a2)) (go_keep)
          (first | (go_at_call 36; ((with_reducible refine (INS.out _ rfl).mono ?_); rintro e wa ⟨Z, zc, rfl, z1, z2⟩; obtain ⟨d0, d1, dl⟩ := HBW.out wa z1)) | (go_at_call 35; ((with_reducible refine (TXC.out _ _ _ z1 z2).mono ?_); rintro e w2 ⟨rfl, k1⟩; obtain ⟨e0, e1, el⟩ := HBW.out w2 k1)) | (refine step_append_lies _ (by rfl) _ _ _ (by rfl) w.heap.size 9 i0 (.string ⟨#[]⟩) 1 16 Tryd.underlying24 hi0 hz0 hz1 hz2 (by rfl) (by decide) (.slice A' l'.length c') l'.length (l'.map S) (by rfl) (HOWA.out _ k1 _) ⟨w2.heap.size, 0, none⟩ 1 1 [S tx] (by rfl) (by rfl) (HNW.out w2) HC2.out (by decide) bnd2 bnd (HBB.out _ k1 _) (w2.heap.size + 1) (by simp) ?_; intro g4 cap4 w4 hown4 hgrow hat hlt4; obtain ⟨f0, f1, f2, f3, f4, f5⟩ := FINN.out w2 k1 _ g4 cap4 w4 hown4 hgrow hat; have REL := Lib.hid (And.intro f2 (And.intro f3 (And.intro f4 f5)))))
        go_wp2_with fail
        go_roundw
        case rel => exact ⟨j + 1, l' ++ [tx], some ⟨g4, 0, none⟩, cap4, by omega, by go_num, by simp, HTT.out, REL.out.1, REL.out.2.1, REL.out.2.2.1, REL.out.2.2.2⟩
        case measure => simp [intOf]; omega
      · have hjl : j = k.len := by omega
        have HE : Hid (l' = all) := by
          have := HS.out
          rw [hjl, Ts.from_len] at this
          refine Lib.hid ?_
          simpa [txL] using this
        have HFN : Hid (AnsKids s w (.returned (.tuple #[.slice A' l'.length c', .bool true])) wr) := ⟨A', c', true, l', rfl, HW.out, HFR.out, .inl ⟨a, k0, HI.out, by rw [HE.out, HALL.out], rfl⟩⟩
        clear hjl
        go_wp2_with fail
        refine bodyPost_ret (v := .tuple #[.slice A' l'.length c', .bool true]) (by simp [results, Tryd.results16, go_sem]) rfl ?_
        exact HFN.out
  · have HFN := Lib.hid (AnsKids.none_ (own_fr ho0 hf (fun _ _ h => h)) (hf0.trans hf) hno)
    clear hno hf ho0 hf0
    go_wp2_with fail
    refine bodyPost_ret (v := .tuple #[.slice (some ⟨w.heap.size, 0, none⟩) 0 0, .bool false]) (by simp [results, Tryd.results16, go_sem]) rfl ?_
    exact HFN.out
end Go.Proofs.YthbidlcfahdfhaaDoor
