/- TermKids of the model. -/
import Derived.Test.YthbidlcfahdfhaaDoorStext
import Derived.Test.YthbidlcfahdfhaaDoorS2free3
namespace Go.Proofs.YthbidlcfahdfhaaDoor
open Go.RowKit Go.ChangeMaps

theorem cnt_tms : ∀ (f : Fo) (sh : Option (List Bool)), f.wf → isTms sh f = true → f.cnt ≤ 2 * f.size ∧ (sh = none → f.cnt + 1 ≤ 2 * f.size) := by
  intro f
  induction f with
  | nil => intro sh _ h; exact ⟨Nat.le_refl _, fun e => by subst e; cases h⟩
  | cons a k r ihk ihr =>
    intro sh hw h
    match sh, h with
    | none, h =>
      simp only [isTms, Bool.and_eq_true] at h
      obtain ⟨h1, h2⟩ := h
      have hs : shapeOf a ≠ [] := by intro e; rw [e] at h1; cases h1
      have hh := (shape_head hs).1
      obtain rfl := hw.1 hh
      have := (ihr _ hw.2.2 h2).1
      simp only [Fo.cnt, Fo.size, if_neg hh]
      omega
    | some (true :: sh), h =>
      simp only [isTms, Bool.and_eq_true] at h
      have h2 := (ihr _ hw.2.2 h.2).1
      by_cases ha : a = []
      · subst ha
        simp only [if_true] at h
        have := (ihk none hw.2.1 h.1).2 rfl
        simp only [Fo.cnt, Fo.size, if_true]
        exact ⟨by omega, fun e => by cases e⟩
      · obtain rfl := hw.1 ha
        simp only [Fo.cnt, Fo.size, if_neg ha]
        exact ⟨by omega, fun e => by cases e⟩
    | some (false :: sh), h =>
      simp only [isTms, Bool.and_eq_true] at h
      have hn := (name_bytes h.1).1
      have h2 := (ihr _ hw.2.2 h.2).1
      obtain rfl := hw.1 hn
      simp only [Fo.cnt, Fo.size, if_neg hn]
      exact ⟨by omega, fun e => by cases e⟩
    | some [], h => simp [isTms] at h

theorem cnt_nth {f : Fo} {j : Nat} {a : List UInt8} {k : Fo} (h : f.nth j = some (a, k)) : k.cnt < f.cnt := Fo.nth_cnt f j a k h

/-- the texts of the parts that are terms, as the model takes them -/
def skU (h : List UInt8) : Fo → Nat → List (List UInt8)
  | .nil, _ => []
  | .cons a k r, i => (if innB h i = true then [treeText a k] else []) ++ skU h r (i + 1)

def kidL (a : List UInt8) (k : Fo) : List (List UInt8) := match a, k with
  | [], .cons h _ r => skU h r 1
  | _, _ => []

theorem sk_step {f : Fo} {j i : Nat} {a h : List UInt8} {k : Fo} (e : f.nth j = some (a, k)) : skU h (f.from_ j) i = (if innB h i = true then [treeText a k] else []) ++ skU h (f.from_ (j + 1)) (i + 1) := by
  rw [Fo.from_nth f j a k e]
  rfl

theorem sk_len (h : List UInt8) : ∀ (f : Fo) (i : Nat), (skU h f i).length ≤ f.len
  | .nil, _ => Nat.le_refl _
  | .cons a k r, i => by
    have := sk_len h r (i + 1)
    simp only [skU, List.length_append, Fo.len]
    split <;> simp <;> omega

def KidsIs (s : List UInt8) (xs : List (List UInt8)) (b : Bool) : Prop := (∃ a k, TmOk s a k ∧ xs = kidL a k ∧ b = true) ∨ ((∀ a k, ¬ TmOk s a k) ∧ xs = [] ∧ b = false)

theorem KidsIs.one {s : List UInt8} {xs xs' : List (List UInt8)} {b b' : Bool} (h : KidsIs s xs b) (h' : KidsIs s xs' b') : xs' = xs ∧ b' = b := by
  rcases h with ⟨a, k, i1, rfl, rfl⟩ | ⟨n1, rfl, rfl⟩ <;> rcases h' with ⟨a', k', i2, rfl, rfl⟩ | ⟨n2, rfl, rfl⟩
  · obtain ⟨rfl, rfl⟩ := i1.unique i2
    exact ⟨rfl, rfl⟩
  · exact absurd i1 (n2 a k)
  · exact absurd i2 (n1 a' k')
  · exact ⟨rfl, rfl⟩

theorem kidL_len {s a : List UInt8} {k : Fo} (h : TmOk s a k) : (kidL a k).length ≤ 3 := by
  unfold kidL
  split
  · rename_i g k0 r
    have htm := h.2.2.1
    simp only [isTm, if_true, isTms, Bool.and_eq_true] at htm
    have h1 := isTms_len _ _ htm.2
    have h2 := sk_len g r 1
    have h3 := shape_short g
    omega
  · simp

theorem KidsIs.len {s : List UInt8} {xs : List (List UInt8)} {b : Bool} (h : KidsIs s xs b) : xs.length ≤ 900 := by
  rcases h with ⟨a, k, i1, rfl, rfl⟩ | ⟨n1, rfl, rfl⟩
  · have := kidL_len i1
    omega
  · simp

def AnsKids (s : List UInt8) (w : World) (e : Ending) (w' : World) : Prop :=
  ∃ V vc b xs, e = .returned (.tuple #[.slice V xs.length vc, .bool b]) ∧ w'.ownsRow w.heap.size 9 1 (.slice V xs.length vc) xs.length (xs.map S) ∧ Fr No w w' ∧ KidsIs s xs b

set_option maxRecDepth 100000 in
set_option maxHeartbeats 2000000 in
theorem specTmKids (w : World) (s : List UInt8) (hs : s.length ≤ maxLen) :
    Calls Tryd.prog 15 #[S s] w fun e w' => AnsKids s w e w' := by
  go_enter Tryd.func15, Tryd.ntmps15
  go_wp2_with fail
  refine (term_any s _ hs).mono ?_
  rintro e w1 ⟨hf, ⟨a, k, A, c, hi, rfl, hsl⟩ | ⟨a, A, m, c, hno, rfl⟩⟩
  · have HI := Lib.hid hi
    have HF := Lib.hid hf
    by_cases ha : a = []
    · subst ha
      have htm := hi.2.2.1
      cases k with
      | nil => simp [isTm, isTms] at htm
      | cons h k0 r =>
        simp only [isTm, if_true, isTms, Bool.and_eq_true] at htm
        obtain ⟨hsn, htm⟩ := htm
        have hpb := Parsed.bounds ⟨hi.1, hi.2.1⟩
        have hwf := hi.2.wf
        have hcn := (cnt_tms _ none hwf.2 (by simpa [isTm] using hi.2.2.1)).2 rfl
        have hsz := hi.2.2.2
        have hrl := isTms_len _ _ htm
        have hsl3 := shape_short h
        have HTM := Lib.hid htm
        have htx := hi.2.text
        have hsi := hi.1
        obtain ⟨res, HRES⟩ : ∃ t, Hid (skU h r 1 = t) := ⟨_, rfl⟩
        have HL900 : Hid (res.length ≤ 900) := by
          have := kidL_len hi
          have e : kidL [] (.cons h k0 r) = skU h r 1 := rfl
          rw [e, HRES.out] at this
          show _ ≤ _
          omega
        obtain ⟨m, HM⟩ : ∃ m, Hid (m = (shapeOf h).length) := ⟨_, rfl⟩
        obtain ⟨L, HL⟩ : ∃ L, Hid ((Fo.cons h k0 r).len = L) := ⟨_, rfl⟩
        have HLM : Hid (L = m + 1) := by
          have h1 := HL.out
          have h2 := HM.out
          show L = m + 1
          simp only [Fo.len] at h1
          omega
        have HRL : Hid (r.len = m) := by
          have h2 := HM.out
          show r.len = m
          omega
        rw [← HM.out] at hsl3
        rw [HL.out]
        have HA := Lib.hid hsl
        have HT : Hid (∀ b, New w w1 b → b < w1.heap.size) := fun b hb => hb.2
        have b0 := Blk.new w1 36 #[S [], .slice A L c]
        have HO0 : Hid (((w1.alloc (.cells #[S [], .slice A L c] 36)).alloc (.cells #[] 9)).ownsRow w.heap.size 9 1 (.slice (some ⟨w1.heap.size + 1, 0, none⟩) 0 0) 0 []) := by
          have := own_empty (w1.alloc (.cells #[S [], .slice A L c] 36)) w.heap.size (by have := hf.size; simp; omega) _ rfl
          refine Lib.hid ?_
          simpa using this
        have HSN : Hid (∀ j a' k', r.nth j = some (a', k') → (treeText a' k').length + k'.cnt ≤ 100000 ∧ k'.len ≤ 100000 ∧ k'.short) := by
          intro j a' k' hn
          have h1 := cnt_nth (f := .cons h k0 r) (j := j + 1) hn
          have h2 := Fo.nth_text (f := .cons h k0 r) (j := j + 1) hn
          have h3 := short_nth (f := .cons h k0 r) (j := j + 1) hpb.2.2.2.2 hn
          have h4 : s.length = (Fo.cons h k0 r).texts.length + 2 := by rw [htx]; simp [treeText]
          have h5 : treeSize [] (.cons h k0 r) = (Fo.cons h k0 r).size := by simp [treeSize]
          exact ⟨by omega, h3⟩
        clear hi hf hsl hpb hwf hcn hsz hrl htm htx hsi hsn
        go_wp2_with fail
        go_loopw [6, 7] (fun v i wr => ∃ (j : Nat) (l' : List (List UInt8)) (A' : Option Addr) (c' : Nat), j ≤ m ∧ i = .int .i64 ((j + 1 : Nat) : Int) ∧ v = .slice A' l'.length c' ∧ l' ++ skU h (r.from_ j) (j + 1) = res ∧
            Fr No w1 wr ∧ Blk wr w1.heap.size 36 #[S [], .slice A L c] ∧ wr.ownsRow w.heap.size 9 1 (.slice A' l'.length c') l'.length (l'.map S) ∧ (∀ b, (Value.slice A' l'.length c').ownBlock = some b → w1.heap.size + 1 ≤ b)) (fun _ i _ => m + 1 - (intOf i).toNat)
        case atStart => exact ⟨0, [], _, _, Nat.zero_le _, rfl, rfl, by rw [Fo.from_zero]; exact HRES.out, ((Fr.refl _ _).alloc _).alloc _, b0.alloc _, HO0.out, fun b hb => by simp only [Value.ownBlock, Option.some.injEq] at hb; omega⟩
        case round =>
          obtain ⟨j, l', A', c', hj, rfl, rfl, hsum, hfr, hb, hown, hloc⟩ := hrel
          have HS := Lib.hid hsum
          have HW := Lib.hid hown
          have HLO := Lib.hid hloc
          have HFR := Lib.hid hfr
          have HBK := Lib.hid hb
          have hll : l'.length ≤ 900 := by
            have h1 := congrArg List.length hsum
            have := HL900.out
            simp only [List.length_append] at h1
            omega
          have c1 : wr.cell? ⟨w1.heap.size, 1, none⟩ = some (.slice A L c) := (hb.cell 1).trans rfl
          have c0 : wr.cell? ⟨w1.heap.size, 0, none⟩ = some (S []) := (hb.cell 0).trans rfl
          have hlw := hb.lt
          clear hsum hown hloc hfr hb
          by_cases hlt : j < m
          · have hAr : Sl wr (New w w1) A (.cons h k0 r) := HA.out.fr HT.out HFR.out
            obtain ⟨g, o, a', k', A2, c2, rfl, hg, hn, q0, q1, hsl'⟩ := hAr.nth (j := j + 1) (by rw [HL.out, HLM.out]; omega)
            have hnr : r.nth j = some (a', k') := hn
            have hlg := block_lt q0
            obtain ⟨b, hbj⟩ : ∃ b, (shapeOf h)[j]? = some b := ⟨_, List.getElem?_eq_getElem (by rw [← HM.out]; exact hlt)⟩
            have hst := sk_step (h := h) (i := j + 1) hnr
            have hin : innB h (j + 1) = b := by
              unfold innB
              rw [show j + 1 - 1 = j by omega, hbj]
              cases b <;> rfl
            rw [hin] at hst
            have IN : Hid (Calls Tryd.prog 33 #[.agg #[S [], .slice (some ⟨g, o, none⟩) L c], .int .i64 ((j + 1 : Nat) : Int)] wr fun e w' => e = .returned (.bool b) ∧ Fr No wr w') :=
              HL.out ▸ inner_any wr (New w w1) [] h k0 r _ c (j + 1) b (by omega) hbj hAr
            have hjc : (j : Int) + 1 < (L : Int) := by have := HLM.out; omega
            have hjn : j + 1 < L := by have := HLM.out; omega
            cases b
            · have HTT : Hid (l' ++ skU h (r.from_ (j + 1)) (j + 1 + 1) = res) := by
                have := HS.out
                rw [hst] at this
                exact this
              clear hst hin hn hnr hbj
              go_wp2_with fail
              refine IN.out.mono ?_
              rintro e w2 ⟨rfl, hf1⟩
              have REL : Hid (Fr No w1 w2 ∧ Blk w2 w1.heap.size 36 #[S [], .slice (some ⟨g, o, none⟩) L c] ∧ w2.ownsRow w.heap.size 9 1 (.slice A' l'.length c') l'.length (l'.map S)) :=
                ⟨HFR.out.trans hf1, HBK.out.fr hf1 (fun h => h), own_fr HW.out hf1 (fun _ _ h => h)⟩
              clear hf1
              go_wp2_with fail
              go_roundw
              case rel => exact ⟨j + 1, l', A', c', by omega, by go_num, rfl, HTT.out, REL.out.1, REL.out.2.1, REL.out.2.2, HLO.out⟩
              case measure => simp [intOf]; omega
            · have HTT : Hid ((l' ++ [treeText a' k']) ++ skU h (r.from_ (j + 1)) (j + 1 + 1) = res) := by
                have := HS.out
                rw [hst] at this
                refine Lib.hid ?_
                simpa using this
              have hsn := HSN.out j a' k' hnr
              have HSL' := Lib.hid hsl'
              have HSNN := Lib.hid hsn
              have TX : Hid (∀ w', Fr No wr w' → Calls Tryd.prog 34 #[.agg #[S a', .slice A2 k'.len c2]] w' fun e w2 => e = .returned (S (treeText a' k')) ∧ Fr No w' w2) := fun w' hf =>
                spec_text _ k' (Nat.lt_succ_self _) a' A2 c2 w' (New w w1) 100000 HSNN.out.1 (by omega) HSNN.out.2.1 HSNN.out.2.2 (fun b hb => Nat.lt_of_lt_of_le (HT.out b hb) (HFR.out.trans hf).size) (HSL'.out.fr (fun b hb => Nat.lt_of_lt_of_le (HT.out b hb) HFR.out.size) hf)
              generalize treeText a' k' = tx at HTT TX
              clear hst hin hn hnr hbj hsn hsl' hAr
              go_wp2_with fail
              refine IN.out.mono ?_
              rintro e w2 ⟨rfl, hf1⟩
              have hb2 := HBK.out.fr hf1 (fun h => h)
              have d1 : w2.cell? ⟨w1.heap.size, 1, none⟩ = some (.slice (some ⟨g, o, none⟩) L c) := (hb2.cell 1).trans rfl
              have t0 : w2.cell? ⟨g, o + (j + 1) * 2, none⟩ = some (S a') := (hf1.cell (p := ⟨g, o + (j + 1) * 2, none⟩) hlg (fun h => h)).trans q0
              have t1 : w2.cell? ⟨g, o + (j + 1) * 2 + 1, none⟩ = some (.slice A2 k'.len c2) := (hf1.cell (p := ⟨g, o + (j + 1) * 2 + 1, none⟩) hlg (fun h => h)).trans q1
              have hlg2 : g < w2.heap.size := Nat.lt_of_lt_of_le hlg hf1.size
              have TX2 := Lib.hid (TX.out w2 hf1)
              have HF1 := Lib.hid hf1
              clear hb2 hf1 TX
              go_wp2_with fail
              refine TX2.out.mono ?_
              rintro e w3 ⟨rfl, hf3⟩
              have HF3 : Hid (Fr No wr w3) := HF1.out.trans hf3
              obtain ⟨i0, hi0, hz0, hz1, hz2⟩ := info_parts info_str
              have HOA : Hid (∀ ob : Obj, (w3.alloc ob).ownsRow w.heap.size 9 1 (.slice A' l'.length c') l'.length (l'.map S)) := fun ob => (own_fr HW.out HF3.out (fun _ _ h => h)).alloc ob
              have HC1 : Hid (∀ (j : Nat) (u : Value), [S tx][j]? = some u → (w3.alloc (.cells #[S tx] 9)).cell? ((⟨w3.heap.size, 0, none⟩ : Addr).add j) = some u) := cells_new rfl [S tx] 9
              have HC2 : Hid (∀ u ∈ [S tx], u.oneCell' = true) := by
                intro u hu
                simp at hu
                rw [hu]; rfl
              have hB3 : w.heap.size ≤ w3.heap.size := Nat.le_trans HF.out.size (Nat.le_trans HFR.out.size HF3.out.size)
              have HC5 : Hid (∀ ob : Obj, w.heap.size ≤ (w3.alloc ob).heap.size) := fun ob => by simp; omega
              have bnd : (l'.length + 1) * 16 ≤ 140737488355328 := by omega
              have bnd2 : l'.length + 1 ≤ maxLen := by unfold maxLen; omega
              have FIN : Hid (∀ (ob : Obj) (v' : Value) (w4 : World), w4.ownsRow w.heap.size 9 1 v' (l'.length + 1) (l'.map S ++ [S tx]) → (w3.alloc ob).grownBy w4 (Value.slice A' l'.length c').ownBlock →
                  (v'.ownBlock = (Value.slice A' l'.length c').ownBlock ∨ v'.ownBlock = some (w3.alloc ob).heap.size) → ∃ A4 c4, v' = .slice A4 (l' ++ [tx]).length c4 ∧ Fr No w1 w4 ∧ Blk w4 w1.heap.size 36 #[S [], .slice (some ⟨g, o, none⟩) L c] ∧ w4.ownsRow w.heap.size 9 1 (.slice A4 (l' ++ [tx]).length c4) (l' ++ [tx]).length ((l' ++ [tx]).map S) ∧ (∀ b, (Value.slice A4 (l' ++ [tx]).length c4).ownBlock = some b → w1.heap.size + 1 ≤ b)) := by
                intro ob v' w4 h1 h2 h3
                obtain ⟨A4, c4, rfl⟩ := own_form h1
                have e1 : l'.map S ++ [S tx] = (l' ++ [tx]).map S := by simp
                have e2 : (l' ++ [tx]).length = l'.length + 1 := by simp
                rw [e1] at h1
                have hfa : Fr No wr (w3.alloc ob) := HF3.out.alloc ob
                have hg1 : Fr (fun b => (Value.slice A' l'.length c').ownBlock = some b) (w3.alloc ob) w4 := (Fr.refl _ _).grown h2 (fun k hk => .inl hk)
                refine ⟨A4, c4, by rw [e2], (HFR.out.trans hfa).then_ hg1 (fun i hi e => by have := HLO.out i e; omega), (HBK.out.fr hfa (fun h => h)).fr hg1 (fun e => by have := HLO.out _ e; omega), by rw [e2]; exact h1, ?_⟩
                rw [e2]
                intro b hb
                rcases h3 with h3 | h3
                · exact HLO.out b (h3 ▸ hb)
                · have hb' : some (w3.alloc ob).heap.size = some b := h3.symm.trans hb
                  injection hb' with hb'
                  have := hfa.size
                  omega
              clear hf3
              go_wp2_with (at_builtin; go_must (refine wpList_append_own_at _ rfl _ _ 24 rfl w.heap.size 9 i0 (.string ⟨#[]⟩) 1 16 Tryd.underlying24 hi0 hz0 hz1 hz2 rfl (by decide) _ l'.length (l'.map S) rfl (HOA.out _) ⟨w3.heap.size, 0, none⟩ 1 1 [S tx] rfl rfl HC1.out HC2.out bnd2 bnd (HC5.out _) ?_); intro v' w4 hown' hgrow _ hloc; obtain ⟨A4, c4, rfl, k1, k2, k3, k4⟩ := FIN.out _ v' w4 hown' hgrow hloc; have REL := Lib.hid (And.intro k1 (And.intro k2 (And.intro k3 k4))); clear hown' hgrow hloc k1 k2 k3 k4)
              go_roundw
              case rel => exact ⟨j + 1, l' ++ [tx], A4, c4, by omega, by go_num, by simp, HTT.out, REL.out.1, REL.out.2.1, REL.out.2.2.1, REL.out.2.2.2⟩
              case measure => simp [intOf]; omega
          · have hjl : j = m := by omega
            have HFN : Hid (AnsKids s w (.returned (.tuple #[.slice A' l'.length c', .bool true])) wr) := by
              have e1 := HS.out
              rw [hjl, ← HRL.out, Fo.from_len] at e1
              have e2 : res = l' := by rw [← e1]; simp [skU]
              exact ⟨A', c', true, l', rfl, HW.out, HF.out.trans HFR.out, .inl ⟨[], _, HI.out, by rw [← e2, ← HRES.out]; rfl, rfl⟩⟩
            have hjl2 : (L : Int) ≤ (j : Int) + 1 := by have := HLM.out; omega
            clear hjl
            go_wp2_with fail
            refine bodyPost_ret (v := .tuple #[.slice A' l'.length c', .bool true]) (by simp [results, Tryd.results15, go_sem]) rfl ?_
            exact HFN.out
    · obtain rfl := hi.2.wf.1 ha
      have HFN : Hid (∀ ob : Obj, AnsKids s w (.returned (.tuple #[.slice (some ⟨w1.heap.size + 1, 0, none⟩) 0 0, .bool true])) ((w1.alloc ob).alloc (.cells #[] 9))) := by
        intro ob
        have ho := own_empty (w1.alloc ob) w.heap.size (by have := hf.size; simp; omega) _ rfl
        refine ⟨some ⟨w1.heap.size + 1, 0, none⟩, 0, true, [], rfl, by simpa using ho, (hf.alloc ob).alloc _, .inl ⟨a, .nil, HI.out, ?_, rfl⟩⟩
        cases a
        · exact absurd rfl ha
        · rfl
      simp only [Fo.len]
      clear hi hf hsl
      go_wp2_with fail
      go_loop [6, 7] (fun u v => u = .slice (some ⟨w1.heap.size + 1, 0, none⟩) 0 0 ∧ v = .int .i64 1) (fun _ _ => 0)
      case atStart => exact ⟨rfl, rfl⟩
      case round =>
        obtain ⟨rfl, rfl⟩ := hrel
        go_wp2_with fail
        refine bodyPost_ret (v := .tuple #[.slice (some ⟨w1.heap.size + 1, 0, none⟩) 0 0, .bool true]) (by simp [results, Tryd.results15, go_sem]) rfl ?_
        exact HFN.out _
  · have HFN : Hid (∀ ob : Obj, AnsKids s w (.returned (.tuple #[.slice (some ⟨w1.heap.size + 1, 0, none⟩) 0 0, .bool false])) ((w1.alloc ob).alloc (.cells #[] 9))) := by
      intro ob
      have ho := own_empty (w1.alloc ob) w.heap.size (by have := hf.size; simp; omega) _ rfl
      exact ⟨some ⟨w1.heap.size + 1, 0, none⟩, 0, false, [], rfl, by simpa using ho, (hf.alloc ob).alloc _, .inr ⟨hno, rfl, rfl⟩⟩
    clear hno hf
    go_wp2_with fail
    go_loop [6, 7] (fun u v => u = .slice (some ⟨w1.heap.size + 1, 0, none⟩) 0 0 ∧ v = .int .i64 1) (fun _ _ => 0)
    case atStart => exact ⟨rfl, rfl⟩
    case round =>
      obtain ⟨rfl, rfl⟩ := hrel
      by_cases hm : (1 : Int) < (m : Int)
      · go_wp2_with fail
        refine bodyPost_ret (v := .tuple #[.slice (some ⟨w1.heap.size + 1, 0, none⟩) 0 0, .bool false]) (by simp [results, Tryd.results15, go_sem]) rfl ?_
        exact HFN.out _
      · have hm2 : decide ((1 : Int) < (m : Int)) = false := decide_eq_false hm
        go_wp2_with fail
        refine bodyPost_ret (v := .tuple #[.slice (some ⟨w1.heap.size + 1, 0, none⟩) 0 0, .bool false]) (by simp [results, Tryd.results15, go_sem]) rfl ?_
        exact HFN.out _
end Go.Proofs.YthbidlcfahdfhaaDoor
