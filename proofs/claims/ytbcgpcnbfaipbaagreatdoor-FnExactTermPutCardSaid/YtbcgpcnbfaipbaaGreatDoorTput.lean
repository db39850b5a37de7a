/- TermPut: a term put for a name, in the program and in the model. -/
import Derived.Test.YtbcgpcnbfaipbaaGreatDoorTpb
import Derived.Test.YtbcgpcnbfaipbaaGreatDoorS2put
import Derived.Test.YtbcgpcnbfaipbaaGreatDoorS2canon
import Derived.Test.YtbcgpcnbfaipbaaGreatDoorLawT2
namespace Go.Proofs.YtbcgpcnbfaipbaaGreatDoor
open Go.RowKit Go.ChangeMaps

/-- a tree's text is read as the tree -/
theorem text_read {a : List UInt8} {k : Fo} (h : OkT a k) {a' : List UInt8} {k' : Fo} (h' : TmOk (treeText a k) a' k') : a' = a ∧ k' = k := by
  have hi := h'.2
  have hg := isTm_good h.at_ h.wf h.tm
  have hg' := isTm_good hi.wf.1 hi.wf.2 hi.2.1
  obtain ⟨d, hd⟩ : ∃ d, d = treeDeep a k + treeDeep a' k' + 1 := ⟨_, rfl⟩
  have r1 := rd_good d a k [] hg (by omega) (fun x y e => by cases e)
  have r2 := rd_good d a' k' [] hg' (by omega) (fun x y e => by cases e)
  rw [← hi.text, List.append_nil] at r2
  rw [List.append_nil] at r1
  have := r1.symm.trans r2
  simp only [Option.some.injEq, Prod.mk.injEq, and_true] at this
  exact ⟨this.1.symm, this.2.symm⟩

theorem text_ok {a : List UInt8} {k : Fo} (h : OkT a k) (hs : treeSize a k ≤ 300) : TmOk (treeText a k) a k := by
  have hg := isTm_good h.at_ h.wf h.tm
  have hd := isTm_deep h.tm
  have hl := text_len h.tm h.wf
  have r1 := rd_good 301 a k [] hg (by omega) (fun x y e => by cases e)
  rw [List.append_nil] at r1
  exact ⟨by omega, r1, h.tm, hs⟩

/-- the canonical text of a tree, or none if it is too large -/
theorem canon_is {a : List UInt8} {k : Fo} (h : OkT a k) {r : List UInt8} {b : Bool} (hc : CanonIs (treeText a k) r b) : (treeSize a k ≤ 300 ∧ r = cnT a k ∧ b = true) ∨ (300 < treeSize a k ∧ r = [] ∧ b = false) := by
  rcases hc with ⟨a', k', h1, h2, h3⟩ | ⟨h1, h2, h3⟩
  · obtain ⟨rfl, rfl⟩ := text_read h h1
    exact .inl ⟨h1.2.2.2, h2, h3⟩
  · refine .inr ⟨?_, h2, h3⟩
    rcases Nat.lt_or_ge 300 (treeSize a k) with hq | hq
    · exact hq
    · exact absurd (text_ok h hq) (h1 a k)

/-- the program's text of a term that is alike to a tree -/
theorem canon_er (w : World) (B : Nat) (T : Nat → Prop) (p : Nat) (h a : List UInt8) (d : Nat) (k : Ts) (hT : ∀ b, T b → b < w.heap.size) (ht : Tm w T p h a d k) (hB : B ≤ w.heap.size) (htb : Tb B w)
    {A : List UInt8} {K : Fo} (hok : OkT A K) (hs : treeSize A K ≤ 300) (hw : WfT (.cons h a d k .nil)) (he : er (.cons h a d k .nil) = er (nd [] A K)) :
    Calls Tryz.prog 41 #[Ptr p] w fun e w' => e = .returned (S (cnT A K)) ∧ Fr No w w' := by
  have co := cn_self hok.tm hok.at_ hok.wf (by omega)
  refine canonText_any w B T p h a d k hT ht hB htb A (cnK (fvs A K) A K) ?_ co.tm co.at_ co.wf (by rw [co.size]; exact hs)
  have hw2 := hok.nw []
  have e0 : frU (.cons h a d k .nil) [] = frN h a k [] := by simp only [frU, frN]
  have e1 : frN h a k [] = fvs A K := by
    rw [← e0, ← fr_er _ [] hw, he, fr_er _ [] hw2]
    exact frU_nd hok.tm hok.at_ hok.wf
  rw [e1, ← rn_er _ _ 0 hw, he, rn_er _ _ 0 hw2]
  exact co.node

theorem tms_short : ∀ (f : Fo) (sh : Option (List Bool)), f.wf → isTms sh f = true → f.short ∧ (sh = none → f.len ≤ 4) := by
  intro f
  induction f with
  | nil => intro sh _ h; exact ⟨trivial, fun _ => Nat.zero_le _⟩
  | cons a k r ihk ihr =>
    intro sh hw h
    match sh, h with
    | none, h =>
      simp only [isTms, Bool.and_eq_true] at h
      have hs : shapeOf a ≠ [] := by intro e; rw [e] at h; cases h.1
      have hk := hw.1 (shape_head hs).1
      have hl := isTms_len _ _ h.2
      have h3 := shape_short a
      refine ⟨⟨by rw [hk]; exact Nat.zero_le _, by rw [hk]; trivial, (ihr _ hw.2.2 h.2).1⟩, fun _ => ?_⟩
      simp only [Fo.len]; omega
    | some (true :: sh), h =>
      simp only [isTms, Bool.and_eq_true] at h
      refine ⟨?_, fun e => by cases e⟩
      by_cases ha : a = []
      · subst ha
        simp only [if_true] at h
        have h2 := ihk none hw.2.1 h.1
        exact ⟨by have := h2.2 rfl; omega, h2.1, (ihr _ hw.2.2 h.2).1⟩
      · have hk := hw.1 ha
        exact ⟨by rw [hk]; exact Nat.zero_le _, by rw [hk]; trivial, (ihr _ hw.2.2 h.2).1⟩
    | some (false :: sh), h =>
      simp only [isTms, Bool.and_eq_true] at h
      have hk := hw.1 (name_bytes h.1).1
      exact ⟨⟨by rw [hk]; exact Nat.zero_le _, by rw [hk]; trivial, (ihr _ hw.2.2 h.2).1⟩, fun e => by cases e⟩
    | some [], h => simp [isTms] at h

theorem term_small2 {a : List UInt8} {k : Fo} (h : OkT a k) (hs : treeSize a k ≤ 100000) : (treeText a k).length + k.cnt ≤ 1000000 ∧ k.len ≤ 100000 ∧ k.short := by
  have h1 := text_len h.tm h.wf
  have htm := h.tm
  by_cases ha : a = []
  · subst ha
    simp only [isTm, if_true] at htm
    have h3 := (cnt_tms k none h.wf htm).1
    have h4 : treeSize [] k = k.size := by simp [treeSize]
    have h5 := tms_short k none h.wf htm
    have h6 := h5.2 rfl
    exact ⟨by omega, by omega, h5.1⟩
  · obtain rfl := h.at_ ha
    have : Fo.nil.cnt = 0 := rfl
    exact ⟨by omega, Nat.zero_le _, trivial⟩

/-- what TermPut answers -/
def PutIs (s x t r : List UInt8) (b : Bool) : Prop :=
  (∃ a k ba bk, TmOk s a k ∧ TmOk t ba bk ∧ isName x = true ∧ treeSize (sbA x ba a) (sbK x a k ba bk) ≤ 300 ∧ r = cnT (sbA x ba a) (sbK x a k ba bk) ∧ b = true) ∨
  (((∀ a k, ¬ TmOk s a k) ∨ (∀ a k, ¬ TmOk t a k) ∨ isName x = false ∨ ∃ a k ba bk, TmOk s a k ∧ TmOk t ba bk ∧ 300 < treeSize (sbA x ba a) (sbK x a k ba bk)) ∧ r = [] ∧ b = false)

theorem PutIs.one {s x t r r' : List UInt8} {b b' : Bool} (h : PutIs s x t r b) (h' : PutIs s x t r' b') : r' = r ∧ b' = b := by
  have key : ∀ {r r' : List UInt8} {b b' : Bool}, (∃ a k ba bk, TmOk s a k ∧ TmOk t ba bk ∧ isName x = true ∧ treeSize (sbA x ba a) (sbK x a k ba bk) ≤ 300 ∧ r = cnT (sbA x ba a) (sbK x a k ba bk) ∧ b = true) →
      (((∀ a k, ¬ TmOk s a k) ∨ (∀ a k, ¬ TmOk t a k) ∨ isName x = false ∨ ∃ a k ba bk, TmOk s a k ∧ TmOk t ba bk ∧ 300 < treeSize (sbA x ba a) (sbK x a k ba bk)) ∧ r' = [] ∧ b' = false) → False := by
    rintro r r' b b' ⟨a, k, ba, bk, i1, i2, i3, i4, _⟩ ⟨h1 | h1 | h1 | ⟨a', k', ba', bk', j1, j2, j3⟩, _⟩
    · exact h1 a k i1
    · exact h1 ba bk i2
    · rw [i3] at h1; cases h1
    · obtain ⟨rfl, rfl⟩ := i1.unique j1
      obtain ⟨rfl, rfl⟩ := i2.unique j2
      omega
  rcases h with h | h <;> rcases h' with h' | h'
  · obtain ⟨a, k, ba, bk, i1, i2, _, _, rfl, rfl⟩ := h
    obtain ⟨a', k', ba', bk', j1, j2, _, _, rfl, rfl⟩ := h'
    obtain ⟨rfl, rfl⟩ := i1.unique j1
    obtain ⟨rfl, rfl⟩ := i2.unique j2
    exact ⟨rfl, rfl⟩
  · exact (key h h').elim
  · exact (key h' h).elim
  · rw [h.2.1, h.2.2, h'.2.1, h'.2.2]; exact ⟨rfl, rfl⟩

def AnsPut (s x t : List UInt8) (w : World) (e : Ending) (w' : World) : Prop := ∃ r b, e = .returned (.tuple #[S r, .bool b]) ∧ PutIs s x t r b ∧ Fr No w w'

set_option maxRecDepth 100000 in
set_option maxHeartbeats 2000000 in
theorem specTmPut (w : World) (s x t : List UInt8) (hs : s.length ≤ maxLen) (hx : x.length ≤ maxLen) (ht : t.length ≤ maxLen) :
    Calls Tryz.prog 22 #[S s, S x, S t] w fun e w' => AnsPut s x t w e w' := by
  have NM := Lib.hid (fun w => name2_all x w hx)
  have TT := Lib.hid (fun w => term_any t w ht)
  clear hx ht
  go_enter Tryz.func22, Tryz.ntmps22
  go_wp2_with fail
  refine (term_any s _ hs).mono ?_
  rintro e w1 ⟨hf, ⟨a, k, A, c, hi, rfl, hsl⟩ | ⟨a, A, m, c, hno, rfl⟩⟩
  · have HI := Lib.hid hi
    have HSL := Lib.hid hsl
    have HF := Lib.hid hf
    obtain ⟨kl, HKL⟩ : ∃ z, Hid (k.len = z) := ⟨_, rfl⟩
    rw [HKL.out]
    clear hi hsl hf
    obtain ⟨wa, hwa⟩ : ∃ wa, wa = w1.alloc (.cells #[S a, .slice A kl c] 52) := ⟨_, rfl⟩
    have hba : Blk wa w1.heap.size 52 #[S a, .slice A kl c] := by rw [hwa]; exact Blk.new _ _ _
    have hfa : Fr No w1 wa := by rw [hwa]; exact (Fr.refl _ _).alloc _
    have HWA := Lib.hid hwa
    have HBA := Lib.hid hba
    have HFA := Lib.hid hfa
    clear hwa hba hfa
    go_wp2_with fail
    rw [← HWA.out]
    refine (TT.out _).mono ?_
    rintro e w2 ⟨hf2, ⟨ba, bk, BA, bc, hi2, rfl, hsl2⟩ | ⟨ba, BA, m, bc, hno, rfl⟩⟩
    · have HI2 := Lib.hid hi2
      have HF2 := Lib.hid hf2
      have HSL2 := Lib.hid hsl2
      obtain ⟨bl, HBL⟩ : ∃ z, Hid (bk.len = z) := ⟨_, rfl⟩
      rw [HBL.out]
      obtain ⟨wb, hwb⟩ : ∃ wb, wb = w2.alloc (.cells #[S ba, .slice BA bl bc] 52) := ⟨_, rfl⟩
      have hbb : Blk wb w2.heap.size 52 #[S ba, .slice BA bl bc] := by rw [hwb]; exact Blk.new _ _ _
      have hfb : Fr No w2 wb := by rw [hwb]; exact (Fr.refl _ _).alloc _
      have hba2 := (HBA.out.fr hf2 (fun h => h)).fr hfb (fun h => h)
      have c0 : wb.cell? ⟨w1.heap.size, 0, none⟩ = some (S a) := (hba2.cell 0).trans rfl
      have c1 : wb.cell? ⟨w1.heap.size, 1, none⟩ = some (.slice A kl c) := (hba2.cell 1).trans rfl
      have d0 : wb.cell? ⟨w2.heap.size, 0, none⟩ = some (S ba) := (hbb.cell 0).trans rfl
      have d1 : wb.cell? ⟨w2.heap.size, 1, none⟩ = some (.slice BA bl bc) := (hbb.cell 1).trans rfl
      have lc := hba2.lt
      have ld := hbb.lt
      have hfw : Fr No w wb := ((HF.out.trans HFA.out).trans hf2).trans hfb
      have HFW := Lib.hid hfw
      have HWB := Lib.hid hwb
      have CALL : Hid (isName x = true → Calls Tryz.prog 48 #[.agg #[S a, .slice A kl c], S x, .agg #[S ba, .slice BA bl bc]] wb fun e w3 =>
          ∃ A6 c6 k6, e = .returned (.agg #[S (sbA x ba a), .slice A6 k6 c6]) ∧ Hid (Calls Tryz.prog 43 #[.agg #[S (sbA x ba a), .slice A6 k6 c6]] w3 fun e w4 =>
            e = .returned (S (treeText (sbA x ba a) (sbK x a k ba bk))) ∧ Hid (Calls Tryz.prog 14 #[S (treeText (sbA x ba a) (sbK x a k ba bk))] w4 fun e w5 => AnsPut s x t w e w5))) := by
        intro hxn
        have ho1 := HI.out.2.okT
        have ho2 := HI2.out.2.okT
        have z1 := HI.out.2.2.2
        have z2 := HI2.out.2.2.2
        have hfs : Fr No w1 wb := (HFA.out.trans hf2).trans hfb
        have hTb : ∀ b, b < w2.heap.size → b < wb.heap.size := fun b hb => Nat.lt_of_lt_of_le hb hfb.size
        have h1 := sub_any wb (fun b => b < w2.heap.size) a A c k ho1 z1 (fun b hb => hTb b hb) (HSL.out.mono (fun b hb => Nat.lt_of_lt_of_le hb.2 (HFA.out.trans hf2).size) (fun b hb => hfs.block b hb.2 (fun h => h)))
          ba BA bc bk ho2 z2 (HSL2.out.mono (fun b hb => hb.2) (fun b hb => hfb.block b hb.2 (fun h => h))) x hxn
        rw [HKL.out, HBL.out] at h1
        refine h1.mono ?_
        rintro e w3 ⟨A6, c6, rfl, g1, g2⟩
        have so := sub_nd ho1 ho2 hxn z1 z2
        refine ⟨A6, c6, _, rfl, Lib.hid ?_⟩
        have hszz : treeSize (sbA x ba a) (sbK x a k ba bk) ≤ 100000 := by
          have h3 := so.size
          have h4 : usT x a k ≤ treeSize a k := by
            rw [← cnt_nd hxn ho1, ← ho1.size []]; exact cnt_size _ _
          have h5 : usT x a k * treeSize ba bk ≤ 300 * 300 := Nat.mul_le_mul (by omega) z2
          omega
        have hl := text_len so.ok.tm so.ok.wf
        obtain ⟨b1, b2, b3⟩ := term_small2 so.ok hszz
        refine (spec_text _ (sbK x a k ba bk) (Nat.lt_succ_self _) (sbA x ba a) A6 c6 w3 _ _ (Nat.le_refl _) b1 b2 b3 (fun b hb => hb.elim (fun h => Nat.lt_of_lt_of_le (hTb b h) g1.size) (fun h => h.2)) g2).mono ?_
        rintro e w4 ⟨rfl, g3⟩
        refine ⟨rfl, Lib.hid ((specTmCanon w4 _ (by unfold maxLen; omega)).mono ?_)⟩
        rintro e w5 ⟨r, b, rfl, g4, g5⟩
        have hall := ((hfw.trans g1).trans g3).trans g5
        rcases canon_is so.ok g4 with ⟨q1, q2, q3⟩ | ⟨q1, q2, q3⟩
        · exact ⟨r, b, rfl, .inl ⟨a, k, ba, bk, HI.out, HI2.out, hxn, q1, q2, q3⟩, hall⟩
        · exact ⟨r, b, rfl, .inr ⟨.inr (.inr (.inr ⟨a, k, ba, bk, HI.out, HI2.out, q1⟩)), q2, q3⟩, hall⟩
      clear hi2 hsl2 hf2 hbb hfb hba2 hfw hwb
      go_wp2_with fail
      rw [← HWB.out]
      refine (NM.out _).mono ?_
      rintro e w3 ⟨rfl, rfl⟩
      rcases hq : isName x with _ | _
      · have HQ := Lib.hid hq
        clear CALL hq
        go_wp2_with fail
        refine bodyPost_ret (v := .tuple #[S [], .bool false]) (by simp [results, Tryz.results22, go_sem]) rfl ?_
        exact ⟨_, _, rfl, .inr ⟨.inr (.inr (.inl HQ.out)), rfl, rfl⟩, HFW.out⟩
      · have CC := Lib.hid (CALL.out hq)
        clear CALL hq
        go_wp2_with fail
        refine CC.out.mono ?_
        rintro e w4 ⟨A6, c6, k6, rfl, TX⟩
        go_wp2_with fail
        refine TX.out.mono ?_
        rintro e w5 ⟨rfl, CN⟩
        go_wp2_with fail
        refine CN.out.mono ?_
        rintro e w6 ⟨r, b, rfl, q1, q2⟩
        have FIN : Hid (AnsPut s x t w (.returned (.tuple #[S r, .bool b])) w6) := ⟨r, b, rfl, q1, q2⟩
        clear q1 q2
        go_wp2_with fail
        refine bodyPost_ret (v := .tuple #[S r, .bool b]) (by simp [results, Tryz.results22, go_sem]) rfl ?_
        exact FIN.out
    · have HN := Lib.hid hno
      have HF2 := Lib.hid ((HF.out.trans HFA.out).trans hf2)
      clear hno hf2
      go_wp2_with fail
      refine bodyPost_ret (v := .tuple #[S [], .bool false]) (by simp [results, Tryz.results22, go_sem]) rfl ?_
      exact ⟨_, _, rfl, .inr ⟨.inr (.inl HN.out), rfl, rfl⟩, HF2.out.alloc _⟩
  · have HN := Lib.hid hno
    have HF := Lib.hid hf
    clear hno hf
    go_wp2_with fail
    refine (TT.out _).mono ?_
    rintro e w2 ⟨hf2, hor⟩
    obtain ⟨ba, BA, m2, bc, b2, rfl⟩ : ∃ ba BA m2 bc b2, e = .returned (.tuple #[.agg #[S ba, .slice BA m2 bc], .bool b2]) := by rcases hor with ⟨_, _, _, _, _, he, _⟩ | ⟨_, _, _, _, _, he⟩ <;> exact ⟨_, _, _, _, _, he⟩
    have HF2 := Lib.hid ((HF.out.alloc _).trans hf2)
    clear hor hf2
    go_wp2_with fail
    refine bodyPost_ret (v := .tuple #[S [], .bool false]) (by simp [results, Tryz.results22, go_sem]) rfl ?_
    exact ⟨_, _, rfl, .inr ⟨.inl HN.out, rfl, rfl⟩, HF2.out.alloc _⟩

theorem sized {a : List UInt8} {k : Fo} (h : OkT a k) : (((if bindsB (ndH a k) then 2 else 1) + (cv k (.parts [])).size : Nat) : Int) = (treeSize a k : Nat) := by
  have := h.size []
  simp only [nd, Ts.size, Nat.add_zero] at this
  rw [this]

set_option maxRecDepth 100000 in
set_option maxHeartbeats 2000000 in
theorem implTmPut (w : World) (B : Nat) (s x t : List UInt8) (hs : s.length ≤ maxLen) (hx : x.length ≤ maxLen) (ht : t.length ≤ maxLen) (hB : B ≤ w.heap.size) (htb : Tb B w) :
    Calls Tryz.prog 23 #[S s, S x, S t] w fun e w' => AnsPut s x t w e w' := by
  have NM := Lib.hid (fun w => nameIs_all x w hx)
  have RT := Lib.hid (fun w => readTerm_any w t ht)
  have HB := Lib.hid hB
  have HTB := Lib.hid htb
  clear hx ht hB htb
  go_enter Tryz.func23, Tryz.ntmps23
  go_wp2_with fail
  refine (readTerm_any w s hs).mono ?_
  rintro e w1 ⟨hf1, ⟨a, k, p, hi, rfl, htm⟩ | ⟨hno, rfl⟩⟩
  · have HI := Lib.hid hi
    have HM := Lib.hid htm
    have HF1 := Lib.hid hf1
    clear hi htm hf1
    go_wp2_with fail
    refine (RT.out w1).mono ?_
    rintro e w2 ⟨hf2, ⟨ba, bk, q, hi2, rfl, htm2⟩ | ⟨hno, rfl⟩⟩
    · have HI2 := Lib.hid hi2
      have HM2 := Lib.hid htm2
      have HF2 := Lib.hid hf2
      clear hi2 htm2 hf2
      go_wp2_with fail
      refine (NM.out _).mono ?_
      rintro e w3 ⟨rfl, hf3⟩
      have HFW : Hid (Fr No w w3) := (HF1.out.trans HF2.out).trans hf3
      rcases hq : isName x with _ | _
      · have HQ := Lib.hid hq
        clear hq hf3
        go_wp2_with fail
        refine bodyPost_ret (v := .tuple #[S [], .bool false]) (by simp [results, Tryz.results23, go_sem]) rfl ?_
        exact ⟨_, _, rfl, .inr ⟨.inr (.inr (.inl HQ.out)), rfl, rfl⟩, HFW.out⟩
      · have ho1 := HI.out.2.okT
        have ho2 := HI2.out.2.okT
        have z1 := HI.out.2.2.2
        have z2 := HI2.out.2.2.2
        have so := sub_nd ho1 ho2 hq z1 z2
        have s1 := isTm_size ho2.tm
        have hu : usT x a k ≤ 300 := by
          have h4 : usT x a k ≤ treeSize a k := by rw [← cnt_nd hq ho1, ← ho1.size []]; exact cnt_size _ _
          omega
        have hmul : usT x a k * (treeSize ba bk - 1) ≤ 300 * 300 := Nat.mul_le_mul hu (by omega)
        have hsz : treeSize (sbA x ba a) (sbK x a k ba bk) = treeSize a k + usT x a k * (treeSize ba bk - 1) := by
          have h3 := so.size
          rw [Nat.mul_sub, Nat.mul_one]
          have h5 : usT x a k ≤ usT x a k * treeSize ba bk := Nat.le_mul_of_pos_right _ s1
          omega
        -- the terms in memory
        obtain ⟨T, hTe⟩ : ∃ T : Nat → Prop, T = fun b => b < w3.heap.size := ⟨_, rfl⟩
        have hT : ∀ b, T b → b < w3.heap.size := fun b hb => by rw [hTe] at hb; exact hb
        have hf23 : Fr No w1 w3 := HF2.out.trans hf3
        have tm1 : Tm w3 T p (ndH a k) (ndA [] a k) (ndD [] a) (cv k (.parts [])) := HM.out.mono (fun b hb => by rw [hTe]; exact Nat.lt_of_lt_of_le hb.2 hf23.size) (fun b hb => hf23.block b hb.2 (fun h => h))
        have tm2 : Tm w3 T q (ndH ba bk) (ndA [] ba bk) (ndD [] ba) (cv bk (.parts [])) := HM2.out.mono (fun b hb => by rw [hTe]; exact Nat.lt_of_lt_of_le hb.2 hf3.size) (fun b hb => hf3.block b hb.2 (fun h => h))
        obtain ⟨_, _, _, bk1, _⟩ := tm1.open_
        obtain ⟨_, _, _, bk2, _⟩ := tm2.open_
        have c4 : w3.cell? ⟨p, 4, none⟩ = some (.int .i64 (treeSize a k : Nat)) := by rw [← sized ho1]; exact (bk1.cell 4).trans rfl
        have d4 : w3.cell? ⟨q, 4, none⟩ = some (.int .i64 (treeSize ba bk : Nat)) := by rw [← sized ho2]; exact (bk2.cell 4).trans rfl
        have lp := bk1.lt
        have lq := bk2.lt
        have y1 := ho1.size []
        have y2 := ho2.size []
        simp only [nd, Ts.size, Nat.add_zero] at y1 y2
        have HC := cnt_term hq HI.out.2.2.1 HI.out.2.wf.1 HI.out.2.wf.2
        have CU : Hid (∀ n, Calls Tryz.prog 50 #[Ptr p, S x] (w3.drewN n) fun e w' => e = .returned (.int .i64 (usT x a k : Nat)) ∧ ∃ m, w' = w3.drewN m) := fun n =>
          (count_any x _ (cv k (.parts [])) (Nat.lt_succ_self _) _ _ _ p (w3.drewN n) T (by split at y1 <;> omega) (tm1.mono (fun _ h => h) (fun _ _ => rfl))).mono (by rintro e w' ⟨rfl, rfl⟩; rw [HC]; exact ⟨rfl, n, rfl⟩)
        have PT : Hid (∀ n, treeSize (sbA x ba a) (sbK x a k ba bk) ≤ 300 → Calls Tryz.prog 51 #[Ptr p, S x, Ptr q] (w3.drewN n) fun e w' => ∃ r, e = .returned (Ptr r) ∧
            Hid (Calls Tryz.prog 41 #[Ptr r] w' fun e w5 => e = .returned (S (cnT (sbA x ba a) (sbK x a k ba bk))) ∧ Fr No w w5)) := by
          intro n hle
          have hfn : Fr No w3 (w3.drewN n) := (Fr.refl _ _).drewN n
          have h1 := pp_any _ (cv k (.parts [])) (Nat.lt_succ_self _) (ndH a k) (ndA [] a k) (ndD [] a) p (w3.drewN n) T x q (ndH ba bk) (ndA [] ba bk) (ndD [] ba) (cv bk (.parts [])) (by split at y1 <;> omega) (by split at y2 <;> omega) (fun b hb => Nat.lt_of_lt_of_le (hT b hb) hfn.size) (tm1.mono (fun _ h => h) (fun _ _ => rfl)) (tm2.mono (fun _ h => h) (fun _ _ => rfl))
          refine h1.mono ?_
          rintro e w4 ⟨r, rfl, g1, g2⟩
          refine ⟨r, rfl, Lib.hid ?_⟩
          have hl1 : (ptT x (ndH ba bk) (ndA [] ba bk) (ndD [] ba) (cv bk (.parts [])) (nd [] a k)).len = 1 := by rw [pt_len]; rfl
          obtain ⟨h', a', d', k', he⟩ := single hl1
          have he' : ptT x (ndH ba bk) (ndA [] ba bk) (ndD [] ba) (cv bk (.parts [])) (.cons (ndH a k) (ndA [] a k) (ndD [] a) (cv k (.parts [])) .nil) = .cons h' a' d' k' .nil := he
          rw [he'] at g2
          have hf4 : Fr No w w4 := (HFW.out.drewN n).trans g1
          refine (canon_er w4 B _ r h' a' d' k' (fun b hb => hb.elim (fun h => Nat.lt_of_lt_of_le (hT b h) (Nat.le_trans hfn.size g1.size)) (fun h => h.2)) g2 (Nat.le_trans HB.out hf4.size) (HTB.out.fr hf4 HB.out (fun _ h => h.elim)) so.ok hle ?_ ?_).mono ?_
          · rw [← he]; exact wf_pt x _ _ _ _ (ho2.nw []) _ (ho1.nw [])
          · rw [← he]; exact so.e0.symm
          · rintro e w5 ⟨rfl, g3⟩
            exact ⟨rfl, hf4.trans g3⟩
        rw [hsz] at PT
        have HSZ := Lib.hid hsz
        have HQ := Lib.hid hq
        generalize hU : usT x a k = U at *
        generalize hZ1 : treeSize a k = Z1 at *
        generalize hZ2 : treeSize ba bk = Z2 at *
        generalize hQ2 : U * (Z2 - 1) = Q at *
        have i1 : (1 : Int) ≤ (Z2 : Int) := by omega
        have i2 : (Z2 : Int) ≤ 300 := by omega
        have i3 : (Z1 : Int) ≤ 300 := by omega
        have i4 : (0 : Int) ≤ (Q : Int) := by omega
        have i5 : (Q : Int) ≤ 90000 := by omega
        have i6 : IntKind.i64.wrap ((Z2 : Int) - 1) = ((Z2 - 1 : Nat) : Int) := by rw [IntWalk.i64_in _ (by omega)]; omega
        have i7 : IntKind.i64.wrap ((U : Int) * ((Z2 - 1 : Nat) : Int)) = (Q : Int) := by
          have : (U : Int) * ((Z2 - 1 : Nat) : Int) = (Q : Int) := by rw [← hQ2]; exact (Int.natCast_mul U (Z2 - 1)).symm
          rw [this, IntWalk.i64_in _ (by omega)]
        have i8 : IntKind.i64.wrap ((Z1 : Int) + (Q : Int)) = ((Z1 + Q : Nat) : Int) := by rw [IntWalk.i64_in _ (by omega)]; omega
        clear hU hZ1 hZ2 hQ2 HC y1 y2 bk1 bk2 tm1 tm2 hT hTe hf23 so s1 hu hmul hsz ho1 ho2 z1 z2 hf3 hq
        by_cases hle : Z1 + Q ≤ 300
        · have hd : ¬ (300 : Int) < ((Z1 + Q : Nat) : Int) := by omega
          have PC : Hid (∀ n, Calls Tryz.prog 51 #[Ptr p, S x, Ptr q] (w3.drewN n) fun e w' => ∃ r, e = .returned (Ptr r) ∧
            Hid (Calls Tryz.prog 41 #[Ptr r] w' fun e w5 => e = .returned (S (cnT (sbA x ba a) (sbK x a k ba bk))) ∧ Fr No w w5)) := fun n => PT.out n hle
          have HLE := Lib.hid hle
          clear PT hle
          go_wp2_with fail
          go_quiet ((go_at_call 50; with_reducible exact CU.out _))
          go_wp2_with fail
          refine (PC.out _).mono ?_
          rintro e w4 ⟨r, rfl, CN⟩
          go_wp2_with fail
          refine CN.out.mono ?_
          rintro e w5 ⟨rfl, hf5⟩
          have FIN : Hid (AnsPut s x t w (.returned (.tuple #[S (cnT (sbA x ba a) (sbK x a k ba bk)), .bool true])) w5) := ⟨_, _, rfl, .inl ⟨a, k, ba, bk, HI.out, HI2.out, HQ.out, by rw [HSZ.out]; exact HLE.out, rfl, rfl⟩, hf5⟩
          clear hf5
          go_wp2_with fail
          refine bodyPost_ret (v := .tuple #[S (cnT (sbA x ba a) (sbK x a k ba bk)), .bool true]) (by simp [results, Tryz.results23, go_sem]) rfl ?_
          exact FIN.out
        · have hd : (300 : Int) < ((Z1 + Q : Nat) : Int) := by omega
          have HLE : Hid (300 < Z1 + Q) := by show _ < _; omega
          clear PT hle
          go_wp2_with fail
          go_quiet ((go_at_call 50; with_reducible exact CU.out _))
          go_wp2_with fail
          refine bodyPost_ret (v := .tuple #[S [], .bool false]) (by simp [results, Tryz.results23, go_sem]) rfl ?_
          exact ⟨_, _, rfl, .inr ⟨.inr (.inr (.inr ⟨a, k, ba, bk, HI.out, HI2.out, by rw [HSZ.out]; exact HLE.out⟩)), rfl, rfl⟩, HFW.out.drewN _⟩
    · have HN := Lib.hid hno
      have HF2 := Lib.hid (HF1.out.trans hf2)
      clear hno hf2
      go_wp2_with fail
      refine bodyPost_ret (v := .tuple #[S [], .bool false]) (by simp [results, Tryz.results23, go_sem]) rfl ?_
      exact ⟨_, _, rfl, .inr ⟨.inr (.inl HN.out), rfl, rfl⟩, HF2.out⟩
  · have HN := Lib.hid hno
    have HF1 := Lib.hid hf1
    clear hno hf1
    go_wp2_with fail
    refine (RT.out w1).mono ?_
    rintro e w2 ⟨hf2, hor⟩
    obtain ⟨v, rfl⟩ : ∃ v : Option Addr, e = .returned (.pointer v) := by rcases hor with ⟨_, _, _, _, he, _⟩ | ⟨_, he⟩ <;> exact ⟨_, he⟩
    have HF2 := Lib.hid (HF1.out.trans hf2)
    clear hor hf2
    go_wp2_with fail
    refine bodyPost_ret (v := .tuple #[S [], .bool false]) (by simp [results, Tryz.results23, go_sem]) rfl ?_
    exact ⟨_, _, rfl, .inr ⟨.inl HN.out, rfl, rfl⟩, HF2.out⟩

set_option maxHeartbeats 1000000 in
theorem lawTmPut (w : World) (htab : Lib.TabIs Tryz.prog w "internal/strconv.uint64pow10" .u64 Lib.pow10Tab) (s x t : List UInt8) (hs : s.length ≤ maxLen) (hx : x.length ≤ maxLen) (ht : t.length ≤ maxLen) :
    Calls Tryz.prog 5 #[S s, S x, S t] w fun e w' => Yes w e w' := by
  have HTB : Hid (Tb w.heap.size w) := Lib.tabBelow_of_tabIs htab
  have hs' := hs
  have hx' := hx
  have ht' := ht
  unfold maxLen at hs' hx' ht'
  by_cases hl : 1048576 < s.length
  · have hb : decide ((1048576 : Int) < (s.length : Int)) = true := by simp; omega
    go_enter Tryz.func5, Tryz.ntmps5
    go_wp2_with fail
    go_ret
    exact ⟨rfl, Fr.refl _ _⟩
  · have hb : decide ((1048576 : Int) < (s.length : Int)) = false := by simp; omega
    by_cases hl2 : 1048576 < x.length
    · have hb2 : decide ((1048576 : Int) < (x.length : Int)) = true := by simp; omega
      go_enter Tryz.func5, Tryz.ntmps5
      go_wp2_with fail
      go_ret
      exact ⟨rfl, Fr.refl _ _⟩
    · have hb2 : decide ((1048576 : Int) < (x.length : Int)) = false := by simp; omega
      by_cases hl3 : 1048576 < t.length
      · have hb3 : decide ((1048576 : Int) < (t.length : Int)) = true := by simp; omega
        go_enter Tryz.func5, Tryz.ntmps5
        go_wp2_with fail
        go_ret
        exact ⟨rfl, Fr.refl _ _⟩
      · have hb3 : decide ((1048576 : Int) < (t.length : Int)) = false := by simp; omega
        go_enter Tryz.func5, Tryz.ntmps5
        go_wp2_with fail
        refine (specTmPut _ s x t hs hx ht).mono ?_
        rintro e w1 ⟨r, ok, rfl, h1, hf1⟩
        go_wp2_with fail
        refine (implTmPut _ w.heap.size s x t hs hx ht hf1.size (HTB.out.fr hf1 (Nat.le_refl _) (fun _ h => h.elim))).mono ?_
        rintro e w2 ⟨r', ok', rfl, h2, hf2⟩
        obtain ⟨rfl, rfl⟩ := PutIs.one h1 h2
        clear h1 h2
        go_wp2
        go_ret
        exact ⟨rfl, hf1.trans hf2⟩
end Go.Proofs.YtbcgpcnbfaipbaaGreatDoor
