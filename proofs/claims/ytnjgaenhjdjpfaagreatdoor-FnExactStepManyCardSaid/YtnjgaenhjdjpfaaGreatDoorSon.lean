/- Steps of the program: StepInside, stepOn, StepMany, NormalOf. -/
import Derived.Test.YtnjgaenhjdjpfaaGreatDoorStp
import Derived.Test.YtnjgaenhjdjpfaaGreatDoorTput
import Derived.Test.YtnjgaenhjdjpfaaGreatDoorS4b
namespace Go.Proofs.YtnjgaenhjdjpfaaGreatDoor
open Go.RowKit Go.ChangeMaps

theorem lc_dle {D : Nat} : ∀ (t : Ts) (o : Nat) (p : List UInt8) (i : Nat), LcK t o p i → o + t.size + 1 ≤ D → Dle D t
  | .nil, _, _, _, _, _ => trivial
  | .cons h a d k r, o, p, i, hl, hd => by
    have hb : bndN p i ≤ 1 := by unfold bndN; split <;> omega
    simp only [Ts.size] at hd
    have h0 : 1 ≤ (if bindsB h then 2 else 1) := by split <;> omega
    exact ⟨fun e1 e2 => by have := hl.1 e1 e2; omega, lc_dle k _ _ _ hl.2.1 (by omega), lc_dle r _ _ _ hl.2.2 (by omega)⟩

theorem dle_er {D : Nat} : ∀ (t : Ts), WfT t → Dle D (er t) → Dle D t
  | .nil, _, _ => trivial
  | .cons h a d k r, hw, hd => by
    refine ⟨fun e1 e2 => hd.1 e1 ?_, dle_er k hw.2.2.1 hd.2.1, dle_er r hw.2.2.2 hd.2.2⟩
    rw [e2, ite_self]

theorem dle_er2 {D : Nat} : ∀ (t : Ts), WfT t → Dle D t → Dle D (er t)
  | .nil, _, _ => trivial
  | .cons h a d k r, hw, hd => by
    refine ⟨fun e1 e2 => hd.1 e1 ?_, dle_er2 k hw.2.2.1 hd.2.1, dle_er2 r hw.2.2.2 hd.2.2⟩
    have hk : k.len = 0 := by rw [hw.1, e1]; exact kids_name
    rw [if_pos hk] at e2
    exact e2

/-- a term of the program in memory that is alike to a tree -/
structure TmAl (w : World) (T : Nat → Prop) (p : Nat) (a : List UInt8) (k : Fo) : Prop where
  ex : ∃ h' a' d' k', Tm w T p h' a' d' k' ∧ WfT (.cons h' a' d' k' .nil) ∧ er (.cons h' a' d' k' .nil) = er (nd [] a k)
  ok : OkT a k
  sz : treeSize a k ≤ 300

theorem TmAl.mono {w w' : World} {T T' : Nat → Prop} {p : Nat} {a : List UInt8} {k : Fo} (h : TmAl w T p a k) (hT : ∀ b, T b → T' b) (hw : ∀ b, T b → w'.heap[b]? = w.heap[b]?) : TmAl w' T' p a k := by
  obtain ⟨h', a', d', k', h1, h2⟩ := h.ex
  exact ⟨⟨h', a', d', k', h1.mono hT hw, h2⟩, h.ok, h.sz⟩

theorem TmAl.text {w : World} {T : Nat → Prop} {p : Nat} {a : List UInt8} {k : Fo} (h : TmAl w T p a k) {B : Nat} (hT : ∀ b, T b → b < w.heap.size) (hB : B ≤ w.heap.size) (htb : Tb B w) :
    Calls Tryz.prog 23 #[Ptr p] w fun e w' => e = .returned (S (cnT a k)) ∧ Fr No w w' := by
  obtain ⟨h', a', d', k', h1, h2, h3⟩ := h.ex
  exact canon_er w B T p h' a' d' k' hT h1 hB htb h.ok h.sz h2 h3

theorem TmAl.count {w : World} {T : Nat → Prop} {p : Nat} {a : List UInt8} {k : Fo} (h : TmAl w T p a k) (hT : ∀ b, T b → b < w.heap.size) :
    Calls Tryz.prog 26 #[Ptr p] w fun e w' => e = .returned (.int .i64 (cT a k : Nat)) ∧ Fr No w w' := by
  obtain ⟨h', a', d', k', h1, h2, h3⟩ := h.ex
  have hs : (Ts.cons h' a' d' k' .nil).size = treeSize a k := by rw [← er_size, h3, er_size, h.ok.size]
  have hc : cR (.cons h' a' d' k' .nil) = cT a k := by rw [← cR_er, h3, cR_er, cR_tree h.ok h.sz]
  have := count_any' w T p h' a' d' k' h1 h2 (by rw [hs]; exact h.sz) hT
  rw [hc] at this
  exact this

/-- one step of the program at a tree -/
def StepA (T : Nat → Prop) (a : List UInt8) (k : Fo) (kk : Int) (w : World) (e : Ending) (w' : World) : Prop :=
  (∃ (m : Nat) (p' : Nat), kk = m ∧ m < cT a k ∧ e = .returned (Ptr p') ∧ Fr No w w' ∧ TmAl w' (TN T w w') p' (atA k m) (atK k m)) ∨
  ((∀ m : Nat, kk = m → m < cT a k → OkT (atA k m) (atK k m) ∧ 300 < treeSize (atA k m) (atK k m)) ∧ e = .returned (.pointer none) ∧ Fr No w w')

theorem step_al {w : World} {T : Nat → Prop} {p : Nat} {a : List UInt8} {k : Fo} (h : TmAl w T p a k) (kk : Int) (hT : ∀ b, T b → b < w.heap.size) :
    Calls Tryz.prog 27 #[Ptr p, .int .i64 kk] w fun e w' => StepA T a k kk w e w' := by
  obtain ⟨h', a', d', k', h1, h2, h3⟩ := h.ex
  have hs : (Ts.cons h' a' d' k' .nil).size = treeSize a k := by rw [← er_size, h3, er_size, h.ok.size]
  have hc : cR (.cons h' a' d' k' .nil) = cT a k := by rw [← cR_er, h3, cR_er, cR_tree h.ok h.sz]
  have hsz := h.sz
  have hdl : Dle 10000 (.cons h' a' d' k' .nil) := by
    refine dle_er _ h2 ?_
    rw [h3]
    refine dle_er2 _ (h.ok.nw []) (lc_dle _ 0 [] 0 (lc_nd h.ok) ?_)
    rw [h.ok.size]; omega
  have key : ∀ m : Nat, m < cT a k → OkT (atA k m) (atK k m) ∧ er (stF (.cons h' a' d' k' .nil) m) = er (nd [] (atA k m) (atK k m)) ∧ (stF (.cons h' a' d' k' .nil) m).size = treeSize (atA k m) (atK k m) := by
    intro m hm
    by_cases ha : a = []
    · subst ha
      have e : treeSize [] k = k.size := by simp [treeSize]
      have s1 := (st_term (n := m) h.ok (by omega) []).2 hm
      have e1 : er (stF (.cons h' a' d' k' .nil) m) = er (nd [] (atA k m) (atK k m)) := by rw [s1.eb, er_st _ _ h2, h3]
      refine ⟨s1.ok, e1, ?_⟩
      rw [← er_size, e1, er_size, s1.ok.size]
    · rw [(ct_atom h.ok ha []).1] at hm
      exact absurd hm (Nat.not_lt_zero m)
  refine (step_any w T p h' a' d' k' kk h1 h2 hdl (by omega) hT).mono ?_
  rintro e w' (⟨m, rfl, hm, hl, p', rfl, hf, ht⟩ | ⟨hn, rfl, hf⟩)
  · rw [hc] at hm
    obtain ⟨k1, k2, k3⟩ := key m hm
    obtain ⟨hh, ha, hd, hk, he⟩ := single (b := stF (.cons h' a' d' k' .nil) m) (by rw [st_len _ _ h2]; rfl)
    have hwf := wf_st _ m h2
    rw [he] at ht k2 hwf
    exact .inl ⟨m, p', rfl, hm, rfl, hf, ⟨⟨hh, ha, hd, hk, ht, hwf, k2⟩, k1, by rw [← k3]; exact hl⟩⟩
  · refine .inr ⟨fun m h4 h5 => ?_, rfl, hf⟩
    obtain ⟨k1, k2, k3⟩ := key m h5
    exact ⟨k1, by rw [← k3]; exact hn m h4 (by rw [hc]; exact h5)⟩

theorem read_al (w : World) (s : List UInt8) (hs : s.length ≤ maxLen) :
    Calls Tryz.prog 21 #[S s] w fun e w' => Fr No w w' ∧ ((∃ a k p, TmOk s a k ∧ e = .returned (Ptr p) ∧ TmAl w' (fun b => b < w'.heap.size) p a k) ∨ ((∀ a k, ¬ TmOk s a k) ∧ e = .returned (.pointer none))) := by
  refine (readTerm_any w s hs).mono ?_
  rintro e w1 ⟨hf, ⟨a, k, p, hi, rfl, htm⟩ | ⟨hno, rfl⟩⟩
  · exact ⟨hf, .inl ⟨a, k, p, hi, rfl, ⟨⟨_, _, _, _, htm.mono (fun b hb => hb.2) (fun _ _ => rfl), hi.2.okT.nw [], rfl⟩, hi.2.okT, hi.2.2.2⟩⟩⟩
  · exact ⟨hf, .inr ⟨hno, rfl⟩⟩

/-- what StepInside answers -/
def InsIs (s : List UInt8) (kk : Int) (r : List UInt8) (b : Bool) : Prop :=
  (∃ a k, ∃ m : Nat, TmOk s a k ∧ kk = m ∧ m < cT a k ∧ OkT (atA k m) (atK k m) ∧ treeSize (atA k m) (atK k m) ≤ 300 ∧ r = cnT (atA k m) (atK k m) ∧ b = true) ∨
  (((∀ a k, ¬ TmOk s a k) ∨ ∃ a k, TmOk s a k ∧ ∀ m : Nat, kk = m → m < cT a k → 300 < treeSize (atA k m) (atK k m)) ∧ r = [] ∧ b = false)

def AnsIns (s : List UInt8) (kk : Int) (w : World) (e : Ending) (w' : World) : Prop := ∃ r b, e = .returned (.tuple #[S r, .bool b]) ∧ InsIs s kk r b ∧ Fr No w w'

set_option maxRecDepth 100000 in
set_option maxHeartbeats 1000000 in
theorem implStepInside (w : World) (B : Nat) (s : List UInt8) (kk : Int) (hs : s.length ≤ maxLen) (hB : B ≤ w.heap.size) (htb : Tb B w) :
    Calls Tryz.prog 17 #[S s, .int .i64 kk] w fun e w' => AnsIns s kk w e w' := by
  have HB := Lib.hid hB
  have HTB := Lib.hid htb
  clear hB htb
  go_enter Tryz.func17, Tryz.ntmps17
  go_wp2_with fail
  refine (read_al w s hs).mono ?_
  rintro e w1 ⟨hf1, ⟨a, k, p, hi, rfl, hal⟩ | ⟨hno, rfl⟩⟩
  · have ST := Lib.hid (step_al hal kk (fun b hb => hb))
    have HI := Lib.hid hi
    have HF1 := Lib.hid hf1
    clear hi hf1 hal
    go_wp2_with fail
    refine ST.out.mono ?_
    rintro e w2 (⟨m, p', rfl, hm, rfl, hf2, hal2⟩ | ⟨hno, rfl, hf2⟩)
    · have hfw := HF1.out.trans hf2
      have TX := Lib.hid (hal2.text (B := B) (fun b hb => hb.elim (fun h => Nat.lt_of_lt_of_le h hf2.size) (fun h => h.2)) (Nat.le_trans HB.out hfw.size) (HTB.out.fr hfw HB.out (fun _ h => h.elim)))
      have HAL := Lib.hid hal2
      have HFW := Lib.hid hfw
      have HM := Lib.hid hm
      clear hf2 hal2 hfw hm ST
      go_wp2_with fail
      refine TX.out.mono ?_
      rintro e w3 ⟨rfl, hf3⟩
      have HF3 := Lib.hid (HFW.out.trans hf3)
      clear hf3
      go_wp2_with fail
      refine bodyPost_ret (v := .tuple #[S (cnT (atA k m) (atK k m)), .bool true]) (by simp [results, Tryz.results17, go_sem]) rfl ?_
      exact ⟨_, _, rfl, .inl ⟨a, k, m, HI.out, rfl, HM.out, HAL.out.ok, HAL.out.sz, rfl, rfl⟩, HF3.out⟩
    · have HN := Lib.hid hno
      have HF2 := Lib.hid (HF1.out.trans hf2)
      clear hno hf2 ST
      go_wp2_with fail
      refine bodyPost_ret (v := .tuple #[S [], .bool false]) (by simp [results, Tryz.results17, go_sem]) rfl ?_
      exact ⟨_, _, rfl, .inr ⟨.inr ⟨a, k, HI.out, fun m h1 h2 => (HN.out m h1 h2).2⟩, rfl, rfl⟩, HF2.out⟩
  · have HN := Lib.hid hno
    have HF1 := Lib.hid hf1
    clear hno hf1
    go_wp2_with fail
    refine bodyPost_ret (v := .tuple #[S [], .bool false]) (by simp [results, Tryz.results17, go_sem]) rfl ?_
    exact ⟨_, _, rfl, .inr ⟨.inl HN.out, rfl, rfl⟩, HF1.out⟩

/-- at most so many first steps, and how many they were -/
def itT : Nat → Ts → Ts × Nat
  | 0, t => (t, 0)
  | n + 1, t => if 0 < cR t ∧ (stF t 0).size ≤ 300 then ((itT n (stF t 0)).1, (itT n (stF t 0)).2 + 1) else (t, 0)

theorem itT_le : ∀ (n : Nat) (t : Ts), (itT n t).2 ≤ n
  | 0, _ => Nat.le_refl _
  | n + 1, t => by
    have := itT_le n (stF t 0)
    simp only [itT]
    split
    · simp only; omega
    · exact Nat.zero_le _

theorem itT_yes {n : Nat} {t : Ts} (h : 0 < cR t ∧ (stF t 0).size ≤ 300) : itT (n + 1) t = ((itT n (stF t 0)).1, (itT n (stF t 0)).2 + 1) := by
  simp only [itT, if_pos h]

theorem itT_no {n : Nat} {t : Ts} (h : ¬ (0 < cR t ∧ (stF t 0).size ≤ 300)) : itT (n + 1) t = (t, 0) := by
  simp only [itT, if_neg h]

/-- a tree's term, without the names of what is bound -/
abbrev Et (a : List UInt8) (k : Fo) : Ts := er (nd [] a k)

theorem et_cR {a : List UInt8} {k : Fo} (h : OkT a k) (hs : treeSize a k ≤ 300) : cR (Et a k) = cT a k := by rw [cR_er, cR_tree h hs]

theorem et_step {a : List UInt8} {k : Fo} (h : OkT a k) (hs : treeSize a k ≤ 300) {m : Nat} (hm : m < cT a k) : OkT (atA k m) (atK k m) ∧ Et (atA k m) (atK k m) = stF (Et a k) m ∧ (stF (Et a k) m).size = treeSize (atA k m) (atK k m) := by
  by_cases ha : a = []
  · subst ha
    have e : treeSize [] k = k.size := by simp [treeSize]
    have s1 := (st_term (n := m) h (by omega) []).2 hm
    exact ⟨s1.ok, s1.eb, by rw [← s1.eb, er_size, s1.ok.size]⟩
  · rw [(ct_atom h ha []).1] at hm
    exact absurd hm (Nat.not_lt_zero m)

abbrev Bel (w : World) : Nat → Prop := fun b => b < w.heap.size

def OnP (n : Nat) (a : List UInt8) (k : Fo) (w : World) (e : Ending) (w' : World) : Prop :=
  ∃ p' a' k', e = .returned (.tuple #[Ptr p', .int .i64 ((itT n (Et a k)).2 : Nat)]) ∧ Fr No w w' ∧ TmAl w' (Bel w') p' a' k' ∧ Et a' k' = (itT n (Et a k)).1

set_option maxRecDepth 100000 in
set_option maxHeartbeats 1000000 in
theorem on_any {w : World} {p : Nat} {a : List UInt8} {k : Fo} (h : TmAl w (Bel w) p a k) (n : Nat) (hn : n ≤ 100000) :
    Calls Tryz.prog 22 #[Ptr p, .int .i64 (n : Int)] w fun e w' => OnP n a k w e w' := by
  have HH := Lib.hid h
  have n1 : (n : Int) ≤ 100000 := by omega
  clear h
  go_enter Tryz.func22, Tryz.ntmps22
  go_wp2_with fail
  go_loopw [0, 9] (fun u v wr => ∃ (i q : Nat) (b : List UInt8) (j : Fo), i ≤ n ∧ u = Ptr q ∧ v = .int .i64 (i : Int) ∧ Fr No w wr ∧ TmAl wr (Bel wr) q b j ∧ (itT n (Et a k)).1 = (itT (n - i) (Et b j)).1 ∧ (itT n (Et a k)).2 = i + (itT (n - i) (Et b j)).2) (fun _ v _ => n - (intOf v).toNat)
  case atStart =>
    exact ⟨0, p, a, k, Nat.zero_le _, rfl, rfl, Fr.refl _ _, HH.out, rfl, (Nat.zero_add _).symm⟩
  case round =>
    obtain ⟨i, q, b, j, hi, rfl, rfl, hfr, hal, e1, e2⟩ := hrel
    by_cases hlt : i < n
    · have i1 : (i : Int) < (n : Int) := by omega
      have i2 : (0 : Int) ≤ (i : Int) := by omega
      have ST := Lib.hid (step_al hal 0 (fun b hb => hb))
      have HAL := Lib.hid hal
      have HF := Lib.hid hfr
      have HE : Hid ((itT n (Et a k)).1 = (itT (n - i) (Et b j)).1 ∧ (itT n (Et a k)).2 = i + (itT (n - i) (Et b j)).2) := ⟨e1, e2⟩
      obtain ⟨g, hg⟩ : ∃ g, n - i = g + 1 := ⟨n - i - 1, by omega⟩
      have HG := Lib.hid hg
      clear hal hfr e1 e2 hg
      go_wp2_with fail
      refine ST.out.mono ?_
      rintro e w2 (⟨m, q'0, hm0, hm, rfl, hf2, hal2⟩ | ⟨hno, rfl, hf2⟩)
      · obtain rfl : m = 0 := by omega
        have hal := HAL.out
        have hg := HG.out
        obtain ⟨q1, q2, q3⟩ := et_step hal.ok hal.sz hm
        have hy : 0 < cR (Et b j) ∧ (stF (Et b j) 0).size ≤ 300 := by
          rw [et_cR hal.ok hal.sz, q3]
          exact ⟨hm, hal2.sz⟩
        have hit := itT_yes (n := g) hy
        have REL : Hid (∃ (i' q' : Nat) (b' : List UInt8) (j' : Fo), i' ≤ n ∧ Ptr q'0 = Ptr q' ∧ Value.int .i64 ((i : Int) + 1) = .int .i64 (i' : Int) ∧ Fr No w w2 ∧ TmAl w2 (Bel w2) q' b' j' ∧ (itT n (Et a k)).1 = (itT (n - i') (Et b' j')).1 ∧ (itT n (Et a k)).2 = i' + (itT (n - i') (Et b' j')).2) := by
          refine ⟨i + 1, q'0, atA j 0, atK j 0, hlt, rfl, rfl, HF.out.trans hf2, hal2.mono (fun b hb => hb.elim (fun h => Nat.lt_of_lt_of_le h hf2.size) (fun h => h.2)) (fun _ _ => rfl), ?_, ?_⟩
          · rw [HE.out.1, hg, hit, q2, show n - (i + 1) = g by omega]
          · rw [HE.out.2, hg, hit, q2, show n - (i + 1) = g by omega]
            simp only; omega
        have i3 : IntKind.i64.wrap ((i : Int) + 1) = (i : Int) + 1 := IntWalk.i64_in _ (by omega)
        clear hal hal2 hg q1 q2 q3 hy hit hf2 hm hm0 ST
        go_wp2_with fail
        go_roundw
        case rel => exact REL.out
        case measure => simp [intOf]; omega
      · have hal := HAL.out
        have hg := HG.out
        have hno2 : ¬ (0 < cR (Et b j) ∧ (stF (Et b j) 0).size ≤ 300) := by
          rintro ⟨h1, h2⟩
          rw [et_cR hal.ok hal.sz] at h1
          obtain ⟨_, _, q3⟩ := et_step hal.ok hal.sz h1
          have := (hno 0 rfl h1).2
          omega
        have hit := itT_no (n := g) hno2
        have FIN : Hid (OnP n a k w (.returned (.tuple #[Ptr q, .int .i64 (i : Int)])) w2) := by
          have e2 := HE.out.2
          rw [hg, hit] at e2
          refine ⟨q, b, j, ?_, HF.out.trans hf2, hal.mono (fun b hb => Nat.lt_of_lt_of_le hb hf2.size) (fun b hb => hf2.block b hb (fun h => h)), ?_⟩
          · rw [e2]; rfl
          · rw [HE.out.1, hg, hit]
        clear hal hg hno2 hit hf2 hno ST
        go_wp2_with fail
        refine bodyPost_ret (v := .tuple #[Ptr q, .int .i64 (i : Int)]) (by simp [results, Tryz.results22, go_sem]) rfl ?_
        exact FIN.out
    · have hin : i = n := by omega
      subst hin
      have FIN : Hid (OnP i a k w (.returned (.tuple #[Ptr q, .int .i64 (i : Int)])) wr) := by
        rw [Nat.sub_self] at e1 e2
        refine ⟨q, b, j, ?_, hfr, hal, e1.symm⟩
        rw [e2]; rfl
      clear hal hfr e1 e2 hlt
      go_wp2_with fail
      refine bodyPost_ret (v := .tuple #[Ptr q, .int .i64 (i : Int)]) (by simp [results, Tryz.results22, go_sem]) rfl ?_
      exact FIN.out
end Go.Proofs.YtnjgaenhjdjpfaaGreatDoor
