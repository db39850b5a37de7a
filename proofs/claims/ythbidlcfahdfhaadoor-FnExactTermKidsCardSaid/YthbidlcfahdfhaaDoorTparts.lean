/- The reader of terms: parts. -/
import Derived.Test.YthbidlcfahdfhaaDoorTnext
namespace Go.Proofs.YthbidlcfahdfhaaDoor
open Go.RowKit Go.ChangeMaps

section
variable (rd : List UInt8 → Nat → TR) (u : List UInt8) (k : Nat)
theorem rdParts_1 (h : 300 < k + 1) : rdParts rd u k = none := by unfold rdParts; rw [if_pos h]
theorem rdParts_2 (h : ¬ 300 < k + 1) (h0 : kidsOf (wordOf u) = 0) : rdParts rd u k = none := by unfold rdParts; rw [if_neg h, if_pos h0]
theorem rdParts_3 (h : ¬ 300 < k + 1) (h0 : ¬ kidsOf (wordOf u) = 0) (hb : bindsB (wordOf u) = true) (hs : ∀ v, behind u ≠ 32 :: v) : rdParts rd u k = none := by
  unfold rdParts; rw [if_neg h, if_neg h0, if_pos hb]
  split
  · rename_i v hv; exact absurd hv (hs v)
  · rfl
theorem rdParts_4 (h : ¬ 300 < k + 1) (h0 : ¬ kidsOf (wordOf u) = 0) (hb : bindsB (wordOf u) = true) (v : List UInt8) (hs : behind u = 32 :: v) (h2 : 300 < k + 2) : rdParts rd u k = none := by
  unfold rdParts; rw [if_neg h, if_neg h0, if_pos hb, hs]
  simp only [if_pos h2]
theorem rdParts_5 (h : ¬ 300 < k + 1) (h0 : ¬ kidsOf (wordOf u) = 0) (hb : bindsB (wordOf u) = true) (v : List UInt8) (hs : behind u = 32 :: v) (h2 : ¬ 300 < k + 2) (hn : isName (wordOf v) = false) : rdParts rd u k = none := by
  unfold rdParts; rw [if_neg h, if_neg h0, if_pos hb, hs]
  simp only [if_neg h2, hn]
  rfl
theorem rdParts_6 (h : ¬ 300 < k + 1) (h0 : ¬ kidsOf (wordOf u) = 0) (hb : bindsB (wordOf u) = true) (v : List UInt8) (hs : behind u = 32 :: v) (h2 : ¬ 300 < k + 2) (hn : isName (wordOf v) = true) :
    rdParts rd u k = rdClose (rdKids rd (kidsOf (wordOf u)) (behind v) (k + 2) (.cons (wordOf u) .nil (.cons (wordOf v) .nil .nil))) := by
  unfold rdParts; rw [if_neg h, if_neg h0, if_pos hb, hs]
  simp only [if_neg h2, hn, if_true]
theorem rdParts_7 (h : ¬ 300 < k + 1) (h0 : ¬ kidsOf (wordOf u) = 0) (hb : bindsB (wordOf u) = false) :
    rdParts rd u k = rdClose (rdKids rd (kidsOf (wordOf u)) (behind u) (k + 1) (.cons (wordOf u) .nil .nil)) := by
  unfold rdParts; rw [if_neg h, if_neg h0, if_neg (by rw [hb]; decide)]
end

/-- what holds of the parts read so far -/
structure KP (f cnt : Nat) (res : TR) (pre : Fo) (u0 : List UInt8) (n0 : Nat) (g : Fo) (ui : List UInt8) (ni : Nat) : Prop where
  eq : res = rdClose (rdKids (tmRd f) (cnt - g.len) ui ni (pre.app g))
  tms : isTms (some (List.replicate g.len true)) g = true
  wf : g.wf
  num : ni = n0 + g.size
  le : ni ≤ 300
  len : ui.length ≤ u0.length

theorem KP.start {f cnt : Nat} {res : TR} {pre : Fo} {u0 : List UInt8} {n0 : Nat} (h : res = rdClose (rdKids (tmRd f) cnt u0 n0 pre)) (hn : n0 ≤ 300) : KP f cnt res pre u0 n0 .nil u0 n0 :=
  ⟨by rw [Fo.app_nil]; exact h, rfl, trivial, by simp [Fo.size], hn, Nat.le_refl _⟩

theorem KP.nosp {f cnt : Nat} {res : TR} {pre : Fo} {u0 : List UInt8} {n0 : Nat} {g : Fo} {ui : List UInt8} {ni : Nat} (h : KP f cnt res pre u0 n0 g ui ni) (hlt : g.len < cnt) (hs : ∀ v, ui ≠ 32 :: v) : res = none := by
  rw [h.eq]
  obtain ⟨m, hm⟩ : ∃ m, cnt - g.len = m + 1 := ⟨cnt - g.len - 1, by omega⟩
  rw [hm]
  have : rdKids (tmRd f) (m + 1) ui ni (pre.app g) = none := by
    unfold rdKids
    split
    · rename_i v; exact absurd rfl (hs v)
    · rfl
  rw [this]; rfl

theorem KP.kid {f cnt : Nat} {res : TR} {pre : Fo} {u0 : List UInt8} {n0 : Nat} {g : Fo} {v : List UInt8} {ni : Nat} (h : KP f cnt res pre u0 n0 g (32 :: v) ni) (hlt : g.len < cnt) :
    (tmRd f v ni = none → res = none) ∧ ∀ a k r n', tmRd f v ni = some (a, k, r, n') → KP f cnt res pre u0 n0 (g.snoc a k) r n' ∧ r.length ≤ v.length := by
  obtain ⟨m, hm⟩ : ∃ m, cnt - g.len = m + 1 := ⟨cnt - g.len - 1, by omega⟩
  have he := h.eq
  rw [hm] at he
  refine ⟨fun hn => ?_, fun a k r n' hs => ?_⟩
  · rw [he, rdKids]
    simp only [hn]
    rfl
  · obtain ⟨s1, s2, s3, s4, s5, s6, _⟩ := tmRd_sound _ _ _ _ _ _ _ hs
    have hlen : r.length ≤ v.length := by rw [s1]; simp
    refine ⟨⟨?_, ?_, wf_snoc _ _ _ h.wf s5 s6, ?_, s4, ?_⟩, hlen⟩
    · rw [he, rdKids]
      simp only [hs]
      rw [Fo.len_snoc, show cnt - (g.len + 1) = m by omega]
      congr 2
      have : ∀ (p q : Fo), (p.app q).snoc a k = p.app (q.snoc a k) := by
        intro p q
        induction p with
        | nil => rfl
        | cons b j p _ ih => simp [Fo.app, Fo.snoc, ih]
      exact this pre g
    · have : ∀ (q : Fo) (c : Nat), isTms (some (List.replicate c true)) q = true → isTms (some (List.replicate (c + 1) true)) (q.snoc a k) = true := by
        intro q
        induction q with
        | nil =>
          intro c hc
          cases c with
          | zero => simp only [Fo.snoc, List.replicate_succ, List.replicate_zero, isTms, Bool.and_eq_true]; exact ⟨s2, trivial⟩
          | succ c => simp [List.replicate_succ, isTms] at hc
        | cons b j q _ ih =>
          intro c hc
          cases c with
          | zero => simp [isTms] at hc
          | succ c =>
            rw [List.replicate_succ] at hc
            simp only [isTms, Bool.and_eq_true] at hc
            rw [Fo.snoc, List.replicate_succ]
            simp only [isTms, Bool.and_eq_true]
            exact ⟨hc.1, ih c hc.2⟩
      rw [Fo.len_snoc]
      exact this g g.len h.tms
    · have : ∀ q : Fo, (q.snoc a k).size = q.size + treeSize a k := by
        intro q
        induction q with
        | nil => simp [Fo.snoc, Fo.size, treeSize]
        | cons b j q _ ih => simp [Fo.snoc, Fo.size, ih]; omega
      rw [this, s3, h.num]; omega
    · have := h.len
      simp at this
      omega

theorem KP.end_ {f cnt : Nat} {res : TR} {pre : Fo} {u0 : List UInt8} {n0 : Nat} {g : Fo} {ui : List UInt8} {ni : Nat} (h : KP f cnt res pre u0 n0 g ui ni) (hlt : g.len = cnt) :
    ((∀ r, ui ≠ 41 :: r) → res = none) ∧ ∀ r, ui = 41 :: r → res = some ([], pre.app g, r, ni) := by
  have he := h.eq
  rw [hlt, Nat.sub_self, rdKids] at he
  refine ⟨fun hn => ?_, fun r hr => ?_⟩
  · rw [he]
    unfold rdClose
    split
    · rename_i heq
      simp only [Option.some.injEq, Prod.mk.injEq] at heq
      exact absurd heq.2.1 (hn _)
    · rfl
  · rw [he, hr]; rfl

theorem insB_len (bs : List (List UInt8)) (h x : List UInt8) (i : Nat) : (insB bs h x i).length ≤ bs.length + (if bindsB h = true then 1 else 0) := by
  unfold insB
  by_cases hb : bindsB h = true
  · simp only [hb, true_and, if_true]
    split <;> simp
  · simp [hb]

set_option maxRecDepth 100000 in
set_option maxHeartbeats 4000000 in
theorem nextParts_any (f : Nat) (hIH : ReadSaid f) (w : World) (R : Nat) (bs : List (List UInt8)) (A : Option Addr) (c n : Nat) (u : List UInt8) (k : Nat) (hn : n = bs.length) (hA : NSl w A bs) (hAR : ∀ g o, A = some ⟨g, o, none⟩ → g ≠ R) (hR : TRdr w R u k) (hu : u.length ≤ 6000)
    (huf : u.length < f) (hnk : n ≤ k) (hk : k ≤ 300) :
    Calls Tryd.prog 69 #[Ptr R, .slice A n c] w fun e w' => ReadP w R bs (rdParts (tmRd f) u k) e w' := by
  have hlt := hR.lt
  have IH := Lib.hid hIH
  have HA := Lib.hid hA
  have HAR := Lib.hid hAR
  have HNN := Lib.hid hn
  clear hA hAR hn hIH
  obtain ⟨res, hres⟩ : ∃ res : TR, res = rdParts (tmRd f) u k := ⟨_, rfl⟩
  rw [← hres]
  have HRES := Lib.hid hres
  clear hres
  obtain ⟨h, hh⟩ : ∃ h, h = wordOf u := ⟨_, rfl⟩
  have hub := word_behind u
  have hubl : (behind u).length ≤ u.length := by have := congrArg List.length hub; simp at this; omega
  have HH := Lib.hid hh
  clear hub hh
  have HR := Lib.hid hR
  clear hR
  go_enter Tryd.func69, Tryd.ntmps69
  go_wp2_with fail
  refine (word_any w R u k HR.out hu (by omega)).mono ?_
  rintro e w1 ⟨hR1, hf1, rfl⟩
  by_cases h300 : 300 < k + 1
  · rw [if_pos h300] at hR1
    rw [if_pos h300]
    have HN := Lib.hid (HRES.out.trans (rdParts_1 _ _ _ h300))
    have HR1 := Lib.hid hR1
    have HF1 := Lib.hid hf1
    clear hR1 hf1 h300
    go_wp2_with fail
    refine (kids_any [] 0 (by decide) w1).mono ?_
    rintro e w' ⟨rfl, rfl⟩
    go_wp2_with fail
    go_ret
    exact ReadP.no HN.out HF1.out HR1.out
  · rw [if_neg h300] at hR1
    rw [if_neg h300, ← HH.out]
    have HR1 := Lib.hid hR1
    have HF1 := Lib.hid hf1
    have H300 := Lib.hid h300
    clear hR1 hf1 h300
    have hc3 := kids_le h
    obtain ⟨cnt, hcnt⟩ : ∃ cnt, cnt = kidsOf h := ⟨_, rfl⟩
    have HC := Lib.hid hcnt.symm
    rw [← hcnt] at hc3
    have hcz : (cnt : Int) ≤ 3 := by omega
    clear hcnt
    go_wp2_with fail
    refine (kids_any h cnt HC.out w1).mono ?_
    rintro e w' ⟨rfl, rfl⟩
    by_cases h0 : cnt = 0
    · subst h0
      have HN := Lib.hid (HRES.out.trans (rdParts_2 _ _ _ H300.out (by rw [← HH.out]; exact HC.out)))
      go_wp2_with fail
      go_ret
      exact ReadP.no HN.out HF1.out HR1.out
    · have n0 : ((cnt : Int) == 0) = false := beq_eq_false_iff_ne.2 (by omega)
      have hk0 : ¬ kidsOf (wordOf u) = 0 := by rw [← HH.out, HC.out]; exact h0
      have HK0' := Lib.hid hk0
      clear hk0
      have hlt1 := HR1.out.lt
      rcases hbb : bindsB h with _ | _
      · have HBB := Lib.hid hbb
        clear hbb
        have HEQ := Lib.hid (HRES.out.trans (rdParts_7 _ _ _ H300.out HK0'.out (by rw [← HH.out]; exact HBB.out)))
        have HB1 : Hid (bs.length + (if bindsB h = true then 1 else 0) ≤ k + 1) := by
          show _ ≤ _
          rw [HBB.out]; have := HNN.out; simp; omega
        go_wp2_with fail
        refine (binds_any h false HBB.out w1).mono ?_
        rintro e w' ⟨rfl, rfl⟩
        go_wp2_with fail
        have HKS : Hid (KL w R .nil 0 (.slice (some ⟨w1.heap.size, 0, none⟩) 0 0) (w1.alloc (.cells #[] 39))) := KL.start w R hlt HF1.out _ rfl
        have HRS : Hid (TRdr (w1.alloc (.cells #[] 39)) R (behind u) (k + 1)) := HR1.out.alloc _
        generalize w1.alloc (.cells #[] 39) = w5 at HKS HRS ⊢
        obtain ⟨u0, hu0⟩ : ∃ u0, u0 = behind u := ⟨_, rfl⟩
        obtain ⟨n0', hn0⟩ : ∃ n0', n0' = k + 1 := ⟨_, rfl⟩
        have h300' := H300.out
        have HP0 : Hid (KP f cnt res (.cons h .nil .nil) u0 n0' .nil u0 n0') := by
          refine KP.start ?_ (by omega)
          rw [hu0, hn0]
          have := HEQ.out
          rw [← HH.out, HC.out] at this
          exact this
        rw [← hu0, ← hn0] at HRS
        have HR0 := HRS
        have HK0 : Hid (KL w R (cv .nil (.kids bs h [] 0)) Fo.nil.len (.slice (some ⟨w1.heap.size, 0, none⟩) Fo.nil.len 0) w5) := HKS.out
        rw [← hn0] at HB1
        have hnn : n ≤ n0' := by omega
        rw [← hu0] at hubl
        clear HRS HKS HRES HEQ hu0 hn0 h300' n0 hlt1
        go_loopw [8, 31] (fun V u wr => ∃ (g : Fo) (ui : List UInt8) (ni : Nat) (Ai : Option Addr) (ci : Nat), g.len ≤ cnt ∧ u = .int .i64 g.len ∧ V = .slice Ai g.len ci ∧ KL w R (cv g (.kids bs h [] 0)) g.len (.slice Ai g.len ci) wr ∧ TRdr wr R ui ni ∧ KP f cnt res (.cons h .nil .nil) u0 n0' g ui ni) (fun _ u _ => cnt - (intOf u).toNat)
        case atStart => exact ⟨.nil, u0, n0', _, 0, Nat.zero_le _, rfl, rfl, HK0.out, HR0.out, HP0.out⟩
        case round =>
          obtain ⟨g, ui, ni, Ai, ci, hgl, rfl, rfl, hkl, hri, hkp⟩ := hrel
          have HKL := Lib.hid hkl
          have HKP := Lib.hid hkp
          have HRI := Lib.hid hri
          clear hkl hkp hri
          obtain ⟨i, hi⟩ : ∃ i, i = g.len := ⟨_, rfl⟩
          have HI := Lib.hid hi
          rw [← hi] at hgl ⊢
          rw [← hi] at HKL
          have hltR := HRI.out.lt
          clear hi
          have ic : (i : Int) ≤ 3 := by omega
          have SK := Lib.hid (skip_one wr R ui ni 32 HRI.out)
          have SK2 := Lib.hid (skip_one wr R ui ni 41 HRI.out)
          by_cases hlt : i < cnt
          · go_wp2_with fail
            refine SK.out.mono ?_
            rintro e w1 ⟨hf1, ⟨v, hv, rfl, hR1⟩ | ⟨hno, rfl, hR1⟩⟩
            · have HKPv : Hid (KP f cnt res (.cons h .nil .nil) u0 n0' g (32 :: v) ni) := by
                have := HKP.out
                rw [hv] at this
                exact this
              have hvl : v.length < u0.length := by have := HKPv.out.len; simp at this; omega
              have hnile := HKPv.out.le
              have hni : n0' ≤ ni := by have := HKPv.out.num; omega
              have hf01 : Fr (One R) w w1 := HKL.out.fr.trans hf1
              have INS : Hid (Calls Tryd.prog 36 #[.slice A n c, S h, S [], .int .i64 i] w1 fun e w' => InsPost A (insB bs h [] i) w1 e w') := inside_any w1 A bs c n HNN.out h [] i (HA.out.fr hf01 (fun g o e h => HAR.out g o e h)) (by omega) (by omega)
              have HV := Lib.hid hv
              clear hv
              go_wp2_with fail
              refine INS.out.mono ?_
              rintro e w2 ⟨A', c', rfl, hf2, hns, hor⟩
              have hR2 := hR1.fr hf2 (fun h => h)
              have hf12 : Fr (One R) wr w2 := hf1.trans (hf2.mono (fun _ _ h => h.elim))
              have hsz2 := hf12.size
              have hil := insB_len bs h [] i
              have NX : Hid (Calls Tryd.prog 49 #[Ptr R, .slice A' (insB bs h [] i).length c'] w2 fun e w' => ReadP w2 R (insB bs h [] i) (tmRd f v ni) e w') := by
                refine IH.out w2 R (insB bs h [] i) A' c' _ v ni rfl hns ?_ hR2 (by omega) (by omega) (by have := HNN.out; have := HB1.out; omega) hnile
                intro g o e
                rcases hor with h1 | h1
                · exact HAR.out g o (h1 ▸ e)
                · have := h1 g o e; have := hR1.lt; have := hf1.size; have := HKL.out.low; have := HKL.out.fr.size; omega
              obtain ⟨K1, K2⟩ := HKPv.out.kid (by have := HI.out; omega)
              have HK1 := Lib.hid K1
              have HK2 := Lib.hid K2
              obtain ⟨bs', hbs'⟩ : ∃ bs', bs' = insB bs h [] i := ⟨_, rfl⟩
              have HBS := Lib.hid hbs'
              rw [← hbs'] at NX
              clear hns hor hR1 hf1 hf2 hR2 hil K1 K2
              rw [← hbs']
              clear hbs'
              generalize bs'.length = bl at NX ⊢
              go_wp2_with fail
              refine NX.out.mono ?_
              rintro e w3 hpost
              rcases hres3 : tmRd f v ni with _ | ⟨a, kk, r, n'⟩
              · obtain ⟨rfl, u', n', hR3⟩ := hpost.nil_ hres3
                have HN := Lib.hid (HK1.out hres3)
                have HR3 := Lib.hid hR3
                have HF3 := Lib.hid (HKL.out.fr.trans (hf12.trans hpost.1))
                clear hpost hres3 hR3
                go_wp2_with fail
                go_ret
                exact ReadP.no HN.out HF3.out HR3.out
              · obtain ⟨p, rfl, hR3, htm⟩ := hpost.yes hres3
                obtain ⟨hkp', hrl⟩ := HK2.out a kk r n' hres3
                have HF3 := Lib.hid (hf12.trans hpost.1)
                have HKP' := Lib.hid hkp'
                have HR3 := Lib.hid hR3
                have HTM : Hid (Tm w3 (fun b => wr.heap.size ≤ b ∧ b < w3.heap.size) p (ndH a kk) (ndA bs' a kk) (ndD bs' a) (cv kk (.parts bs'))) := htm.mono (fun b hb => ⟨Nat.le_trans hsz2 hb.1, hb.2⟩) (fun _ _ => rfl)
                have HKL3 := Lib.hid (HKL.out.keep HF3.out)
                clear hpost hres3 hR3 htm hkp'
                obtain ⟨xs, hown0, hel0⟩ := HKL3.out.own
                obtain ⟨i0, hi0, hz0, hz1, hz2⟩ := info_parts info_ptr
                have hsz3 := HKL3.out.fr.size
                have HOA : Hid (∀ o : Obj, (w3.alloc o).ownsRow w.heap.size 39 1 (.slice Ai i ci) i xs) := fun o => hown0.alloc o
                have HC1 : Hid (∀ (i : Nat) (u : Value), [Ptr p][i]? = some u → (w3.alloc (.cells #[Ptr p] 39)).cell? ((⟨w3.heap.size, 0, none⟩ : Addr).add i) = some u) := cells_new (w := w3) rfl [Ptr p] 39
                have HC2 : Hid (∀ u ∈ [Ptr p], u.oneCell' = true) := by
                  intro u hu
                  simp at hu
                  rw [hu]; rfl
                have HC5 : Hid (∀ o : Obj, w.heap.size ≤ (w3.alloc o).heap.size) := fun o => by simp; omega
                have bnd : (i + 1) * 8 ≤ 140737488355328 := by omega
                have bnd2 : i + 1 ≤ maxLen := by unfold maxLen; omega
                have HM : Hid (∀ (o : Obj) V' w4, w4.ownsRow w.heap.size 39 1 V' (i + 1) (xs ++ [Ptr p]) → (w3.alloc o).grownBy w4 (Value.slice Ai i ci).ownBlock → (V'.ownBlock = (Value.slice Ai i ci).ownBlock ∨ V'.ownBlock = some (w3.alloc o).heap.size) →
                    ∃ A4 c4, V' = .slice A4 (i + 1) c4 ∧ KL w R (cv (g.snoc a kk) (.kids bs h [] 0)) (i + 1) V' w4 ∧ TRdr w4 R r n') := by
                  intro o V' w4 h1 h2 h3
                  obtain ⟨A4, c4, e4⟩ := own_form h1
                  refine ⟨A4, c4, e4, ?_, ?_⟩
                  · rw [cv_snoc, Nat.zero_add, ← HI.out, ← HBS.out]
                    exact HKL.out.more HF3.out HTM.out hown0 hel0 h1 h2 h3
                  · have := HKL3.out.low
                    have hb := h2.block R (by simp; omega) (fun e => by have := (hown0.lt R e.symm).1; omega)
                    exact Blk.keep (HR3.out.alloc o) hb
                clear hown0 hel0 hrl
                go_wp2_with (at_builtin; go_must (refine wpList_append_own_at _ rfl _ _ 41 rfl w.heap.size 39 i0 (.pointer none) 1 8 Tryd.underlying41 hi0 hz0 hz1 hz2 rfl (by decide) _ i xs rfl (HOA.out _) ⟨w3.heap.size, 0, none⟩ 1 1 [Ptr p] rfl rfl HC1.out HC2.out bnd2 bnd (HC5.out _) ?_); intro v' w4 hown' hgrow _ hloc; obtain ⟨A4, c4, rfl, hkl4, hR4⟩ := HM.out _ v' w4 hown' hgrow hloc; have HKL4 := Lib.hid hkl4; have HR4 := Lib.hid hR4; clear hown' hgrow hloc hkl4 hR4)
                go_roundw
                case rel => exact ⟨g.snoc a kk, r, n', A4, c4, by rw [Fo.len_snoc, ← HI.out]; omega, by rw [Fo.len_snoc, ← HI.out]; go_num, by rw [Fo.len_snoc, ← HI.out], by rw [Fo.len_snoc, ← HI.out]; exact HKL4.out, HR4.out, HKP'.out⟩
                case measure => simp [intOf]; omega
            · have HN := Lib.hid (HKP.out.nosp (by have := HI.out; omega) hno)
              have HR3 := Lib.hid hR1
              have HF3 := Lib.hid (HKL.out.fr.trans hf1)
              clear hno hR1 hf1
              go_wp2_with fail
              go_ret
              exact ReadP.no HN.out HF3.out HR3.out
          · have hic : i = cnt := by omega
            obtain ⟨E1, E2⟩ := HKP.out.end_ (by have := HI.out; omega)
            have HE1 := Lib.hid E1
            have HE2 := Lib.hid E2
            clear E1 E2 hic
            go_wp2_with fail
            refine SK2.out.mono ?_
            rintro e w1 ⟨hf1, ⟨r, hr, rfl, hR1⟩ | ⟨hno, rfl, hR1⟩⟩
            · have HS := Lib.hid (HE2.out r hr)
              have hk1 := HKL.out.keep hf1
              have hcl : (cv g (.kids bs h [] 0)).len = i := by rw [cv_kids_len]; exact HI.out.symm
              have hts := hk1.done hcl
              have hcs := (cv_size g HKP.out.wf).1 bs h [] 0 _ HKP.out.tms
              have hgs : g.size ≤ 300 := by have := HKP.out.num; have := HKP.out.le; omega
              have NT : Hid (Calls Tryd.prog 71 #[S h, S [], .slice Ai i ci] w1 fun e w' => NewPost (fun b => w.heap.size ≤ b ∧ b < w1.heap.size) h [] (cv g (.kids bs h [] 0)) w1 e w') := by
                have := newTerm_any w1 (fun b => w.heap.size ≤ b ∧ b < w1.heap.size) h [] (cv g (.kids bs h [] 0)) Ai ci (fun b hb => hb.2) hts (by omega) (by omega)
                rw [hcl] at this
                exact this
              have FIN : Hid (∀ e w', NewPost (fun b => w.heap.size ≤ b ∧ b < w1.heap.size) h [] (cv g (.kids bs h [] 0)) w1 e w' → ∃ p, e = .returned (Ptr p) ∧ ReadP w R bs res (.returned (Ptr p)) w') := by
                rintro e w' ⟨p, rfl, hf2, hp, htm⟩
                have hs := HS.out
                subst hs
                have hs1 := hk1.fr.size
                refine ⟨p, rfl, hk1.fr.trans (hf2.mono (fun _ _ h => h.elim)), p, rfl, hR1.fr hf2 (fun h => h), ?_⟩
                have h2 : Tm w' (NewT w w') p h [] 0 (cv g (.kids bs h [] 0)) := htm.mono (fun b hb => by
                  rcases hb with hb | hb
                  · exact ⟨hb.1, Nat.lt_of_lt_of_le hb.2 hf2.size⟩
                  · exact ⟨Nat.le_trans hs1 hb.1, hb.2⟩) (fun _ _ => rfl)
                have hbb := HBB.out
                simpa [ndH, ndA, ndD, hd1, hd2, Fo.app, cv, hbb] using h2
              clear hr hR1 hf1 hk1 hcl hts hcs hgs
              go_wp2_with fail
              refine NT.out.mono ?_
              rintro e w2 hpost
              obtain ⟨p, rfl, hfin⟩ := FIN.out _ _ hpost
              have HF := Lib.hid hfin
              clear hfin hpost
              go_wp2_with fail
              go_ret
              exact HF.out
            · have HN := Lib.hid (HE1.out hno)
              have HR3 := Lib.hid hR1
              have HF3 := Lib.hid (HKL.out.fr.trans hf1)
              clear hno hR1 hf1
              go_wp2_with fail
              go_ret
              exact ReadP.no HN.out HF3.out HR3.out
      · have HBB := Lib.hid hbb
        clear hbb
        have SK := Lib.hid (skip_one w1 R (behind u) (k + 1) 32 HR1.out)
        go_wp2_with fail
        refine (binds_any h true HBB.out w1).mono ?_
        rintro e w' ⟨rfl, rfl⟩
        go_wp2_with fail
        refine SK.out.mono ?_
        rintro e w2 ⟨hf2, ⟨v, hv, rfl, hR2⟩ | ⟨hno, rfl, hR2⟩⟩
        · have hvl : v.length < u.length := by rw [hv] at hubl; simp at hubl; omega
          have HV := Lib.hid hv
          have hf02 := HF1.out.trans hf2
          clear hv
          go_wp2_with fail
          refine (word_any w2 R v (k + 1) hR2 (by omega) (by omega)).mono ?_
          rintro e w3 ⟨hR3, hf3, rfl⟩
          have hf03 := hf02.trans hf3
          by_cases h302 : 300 < k + 1 + 1
          · rw [if_pos h302] at hR3
            rw [if_pos h302]
            have HN := Lib.hid (HRES.out.trans (rdParts_4 _ _ _ H300.out HK0'.out (by rw [← HH.out]; exact HBB.out) v HV.out (by omega)))
            go_wp2_with fail
            refine (nameIs_any [] w3 (by simp)).mono ?_
            rintro e w4 ⟨rfl, hf4⟩
            rw [show isName [] = false from rfl]
            have HR4 := Lib.hid (hR3.fr hf4 (fun h => h))
            have HF4 := Lib.hid (hf03.trans (hf4.mono (fun _ _ h => h.elim)))
            clear hR3 hf4 hf03 hf3 hf02 hf2 hR2
            go_wp2_with fail
            go_ret
            exact ReadP.no HN.out HF4.out HR4.out
          · rw [if_neg h302] at hR3
            rw [if_neg h302]
            obtain ⟨x, hx⟩ : ∃ x, x = wordOf v := ⟨_, rfl⟩
            have hvb := congrArg List.length (word_behind v)
            simp only [List.length_append] at hvb
            rw [← hx] at hvb ⊢
            have HX := Lib.hid hx
            clear hx
            go_wp2_with fail
            refine (nameIs_any x w3 (by omega)).mono ?_
            rintro e w4 ⟨rfl, hf4⟩
            have HR4 := Lib.hid (hR3.fr hf4 (fun h => h))
            have HF4 := Lib.hid (hf03.trans (hf4.mono (fun _ _ h => h.elim)))
            have hsz4 := HF4.out.size
            clear hR3 hf4 hf03 hf3 hf02 hf2 hR2
            rcases hnm : isName x with _ | _
            · have HN := Lib.hid (HRES.out.trans (rdParts_5 _ _ _ H300.out HK0'.out (by rw [← HH.out]; exact HBB.out) v HV.out (by omega) (by rw [← HX.out]; exact hnm)))
              clear hnm
              go_wp2_with fail
              go_ret
              exact ReadP.no HN.out HF4.out HR4.out
            · have HEQ := Lib.hid (HRES.out.trans (rdParts_6 _ _ _ H300.out HK0'.out (by rw [← HH.out]; exact HBB.out) v HV.out (by omega) (by rw [← HX.out]; exact hnm)))
              have HB1 : Hid (bs.length + (if bindsB h = true then 1 else 0) ≤ k + 2) := by
                show _ ≤ _
                rw [HBB.out]; have := HNN.out; simp; omega
              clear hnm
              go_wp2_with fail
              have HKS : Hid (KL w R .nil 0 (.slice (some ⟨w4.heap.size, 0, none⟩) 0 0) (w4.alloc (.cells #[] 39))) := KL.start w R hlt HF4.out _ rfl
              have HRS : Hid (TRdr (w4.alloc (.cells #[] 39)) R (behind v) (k + 2)) := HR4.out.alloc _
              generalize w4.alloc (.cells #[] 39) = w5 at HKS HRS ⊢
              obtain ⟨u0, hu0⟩ : ∃ u0, u0 = behind v := ⟨_, rfl⟩
              obtain ⟨n0', hn0⟩ : ∃ n0', n0' = k + 2 := ⟨_, rfl⟩
              have HP0 : Hid (KP f cnt res (.cons h .nil (.cons x .nil .nil)) u0 n0' .nil u0 n0') := by
                refine KP.start ?_ (by omega)
                rw [hu0, hn0]
                have := HEQ.out
                rw [← HH.out, HC.out, ← HX.out] at this
                exact this
              rw [← hu0, ← hn0] at HRS
              have HR0 := HRS
              have HK0 : Hid (KL w R (cv .nil (.kids bs h x 0)) Fo.nil.len (.slice (some ⟨w4.heap.size, 0, none⟩) Fo.nil.len 0) w5) := HKS.out
              rw [← hn0] at HB1
              have hnn : n ≤ n0' := by omega
              rw [← hu0] at hvb
              have hubl : u0.length ≤ u.length := by omega
              clear HRS HKS HRES HEQ hu0 hn0 n0 hlt1 hvb
              go_loopw [8, 31] (fun V u wr => ∃ (g : Fo) (ui : List UInt8) (ni : Nat) (Ai : Option Addr) (ci : Nat), g.len ≤ cnt ∧ u = .int .i64 g.len ∧ V = .slice Ai g.len ci ∧ KL w R (cv g (.kids bs h x 0)) g.len (.slice Ai g.len ci) wr ∧ TRdr wr R ui ni ∧ KP f cnt res (.cons h .nil (.cons x .nil .nil)) u0 n0' g ui ni) (fun _ u _ => cnt - (intOf u).toNat)
              case atStart => exact ⟨.nil, u0, n0', _, 0, Nat.zero_le _, rfl, rfl, HK0.out, HR0.out, HP0.out⟩
              case round =>
                obtain ⟨g, ui, ni, Ai, ci, hgl, rfl, rfl, hkl, hri, hkp⟩ := hrel
                have HKL := Lib.hid hkl
                have HKP := Lib.hid hkp
                have HRI := Lib.hid hri
                clear hkl hkp hri
                obtain ⟨i, hi⟩ : ∃ i, i = g.len := ⟨_, rfl⟩
                have HI := Lib.hid hi
                rw [← hi] at hgl ⊢
                rw [← hi] at HKL
                have hltR := HRI.out.lt
                clear hi
                have ic : (i : Int) ≤ 3 := by omega
                have SK := Lib.hid (skip_one wr R ui ni 32 HRI.out)
                have SK2 := Lib.hid (skip_one wr R ui ni 41 HRI.out)
                by_cases hlt : i < cnt
                · go_wp2_with fail
                  refine SK.out.mono ?_
                  rintro e w1 ⟨hf1, ⟨v, hv, rfl, hR1⟩ | ⟨hno, rfl, hR1⟩⟩
                  · have HKPv : Hid (KP f cnt res (.cons h .nil (.cons x .nil .nil)) u0 n0' g (32 :: v) ni) := by
                      have := HKP.out
                      rw [hv] at this
                      exact this
                    have hvl : v.length < u0.length := by have := HKPv.out.len; simp at this; omega
                    have hnile := HKPv.out.le
                    have hni : n0' ≤ ni := by have := HKPv.out.num; omega
                    have hf01 : Fr (One R) w w1 := HKL.out.fr.trans hf1
                    have INS : Hid (Calls Tryd.prog 36 #[.slice A n c, S h, S x, .int .i64 i] w1 fun e w' => InsPost A (insB bs h x i) w1 e w') := inside_any w1 A bs c n HNN.out h x i (HA.out.fr hf01 (fun g o e h => HAR.out g o e h)) (by omega) (by omega)
                    have HV := Lib.hid hv
                    clear hv
                    go_wp2_with fail
                    refine INS.out.mono ?_
                    rintro e w2 ⟨A', c', rfl, hf2, hns, hor⟩
                    have hR2 := hR1.fr hf2 (fun h => h)
                    have hf12 : Fr (One R) wr w2 := hf1.trans (hf2.mono (fun _ _ h => h.elim))
                    have hsz2 := hf12.size
                    have hil := insB_len bs h x i
                    have NX : Hid (Calls Tryd.prog 49 #[Ptr R, .slice A' (insB bs h x i).length c'] w2 fun e w' => ReadP w2 R (insB bs h x i) (tmRd f v ni) e w') := by
                      refine IH.out w2 R (insB bs h x i) A' c' _ v ni rfl hns ?_ hR2 (by omega) (by omega) (by have := HNN.out; have := HB1.out; omega) hnile
                      intro g o e
                      rcases hor with h1 | h1
                      · exact HAR.out g o (h1 ▸ e)
                      · have := h1 g o e; have := hR1.lt; have := hf1.size; have := HKL.out.low; have := HKL.out.fr.size; omega
                    obtain ⟨K1, K2⟩ := HKPv.out.kid (by have := HI.out; omega)
                    have HK1 := Lib.hid K1
                    have HK2 := Lib.hid K2
                    obtain ⟨bs', hbs'⟩ : ∃ bs', bs' = insB bs h x i := ⟨_, rfl⟩
                    have HBS := Lib.hid hbs'
                    rw [← hbs'] at NX
                    clear hns hor hR1 hf1 hf2 hR2 hil K1 K2
                    rw [← hbs']
                    clear hbs'
                    generalize bs'.length = bl at NX ⊢
                    go_wp2_with fail
                    refine NX.out.mono ?_
                    rintro e w3 hpost
                    rcases hres3 : tmRd f v ni with _ | ⟨a, kk, r, n'⟩
                    · obtain ⟨rfl, u', n', hR3⟩ := hpost.nil_ hres3
                      have HN := Lib.hid (HK1.out hres3)
                      have HR3 := Lib.hid hR3
                      have HF3 := Lib.hid (HKL.out.fr.trans (hf12.trans hpost.1))
                      clear hpost hres3 hR3
                      go_wp2_with fail
                      go_ret
                      exact ReadP.no HN.out HF3.out HR3.out
                    · obtain ⟨p, rfl, hR3, htm⟩ := hpost.yes hres3
                      obtain ⟨hkp', hrl⟩ := HK2.out a kk r n' hres3
                      have HF3 := Lib.hid (hf12.trans hpost.1)
                      have HKP' := Lib.hid hkp'
                      have HR3 := Lib.hid hR3
                      have HTM : Hid (Tm w3 (fun b => wr.heap.size ≤ b ∧ b < w3.heap.size) p (ndH a kk) (ndA bs' a kk) (ndD bs' a) (cv kk (.parts bs'))) := htm.mono (fun b hb => ⟨Nat.le_trans hsz2 hb.1, hb.2⟩) (fun _ _ => rfl)
                      have HKL3 := Lib.hid (HKL.out.keep HF3.out)
                      clear hpost hres3 hR3 htm hkp'
                      obtain ⟨xs, hown0, hel0⟩ := HKL3.out.own
                      obtain ⟨i0, hi0, hz0, hz1, hz2⟩ := info_parts info_ptr
                      have hsz3 := HKL3.out.fr.size
                      have HOA : Hid (∀ o : Obj, (w3.alloc o).ownsRow w.heap.size 39 1 (.slice Ai i ci) i xs) := fun o => hown0.alloc o
                      have HC1 : Hid (∀ (i : Nat) (u : Value), [Ptr p][i]? = some u → (w3.alloc (.cells #[Ptr p] 39)).cell? ((⟨w3.heap.size, 0, none⟩ : Addr).add i) = some u) := cells_new (w := w3) rfl [Ptr p] 39
                      have HC2 : Hid (∀ u ∈ [Ptr p], u.oneCell' = true) := by
                        intro u hu
                        simp at hu
                        rw [hu]; rfl
                      have HC5 : Hid (∀ o : Obj, w.heap.size ≤ (w3.alloc o).heap.size) := fun o => by simp; omega
                      have bnd : (i + 1) * 8 ≤ 140737488355328 := by omega
                      have bnd2 : i + 1 ≤ maxLen := by unfold maxLen; omega
                      have HM : Hid (∀ (o : Obj) V' w4, w4.ownsRow w.heap.size 39 1 V' (i + 1) (xs ++ [Ptr p]) → (w3.alloc o).grownBy w4 (Value.slice Ai i ci).ownBlock → (V'.ownBlock = (Value.slice Ai i ci).ownBlock ∨ V'.ownBlock = some (w3.alloc o).heap.size) →
                          ∃ A4 c4, V' = .slice A4 (i + 1) c4 ∧ KL w R (cv (g.snoc a kk) (.kids bs h x 0)) (i + 1) V' w4 ∧ TRdr w4 R r n') := by
                        intro o V' w4 h1 h2 h3
                        obtain ⟨A4, c4, e4⟩ := own_form h1
                        refine ⟨A4, c4, e4, ?_, ?_⟩
                        · rw [cv_snoc, Nat.zero_add, ← HI.out, ← HBS.out]
                          exact HKL.out.more HF3.out HTM.out hown0 hel0 h1 h2 h3
                        · have := HKL3.out.low
                          have hb := h2.block R (by simp; omega) (fun e => by have := (hown0.lt R e.symm).1; omega)
                          exact Blk.keep (HR3.out.alloc o) hb
                      clear hown0 hel0 hrl
                      go_wp2_with (at_builtin; go_must (refine wpList_append_own_at _ rfl _ _ 41 rfl w.heap.size 39 i0 (.pointer none) 1 8 Tryd.underlying41 hi0 hz0 hz1 hz2 rfl (by decide) _ i xs rfl (HOA.out _) ⟨w3.heap.size, 0, none⟩ 1 1 [Ptr p] rfl rfl HC1.out HC2.out bnd2 bnd (HC5.out _) ?_); intro v' w4 hown' hgrow _ hloc; obtain ⟨A4, c4, rfl, hkl4, hR4⟩ := HM.out _ v' w4 hown' hgrow hloc; have HKL4 := Lib.hid hkl4; have HR4 := Lib.hid hR4; clear hown' hgrow hloc hkl4 hR4)
                      go_roundw
                      case rel => exact ⟨g.snoc a kk, r, n', A4, c4, by rw [Fo.len_snoc, ← HI.out]; omega, by rw [Fo.len_snoc, ← HI.out]; go_num, by rw [Fo.len_snoc, ← HI.out], by rw [Fo.len_snoc, ← HI.out]; exact HKL4.out, HR4.out, HKP'.out⟩
                      case measure => simp [intOf]; omega
                  · have HN := Lib.hid (HKP.out.nosp (by have := HI.out; omega) hno)
                    have HR3 := Lib.hid hR1
                    have HF3 := Lib.hid (HKL.out.fr.trans hf1)
                    clear hno hR1 hf1
                    go_wp2_with fail
                    go_ret
                    exact ReadP.no HN.out HF3.out HR3.out
                · have hic : i = cnt := by omega
                  obtain ⟨E1, E2⟩ := HKP.out.end_ (by have := HI.out; omega)
                  have HE1 := Lib.hid E1
                  have HE2 := Lib.hid E2
                  clear E1 E2 hic
                  go_wp2_with fail
                  refine SK2.out.mono ?_
                  rintro e w1 ⟨hf1, ⟨r, hr, rfl, hR1⟩ | ⟨hno, rfl, hR1⟩⟩
                  · have HS := Lib.hid (HE2.out r hr)
                    have hk1 := HKL.out.keep hf1
                    have hcl : (cv g (.kids bs h x 0)).len = i := by rw [cv_kids_len]; exact HI.out.symm
                    have hts := hk1.done hcl
                    have hcs := (cv_size g HKP.out.wf).1 bs h x 0 _ HKP.out.tms
                    have hgs : g.size ≤ 300 := by have := HKP.out.num; have := HKP.out.le; omega
                    have NT : Hid (Calls Tryd.prog 71 #[S h, S x, .slice Ai i ci] w1 fun e w' => NewPost (fun b => w.heap.size ≤ b ∧ b < w1.heap.size) h x (cv g (.kids bs h x 0)) w1 e w') := by
                      have := newTerm_any w1 (fun b => w.heap.size ≤ b ∧ b < w1.heap.size) h x (cv g (.kids bs h x 0)) Ai ci (fun b hb => hb.2) hts (by omega) (by omega)
                      rw [hcl] at this
                      exact this
                    have FIN : Hid (∀ e w', NewPost (fun b => w.heap.size ≤ b ∧ b < w1.heap.size) h x (cv g (.kids bs h x 0)) w1 e w' → ∃ p, e = .returned (Ptr p) ∧ ReadP w R bs res (.returned (Ptr p)) w') := by
                      rintro e w' ⟨p, rfl, hf2, hp, htm⟩
                      have hs := HS.out
                      subst hs
                      have hs1 := hk1.fr.size
                      refine ⟨p, rfl, hk1.fr.trans (hf2.mono (fun _ _ h => h.elim)), p, rfl, hR1.fr hf2 (fun h => h), ?_⟩
                      have h2 : Tm w' (NewT w w') p h x 0 (cv g (.kids bs h x 0)) := htm.mono (fun b hb => by
                        rcases hb with hb | hb
                        · exact ⟨hb.1, Nat.lt_of_lt_of_le hb.2 hf2.size⟩
                        · exact ⟨Nat.le_trans hs1 hb.1, hb.2⟩) (fun _ _ => rfl)
                      have hbb := HBB.out
                      simpa [ndH, ndA, ndD, hd1, hd2, Fo.app, cv, hbb] using h2
                    clear hr hR1 hf1 hk1 hcl hts hcs hgs
                    go_wp2_with fail
                    refine NT.out.mono ?_
                    rintro e w2 hpost
                    obtain ⟨p, rfl, hfin⟩ := FIN.out _ _ hpost
                    have HF := Lib.hid hfin
                    clear hfin hpost
                    go_wp2_with fail
                    go_ret
                    exact HF.out
                  · have HN := Lib.hid (HE1.out hno)
                    have HR3 := Lib.hid hR1
                    have HF3 := Lib.hid (HKL.out.fr.trans hf1)
                    clear hno hR1 hf1
                    go_wp2_with fail
                    go_ret
                    exact ReadP.no HN.out HF3.out HR3.out
        · have HN := Lib.hid (HRES.out.trans (rdParts_3 _ _ _ H300.out HK0'.out (by rw [← HH.out]; exact HBB.out) hno))
          have HR2 := Lib.hid hR2
          have HF2 := Lib.hid (HF1.out.trans hf2)
          clear hno hR2 hf2
          go_wp2_with fail
          go_ret
          exact ReadP.no HN.out HF2.out HR2.out
end Go.Proofs.YthbidlcfahdfhaaDoor
