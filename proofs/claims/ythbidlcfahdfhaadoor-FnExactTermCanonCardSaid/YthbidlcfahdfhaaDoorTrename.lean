/- The program's renaming of bound names. -/
import Derived.Test.YthbidlcfahdfhaaDoorTcn
import Derived.Test.YthbidlcfahdfhaaDoorTrn
import Derived.Test.YthbidlcfahdfhaaDoorTk
namespace Go.Proofs.YthbidlcfahdfhaaDoor
open Go.RowKit Go.ChangeMaps

namespace Ts
def app : Ts → Ts → Ts
  | nil, g => g
  | cons h a d k r, g => cons h a d k (r.app g)
theorem snoc_app (f : Ts) (h a : List UInt8) (d : Nat) (k g : Ts) : (f.snoc h a d k).app g = f.app (cons h a d k g) := by
  induction f with
  | nil => rfl
  | cons h' a' d' k' r _ ih => simp only [snoc, app, ih]
theorem app_nil (f : Ts) : f.app nil = f := by
  induction f with
  | nil => rfl
  | cons h a d k r _ ih => simp only [app, ih]
end Ts

/-- the parts so far: their memory is old or new -/
structure KM (w : World) (S T : Nat → Prop) (f : Ts) (i : Nat) (V : Value) (wr : World) : Prop where
  fr : Fr S w wr
  own : ∃ xs, wr.ownsRow w.heap.size 39 1 V i xs ∧ TEl wr (fun b => T b ∨ (w.heap.size ≤ b ∧ b < wr.heap.size ∧ some b ≠ V.ownBlock)) f xs

/-- what is not written, and what is read -/
structure Apart2 (w : World) (S T : Nat → Prop) : Prop where
  s : ∀ b, S b → b < w.heap.size
  t : ∀ b, T b → b < w.heap.size ∧ ¬ S b

theorem KM.keep {w wr w' : World} {S T : Nat → Prop} {i : Nat} {f : Ts} {V : Value} (ha : Apart2 w S T) (h : KM w S T f i V wr) (hf : Fr S wr w') : KM w S T f i V w' := by
  obtain ⟨h1, ⟨xs, h2, h3⟩⟩ := h
  refine ⟨h1.trans hf, ⟨xs, own_fr h2 hf (fun b hb e => by have := ha.s b e; have := (h2.lt b hb).1; omega), h3.mono (fun b hb => hb.imp (fun h => h) (fun hb => ⟨hb.1, Nat.lt_of_lt_of_le hb.2.1 hf.size, hb.2.2⟩)) (fun b hb => ?_)⟩⟩
  rcases hb with hb | hb
  · exact hf.block b (Nat.lt_of_lt_of_le (ha.t b hb).1 h1.size) (ha.t b hb).2
  · exact hf.block b hb.2.1 (fun e => by have := ha.s b e; omega)

theorem KM.form {w wr : World} {S T : Nat → Prop} {i : Nat} {f : Ts} {V : Value} (h : KM w S T f i V wr) : ∃ A c, V = .slice A i c := by
  obtain ⟨_, ⟨xs, h2, _⟩⟩ := h
  exact own_form h2

theorem KM.start (w : World) (S T : Nat → Prop) {wr : World} (hf : Fr S w wr) (o : Obj) (ho : o = .cells #[] 39) : KM w S T .nil 0 (.slice (some ⟨wr.heap.size, 0, none⟩) 0 0) (wr.alloc o) := by
  subst ho
  exact ⟨hf.alloc _, ⟨[], ⟨rfl, .inr ⟨wr.heap.size, 0, #[], rfl, hf.size, heap_alloc_new wr _, Nat.le_refl _, Nat.zero_le _, rfl, rfl⟩⟩, rfl⟩⟩

/-- one part more -/
theorem KM.more {w wr w1 w2 : World} {S T : Nat → Prop} {i : Nat} {f : Ts} {V v' : Value} {o : Obj} {p : Nat} {h a : List UInt8} {d : Nat} {k : Ts} (ha : Apart2 w S T) (hk : KM w S T f i V wr) (hf : Fr S wr w1) (ht : Tm w1 (fun b => T b ∨ (wr.heap.size ≤ b ∧ b < w1.heap.size)) p h a d k)
    {xs : List Value} (h2 : w1.ownsRow w.heap.size 39 1 V i xs) (h3 : TEl w1 (fun b => T b ∨ (w.heap.size ≤ b ∧ b < w1.heap.size ∧ some b ≠ V.ownBlock)) f xs) (hown : w2.ownsRow w.heap.size 39 1 v' (i + 1) (xs ++ [Ptr p]))
    (hg : (w1.alloc o).grownBy w2 V.ownBlock) (hloc : v'.ownBlock = V.ownBlock ∨ v'.ownBlock = some (w1.alloc o).heap.size) : KM w S T (f.snoc h a d k) (i + 1) v' w2 := by
  have hk1 := hk.keep ha hf
  obtain ⟨h1, _⟩ := hk1
  have hvo := h2.lt
  have hvr : ∀ b, V.ownBlock = some b → b < wr.heap.size := fun b hb => by
    obtain ⟨_, ⟨ys, g2, _⟩⟩ := hk
    exact (g2.lt b hb).2
  have hsz := hg.size
  have hsa : (w1.alloc o).heap.size = w1.heap.size + 1 := by simp
  have hs1 := hf.size
  have hs0 := hk.fr.size
  have keep : ∀ b, b < w1.heap.size → some b ≠ V.ownBlock → w2.heap[b]? = w1.heap[b]? := fun b hb hne => by
    rw [hg.block b (by omega) hne]
    exact Below.heap_alloc _ _ _ hb
  have more : ∀ b, b < w1.heap.size → some b ≠ V.ownBlock → some b ≠ v'.ownBlock := fun b hb hne => by
    rcases hloc with e | e
    · rw [e]; exact hne
    · rw [e]; intro h; injection h with h; omega
  have hTV : ∀ b, T b → some b ≠ V.ownBlock := fun b hb e => by have := (hvo b e.symm).1; have := (ha.t b hb).1; omega
  refine ⟨(h1.alloc o).grown hg (fun b hb => .inr (hvo b hb).1), ⟨xs ++ [Ptr p], hown, ?_⟩⟩
  refine TEl.snoc (ht.mono (fun b hb => ?_) (fun b hb => ?_)) (h3.mono (fun b hb => ?_) (fun b hb => ?_))
  · rcases hb with hb | hb
    · exact .inl hb
    · have hne : some b ≠ V.ownBlock := fun e => by have := hvr b e.symm; omega
      exact .inr ⟨by omega, by omega, more b hb.2 hne⟩
  · rcases hb with hb | hb
    · exact keep b (by have := (ha.t b hb).1; omega) (hTV b hb)
    · exact keep b hb.2 (fun e => by have := hvr b e.symm; omega)
  · rcases hb with hb | hb
    · exact .inl hb
    · exact .inr ⟨hb.1, by omega, more b hb.2.1 hb.2.2⟩
  · rcases hb with hb | hb
    · exact keep b (by have := (ha.t b hb).1; omega) (hTV b hb)
    · exact keep b hb.2.1 hb.2.2

theorem KM.done {w wr : World} {S T : Nat → Prop} {i : Nat} {f : Ts} {A : Option Addr} {c : Nat} (h : KM w S T f i (.slice A i c) wr) (hl : f.len = i) : TSl wr (TN T w wr) A f := by
  obtain ⟨_, ⟨xs, h2, h3⟩⟩ := h
  refine ⟨xs, h3.mono (fun b hb => hb.imp (fun h => h) (fun hb => ⟨hb.1, hb.2.1⟩)) (fun _ _ => rfl), ?_⟩
  rcases h2.2 with ⟨_, h0⟩ | ⟨g, cap, cur, hv, _⟩
  · left; omega
  · injection hv with e1 e2 e3
    right
    refine ⟨g, 0, e1, .inr (h2.lt g (by rw [e1]; rfl)), fun j u hj => ?_⟩
    have := h2.cells (g := g) (by rw [e1]; rfl) j u hj
    rw [addr_add] at this
    exact this

abbrev NmB (w : World) (m : Nat) (A : Option Addr) (l c g : Nat) : Prop := Blk w m 80 #[.slice A l c, .int .i64 (g : Int)]

def RnP (tk : List (List UInt8)) (m : Nat) (A : Option Addr) (c : Nat) (T : Nat → Prop) (h a : List UInt8) (d : Nat) (k : Ts) (g : Nat) (w : World) (e : Ending) (w' : World) : Prop :=
  ∃ p, e = .returned (Ptr p) ∧ Fr (One m) w w' ∧ NmB w' m A tk.length c (rnT tk k (rnG tk h k g)).2 ∧ Tm w' (TN T w w') p h (rnAt tk h a k g) (rnD d k) (rnT tk k (rnG tk h k g)).1

def RnSaid (k : Ts) : Prop := ∀ (h a : List UInt8) (d p : Nat) (w : World) (T : Nat → Prop) (B m : Nat) (A : Option Addr) (c g : Nat) (tk : List (List UInt8)), k.size ≤ 5000 → (∀ b, T b → b < w.heap.size ∧ b ≠ m) → Tm w T p h a d k → B ≤ m → Tb B w →
  NmB w m A tk.length c g → SSl w A tk → (∀ b o, A = some ⟨b, o, none⟩ → b ≠ m) → tk.length ≤ 1000 → (rnT tk k (rnG tk h k g)).2 ≤ 4000 →
  Calls Tryd.prog 62 #[Ptr m, Ptr p] w fun e w' => RnP tk m A c T h a d k g w e w'

theorem rn_step (tk : List (List UInt8)) {k : Ts} {j : Nat} {h a : List UInt8} {d : Nat} {k' : Ts} (e : k.nth j = some (h, a, d, k')) (g : Nat) :
    rnT tk (k.from_ j) g = (.cons h (rnAt tk h a k' g) (rnD d k') (rnT tk k' (rnG tk h k' g)).1 (rnT tk (k.from_ (j + 1)) (rnT tk k' (rnG tk h k' g)).2).1, (rnT tk (k.from_ (j + 1)) (rnT tk k' (rnG tk h k' g)).2).2) := by
  rw [Ts.from_nth k j h a d k' e]
  rfl

set_option maxRecDepth 100000 in
set_option maxHeartbeats 2000000 in
theorem rename_node (k : Ts) (hN : ∀ h a d k' j, k.nth j = some (h, a, d, k') → RnSaid k') : RnSaid k := by
  intro h a d p w T B m A c g tk hs hT ht hB htb hnm hx hA hl hend
  have HN := Lib.hid hN
  have HB := Lib.hid hB
  have HTB := Lib.hid htb
  have HX := Lib.hid hx
  have HA := Lib.hid hA
  have HNM := Lib.hid hnm
  have HEND := Lib.hid hend
  have HLL := Lib.hid hl
  have htm0 := ht
  obtain ⟨hp, AK, cK, hb, hsl⟩ := ht.open_
  have HAP : Hid (Apart2 w (One m) T) := ⟨fun b hb => by unfold One at hb; rw [hb]; exact hnm.lt, fun b hb => ⟨(hT b hb).1, fun e => (hT b hb).2 e⟩⟩
  have HT := Lib.hid hT
  have HSL := Lib.hid hsl
  have c0 : w.cell? ⟨p, 0, none⟩ = some (S h) := (hb.cell 0).trans rfl
  have c1 : w.cell? ⟨p, 1, none⟩ = some (S a) := (hb.cell 1).trans rfl
  have c3 : w.cell? ⟨p, 3, none⟩ = some (.slice AK k.len cK) := (hb.cell 3).trans rfl
  have hpm := (hT p hp).2
  have HKB := Lib.hid hb
  have hlt := hb.lt
  have hln := Ts.len_size k
  have hl6 : (k.len : Int) ≤ 5000 := by omega
  have HSZ := Lib.hid hs
  obtain ⟨l, hll⟩ : ∃ l, tk.length = l := ⟨_, rfl⟩
  have HLN := Lib.hid hll
  have hmw := hnm.lt
  clear hN hB htb hx hA hnm hend hb hsl ht hT hl hs
  by_cases hk0 : k.len = 0
  · have n0 : ((k.len : Int) == 0) = true := by rw [hk0]; rfl
    have FIN : Hid (RnP tk m A c T h a d k g w (.returned (Ptr p)) w) := by
      obtain rfl := len_nil hk0
      refine ⟨p, rfl, Fr.refl _ _, HNM.out, ?_⟩
      exact htm0.mono (fun b hb => .inl hb) (fun _ _ => rfl)
    clear htm0 hk0 hll
    go_enter Tryd.func62, Tryd.ntmps62
    go_wp2_with fail
    go_ret
    exact FIN.out
  · have n0 : ((k.len : Int) == 0) = false := beq_eq_false_iff_ne.2 (by omega)
    have HK0 := Lib.hid hk0
    clear htm0 hk0
    rcases hbb : bindsB h with _ | _
    · have HBB := Lib.hid hbb
      have HG : Hid (rnG tk h k g = g) := by show _ = _; simp only [rnG, if_neg HK0.out, hbb]; rfl
      have HAT : Hid (rnAt tk h a k g = a) := by show _ = _; simp only [rnAt, if_neg HK0.out, hbb]; rfl
      clear hbb
      go_enter Tryd.func62, Tryd.ntmps62
      go_wp2_with fail
      refine (binds_any h false HBB.out w).mono ?_
      rintro e w' ⟨rfl, rfl⟩
      obtain ⟨wa, hwa⟩ : ∃ wa, wa = w := ⟨_, rfl⟩
      have HFA : Hid (Fr (One m) w wa) := by rw [hwa]; exact Fr.refl _ _
      obtain ⟨g1, hg1⟩ : ∃ g1, g1 = rnG tk h k g := ⟨_, rfl⟩
      have HG1 := Lib.hid hg1
      have HNA : Hid (NmB wa m A l c g1) := by
        have := HNM.out
        rw [hll, ← HG.out, ← hg1, ← hwa] at this
        exact this
      have HA2 : Hid (a = rnAt tk h a k g) := by show _ = _; rw [HAT.out]
      rw [← hwa] at c0 c1 c3 hlt ⊢
      clear hg1 hwa hll
      go_wp2_with fail
      have HKS : Hid (KM w (One m) T .nil 0 (.slice (some ⟨wa.heap.size, 0, none⟩) 0 0) (wa.alloc (.cells #[] 39))) := KM.start w (One m) T HFA.out _ rfl
      have HNS : Hid (NmB (wa.alloc (.cells #[] 39)) m A l c g1) := HNA.out.alloc _
      go_loopw [6, 33] (fun V u wr => ∃ (j : Nat) (Ai : Option Addr) (ci : Nat) (f : Ts) (gj : Nat), j ≤ k.len ∧ u = .int .i64 j ∧ V = .slice Ai j ci ∧ f.len = j ∧ KM w (One m) T f j (.slice Ai j ci) wr ∧ NmB wr m A l c gj ∧ rnT tk k g1 = (f.app (rnT tk (k.from_ j) gj).1, (rnT tk (k.from_ j) gj).2)) (fun _ u _ => k.len - (intOf u).toNat)
      case atStart => exact ⟨0, _, 0, .nil, g1, Nat.zero_le _, rfl, rfl, rfl, HKS.out, HNS.out, by rw [Ts.from_zero]; rfl⟩
      case round =>
        obtain ⟨j, Ai, ci, f, gj, hj, rfl, rfl, hfl, hkm, hnmj, hrn⟩ := hrel
        have HKM := Lib.hid hkm
        have HNJ := Lib.hid hnmj
        have HRN := Lib.hid hrn
        have HFL := Lib.hid hfl
        clear hkm hnmj hrn hfl
        have hbr := HKB.out.fr HKM.out.fr (fun e => hpm e)
        have r0 : wr.cell? ⟨p, 0, none⟩ = some (S h) := (hbr.cell 0).trans rfl
        have rlt := hbr.lt
        by_cases hjl : j < k.len
        · have hTw : ∀ b, T b → wr.heap[b]? = w.heap[b]? := fun b hb => HKM.out.fr.block b (HT.out b hb).1 (HT.out b hb).2
          obtain ⟨gg, o, q, h', a', d', k', rfl, hg, hn, hc, htm⟩ := (HSL.out.mono (T' := T) (fun _ h => h) hTw).at_ hjl
          have hst := rn_step tk hn gj
          have hz := Ts.nth_size hn
          have HST := Lib.hid hst
          have hlg := block_lt hc
          have CALL : Hid (Calls Tryd.prog 62 #[Ptr m, Ptr q] wr fun e w' => RnP tk m A c T h' a' d' k' gj wr e w') := by
            refine HN.out h' a' d' k' j hn h' a' d' q wr T B m A c gj tk (by have := HSZ.out; omega) (fun b hb => ⟨Nat.lt_of_lt_of_le (HT.out b hb).1 HKM.out.fr.size, (HT.out b hb).2⟩) htm HB.out (HTB.out.fr HKM.out.fr (by have := HB.out; omega) (fun k hk => by unfold One at hk; have := HB.out; omega)) (by rw [HLN.out]; exact HNJ.out) (HX.out.frT HKM.out.fr (fun b o e h => HA.out b o e h)) HA.out HLL.out ?_
            have h1 := HEND.out
            rw [← HG1.out, HRN.out, HST.out] at h1
            have h2 := rnT_mono tk (k.from_ (j + 1)) (rnT tk k' (rnG tk h' k' gj)).2
            exact Nat.le_trans h2 h1
          clear hst htm hn hz hTw hbr
          go_wp2_with fail
          refine CALL.out.mono ?_
          rintro e w3 ⟨q3, rfl, hf3, hn3, ht3⟩
          have HF3 := Lib.hid hf3
          have HKM3 := Lib.hid (HKM.out.keep HAP.out hf3)
          have HN3 := Lib.hid hn3
          have HTM : Hid (Tm w3 (fun b => T b ∨ (wr.heap.size ≤ b ∧ b < w3.heap.size)) q3 h' (rnAt tk h' a' k' gj) (rnD d' k') (rnT tk k' (rnG tk h' k' gj)).1) := ht3
          clear hf3 hn3 ht3
          obtain ⟨xs, hown0, hel0⟩ := HKM3.out.own
          obtain ⟨i0, hi0, hz0, hz1, hz2⟩ := info_parts info_ptr
          have hsz3 := HKM3.out.fr.size
          have HOA : Hid (∀ o : Obj, (w3.alloc o).ownsRow w.heap.size 39 1 (.slice Ai j ci) j xs) := fun o => hown0.alloc o
          have HC1 : Hid (∀ (i : Nat) (u : Value), [Ptr q3][i]? = some u → (w3.alloc (.cells #[Ptr q3] 39)).cell? ((⟨w3.heap.size, 0, none⟩ : Addr).add i) = some u) := cells_new (w := w3) rfl [Ptr q3] 39
          have HC2 : Hid (∀ u ∈ [Ptr q3], u.oneCell' = true) := by
            intro u hu
            simp at hu
            rw [hu]; rfl
          have HC5 : Hid (∀ o : Obj, w.heap.size ≤ (w3.alloc o).heap.size) := fun o => by simp; omega
          have bnd : (j + 1) * 8 ≤ 140737488355328 := by omega
          have bnd2 : j + 1 ≤ maxLen := by unfold maxLen; omega
          have HM : Hid (∀ (o : Obj) V' w4, w4.ownsRow w.heap.size 39 1 V' (j + 1) (xs ++ [Ptr q3]) → (w3.alloc o).grownBy w4 (Value.slice Ai j ci).ownBlock → (V'.ownBlock = (Value.slice Ai j ci).ownBlock ∨ V'.ownBlock = some (w3.alloc o).heap.size) →
              ∃ A4 c4, V' = .slice A4 (j + 1) c4 ∧ KM w (One m) T (f.snoc h' (rnAt tk h' a' k' gj) (rnD d' k') (rnT tk k' (rnG tk h' k' gj)).1) (j + 1) V' w4 ∧ NmB w4 m A l c (rnT tk k' (rnG tk h' k' gj)).2) := by
            intro o V' w4 h1 h2 h3
            obtain ⟨A4, c4, e4⟩ := own_form h1
            refine ⟨A4, c4, e4, ?_, ?_⟩
            · exact HKM.out.more HAP.out HF3.out HTM.out hown0 hel0 h1 h2 h3
            · have hb := h2.block m (by simp; omega) (fun e => by have := (hown0.lt m e.symm).1; omega)
              have h4 := HN3.out
              rw [HLN.out] at h4
              exact Blk.keep (h4.alloc o) hb
          have HRN2 : Hid (rnT tk k g1 = ((f.snoc h' (rnAt tk h' a' k' gj) (rnD d' k') (rnT tk k' (rnG tk h' k' gj)).1).app (rnT tk (k.from_ (j + 1)) (rnT tk k' (rnG tk h' k' gj)).2).1, (rnT tk (k.from_ (j + 1)) (rnT tk k' (rnG tk h' k' gj)).2).2)) := by
            show _ = _
            rw [HRN.out, HST.out, Ts.snoc_app]
          clear hown0 hel0
          go_wp2_with (at_builtin; go_must (refine wpList_append_own_at _ rfl _ _ 41 rfl w.heap.size 39 i0 (.pointer none) 1 8 Tryd.underlying41 hi0 hz0 hz1 hz2 rfl (by decide) _ j xs rfl (HOA.out _) ⟨w3.heap.size, 0, none⟩ 1 1 [Ptr q3] rfl rfl HC1.out HC2.out bnd2 bnd (HC5.out _) ?_); intro v' w4 hown' hgrow _ hloc; obtain ⟨A4, c4, rfl, hkm4, hn4⟩ := HM.out _ v' w4 hown' hgrow hloc; have HKM4 := Lib.hid hkm4; have HN4 := Lib.hid hn4; clear hown' hgrow hloc hkm4 hn4)
          go_roundw
          case rel => exact ⟨j + 1, A4, c4, _, _, by omega, by go_num, rfl, by rw [Ts.len_snoc, HFL.out], HKM4.out, HN4.out, HRN2.out⟩
          case measure => simp [intOf]; omega
        · have hjk : j = k.len := by omega
          have HE : Hid (rnT tk k g1 = (f, gj)) := by
            show _ = _
            rw [HRN.out, hjk, Ts.from_len]
            simp only [rnT, Ts.app_nil]
          have HFK : Hid (f.len = k.len) := by show _ = _; rw [HFL.out, hjk]
          have NEW : Hid (Calls Tryd.prog 71 #[S h, S a, .slice Ai j ci] wr fun e w' => NewPost (TN T w wr) h a f wr e w') := by
            have h1 := congrArg (fun z => z.1.size) HE.out
            simp only [rnT_size] at h1
            have h2 := HFL.out
            subst h2
            exact newTerm_any wr (TN T w wr) h a f Ai ci (fun b hb => hb.elim (fun h => Nat.lt_of_lt_of_le (HT.out b h).1 HKM.out.fr.size) (fun h => h.2)) (HKM.out.done rfl) (by have := HSZ.out; omega) (by have := HSZ.out; omega)
          clear hjk hbr
          go_wp2_with fail
          with_reducible refine NEW.out.mono ?_
          rintro e w5 ⟨p5, rfl, hf5, hp5, htm5⟩
          have FIN : Hid (RnP tk m A c T h a d k g w (.returned (Ptr p5)) w5) := by
            refine ⟨p5, rfl, HKM.out.fr.then_ hf5 (fun _ _ h => h.elim), ?_, ?_⟩
            · rw [HLN.out, ← HG1.out, HE.out]
              exact HNJ.out.fr hf5 (fun h => h)
            · rw [← HG1.out, HE.out, ← HA2.out, show rnD d k = 0 by simp only [rnD, if_neg HK0.out]]
              refine htm5.mono (fun b hb => ?_) (fun _ _ => rfl)
              rcases hb with (hb | hb) | hb
              · exact .inl hb
              · exact .inr ⟨hb.1, Nat.lt_of_lt_of_le hb.2 hf5.size⟩
              · exact .inr ⟨Nat.le_trans HKM.out.fr.size hb.1, hb.2⟩
          clear hf5 hp5 htm5
          go_wp2_with fail
          go_ret
          exact FIN.out
    · have HBB := Lib.hid hbb
      have HG : Hid (rnG tk h k g = fsh tk g + 1) := by show _ = _; simp only [rnG, if_neg HK0.out, hbb]; rfl
      have HAT : Hid (rnAt tk h a k g = xnm (fsh tk g)) := by show _ = _; simp only [rnAt, if_neg HK0.out, hbb]; rfl
      have FRS : Hid (Calls Tryd.prog 79 #[Ptr m] w fun e w' => FshP tk m A c g w e w') := by
        refine fresh_any w B m A c g tk HB.out HTB.out HNM.out HX.out HA.out HLL.out ?_
        have h1 := HEND.out
        have h2 := rnT_mono tk k (rnG tk h k g)
        rw [HG.out] at h1 h2
        omega
      clear hbb
      go_enter Tryd.func62, Tryd.ntmps62
      go_wp2_with fail
      refine (binds_any h true HBB.out w).mono ?_
      rintro e w' ⟨rfl, rfl⟩
      go_wp2_with fail
      refine FRS.out.mono ?_
      rintro e wa ⟨rfl, hfa, hna⟩
      have HFA := Lib.hid hfa
      have hbk := HKB.out.fr hfa (fun e => hpm e)
      have d0 : wa.cell? ⟨p, 0, none⟩ = some (S h) := (hbk.cell 0).trans rfl
      have d3 : wa.cell? ⟨p, 3, none⟩ = some (.slice AK k.len cK) := (hbk.cell 3).trans rfl
      have dlt := hbk.lt
      obtain ⟨g1, hg1⟩ : ∃ g1, g1 = rnG tk h k g := ⟨_, rfl⟩
      have HG1 := Lib.hid hg1
      have HNA : Hid (NmB wa m A l c g1) := by
        rw [hll, ← HG.out, ← hg1] at hna
        exact hna
      obtain ⟨a2, ha2⟩ : ∃ a2, a2 = xnm (fsh tk g) := ⟨_, rfl⟩
      have HA2 : Hid (a2 = rnAt tk h a k g) := by show _ = _; rw [HAT.out, ha2]
      rw [← ha2]
      clear hg1 ha2 hll hna hfa hbk c0 c1 c3 hlt
      go_wp2_with fail
      have HKS : Hid (KM w (One m) T .nil 0 (.slice (some ⟨wa.heap.size, 0, none⟩) 0 0) (wa.alloc (.cells #[] 39))) := KM.start w (One m) T HFA.out _ rfl
      have HNS : Hid (NmB (wa.alloc (.cells #[] 39)) m A l c g1) := HNA.out.alloc _
      go_loopw [6, 33] (fun V u wr => ∃ (j : Nat) (Ai : Option Addr) (ci : Nat) (f : Ts) (gj : Nat), j ≤ k.len ∧ u = .int .i64 j ∧ V = .slice Ai j ci ∧ f.len = j ∧ KM w (One m) T f j (.slice Ai j ci) wr ∧ NmB wr m A l c gj ∧ rnT tk k g1 = (f.app (rnT tk (k.from_ j) gj).1, (rnT tk (k.from_ j) gj).2)) (fun _ u _ => k.len - (intOf u).toNat)
      case atStart => exact ⟨0, _, 0, .nil, g1, Nat.zero_le _, rfl, rfl, rfl, HKS.out, HNS.out, by rw [Ts.from_zero]; rfl⟩
      case round =>
        obtain ⟨j, Ai, ci, f, gj, hj, rfl, rfl, hfl, hkm, hnmj, hrn⟩ := hrel
        have HKM := Lib.hid hkm
        have HNJ := Lib.hid hnmj
        have HRN := Lib.hid hrn
        have HFL := Lib.hid hfl
        clear hkm hnmj hrn hfl
        have hbr := HKB.out.fr HKM.out.fr (fun e => hpm e)
        have r0 : wr.cell? ⟨p, 0, none⟩ = some (S h) := (hbr.cell 0).trans rfl
        have rlt := hbr.lt
        by_cases hjl : j < k.len
        · have hTw : ∀ b, T b → wr.heap[b]? = w.heap[b]? := fun b hb => HKM.out.fr.block b (HT.out b hb).1 (HT.out b hb).2
          obtain ⟨gg, o, q, h', a', d', k', rfl, hg, hn, hc, htm⟩ := (HSL.out.mono (T' := T) (fun _ h => h) hTw).at_ hjl
          have hst := rn_step tk hn gj
          have hz := Ts.nth_size hn
          have HST := Lib.hid hst
          have hlg := block_lt hc
          have CALL : Hid (Calls Tryd.prog 62 #[Ptr m, Ptr q] wr fun e w' => RnP tk m A c T h' a' d' k' gj wr e w') := by
            refine HN.out h' a' d' k' j hn h' a' d' q wr T B m A c gj tk (by have := HSZ.out; omega) (fun b hb => ⟨Nat.lt_of_lt_of_le (HT.out b hb).1 HKM.out.fr.size, (HT.out b hb).2⟩) htm HB.out (HTB.out.fr HKM.out.fr (by have := HB.out; omega) (fun k hk => by unfold One at hk; have := HB.out; omega)) (by rw [HLN.out]; exact HNJ.out) (HX.out.frT HKM.out.fr (fun b o e h => HA.out b o e h)) HA.out HLL.out ?_
            have h1 := HEND.out
            rw [← HG1.out, HRN.out, HST.out] at h1
            have h2 := rnT_mono tk (k.from_ (j + 1)) (rnT tk k' (rnG tk h' k' gj)).2
            exact Nat.le_trans h2 h1
          clear hst htm hn hz hTw hbr
          go_wp2_with fail
          refine CALL.out.mono ?_
          rintro e w3 ⟨q3, rfl, hf3, hn3, ht3⟩
          have HF3 := Lib.hid hf3
          have HKM3 := Lib.hid (HKM.out.keep HAP.out hf3)
          have HN3 := Lib.hid hn3
          have HTM : Hid (Tm w3 (fun b => T b ∨ (wr.heap.size ≤ b ∧ b < w3.heap.size)) q3 h' (rnAt tk h' a' k' gj) (rnD d' k') (rnT tk k' (rnG tk h' k' gj)).1) := ht3
          clear hf3 hn3 ht3
          obtain ⟨xs, hown0, hel0⟩ := HKM3.out.own
          obtain ⟨i0, hi0, hz0, hz1, hz2⟩ := info_parts info_ptr
          have hsz3 := HKM3.out.fr.size
          have HOA : Hid (∀ o : Obj, (w3.alloc o).ownsRow w.heap.size 39 1 (.slice Ai j ci) j xs) := fun o => hown0.alloc o
          have HC1 : Hid (∀ (i : Nat) (u : Value), [Ptr q3][i]? = some u → (w3.alloc (.cells #[Ptr q3] 39)).cell? ((⟨w3.heap.size, 0, none⟩ : Addr).add i) = some u) := cells_new (w := w3) rfl [Ptr q3] 39
          have HC2 : Hid (∀ u ∈ [Ptr q3], u.oneCell' = true) := by
            intro u hu
            simp at hu
            rw [hu]; rfl
          have HC5 : Hid (∀ o : Obj, w.heap.size ≤ (w3.alloc o).heap.size) := fun o => by simp; omega
          have bnd : (j + 1) * 8 ≤ 140737488355328 := by omega
          have bnd2 : j + 1 ≤ maxLen := by unfold maxLen; omega
          have HM : Hid (∀ (o : Obj) V' w4, w4.ownsRow w.heap.size 39 1 V' (j + 1) (xs ++ [Ptr q3]) → (w3.alloc o).grownBy w4 (Value.slice Ai j ci).ownBlock → (V'.ownBlock = (Value.slice Ai j ci).ownBlock ∨ V'.ownBlock = some (w3.alloc o).heap.size) →
              ∃ A4 c4, V' = .slice A4 (j + 1) c4 ∧ KM w (One m) T (f.snoc h' (rnAt tk h' a' k' gj) (rnD d' k') (rnT tk k' (rnG tk h' k' gj)).1) (j + 1) V' w4 ∧ NmB w4 m A l c (rnT tk k' (rnG tk h' k' gj)).2) := by
            intro o V' w4 h1 h2 h3
            obtain ⟨A4, c4, e4⟩ := own_form h1
            refine ⟨A4, c4, e4, ?_, ?_⟩
            · exact HKM.out.more HAP.out HF3.out HTM.out hown0 hel0 h1 h2 h3
            · have hb := h2.block m (by simp; omega) (fun e => by have := (hown0.lt m e.symm).1; omega)
              have h4 := HN3.out
              rw [HLN.out] at h4
              exact Blk.keep (h4.alloc o) hb
          have HRN2 : Hid (rnT tk k g1 = ((f.snoc h' (rnAt tk h' a' k' gj) (rnD d' k') (rnT tk k' (rnG tk h' k' gj)).1).app (rnT tk (k.from_ (j + 1)) (rnT tk k' (rnG tk h' k' gj)).2).1, (rnT tk (k.from_ (j + 1)) (rnT tk k' (rnG tk h' k' gj)).2).2)) := by
            show _ = _
            rw [HRN.out, HST.out, Ts.snoc_app]
          clear hown0 hel0
          go_wp2_with (at_builtin; go_must (refine wpList_append_own_at _ rfl _ _ 41 rfl w.heap.size 39 i0 (.pointer none) 1 8 Tryd.underlying41 hi0 hz0 hz1 hz2 rfl (by decide) _ j xs rfl (HOA.out _) ⟨w3.heap.size, 0, none⟩ 1 1 [Ptr q3] rfl rfl HC1.out HC2.out bnd2 bnd (HC5.out _) ?_); intro v' w4 hown' hgrow _ hloc; obtain ⟨A4, c4, rfl, hkm4, hn4⟩ := HM.out _ v' w4 hown' hgrow hloc; have HKM4 := Lib.hid hkm4; have HN4 := Lib.hid hn4; clear hown' hgrow hloc hkm4 hn4)
          go_roundw
          case rel => exact ⟨j + 1, A4, c4, _, _, by omega, by go_num, rfl, by rw [Ts.len_snoc, HFL.out], HKM4.out, HN4.out, HRN2.out⟩
          case measure => simp [intOf]; omega
        · have hjk : j = k.len := by omega
          have HE : Hid (rnT tk k g1 = (f, gj)) := by
            show _ = _
            rw [HRN.out, hjk, Ts.from_len]
            simp only [rnT, Ts.app_nil]
          have HFK : Hid (f.len = k.len) := by show _ = _; rw [HFL.out, hjk]
          have NEW : Hid (Calls Tryd.prog 71 #[S h, S a2, .slice Ai j ci] wr fun e w' => NewPost (TN T w wr) h a2 f wr e w') := by
            have h1 := congrArg (fun z => z.1.size) HE.out
            simp only [rnT_size] at h1
            have h2 := HFL.out
            subst h2
            exact newTerm_any wr (TN T w wr) h a2 f Ai ci (fun b hb => hb.elim (fun h => Nat.lt_of_lt_of_le (HT.out b h).1 HKM.out.fr.size) (fun h => h.2)) (HKM.out.done rfl) (by have := HSZ.out; omega) (by have := HSZ.out; omega)
          clear hjk hbr
          go_wp2_with fail
          with_reducible refine NEW.out.mono ?_
          rintro e w5 ⟨p5, rfl, hf5, hp5, htm5⟩
          have FIN : Hid (RnP tk m A c T h a d k g w (.returned (Ptr p5)) w5) := by
            refine ⟨p5, rfl, HKM.out.fr.then_ hf5 (fun _ _ h => h.elim), ?_, ?_⟩
            · rw [HLN.out, ← HG1.out, HE.out]
              exact HNJ.out.fr hf5 (fun h => h)
            · rw [← HG1.out, HE.out, ← HA2.out, show rnD d k = 0 by simp only [rnD, if_neg HK0.out]]
              refine htm5.mono (fun b hb => ?_) (fun _ _ => rfl)
              rcases hb with (hb | hb) | hb
              · exact .inl hb
              · exact .inr ⟨hb.1, Nat.lt_of_lt_of_le hb.2 hf5.size⟩
              · exact .inr ⟨Nat.le_trans HKM.out.fr.size hb.1, hb.2⟩
          clear hf5 hp5 htm5
          go_wp2_with fail
          go_ret
          exact FIN.out

theorem rename_any (N : Nat) : ∀ k : Ts, SizeOf.sizeOf k < N → RnSaid k := by
  induction N with
  | zero => intro k h; omega
  | succ N ih =>
    intro k hN
    exact rename_node k (fun h a d k' j hn => ih k' (by have := Ts.nth_small k j h a d k' hn; omega))
end Go.Proofs.YthbidlcfahdfhaaDoor
