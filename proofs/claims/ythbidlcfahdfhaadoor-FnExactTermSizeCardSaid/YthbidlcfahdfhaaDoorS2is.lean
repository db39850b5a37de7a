/- The model's validity of terms. -/
import Derived.Test.YthbidlcfahdfhaaDoorS2name
import Derived.Test.YthbidlcfahdfhaaDoorSsize
namespace Go.Proofs.YthbidlcfahdfhaaDoor
open Go.RowKit Go.ChangeMaps

namespace Fo
def from_ : Fo → Nat → Fo
  | f, 0 => f
  | nil, _ + 1 => nil
  | cons _ _ r, j + 1 => r.from_ j

theorem from_zero (f : Fo) : f.from_ 0 = f := by cases f <;> rfl

theorem from_nth : ∀ (f : Fo) (j : Nat) (a : List UInt8) (k : Fo), f.nth j = some (a, k) → f.from_ j = cons a k (f.from_ (j + 1))
  | nil, _, _, _, h => by cases h
  | cons a k r, 0, a', k', h => by
    simp only [nth, Option.some.injEq, Prod.mk.injEq] at h
    obtain ⟨rfl, rfl⟩ := h
    show cons a k r = cons a k (r.from_ 0)
    rw [from_zero]
  | cons a k r, j + 1, a', k', h => from_nth r j a' k' h

theorem from_len : ∀ f : Fo, f.from_ f.len = nil
  | nil => rfl
  | cons _ _ r => from_len r

theorem atoms_nth : ∀ {f : Fo} {j : Nat} {a : List UInt8} {k : Fo}, f.atoms → f.nth j = some (a, k) → a.length ≤ 6000 ∧ k.atoms
  | .nil, _, _, _, _, h => by cases h
  | .cons a k r, 0, a', k', hs, h => by
    simp only [Fo.nth, Option.some.injEq, Prod.mk.injEq] at h
    obtain ⟨rfl, rfl⟩ := h
    exact ⟨hs.1, hs.2.1⟩
  | .cons a k r, j + 1, a', k', hs, h => atoms_nth (f := r) (j := j) hs.2.2 h

def tail : Fo → Fo
  | nil => nil
  | cons _ _ r => r
end Fo

def okAt (b : Bool) (a : List UInt8) (k : Fo) : Bool := if b then isTm a k else isName a

theorem isTms_step {sh : List Bool} {r : Fo} {j : Nat} {a : List UInt8} {k : Fo} {b : Bool} (h : r.nth j = some (a, k)) (hb : sh[j]? = some b) :
    isTms (some (sh.drop j)) (r.from_ j) = (okAt b a k && isTms (some (sh.drop (j + 1))) (r.from_ (j + 1))) := by
  obtain ⟨hlt, he⟩ := List.getElem?_eq_some_iff.1 hb
  rw [Fo.from_nth r j a k h, List.drop_eq_getElem_cons hlt, he]
  cases b <;> simp [isTms, okAt, isTm]

theorem isTms_head (k : Fo) : isTms none k = (!(shapeOf (headOf [] k)).isEmpty && isTms (some (shapeOf (headOf [] k))) k.tail) := by
  cases k with
  | nil => rfl
  | cons a k r => simp [isTms, headOf, Fo.tail]

def bMX (b : Bool) : UInt8 := if b then 109 else 120
theorem shape_short (h : List UInt8) : (shapeOf h).length ≤ 3 := by
  unfold shapeOf
  repeat' split
  all_goals simp

def IsTSaid (k : Fo) : Prop := ∀ (a : List UInt8) (A : Option Addr) (c : Nat) (w : World) (T : Nat → Prop), a.length ≤ 6000 → k.atoms → (∀ b, T b → b < w.heap.size) → Sl w T A k →
  Calls Tryd.prog 48 #[.agg #[S a, .slice A k.len c]] w fun e w' => e = .returned (.bool (isTm a k)) ∧ Fr No w w'

set_option maxRecDepth 100000 in
set_option maxHeartbeats 1000000 in
theorem is2_node (k : Fo) (hN : ∀ a' k' j, k.nth j = some (a', k') → IsTSaid k') (A : Option Addr) (c : Nat) (w : World) (T : Nat → Prop) (hk : k.atoms) (hT : ∀ b, T b → b < w.heap.size) (h : Sl w T A k) :
    Calls Tryd.prog 48 #[.agg #[S [], .slice A k.len c]] w fun e w' => e = .returned (.bool (isTms none k)) ∧ Fr No w w' := by
  have HN := Lib.hid hN
  clear hN
  have b0 := Blk.new w 36 #[S [], .slice A k.len c]
  have HD := Lib.hid (head_any (w.alloc (.cells #[S [], .slice A k.len c] 36)) T [] k A c (h.fr hT ((Fr.refl _ _).alloc _)))
  have HSH := Lib.hid (shape_short (headOf [] k))
  obtain ⟨B, HB⟩ : ∃ B, Hid (isTms none k = B) := ⟨_, rfl⟩
  rw [HB.out]
  have HE : Hid (B = (!(shapeOf (headOf [] k)).isEmpty && isTms (some (shapeOf (headOf [] k))) k.tail)) := HB.out.symm.trans (isTms_head k)
  have SP : Hid (∀ w, Calls Tryd.prog 51 #[S (headOf [] k)] w fun e w' => e = .returned (S ((shapeOf (headOf [] k)).map bMX)) ∧ w = w') := fun w => shape_any (headOf [] k) w
  generalize shapeOf (headOf [] k) = sh at HSH HE SP
  generalize headOf [] k = hd at HD SP
  clear HB
  go_enter Tryd.func48, Tryd.ntmps48
  go_wp2_with fail
  refine HD.out.mono ?_
  rintro e w1 ⟨rfl, hf1⟩
  have b1 := b0.fr hf1 (fun h => h)
  have hfr1 : Fr No w w1 := ((Fr.refl _ _).alloc _).trans hf1
  have c1 : w1.cell? ⟨w.heap.size, 1, none⟩ = some (.slice A k.len c) := (b1.cell 1).trans rfl
  go_wp2_with fail
  refine (SP.out _).mono ?_
  rintro e w2 ⟨rfl, rfl⟩
  have hsh := HSH.out
  clear HD SP
  by_cases h0 : sh = []
  · subst h0
    have HF : Hid (B = false) := HE.out
    clear HE
    go_wp2_with fail
    go_ret
    exact ⟨ret_bool HF.out.symm, hfr1⟩
  have e0 : (sh.map bMX).isEmpty = false := by cases sh; exact absurd rfl h0; rfl
  have hB : B = isTms (some sh) k.tail := by
    rw [HE.out]
    cases sh
    · exact absurd rfl h0
    · rfl
  have HBB := Lib.hid hB
  obtain ⟨m, hm⟩ : ∃ m, m = sh.length := ⟨_, rfl⟩
  have hml : (sh.map bMX).length = m := by simp [hm]
  have HM := Lib.hid hm
  clear h0 hm hB HE
  have hm1 : 1 ≤ m := by
    rw [HM.out]
    cases sh
    · simp at e0
    · simp
  have hm3 : m ≤ 3 := by rw [HM.out]; exact hsh
  by_cases hl : k.len = m + 1
  · obtain ⟨h0, k0, r, rfl⟩ : ∃ h0 k0 r, k = .cons h0 k0 r := by
      cases k with
      | nil => simp [Fo.len] at hl
      | cons a k r => exact ⟨a, k, r, rfl⟩
    have hrl : r.len = m := by simpa [Fo.len] using hl
    have HR := Lib.hid hrl
    have BX : Hid (∀ j b, sh[j]? = some b → ∀ h : j < (ByteArray.mk (sh.map bMX).toArray).size, (ByteArray.mk (sh.map bMX).toArray)[j]'h = bMX b) := fun j b hb h => ba_get (sh.map bMX) j h (bMX b) (by simp [hb])
    have hlc : ((Fo.cons h0 k0 r).len : Int) = (m : Int) + 1 := by rw [hl]; rfl
    clear hrl
    go_wp2_with fail
    clear c1 hml e0
    go_loopw [4] (fun i wr => ∃ j : Nat, j ≤ m ∧ i = .int .i64 j ∧ B = isTms (some (sh.drop j)) (r.from_ j) ∧ Fr No w wr ∧ Blk wr w.heap.size 36 #[S [], .slice A (Fo.cons h0 k0 r).len c]) (fun i _ => m - (intOf i).toNat)
    case atStart => exact ⟨0, Nat.zero_le _, rfl, by rw [Fo.from_zero]; exact HBB.out, hfr1, b1⟩
    case round =>
      obtain ⟨j, hj, rfl, hBj, hfr, hb⟩ := hrel
      have HBJ := Lib.hid hBj
      clear hBj
      have c1 : wr.cell? ⟨w.heap.size, 1, none⟩ = some (.slice A (Fo.cons h0 k0 r).len c) := (hb.cell 1).trans rfl
      by_cases hlt : j < m
      · obtain ⟨g, o, a', k', A', c', rfl, hg, hn, q0, q1, hsl⟩ := (h.fr hT hfr).nth (j := j + 1) (by rw [hl]; omega)
        have hnr : r.nth j = some (a', k') := hn
        obtain ⟨b, hbj⟩ : ∃ b, sh[j]? = some b := ⟨_, List.getElem?_eq_getElem (by rw [← HM.out]; exact hlt)⟩
        have HST : Hid (B = (okAt b a' k' && isTms (some (sh.drop (j + 1))) (r.from_ (j + 1)))) := HBJ.out.trans (isTms_step hnr hbj)
        have hat := Fo.atoms_nth hk hn
        have hlg := block_lt q0
        have hT2 : ∀ b, T b → b < wr.heap.size := fun b hb => Nat.lt_of_lt_of_le (hT b hb) hfr.size
        have IS : Hid (Calls Tryd.prog 48 #[.agg #[S a', .slice A' k'.len c']] (wr.alloc (.cells #[S a', .slice A' k'.len c'] 36)) fun e w' => e = .returned (.bool (isTm a' k')) ∧ Fr No wr w') :=
          (HN.out a' k' (j + 1) hn a' A' c' _ T hat.1 hat.2 (fun b hb => by have := hT2 b hb; simp; omega) (hsl.fr hT2 ((Fr.refl _ _).alloc _))).mono fun e w' h => ⟨h.1, ((Fr.refl _ _).alloc _).trans h.2⟩
        have NM : Hid (∀ w, Calls Tryd.prog 32 #[S a'] w fun e w' => e = .returned (.bool (isName a')) ∧ w = w') := fun w => name2_any a' w hat.1
        have hjl : ((j : Int)) < (m : Int) := by omega
        have hj0 : ((j : Int) + 1) < ((Fo.cons h0 k0 r).len : Int) := by omega
        have HBN := Lib.hid hbj
        clear hat hn hnr hbj
        cases b
        · have hgx : ∀ h : j < (ByteArray.mk (sh.map bMX).toArray).size, (ByteArray.mk (sh.map bMX).toArray)[j]'h = 120 := BX.out j false HBN.out
          have hml : (sh.map bMX).length = m := by rw [List.length_map]; exact HM.out.symm
          rcases hq : isName a' with _ | _
          · have HF : Hid (B = false) := by refine Lib.hid ?_; rw [HST.out]; simp [okAt, hq]
            have HQ := Lib.hid hq
            clear hq
            go_wp2_with fail
            refine (NM.out _).mono ?_
            rintro e w2 ⟨rfl, rfl⟩
            rw [HQ.out]
            go_wp2_with fail
            go_ret
            exact ⟨ret_bool HF.out.symm, hfr.alloc _⟩
          · have HT : Hid (B = isTms (some (sh.drop (j + 1))) (r.from_ (j + 1))) := by refine Lib.hid ?_; rw [HST.out]; simp [okAt, hq]
            have HQ := Lib.hid hq
            clear hq
            go_wp2_with fail
            refine (NM.out _).mono ?_
            rintro e w2 ⟨rfl, rfl⟩
            rw [HQ.out]
            go_wp2_with fail
            go_roundw
            case rel => exact ⟨j + 1, by omega, by go_num, HT.out, hfr.alloc _, hb.alloc _⟩
            case measure => simp [intOf]; omega
        · have hgx : ∀ h : j < (ByteArray.mk (sh.map bMX).toArray).size, (ByteArray.mk (sh.map bMX).toArray)[j]'h = 109 := BX.out j true HBN.out
          have hml : (sh.map bMX).length = m := by rw [List.length_map]; exact HM.out.symm
          rcases hq : isTm a' k' with _ | _
          · have HF : Hid (B = false) := by refine Lib.hid ?_; rw [HST.out]; simp [okAt, hq]
            have HQ := Lib.hid hq
            clear hq
            go_wp2_with fail
            refine IS.out.mono ?_
            rintro e w2 ⟨rfl, hf2⟩
            rw [HQ.out]
            go_wp2_with fail
            go_ret
            exact ⟨ret_bool HF.out.symm, hfr.trans hf2⟩
          · have HT : Hid (B = isTms (some (sh.drop (j + 1))) (r.from_ (j + 1))) := by refine Lib.hid ?_; rw [HST.out]; simp [okAt, hq]
            have HQ := Lib.hid hq
            clear hq
            go_wp2_with fail
            refine IS.out.mono ?_
            rintro e w2 ⟨rfl, hf2⟩
            rw [HQ.out]
            go_wp2_with fail
            go_roundw
            case rel => exact ⟨j + 1, by omega, by go_num, HT.out, hfr.trans hf2, hb.fr hf2 (fun h => h)⟩
            case measure => simp [intOf]; omega
      · have hjl : j = m := by omega
        have HF : Hid (B = true) := by
          rw [HBJ.out, hjl]
          rw [show r.from_ m = Fo.nil by rw [← HR.out]; exact Fo.from_len r, show sh.drop m = [] by rw [HM.out]; exact List.drop_length]
          rfl
        have hml : (sh.map bMX).length = m := by rw [List.length_map]; exact HM.out.symm
        clear hjl
        go_wp2_with fail
        go_ret
        exact ⟨ret_bool HF.out.symm, hfr⟩
  · have HF : Hid (B = false) := by
      rw [HBB.out]
      apply Bool.eq_false_iff.2
      intro h
      have := isTms_len _ _ h
      rw [← HM.out] at this
      cases k with
      | nil => simp [Fo.tail, Fo.len] at this; omega
      | cons a k r => simp [Fo.tail, Fo.len] at this hl; omega
    have hne : ((k.len : Int) == (m : Int) + 1) = false := beq_eq_false_iff_ne.2 (by omega)
    clear hl HBB
    go_wp2_with fail
    go_ret
    exact ⟨ret_bool HF.out.symm, hfr1⟩

theorem is2_any (N : Nat) : ∀ k : Fo, SizeOf.sizeOf k < N → IsTSaid k := by
  induction N with
  | zero => intro k h; omega
  | succ N ih =>
    intro k hN a A c w T ha hk hT h
    by_cases he : a = []
    · subst he
      have : isTm [] k = isTms none k := by simp [isTm]
      rw [this]
      exact is2_node k (fun a' k' j hn => ih k' (by have := Fo.nth_small k j a' k' hn; omega)) A c w T hk hT h
    · have hae : a.isEmpty = false := by cases a; exact absurd rfl he; rfl
      have hv : isTm a k = isAtomTm a := by simp [isTm, he]
      rw [hv]
      generalize k.len = n
      clear hv hk h
      have hva : isAtomTm a = (a == [116, 114, 117, 101] || a == [102, 97, 108, 115, 101] || isName a) := rfl
      by_cases h1 : a = [116, 114, 117, 101]
      · subst h1
        rw [hva]
        clear hva
        go_enter Tryd.func48, Tryd.ntmps48
        go_wp2_with fail
        go_ret
        exact ⟨rfl, (Fr.refl _ _).alloc _⟩
      have n1 : (a == [116, 114, 117, 101]) = false := beq_eq_false_iff_ne.2 h1
      by_cases h2 : a = [102, 97, 108, 115, 101]
      · subst h2
        rw [hva]
        clear hva
        go_enter Tryd.func48, Tryd.ntmps48
        go_wp2_with fail
        go_ret
        exact ⟨rfl, (Fr.refl _ _).alloc _⟩
      have n2 : (a == [102, 97, 108, 115, 101]) = false := beq_eq_false_iff_ne.2 h2
      have NM := Lib.hid (fun w => name2_any a w ha)
      have hr : isAtomTm a = isName a := by rw [hva, n1, n2]; simp
      rw [hr]
      clear hr hva ha
      generalize isName a = q at NM ⊢
      go_enter Tryd.func48, Tryd.ntmps48
      go_wp2_with fail
      refine (NM.out _).mono ?_
      rintro e w2 ⟨rfl, rfl⟩
      go_wp2_with fail
      go_ret
      exact ⟨rfl, (Fr.refl _ _).alloc _⟩
end Go.Proofs.YthbidlcfahdfhaaDoor
