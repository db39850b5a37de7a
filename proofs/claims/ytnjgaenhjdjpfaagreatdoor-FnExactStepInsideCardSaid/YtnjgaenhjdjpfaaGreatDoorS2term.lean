/- The model's names and shapes of terms. · The model's validity of terms. · The model's reading of terms; TermValid, TermSize, TermHead of the model. · The laws TermValid, TermSize, TermHead. -/
import Derived.Test.YtnjgaenhjdjpfaaGreatDoorTerm
import Derived.Test.YtnjgaenhjdjpfaaGreatDoorShead
import Derived.Test.YtnjgaenhjdjpfaaGreatDoorTimpl
import Derived.StillTailTactics
import Derived.BigQuiet
import Derived.Deep.RegionHeld3
import Derived.Deep.RegionWith
/- The model's names and shapes of terms. -/
namespace Go.Proofs.YtnjgaenhjdjpfaaGreatDoor
open Go.RowKit Go.ChangeMaps

set_option maxHeartbeats 1000000 in
theorem in_yes (n : Int) (w : World) (h1 : 1 ≤ n) (h2 : n ≤ 4) : Calls Tryz.prog 20 #[.int .i64 n, .int .i64 1, .int .i64 4] w fun e w' => e = .returned (.bool true) ∧ w = w' := by
  go_enter Tryz.func20, Tryz.ntmps20
  go_wp2
  go_ret
  exact ⟨rfl, rfl⟩

set_option maxHeartbeats 1000000 in
theorem in_no (n : Int) (w : World) (h : n < 1 ∨ 4 < n) : Calls Tryz.prog 20 #[.int .i64 n, .int .i64 1, .int .i64 4] w fun e w' => e = .returned (.bool false) ∧ w = w' := by
  rcases h with h | h
  · go_enter Tryz.func20, Tryz.ntmps20
    go_wp2
    go_ret
    exact ⟨rfl, rfl⟩
  · have h1 : 1 ≤ n := by omega
    have h2 : decide (n ≤ 4) = false := by simp; omega
    go_enter Tryz.func20, Tryz.ntmps20
    go_wp2
    go_ret
    exact ⟨rfl, rfl⟩

theorem digs_more {r : List UInt8} {j : Nat} {x : UInt8} (h : (r.take j).all isDig = true) (hj : r[j]? = some x) (hx : isDig x = true) : (r.take (j + 1)).all isDig = true := by
  rw [List.take_add_one, hj]
  simp [h, hx]

set_option maxRecDepth 100000 in
set_option maxHeartbeats 2000000 in
theorem name2_any (a : List UInt8) (w : World) (ha : a.length ≤ 6000) :
    Calls Tryz.prog 69 #[S a] w fun e w' => e = .returned (.bool (isName a)) ∧ w = w' := by
  match a, ha with
  | [], _ =>
    go_enter Tryz.func69, Tryz.ntmps69
    go_wp2_with fail
    refine (in_no _ w (.inl (by decide))).mono ?_
    rintro e w' ⟨rfl, rfl⟩
    go_wp2_with fail
    go_ret
    exact ⟨rfl, rfl⟩
  | c :: r, ha =>
    simp at ha
    have hg : ∀ h : 0 < (ByteArray.mk (c :: r).toArray).size, (ByteArray.mk (c :: r).toArray)[0]'h = c := fun h => rfl
    have hlt := c.toNat_lt
    by_cases h4 : 3 < r.length
    · have hn : isName (c :: r) = false := by simp [isName]; omega
      rw [hn]
      clear hn
      go_enter Tryz.func69, Tryz.ntmps69
      go_wp2_with fail
      refine (in_no _ w (.inr (by omega))).mono ?_
      rintro e w' ⟨rfl, rfl⟩
      go_wp2_with fail
      go_ret
      exact ⟨rfl, rfl⟩
    · have IN : Hid (∀ n : Int, n = (r.length : Int) + 1 → Calls Tryz.prog 20 #[.int .i64 n, .int .i64 1, .int .i64 4] w fun e w' => e = .returned (.bool true) ∧ w = w') := fun n hn => in_yes n w (by omega) (by omega)
      by_cases h97 : c.toNat < 97
      · have hn : isName (c :: r) = false := by
          simp only [isName]
          have : decide (97 ≤ c.toNat) = false := by simp; omega
          simp [this]
        rw [hn]
        have hd2 : decide ((c.toNat : Int) < 97) = true := by simp; omega
        clear hn
        go_enter Tryz.func69, Tryz.ntmps69
        go_wp2_with fail
        refine (IN.out _ rfl).mono ?_
        rintro e w' ⟨rfl, rfl⟩
        go_wp2_with fail
        go_ret
        exact ⟨rfl, rfl⟩
      · have hd2 : decide ((c.toNat : Int) < 97) = false := by simp; omega
        by_cases h122 : 122 < c.toNat
        · have hn : isName (c :: r) = false := by
            simp only [isName]
            have : decide (c.toNat ≤ 122) = false := by simp; omega
            simp [this]
          rw [hn]
          have hd3 : decide (122 < (c.toNat : Int)) = true := by simp; omega
          clear hn
          go_enter Tryz.func69, Tryz.ntmps69
          go_wp2_with fail
          refine (IN.out _ rfl).mono ?_
          rintro e w' ⟨rfl, rfl⟩
          go_wp2_with fail
          go_ret
          exact ⟨rfl, rfl⟩
        · have hd3 : decide (122 < (c.toNat : Int)) = false := by simp; omega
          have hn : isName (c :: r) = r.all isDig := by
            simp only [isName]
            have h1 : decide (r.length ≤ 3) = true := by simp; omega
            have h2 : decide (97 ≤ c.toNat) = true := by simp; omega
            have h3 : decide (c.toNat ≤ 122) = true := by simp; omega
            simp [h1, h2, h3]
          rw [hn]
          have GET : Hid (∀ j x, r[j]? = some x → ∀ h : j + 1 < (ByteArray.mk (c :: r).toArray).size, (ByteArray.mk (c :: r).toArray)[j + 1]'h = x) := fun j x hx h => ba_get (c :: r) (j + 1) h x (by simpa using hx)
          clear hn hg
          have hg : ∀ h : 0 < (ByteArray.mk (c :: r).toArray).size, (ByteArray.mk (c :: r).toArray)[0]'h = c := fun h => rfl
          go_enter Tryz.func69, Tryz.ntmps69
          go_wp2_with fail
          refine (IN.out _ rfl).mono ?_
          rintro e w' ⟨rfl, rfl⟩
          go_wp2_with fail
          clear hg
          go_loop [3] (fun v => ∃ j : Nat, j ≤ r.length ∧ v = .int .i64 ((j + 1 : Nat) : Int) ∧ (r.take j).all isDig = true) (fun v => r.length + 1 - (intOf v).toNat)
          case atStart => exact ⟨0, Nat.zero_le _, rfl, by simp⟩
          case round =>
            obtain ⟨j, hj, rfl, hall⟩ := hrel
            have HALL := Lib.hid hall
            clear hall
            by_cases hjr : j < r.length
            · obtain ⟨x, hx⟩ : ∃ x, r[j]? = some x := ⟨_, List.getElem?_eq_getElem hjr⟩
              have hgx := GET.out j x hx
              have HX := Lib.hid hx
              have hxl := x.toNat_lt
              clear hx
              have hij : ((j + 1 : Nat) : Int) < (r.length : Int) + 1 := by omega
              by_cases h48 : x.toNat < 48
              · have hf : (r.all isDig) = false := by
                  rw [Bool.eq_false_iff]
                  intro h
                  have := List.all_eq_true.1 h x (List.mem_of_getElem? HX.out)
                  unfold isDig at this
                  simp at this; omega
                have HF := Lib.hid hf
                have e48 : decide ((x.toNat : Int) < 48) = true := by simp; omega
                clear hf
                go_wp2_with fail
                go_ret
                exact ⟨by rw [HF.out]; rfl, rfl⟩
              · have e48 : decide ((x.toNat : Int) < 48) = false := by simp; omega
                by_cases h57 : 57 < x.toNat
                · have hf : (r.all isDig) = false := by
                    rw [Bool.eq_false_iff]
                    intro h
                    have := List.all_eq_true.1 h x (List.mem_of_getElem? HX.out)
                    unfold isDig at this
                    simp at this; omega
                  have HF := Lib.hid hf
                  have e57 : decide (57 < (x.toNat : Int)) = true := by simp; omega
                  clear hf
                  go_wp2_with fail
                  go_ret
                  exact ⟨by rw [HF.out]; rfl, rfl⟩
                · have e57 : decide (57 < (x.toNat : Int)) = false := by simp; omega
                  have HM := Lib.hid (digs_more HALL.out HX.out (by unfold isDig; simp; omega))
                  go_wp2_with fail
                  go_round
                  case rel => exact ⟨j + 1, by omega, by go_num, HM.out⟩
                  case measure => simp [intOf]; omega
            · have hjl : j = r.length := by omega
              have HF : Hid ((r.all isDig) = true) := by
                have := HALL.out
                rw [hjl, List.take_length] at this
                exact this
              clear hjl
              go_wp2_with fail
              go_ret
              exact ⟨by rw [HF.out]; rfl, rfl⟩

/-- a shape as the model writes it -/
def shStr (h : List UInt8) : List UInt8 := (shapeOf h).map fun b => if b then 109 else 120

set_option maxHeartbeats 2000000 in
theorem shape_any (h : List UInt8) (w : World) : Calls Tryz.prog 70 #[S h] w fun e w' => e = .returned (S (shStr h)) ∧ w = w' := by
  by_cases h1 : h = hLam
  · subst h1
    unfold hLam
    go_enter Tryz.func70, Tryz.ntmps70
    go_wp2_with fail
    go_ret
    exact ⟨rfl, rfl⟩
  have n1 : (h == [108, 97, 109]) = false := by simpa [hLam] using h1
  by_cases h2 : h = hApp
  · subst h2
    unfold hApp at n1 ⊢
    go_enter Tryz.func70, Tryz.ntmps70
    go_wp2_with fail
    go_ret
    exact ⟨rfl, rfl⟩
  have n2 : (h == [97, 112, 112]) = false := by simpa [hApp] using h2
  by_cases h3 : h = hPair
  · subst h3
    unfold hPair at n1 n2 ⊢
    go_enter Tryz.func70, Tryz.ntmps70
    go_wp2_with fail
    go_ret
    exact ⟨rfl, rfl⟩
  have n3 : (h == [112, 97, 105, 114]) = false := by simpa [hPair] using h3
  by_cases h4 : h = hFst
  · subst h4
    unfold hFst at n1 n2 n3 ⊢
    go_enter Tryz.func70, Tryz.ntmps70
    go_wp2_with fail
    go_ret
    exact ⟨rfl, rfl⟩
  have n4 : (h == [102, 115, 116]) = false := by simpa [hFst] using h4
  by_cases h5 : h = hSnd
  · subst h5
    unfold hSnd at n1 n2 n3 n4 ⊢
    go_enter Tryz.func70, Tryz.ntmps70
    go_wp2_with fail
    go_ret
    exact ⟨rfl, rfl⟩
  have n5 : (h == [115, 110, 100]) = false := by simpa [hSnd] using h5
  by_cases h6 : h = hIf
  · subst h6
    unfold hIf at n1 n2 n3 n4 n5 ⊢
    go_enter Tryz.func70, Tryz.ntmps70
    go_wp2_with fail
    go_ret
    exact ⟨rfl, rfl⟩
  have n6 : (h == [105, 102]) = false := by simpa [hIf] using h6
  by_cases h7 : h = hLet
  · subst h7
    unfold hLet at n1 n2 n3 n4 n5 n6 ⊢
    go_enter Tryz.func70, Tryz.ntmps70
    go_wp2_with fail
    go_ret
    exact ⟨rfl, rfl⟩
  have n7 : (h == [108, 101, 116]) = false := by simpa [hLet] using h7
  have hk : shStr h = [] := by
    have e : shapeOf h = [] := by simp [shapeOf, h1, h2, h3, h4, h5, h6, h7]
    simp [shStr, e]
  rw [hk]
  clear hk h1 h2 h3 h4 h5 h6 h7
  go_enter Tryz.func70, Tryz.ntmps70
  go_wp2_with fail
  go_ret
  exact ⟨rfl, rfl⟩
end Go.Proofs.YtnjgaenhjdjpfaaGreatDoor

/- The model's validity of terms. -/
namespace Go.Proofs.YtnjgaenhjdjpfaaGreatDoor
open Go.RowKit Go.ChangeMaps

namespace Fo
def from_ : Fo → Nat → Fo
  | f, 0 => f
  | nil, _ + 1 => nil
  | cons _ _ r, j + 1 => r.from_ j

theorem from_zero (f : Fo) : f.from_ 0 = f := by cases f <;> rfl

theorem from_nth : ∀ (f : Fo) (j : Nat) (a : List UInt8) (k : Fo), f.nth j = some (a, k) → f.from_ j = cons a k (f.from_ (j + 1))
  | nil, _, _, _, h => by cases h
  | cons a k r, 0, a', k', h => by
    simp only [nth, Option.some.injEq, Prod.mk.injEq] at h
    obtain ⟨rfl, rfl⟩ := h
    show cons a k r = cons a k (r.from_ 0)
    rw [from_zero]
  | cons a k r, j + 1, a', k', h => from_nth r j a' k' h

theorem from_len : ∀ f : Fo, f.from_ f.len = nil
  | nil => rfl
  | cons _ _ r => from_len r

theorem atoms_nth : ∀ {f : Fo} {j : Nat} {a : List UInt8} {k : Fo}, f.atoms → f.nth j = some (a, k) → a.length ≤ 6000 ∧ k.atoms
  | .nil, _, _, _, _, h => by cases h
  | .cons a k r, 0, a', k', hs, h => by
    simp only [Fo.nth, Option.some.injEq, Prod.mk.injEq] at h
    obtain ⟨rfl, rfl⟩ := h
    exact ⟨hs.1, hs.2.1⟩
  | .cons a k r, j + 1, a', k', hs, h => atoms_nth (f := r) (j := j) hs.2.2 h

def tail : Fo → Fo
  | nil => nil
  | cons _ _ r => r
end Fo

def okAt (b : Bool) (a : List UInt8) (k : Fo) : Bool := if b then isTm a k else isName a

theorem isTms_step {sh : List Bool} {r : Fo} {j : Nat} {a : List UInt8} {k : Fo} {b : Bool} (h : r.nth j = some (a, k)) (hb : sh[j]? = some b) :
    isTms (some (sh.drop j)) (r.from_ j) = (okAt b a k && isTms (some (sh.drop (j + 1))) (r.from_ (j + 1))) := by
  obtain ⟨hlt, he⟩ := List.getElem?_eq_some_iff.1 hb
  rw [Fo.from_nth r j a k h, List.drop_eq_getElem_cons hlt, he]
  cases b <;> simp [isTms, okAt, isTm]

theorem isTms_head (k : Fo) : isTms none k = (!(shapeOf (headOf [] k)).isEmpty && isTms (some (shapeOf (headOf [] k))) k.tail) := by
  cases k with
  | nil => rfl
  | cons a k r => simp [isTms, headOf, Fo.tail]

def bMX (b : Bool) : UInt8 := if b then 109 else 120
theorem shape_short (h : List UInt8) : (shapeOf h).length ≤ 3 := by
  unfold shapeOf
  repeat' split
  all_goals simp

def IsTSaid (k : Fo) : Prop := ∀ (a : List UInt8) (A : Option Addr) (c : Nat) (w : World) (T : Nat → Prop), a.length ≤ 6000 → k.atoms → (∀ b, T b → b < w.heap.size) → Sl w T A k →
  Calls Tryz.prog 42 #[.agg #[S a, .slice A k.len c]] w fun e w' => e = .returned (.bool (isTm a k)) ∧ Fr No w w'

set_option maxRecDepth 100000 in
set_option maxHeartbeats 1000000 in
theorem is2_node (k : Fo) (hN : ∀ a' k' j, k.nth j = some (a', k') → IsTSaid k') (A : Option Addr) (c : Nat) (w : World) (T : Nat → Prop) (hk : k.atoms) (hT : ∀ b, T b → b < w.heap.size) (h : Sl w T A k) :
    Calls Tryz.prog 42 #[.agg #[S [], .slice A k.len c]] w fun e w' => e = .returned (.bool (isTms none k)) ∧ Fr No w w' := by
  have HN := Lib.hid hN
  clear hN
  have b0 := Blk.new w 40 #[S [], .slice A k.len c]
  have HD := Lib.hid (head_any (w.alloc (.cells #[S [], .slice A k.len c] 40)) T [] k A c (h.fr hT ((Fr.refl _ _).alloc _)))
  have HSH := Lib.hid (shape_short (headOf [] k))
  obtain ⟨B, HB⟩ : ∃ B, Hid (isTms none k = B) := ⟨_, rfl⟩
  rw [HB.out]
  have HE : Hid (B = (!(shapeOf (headOf [] k)).isEmpty && isTms (some (shapeOf (headOf [] k))) k.tail)) := HB.out.symm.trans (isTms_head k)
  have SP : Hid (∀ w, Calls Tryz.prog 70 #[S (headOf [] k)] w fun e w' => e = .returned (S ((shapeOf (headOf [] k)).map bMX)) ∧ w = w') := fun w => shape_any (headOf [] k) w
  generalize shapeOf (headOf [] k) = sh at HSH HE SP
  generalize headOf [] k = hd at HD SP
  clear HB
  go_enter Tryz.func42, Tryz.ntmps42
  go_wp2_with fail
  refine HD.out.mono ?_
  rintro e w1 ⟨rfl, hf1⟩
  have b1 := b0.fr hf1 (fun h => h)
  have hfr1 : Fr No w w1 := ((Fr.refl _ _).alloc _).trans hf1
  have c1 : w1.cell? ⟨w.heap.size, 1, none⟩ = some (.slice A k.len c) := (b1.cell 1).trans rfl
  go_wp2_with fail
  refine (SP.out _).mono ?_
  rintro e w2 ⟨rfl, rfl⟩
  have hsh := HSH.out
  clear HD SP
  by_cases h0 : sh = []
  · subst h0
    have HF : Hid (B = false) := HE.out
    clear HE
    go_wp2_with fail
    go_ret
    exact ⟨ret_bool HF.out.symm, hfr1⟩
  have e0 : (sh.map bMX).isEmpty = false := by cases sh; exact absurd rfl h0; rfl
  have hB : B = isTms (some sh) k.tail := by
    rw [HE.out]
    cases sh
    · exact absurd rfl h0
    · rfl
  have HBB := Lib.hid hB
  obtain ⟨m, hm⟩ : ∃ m, m = sh.length := ⟨_, rfl⟩
  have hml : (sh.map bMX).length = m := by simp [hm]
  have HM := Lib.hid hm
  clear h0 hm hB HE
  have hm1 : 1 ≤ m := by
    rw [HM.out]
    cases sh
    · simp at e0
    · simp
  have hm3 : m ≤ 3 := by rw [HM.out]; exact hsh
  by_cases hl : k.len = m + 1
  · obtain ⟨h0, k0, r, rfl⟩ : ∃ h0 k0 r, k = .cons h0 k0 r := by
      cases k with
      | nil => simp [Fo.len] at hl
      | cons a k r => exact ⟨a, k, r, rfl⟩
    have hrl : r.len = m := by simpa [Fo.len] using hl
    have HR := Lib.hid hrl
    have BX : Hid (∀ j b, sh[j]? = some b → ∀ h : j < (ByteArray.mk (sh.map bMX).toArray).size, (ByteArray.mk (sh.map bMX).toArray)[j]'h = bMX b) := fun j b hb h => ba_get (sh.map bMX) j h (bMX b) (by simp [hb])
    have hlc : ((Fo.cons h0 k0 r).len : Int) = (m : Int) + 1 := by rw [hl]; rfl
    clear hrl
    go_wp2_with fail
    clear c1 hml e0
    go_loopw [4] (fun i wr => ∃ j : Nat, j ≤ m ∧ i = .int .i64 j ∧ B = isTms (some (sh.drop j)) (r.from_ j) ∧ Fr No w wr ∧ Blk wr w.heap.size 40 #[S [], .slice A (Fo.cons h0 k0 r).len c]) (fun i _ => m - (intOf i).toNat)
    case atStart => exact ⟨0, Nat.zero_le _, rfl, by rw [Fo.from_zero]; exact HBB.out, hfr1, b1⟩
    case round =>
      obtain ⟨j, hj, rfl, hBj, hfr, hb⟩ := hrel
      have HBJ := Lib.hid hBj
      clear hBj
      have c1 : wr.cell? ⟨w.heap.size, 1, none⟩ = some (.slice A (Fo.cons h0 k0 r).len c) := (hb.cell 1).trans rfl
      by_cases hlt : j < m
      · obtain ⟨g, o, a', k', A', c', rfl, hg, hn, q0, q1, hsl⟩ := (h.fr hT hfr).nth (j := j + 1) (by rw [hl]; omega)
        have hnr : r.nth j = some (a', k') := hn
        obtain ⟨b, hbj⟩ : ∃ b, sh[j]? = some b := ⟨_, List.getElem?_eq_getElem (by rw [← HM.out]; exact hlt)⟩
        have HST : Hid (B = (okAt b a' k' && isTms (some (sh.drop (j + 1))) (r.from_ (j + 1)))) := HBJ.out.trans (isTms_step hnr hbj)
        have hat := Fo.atoms_nth hk hn
        have hlg := block_lt q0
        have hT2 : ∀ b, T b → b < wr.heap.size := fun b hb => Nat.lt_of_lt_of_le (hT b hb) hfr.size
        have IS : Hid (Calls Tryz.prog 42 #[.agg #[S a', .slice A' k'.len c']] (wr.alloc (.cells #[S a', .slice A' k'.len c'] 40)) fun e w' => e = .returned (.bool (isTm a' k')) ∧ Fr No wr w') :=
          (HN.out a' k' (j + 1) hn a' A' c' _ T hat.1 hat.2 (fun b hb => by have := hT2 b hb; simp; omega) (hsl.fr hT2 ((Fr.refl _ _).alloc _))).mono fun e w' h => ⟨h.1, ((Fr.refl _ _).alloc _).trans h.2⟩
        have NM : Hid (∀ w, Calls Tryz.prog 69 #[S a'] w fun e w' => e = .returned (.bool (isName a')) ∧ w = w') := fun w => name2_any a' w hat.1
        have hjl : ((j : Int)) < (m : Int) := by omega
        have hj0 : ((j : Int) + 1) < ((Fo.cons h0 k0 r).len : Int) := by omega
        have HBN := Lib.hid hbj
        clear hat hn hnr hbj
        cases b
        · have hgx : ∀ h : j < (ByteArray.mk (sh.map bMX).toArray).size, (ByteArray.mk (sh.map bMX).toArray)[j]'h = 120 := BX.out j false HBN.out
          have hml : (sh.map bMX).length = m := by rw [List.length_map]; exact HM.out.symm
          rcases hq : isName a' with _ | _
          · have HF : Hid (B = false) := by refine Lib.hid ?_; rw [HST.out]; simp [okAt, hq]
            have HQ := Lib.hid hq
            clear hq
            go_wp2_with fail
            refine (NM.out _).mono ?_
            rintro e w2 ⟨rfl, rfl⟩
            rw [HQ.out]
            go_wp2_with fail
            go_ret
            exact ⟨ret_bool HF.out.symm, hfr.alloc _⟩
          · have HT : Hid (B = isTms (some (sh.drop (j + 1))) (r.from_ (j + 1))) := by refine Lib.hid ?_; rw [HST.out]; simp [okAt, hq]
            have HQ := Lib.hid hq
            clear hq
            go_wp2_with fail
            refine (NM.out _).mono ?_
            rintro e w2 ⟨rfl, rfl⟩
            rw [HQ.out]
            go_wp2_with fail
            go_roundw
            case rel => exact ⟨j + 1, by omega, by go_num, HT.out, hfr.alloc _, hb.alloc _⟩
            case measure => simp [intOf]; omega
        · have hgx : ∀ h : j < (ByteArray.mk (sh.map bMX).toArray).size, (ByteArray.mk (sh.map bMX).toArray)[j]'h = 109 := BX.out j true HBN.out
          have hml : (sh.map bMX).length = m := by rw [List.length_map]; exact HM.out.symm
          rcases hq : isTm a' k' with _ | _
          · have HF : Hid (B = false) := by refine Lib.hid ?_; rw [HST.out]; simp [okAt, hq]
            have HQ := Lib.hid hq
            clear hq
            go_wp2_with fail
            refine IS.out.mono ?_
            rintro e w2 ⟨rfl, hf2⟩
            rw [HQ.out]
            go_wp2_with fail
            go_ret
            exact ⟨ret_bool HF.out.symm, hfr.trans hf2⟩
          · have HT : Hid (B = isTms (some (sh.drop (j + 1))) (r.from_ (j + 1))) := by refine Lib.hid ?_; rw [HST.out]; simp [okAt, hq]
            have HQ := Lib.hid hq
            clear hq
            go_wp2_with fail
            refine IS.out.mono ?_
            rintro e w2 ⟨rfl, hf2⟩
            rw [HQ.out]
            go_wp2_with fail
            go_roundw
            case rel => exact ⟨j + 1, by omega, by go_num, HT.out, hfr.trans hf2, hb.fr hf2 (fun h => h)⟩
            case measure => simp [intOf]; omega
      · have hjl : j = m := by omega
        have HF : Hid (B = true) := by
          rw [HBJ.out, hjl]
          rw [show r.from_ m = Fo.nil by rw [← HR.out]; exact Fo.from_len r, show sh.drop m = [] by rw [HM.out]; exact List.drop_length]
          rfl
        have hml : (sh.map bMX).length = m := by rw [List.length_map]; exact HM.out.symm
        clear hjl
        go_wp2_with fail
        go_ret
        exact ⟨ret_bool HF.out.symm, hfr⟩
  · have HF : Hid (B = false) := by
      rw [HBB.out]
      apply Bool.eq_false_iff.2
      intro h
      have := isTms_len _ _ h
      rw [← HM.out] at this
      cases k with
      | nil => simp [Fo.tail, Fo.len] at this; omega
      | cons a k r => simp [Fo.tail, Fo.len] at this hl; omega
    have hne : ((k.len : Int) == (m : Int) + 1) = false := beq_eq_false_iff_ne.2 (by omega)
    clear hl HBB
    go_wp2_with fail
    go_ret
    exact ⟨ret_bool HF.out.symm, hfr1⟩

theorem is2_any (N : Nat) : ∀ k : Fo, SizeOf.sizeOf k < N → IsTSaid k := by
  induction N with
  | zero => intro k h; omega
  | succ N ih =>
    intro k hN a A c w T ha hk hT h
    by_cases he : a = []
    · subst he
      have : isTm [] k = isTms none k := by simp [isTm]
      rw [this]
      exact is2_node k (fun a' k' j hn => ih k' (by have := Fo.nth_small k j a' k' hn; omega)) A c w T hk hT h
    · have hae : a.isEmpty = false := by cases a; exact absurd rfl he; rfl
      have hv : isTm a k = isAtomTm a := by simp [isTm, he]
      rw [hv]
      generalize k.len = n
      clear hv hk h
      have hva : isAtomTm a = (a == [116, 114, 117, 101] || a == [102, 97, 108, 115, 101] || isName a) := rfl
      by_cases h1 : a = [116, 114, 117, 101]
      · subst h1
        rw [hva]
        clear hva
        go_enter Tryz.func42, Tryz.ntmps42
        go_wp2_with fail
        go_ret
        exact ⟨rfl, (Fr.refl _ _).alloc _⟩
      have n1 : (a == [116, 114, 117, 101]) = false := beq_eq_false_iff_ne.2 h1
      by_cases h2 : a = [102, 97, 108, 115, 101]
      · subst h2
        rw [hva]
        clear hva
        go_enter Tryz.func42, Tryz.ntmps42
        go_wp2_with fail
        go_ret
        exact ⟨rfl, (Fr.refl _ _).alloc _⟩
      have n2 : (a == [102, 97, 108, 115, 101]) = false := beq_eq_false_iff_ne.2 h2
      have NM := Lib.hid (fun w => name2_any a w ha)
      have hr : isAtomTm a = isName a := by rw [hva, n1, n2]; simp
      rw [hr]
      clear hr hva ha
      generalize isName a = q at NM ⊢
      go_enter Tryz.func42, Tryz.ntmps42
      go_wp2_with fail
      refine (NM.out _).mono ?_
      rintro e w2 ⟨rfl, rfl⟩
      go_wp2_with fail
      go_ret
      exact ⟨rfl, (Fr.refl _ _).alloc _⟩
end Go.Proofs.YtnjgaenhjdjpfaaGreatDoor

/- The model's reading of terms; TermValid, TermSize, TermHead of the model. -/
namespace Go.Proofs.YtnjgaenhjdjpfaaGreatDoor
open Go.RowKit Go.ChangeMaps

def TermT (w : World) (s : List UInt8) (e : Ending) (w' : World) : Prop :=
  Fr No w w' ∧ ((∃ a k A c, TmOk s a k ∧ e = .returned (.tuple #[.agg #[S a, .slice A k.len c], .bool true]) ∧ Sl w' (New w w') A k) ∨
    (∃ a A m c, (∀ a k, ¬ TmOk s a k) ∧ e = .returned (.tuple #[.agg #[S a, .slice A m c], .bool false])))

theorem TermT.no {w w' : World} {s a : List UInt8} {A : Option Addr} {m c : Nat} (hf : Fr No w w') (h : ∀ a k, ¬ TmOk s a k) :
    TermT w s (.returned (.tuple #[.agg #[S a, .slice A m c], .bool false])) w' := ⟨hf, .inr ⟨a, A, m, c, h, rfl⟩⟩

theorem TermT.yes {w w' : World} {s a : List UInt8} {k : Fo} {A : Option Addr} {c : Nat} (hf : Fr No w w') (h : TmOk s a k) (hs : Sl w' (New w w') A k) :
    TermT w s (.returned (.tuple #[.agg #[S a, .slice A k.len c], .bool true])) w' := ⟨hf, .inl ⟨a, k, A, c, h, rfl, hs⟩⟩

theorem parsed_notm {s a : List UInt8} {k : Fo} (h : Parsed s a k) (h1 : isTm a k = false ∨ 300 < treeSize a k) : ∀ a k, ¬ TmOk s a k := by
  intro a' k' ht
  have := ht.2.1
  rw [h.2] at this
  simp only [Option.some.injEq, Prod.mk.injEq, and_true] at this
  obtain ⟨rfl, rfl⟩ := this
  rcases h1 with h1 | h1
  · rw [ht.2.2.1] at h1; cases h1
  · have := ht.2.2.2; omega

set_option maxRecDepth 100000 in
set_option maxHeartbeats 1000000 in
theorem term_any (s : List UInt8) (w : World) (hs : s.length ≤ maxLen) :
    Calls Tryz.prog 28 #[S s] w fun e w' => TermT w s e w' := by
  have b0 := Blk.new w 40 #[S [], .slice none 0 0]
  have HS := Lib.hid hs
  clear hs
  go_enter Tryz.func28, Tryz.ntmps28
  go_wp2_with fail
  refine (parse_any s _ HS.out).mono ?_
  rintro e w1 ⟨hfr, hres⟩
  have b1 := b0.fr hfr (fun h => h)
  have r0 : w1.cell? ⟨w.heap.size, 0, none⟩ = some (S []) := (b1.cell 0).trans rfl
  have r1 : w1.cell? ⟨w.heap.size, 1, none⟩ = some (.slice none 0 0) := (b1.cell 1).trans rfl
  have fr0 := b1.frozen 0
  have fr1 := b1.frozen 1
  have l0 := b1.lt
  rcases hres with ⟨a, k, A, c, hp, rfl, hsl⟩ | ⟨a, A, m, c, hno, rfl⟩
  · obtain ⟨q1, q2, q3, q4, q5⟩ := hp.bounds
    have bb : Blk (w1.alloc (.cells #[S a, .slice A k.len c] 40)) w1.heap.size 40 #[S a, .slice A k.len c] := Blk.new _ _ _
    have b2 := b1.alloc (.cells #[S a, .slice A k.len c] 40)
    have hsl2 : Sl (w1.alloc (.cells #[S a, .slice A k.len c] 40)) (New (w.alloc (.cells #[S [], .slice none 0 0] 40)) w1) A k := hsl.fr (fun b hb => hb.2) ((Fr.refl _ _).alloc _)
    have hT : ∀ b, New (w.alloc (.cells #[S [], .slice none 0 0] 40)) w1 b → b < (w1.alloc (.cells #[S a, .slice A k.len c] 40)).heap.size := fun b hb => by have := hb.2; simp; omega
    have hfr2 : Fr No (w.alloc (.cells #[S [], .slice none 0 0] 40)) (w1.alloc (.cells #[S a, .slice A k.len c] 40)) := hfr.alloc _
    go_wp2_with fail
    have ne1 : w1.heap.size ≠ w.heap.size := by omega
    have ne2 : w.heap.size ≠ w1.heap.size := by omega
    clear r0 r1 fr0 fr1 l0 b0
    generalize hW : w1.alloc (.cells #[S a, .slice A k.len c] 40) = W at bb b2 hsl2 hT hfr2 ⊢
    have hWs : W.heap.size = w1.heap.size + 1 := by rw [← hW]; simp
    clear hW
    have CELLS : Hid (∀ w' : World, Fr No W w' → w'.cell? ⟨w1.heap.size, 0, none⟩ = some (S a) ∧ w'.cell? ⟨w1.heap.size, 1, none⟩ = some (.slice A k.len c) ∧ w'.cell? ⟨w.heap.size, 0, none⟩ = some (S []) ∧ w'.cell? ⟨w.heap.size, 1, none⟩ = some (.slice none 0 0) ∧
        w'.frozen? ⟨w.heap.size, 0, none⟩ = false ∧ w'.frozen? ⟨w.heap.size, 1, none⟩ = false ∧ w.heap.size < w'.heap.size ∧ w1.heap.size < w'.heap.size) := by
      intro w' hf
      have g1 := bb.fr hf (fun h => h)
      have g2 := b2.fr hf (fun h => h)
      exact ⟨(g1.cell 0).trans rfl, (g1.cell 1).trans rfl, (g2.cell 0).trans rfl, (g2.cell 1).trans rfl, g2.frozen 0, g2.frozen 1, g2.lt, g1.lt⟩
    have IS : Hid (∀ w' : World, Fr No W w' → Calls Tryz.prog 42 #[.agg #[S a, .slice A k.len c]] w' fun e w2 => e = .returned (.bool (isTm a k)) ∧ Fr No W w2) := fun w' hf =>
      (is2_any _ k (Nat.lt_succ_self _) a A c w' (New (w.alloc (.cells #[S [], .slice none 0 0] 40)) w1) q2 q3 (fun b hb => Nat.lt_of_lt_of_le (hT b hb) hf.size) (hsl2.fr hT hf)).mono fun e w2 h => ⟨h.1, hf.trans h.2⟩
    have SZ : Hid (∀ w' : World, Fr No W w' → Calls Tryz.prog 43 #[.agg #[S a, .slice A k.len c]] w' fun e w2 => e = .returned (.int .i64 (treeSize a k)) ∧ Fr No W w2) := fun w' hf =>
      (size_any _ k (Nat.lt_succ_self _) a A c w' (New (w.alloc (.cells #[S [], .slice none 0 0] 40)) w1) (by omega) q4 q5 (fun b hb => Nat.lt_of_lt_of_le (hT b hb) hf.size) (hsl2.fr hT hf)).mono fun e w2 h => ⟨h.1, hf.trans h.2⟩
    have hf0 : Fr No W W.drew := (Fr.refl _ _).drew
    obtain ⟨c0, c1, r0, r1, fr0, fr1, l0, l1⟩ := CELLS.out W (Fr.refl _ _)
    by_cases hty : isTm a k = true
    · by_cases h40 : treeSize a k ≤ 300
      · have HP : Hid (TmOk s a k) := ⟨hp.1, hp.2, hty, h40⟩
        have HT := Lib.hid hty
        have h40' : (treeSize a k : Int) ≤ 300 := by omega
        clear hty h40
        go_region_held3 (fun w' => w'.cell? ⟨w1.heap.size, 0, none⟩ = some (S a) ∧ w'.cell? ⟨w1.heap.size, 1, none⟩ = some (.slice A k.len c)) (go_keep)
          (first | (go_at_call 42; refine (IS.out _ hf0).mono ?_; rintro e w2 ⟨rfl, hf2⟩; rw [HT.out]; obtain ⟨d0, d1, d2, d3, d4, d5, d6, d7⟩ := CELLS.out w2 hf2) | (go_at_call 43; refine (SZ.out _ hf2).mono ?_; rintro e w3 ⟨rfl, hf3⟩; obtain ⟨e0, e1, e2, e3, e4, e5, e6, e7⟩ := CELLS.out w3 hf3))
        have hend : ∀ v0 v1, Sl ((w3.setCell ⟨w.heap.size, 0, none⟩ v0).setCell ⟨w.heap.size, 1, none⟩ v1) (New w ((w3.setCell ⟨w.heap.size, 0, none⟩ v0).setCell ⟨w.heap.size, 1, none⟩ v1)) A k := by
          intro v0 v1
          refine (hsl2.fr hT hf3).mono (fun b hb => ⟨by have := hb.1; simp at this; omega, by have := hb.2; simp [World.setCell]; omega⟩) (fun b hb => ?_)
          have h1 := hb.1
          simp at h1
          rw [Below.heap_setCell _ _ _ _ (by show b ≠ w.heap.size; omega), Below.heap_setCell _ _ _ _ (by show b ≠ w.heap.size; omega)]
        have HE := Lib.hid hend
        clear hend
        all_goals go_wp2_with fail
        refine bodyPost_ret (v := .tuple #[.agg #[S a, .slice A k.len c], .bool true]) (by simp [results, Tryz.results28, go_sem, cell_set_same e2, cell_set_next e3]) rfl ?_
        exact TermT.yes (res_done (hfr2.trans hf3)) HP.out (HE.out _ _)
      · have hn := parsed_notm hp (.inr (by omega))
        have HT := Lib.hid hty
        have h40' : 300 < (treeSize a k : Int) := by omega
        have h40'' : ¬ (treeSize a k : Int) ≤ 300 := by omega
        have H40 := Lib.hid h40
        have HN := Lib.hid hn
        clear hty h40 hn
        have HD : Hid (decide ((treeSize a k : Int) ≤ 300) = false) := decide_eq_false h40''
        go_region_held3 (fun w' => w'.cell? ⟨w1.heap.size, 0, none⟩ = some (S a) ∧ w'.cell? ⟨w1.heap.size, 1, none⟩ = some (.slice A k.len c)) (go_keep)
          (first | (go_at_call 42; refine (IS.out _ hf0).mono ?_; rintro e w2 ⟨rfl, hf2⟩; rw [HT.out]; obtain ⟨d0, d1, d2, d3, d4, d5, d6, d7⟩ := CELLS.out w2 hf2) | (go_at_call 43; refine (SZ.out _ hf2).mono ?_; rintro e w3 ⟨rfl, hf3⟩; obtain ⟨e0, e1, e2, e3, e4, e5, e6, e7⟩ := CELLS.out w3 hf3))
        all_goals go_wp2_with fail
        refine bodyPost_ret (v := .tuple #[.agg #[S a, .slice A k.len c], .bool false]) (by simp [results, Tryz.results28, go_sem, cell_set_same e2, cell_set_next e3, HD.out]; try exact Nat.lt_of_not_le H40.out) rfl ?_
        exact TermT.no (res_done (hfr2.trans hf3)) HN.out
    · have hty' : isTm a k = false := Bool.eq_false_iff.2 hty
      have hn := parsed_notm hp (.inl hty')
      have HT := Lib.hid hty'
      have HN := Lib.hid hn
      clear hty hty' hn
      go_region_with (first | (go_at_call 42; refine (IS.out _ hf0).mono ?_; rintro e w2 ⟨rfl, hf2⟩; rw [HT.out]; obtain ⟨d0, d1, d2, d3, d4, d5, d6, d7⟩ := CELLS.out w2 hf2))
      all_goals go_wp2_with fail
      all_goals exact bodyPost_ret (v := .tuple #[.agg #[S a, .slice A k.len c], .bool false]) (by simp [results, Tryz.results28, go_sem, cell_set_same d2, cell_set_next d3]) rfl (TermT.no (res_done (hfr2.trans hf2)) HN.out)
  · have hn : ∀ a k, ¬ TmOk s a k := fun a k ht => hno _ _ ⟨ht.1, ht.2.1⟩
    have HN := Lib.hid hn
    clear hn hno
    go_wp2_with fail
    go_region
    all_goals go_wp2_with fail
    all_goals exact bodyPost_ret (v := .tuple #[.agg #[S a, .slice A m c], .bool false]) (by simp [results, Tryz.results28, go_sem, l0, cell_set_same r0, cell_set_next r1]) rfl (TermT.no (((res_done hfr).alloc _).drew) HN.out)

set_option maxHeartbeats 1000000 in
theorem specTmValid (w : World) (s : List UInt8) (hs : s.length ≤ maxLen) :
    Calls Tryz.prog 19 #[S s] w fun e w' => AnsB (∃ a k, TmOk s a k) w e w' := by
  go_enter Tryz.func19, Tryz.ntmps19
  go_wp2_with fail
  refine (term_any s _ hs).mono ?_
  rintro e w1 ⟨hf, ⟨a, k, A, c, hi, rfl, _⟩ | ⟨a, A, m, c, hno, rfl⟩⟩
  · go_wp2
    go_ret
    exact ⟨true, rfl, ⟨fun _ => ⟨a, k, hi⟩, fun _ => rfl⟩, hf.alloc _⟩
  · go_wp2
    go_ret
    exact ⟨false, rfl, ⟨fun h => (by cases h), fun ⟨a, k, h⟩ => (hno a k h).elim⟩, hf.alloc _⟩

theorem truth_of {a : List UInt8} {k : Fo} (ha : a ≠ []) (h : isTm a k = true) : ndH a k = if isName a then hName else hTruth := by
  have h1 : isAtomTm a = true := by simpa [isTm, ha] using h
  unfold ndH
  rw [if_neg ha]
  by_cases ht : a = tTrue
  · subst ht; rfl
  by_cases hf : a = tFalse
  · subst hf; rfl
  have : isName a = true := by simpa [isAtomTm, ht, hf] using h1
  rw [this, if_neg (by rintro (h | h); exact ht h; exact hf h)]
  rfl

end Go.Proofs.YtnjgaenhjdjpfaaGreatDoor

/- The laws TermValid, TermSize, TermHead. -/
namespace Go.Proofs.YtnjgaenhjdjpfaaGreatDoor
open Go.RowKit Go.ChangeMaps

theorem Fr.kept {w w' : World} (h : Fr No w w') : Below w.heap.size w w' := h.below (Nat.le_refl _) (fun _ h => h.elim)
theorem str_S (a : ByteArray) : Value.string a = S a.data.toList := rfl
theorem str_len {a : ByteArray} (h : a.size ≤ maxLen) : a.data.toList.length ≤ maxLen := by
  rw [Array.length_toList]; exact h

/-- what a law answers -/
def Yes (w : World) (e : Ending) (w' : World) : Prop := e = .returned (.bool true) ∧ Fr No w w'

theorem AnsN.same {F : List UInt8 → Fo → Int} {s : List UInt8} {n m : Int} (h1 : (∃ a k, TmOk s a k ∧ n = F a k) ∨ ((∀ a k, ¬ TmOk s a k) ∧ n = -1)) (h2 : (∃ a k, TmOk s a k ∧ m = F a k) ∨ ((∀ a k, ¬ TmOk s a k) ∧ m = -1)) : n = m := by
  rcases h1 with ⟨a, k, h1, e1⟩ | ⟨h1, e1⟩ <;> rcases h2 with ⟨a', k', h2, e2⟩ | ⟨h2, e2⟩
  · obtain ⟨rfl, rfl⟩ := h1.unique h2; rw [e1, e2]
  · exact absurd h1 (h2 a k)
  · exact absurd h2 (h1 a' k')
  · rw [e1, e2]

theorem AnsH.same {s n m : List UInt8} (h1 : (∃ a k, TmOk s a k ∧ n = ndH a k) ∨ ((∀ a k, ¬ TmOk s a k) ∧ n = [])) (h2 : (∃ a k, TmOk s a k ∧ m = ndH a k) ∨ ((∀ a k, ¬ TmOk s a k) ∧ m = [])) : n = m := by
  rcases h1 with ⟨a, k, h1, e1⟩ | ⟨h1, e1⟩ <;> rcases h2 with ⟨a', k', h2, e2⟩ | ⟨h2, e2⟩
  · obtain ⟨rfl, rfl⟩ := h1.unique h2; rw [e1, e2]
  · exact absurd h1 (h2 a k)
  · exact absurd h2 (h1 a' k')
  · rw [e1, e2]

end Go.Proofs.YtnjgaenhjdjpfaaGreatDoor
