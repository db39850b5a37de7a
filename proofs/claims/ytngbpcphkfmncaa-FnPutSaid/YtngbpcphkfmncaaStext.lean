import Derived.Test.YtngbpcphkfmncaaShead
import Derived.Test.YtngbpcphkfmncaaHas
namespace Go.Proofs.Ytngbpcphkfmncaa
open Go.RowKit Go.ChangeMaps

theorem val_str {a : ByteArray} {b : List UInt8} (h : a.data.toList = b) : Value.string a = S b := by
  subst h
  rfl

namespace Fo
/-- the texts of the first trees, with spaces between -/
def textTo : Fo → Nat → List UInt8
  | nil, _ => []
  | cons _ _ _, 0 => []
  | cons a k _, 1 => treeText a k
  | cons a k r, j + 2 => treeText a k ++ 32 :: r.textTo (j + 1)

def cnt : Fo → Nat
  | nil => 0
  | cons _ k r => 1 + k.cnt + r.cnt

theorem nth_cnt : ∀ (f : Fo) (j : Nat) (a : List UInt8) (k : Fo), f.nth j = some (a, k) → k.cnt < f.cnt
  | nil, _, _, _, h => by cases h
  | cons a k r, 0, a', k', h => by
    simp only [nth, Option.some.injEq, Prod.mk.injEq] at h
    obtain ⟨rfl, rfl⟩ := h
    simp only [cnt]; omega
  | cons a k r, j + 1, a', k', h => by
    have := nth_cnt r j a' k' h
    simp only [cnt]; omega

theorem textTo_zero (f : Fo) : f.textTo 0 = [] := by cases f <;> rfl

theorem textTo_succ : ∀ (f : Fo) (j : Nat) (a : List UInt8) (k : Fo), f.nth j = some (a, k) → f.textTo (j + 1) = (if j = 0 then [] else f.textTo j ++ [32]) ++ treeText a k
  | nil, _, _, _, h => by cases h
  | cons a k r, 0, a', k', h => by
    simp only [nth, Option.some.injEq, Prod.mk.injEq] at h
    obtain ⟨rfl, rfl⟩ := h
    simp [textTo]
  | cons a k r, 1, a', k', h => by
    have := textTo_succ r 0 a' k' h
    simp only [if_true, List.nil_append] at this
    simp [textTo, this]
  | cons a k r, j + 2, a', k', h => by
    have := textTo_succ r (j + 1) a' k' h
    simp only [textTo]
    rw [this]
    simp

theorem textTo_len : ∀ (f : Fo), f.textTo f.len = f.texts
  | nil => rfl
  | cons a k nil => by simp [len, textTo, texts, treeText]
  | cons a k (cons b j r) => by
    have := textTo_len (cons b j r)
    simp only [len, textTo, texts, treeText] at this ⊢
    rw [this]

theorem textTo_le : ∀ (f : Fo) (j : Nat), (f.textTo j).length ≤ f.texts.length + 1
  | nil, _ => by simp [textTo]
  | cons a k r, 0 => by simp [textTo]
  | cons a k nil, 1 => by simp [textTo, texts, treeText]
  | cons a k (cons b j' r), 1 => by
    simp only [textTo, texts, treeText, List.length_append]
    omega
  | cons a k nil, j + 2 => by simp [textTo, texts, treeText]
  | cons a k (cons b j' r), j + 2 => by
    have := textTo_le (cons b j' r) (j + 1)
    simp only [textTo, texts, treeText, List.length_append, List.length_cons] at this ⊢
    omega

theorem nth_text {f : Fo} {j : Nat} {a : List UInt8} {k : Fo} (h : f.nth j = some (a, k)) : (treeText a k).length ≤ f.texts.length + 1 := by
  have h1 := textTo_succ f j a k h
  have h2 := textTo_le f (j + 1)
  rw [h1] at h2
  simp only [List.length_append] at h2
  omega
end Fo

def TextSaid (k : Fo) : Prop := ∀ (a : List UInt8) (A : Option Addr) (c : Nat) (w : World) (T : Nat → Prop) (N : Nat), (treeText a k).length + k.cnt ≤ N → N ≤ 1000000 → k.len ≤ 100000 → k.short → (∀ b, T b → b < w.heap.size) → Sl w T A k →
  Calls Try.prog 41 #[.agg #[S a, .slice A k.len c]] w fun e w' => e = .returned (S (treeText a k)) ∧ Fr No w w'

set_option maxRecDepth 100000 in
set_option maxHeartbeats 1000000 in
theorem text_node (k : Fo) (hN : ∀ a' k' j, k.nth j = some (a', k') → TextSaid k') (A : Option Addr) (c : Nat) (w : World) (T : Nat → Prop) (N : Nat) (hs : (40 :: (k.texts ++ [41])).length + k.cnt ≤ N) (hN2 : N ≤ 1000000) (hk : k.len ≤ 100000) (hsh : k.short) (hT : ∀ b, T b → b < w.heap.size) (h : Sl w T A k) :
    Calls Try.prog 41 #[.agg #[S [], .slice A k.len c]] w fun e w' => e = .returned (S (40 :: (k.texts ++ [41]))) ∧ Fr No w w' := by
  have HN := Lib.hid hN
  clear hN
  have b0 := Blk.new w 68 #[S [], .slice A k.len c]
  have hk' : (k.len : Int) ≤ 100000 := by omega
  simp only [List.length_cons, List.length_append, List.length_nil] at hs
  go_enter Try.func41, Try.ntmps41
  go_wp2_with fail
  go_loopw [3, 4] (fun v i wr => ∃ j : Nat, j ≤ k.len ∧ i = .int .i64 j ∧ v = S (40 :: k.textTo j) ∧ Fr No w wr ∧ Blk wr w.heap.size 68 #[S [], .slice A k.len c]) (fun _ i _ => k.len - (intOf i).toNat)
  case atStart => exact ⟨0, Nat.zero_le _, rfl, by rw [Fo.textTo_zero], (Fr.refl _ _).alloc _, b0⟩
  case round =>
    obtain ⟨j, hj, rfl, rfl, hfr, hb⟩ := hrel
    have c1 : wr.cell? ⟨w.heap.size, 1, none⟩ = some (.slice A k.len c) := (hb.cell 1).trans rfl
    have hbd := Fo.textTo_le k j
    by_cases hlt : j < k.len
    · obtain ⟨g, o, a', k', A', c', rfl, hg, hn, q0, q1, hsl⟩ := (h.fr hT hfr).nth hlt
      have hsz := Fo.nth_text hn
      have hsml := Fo.nth_cnt k j a' k' hn
      have hsucc := Fo.textTo_succ k j a' k' hn
      have hlg := block_lt q0
      have hshort := short_nth hsh hn
      have CALL : Hid (Calls Try.prog 41 #[.agg #[S a', .slice A' k'.len c']] wr fun e w' => e = .returned (S (treeText a' k')) ∧ Fr No wr w') :=
        HN.out a' k' j hn a' A' c' wr T N (by omega) hN2 hshort.1 hshort.2 (fun b hb => Nat.lt_of_lt_of_le (hT b hb) hfr.size) hsl
      have HK : Hid (∀ w1, Fr No wr w1 → w1.cell? ⟨w.heap.size, 1, none⟩ = some (.slice (some ⟨g, o, none⟩) k.len c) ∧ Blk w1 w.heap.size 68 #[S [], .slice (some ⟨g, o, none⟩) k.len c]) := fun w1 hf =>
        have hb1 := hb.fr hf (fun h => h)
        ⟨(hb1.cell 1).trans rfl, hb1⟩
      have e1 : (treeText a' k').length ≤ 1000001 := by omega
      have e2 : (k.textTo j).length ≤ 1000001 := by omega
      by_cases hj0 : j = 0
      · subst hj0
        have HS : Hid (40 :: k.textTo (0 + 1) = 40 :: k.textTo 0 ++ treeText a' k') := by show _ = _; rw [hsucc, Fo.textTo_zero]; rfl
        clear hsucc hbd hb
        simp only [Nat.zero_mul, Nat.add_zero] at q0 q1
        go_wp2_with fail
        refine CALL.out.mono ?_
        rintro e w1 ⟨rfl, hf⟩
        obtain ⟨c1', hb1⟩ := HK.out w1 hf
        go_wp2
        go_roundw
        case rel => exact ⟨0 + 1, by omega, by go_num, val_str (by rw [HS.out]; simp), hfr.trans hf, hb1⟩
        case measure => simp [intOf]; omega
      · have hpos : 0 < (j : Int) := by omega
        have HS : Hid (40 :: k.textTo (j + 1) = 40 :: k.textTo j ++ [32] ++ treeText a' k') := by show _ = _; rw [hsucc, if_neg hj0]; simp
        clear hsucc hbd hb hj0
        go_wp2_with fail
        refine CALL.out.mono ?_
        rintro e w1 ⟨rfl, hf⟩
        obtain ⟨c1', hb1⟩ := HK.out w1 hf
        go_wp2
        go_roundw
        case rel => exact ⟨j + 1, by omega, by go_num, val_str (by rw [HS.out]; simp), hfr.trans hf, hb1⟩
        case measure => simp [intOf]; omega
    · have hjl : j = k.len := by omega
      subst hjl
      have e2 : (k.textTo k.len).length ≤ 1000001 := by omega
      have HZ : Hid (k.textTo k.len = k.texts) := Fo.textTo_len k
      go_wp2
      go_ret
      exact ⟨ret_str (by rw [← HZ.out]; simp), hfr⟩

theorem spec_text (M : Nat) : ∀ k : Fo, SizeOf.sizeOf k < M → TextSaid k := by
  induction M with
  | zero => intro k h; omega
  | succ M ih =>
    intro k hM a A c w T N hs hN2 hk hsh hT h
    by_cases he : a = []
    · subst he
      simp only [treeText, if_true] at hs ⊢
      exact text_node k (fun a' k' j hn => ih k' (by have := Fo.nth_small k j a' k' hn; omega)) A c w T N hs hN2 hk hsh hT h
    · have hae : a.isEmpty = false := by cases a; exact absurd rfl he; rfl
      simp only [treeText, if_neg he]
      generalize k.len = n
      clear hs hk hsh h
      go_enter Try.func41, Try.ntmps41
      go_wp2
      go_ret
      exact ⟨rfl, (Fr.refl _ _).alloc _⟩
end Go.Proofs.Ytngbpcphkfmncaa
