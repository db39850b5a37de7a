/- The model's reading of terms; TermValid, TermSize, TermHead of the model. -/
import Derived.Test.YthbidlcfahdfhaaDoorS2is
import Derived.Test.YthbidlcfahdfhaaDoorSpec
import Derived.Test.YthbidlcfahdfhaaDoorTimpl
import Derived.StillTailTactics
import Derived.BigQuiet
import Derived.Deep.RegionHeld3
import Derived.Deep.RegionWith
namespace Go.Proofs.YthbidlcfahdfhaaDoor
open Go.RowKit Go.ChangeMaps

def TermT (w : World) (s : List UInt8) (e : Ending) (w' : World) : Prop :=
  Fr No w w' ∧ ((∃ a k A c, TmOk s a k ∧ e = .returned (.tuple #[.agg #[S a, .slice A k.len c], .bool true]) ∧ Sl w' (New w w') A k) ∨
    (∃ a A m c, (∀ a k, ¬ TmOk s a k) ∧ e = .returned (.tuple #[.agg #[S a, .slice A m c], .bool false])))

theorem TermT.no {w w' : World} {s a : List UInt8} {A : Option Addr} {m c : Nat} (hf : Fr No w w') (h : ∀ a k, ¬ TmOk s a k) :
    TermT w s (.returned (.tuple #[.agg #[S a, .slice A m c], .bool false])) w' := ⟨hf, .inr ⟨a, A, m, c, h, rfl⟩⟩

theorem TermT.yes {w w' : World} {s a : List UInt8} {k : Fo} {A : Option Addr} {c : Nat} (hf : Fr No w w') (h : TmOk s a k) (hs : Sl w' (New w w') A k) :
    TermT w s (.returned (.tuple #[.agg #[S a, .slice A k.len c], .bool true])) w' := ⟨hf, .inl ⟨a, k, A, c, h, rfl, hs⟩⟩

theorem parsed_notm {s a : List UInt8} {k : Fo} (h : Parsed s a k) (h1 : isTm a k = false ∨ 300 < treeSize a k) : ∀ a k, ¬ TmOk s a k := by
  intro a' k' ht
  have := ht.2.1
  rw [h.2] at this
  simp only [Option.some.injEq, Prod.mk.injEq, and_true] at this
  obtain ⟨rfl, rfl⟩ := this
  rcases h1 with h1 | h1
  · rw [ht.2.2.1] at h1; cases h1
  · have := ht.2.2.2; omega

set_option maxRecDepth 100000 in
set_option maxHeartbeats 1000000 in
theorem term_any (s : List UInt8) (w : World) (hs : s.length ≤ maxLen) :
    Calls Tryd.prog 30 #[S s] w fun e w' => TermT w s e w' := by
  have b0 := Blk.new w 36 #[S [], .slice none 0 0]
  have HS := Lib.hid hs
  clear hs
  go_enter Tryd.func30, Tryd.ntmps30
  go_wp2_with fail
  refine (parse_any s _ HS.out).mono ?_
  rintro e w1 ⟨hfr, hres⟩
  have b1 := b0.fr hfr (fun h => h)
  have r0 : w1.cell? ⟨w.heap.size, 0, none⟩ = some (S []) := (b1.cell 0).trans rfl
  have r1 : w1.cell? ⟨w.heap.size, 1, none⟩ = some (.slice none 0 0) := (b1.cell 1).trans rfl
  have fr0 := b1.frozen 0
  have fr1 := b1.frozen 1
  have l0 := b1.lt
  rcases hres with ⟨a, k, A, c, hp, rfl, hsl⟩ | ⟨a, A, m, c, hno, rfl⟩
  · obtain ⟨q1, q2, q3, q4, q5⟩ := hp.bounds
    have bb : Blk (w1.alloc (.cells #[S a, .slice A k.len c] 36)) w1.heap.size 36 #[S a, .slice A k.len c] := Blk.new _ _ _
    have b2 := b1.alloc (.cells #[S a, .slice A k.len c] 36)
    have hsl2 : Sl (w1.alloc (.cells #[S a, .slice A k.len c] 36)) (New (w.alloc (.cells #[S [], .slice none 0 0] 36)) w1) A k := hsl.fr (fun b hb => hb.2) ((Fr.refl _ _).alloc _)
    have hT : ∀ b, New (w.alloc (.cells #[S [], .slice none 0 0] 36)) w1 b → b < (w1.alloc (.cells #[S a, .slice A k.len c] 36)).heap.size := fun b hb => by have := hb.2; simp; omega
    have hfr2 : Fr No (w.alloc (.cells #[S [], .slice none 0 0] 36)) (w1.alloc (.cells #[S a, .slice A k.len c] 36)) := hfr.alloc _
    go_wp2_with fail
    have ne1 : w1.heap.size ≠ w.heap.size := by omega
    have ne2 : w.heap.size ≠ w1.heap.size := by omega
    clear r0 r1 fr0 fr1 l0 b0
    generalize hW : w1.alloc (.cells #[S a, .slice A k.len c] 36) = W at bb b2 hsl2 hT hfr2 ⊢
    have hWs : W.heap.size = w1.heap.size + 1 := by rw [← hW]; simp
    clear hW
    have CELLS : Hid (∀ w' : World, Fr No W w' → w'.cell? ⟨w1.heap.size, 0, none⟩ = some (S a) ∧ w'.cell? ⟨w1.heap.size, 1, none⟩ = some (.slice A k.len c) ∧ w'.cell? ⟨w.heap.size, 0, none⟩ = some (S []) ∧ w'.cell? ⟨w.heap.size, 1, none⟩ = some (.slice none 0 0) ∧
        w'.frozen? ⟨w.heap.size, 0, none⟩ = false ∧ w'.frozen? ⟨w.heap.size, 1, none⟩ = false ∧ w.heap.size < w'.heap.size ∧ w1.heap.size < w'.heap.size) := by
      intro w' hf
      have g1 := bb.fr hf (fun h => h)
      have g2 := b2.fr hf (fun h => h)
      exact ⟨(g1.cell 0).trans rfl, (g1.cell 1).trans rfl, (g2.cell 0).trans rfl, (g2.cell 1).trans rfl, g2.frozen 0, g2.frozen 1, g2.lt, g1.lt⟩
    have IS : Hid (∀ w' : World, Fr No W w' → Calls Tryd.prog 48 #[.agg #[S a, .slice A k.len c]] w' fun e w2 => e = .returned (.bool (isTm a k)) ∧ Fr No W w2) := fun w' hf =>
      (is2_any _ k (Nat.lt_succ_self _) a A c w' (New (w.alloc (.cells #[S [], .slice none 0 0] 36)) w1) q2 q3 (fun b hb => Nat.lt_of_lt_of_le (hT b hb) hf.size) (hsl2.fr hT hf)).mono fun e w2 h => ⟨h.1, hf.trans h.2⟩
    have SZ : Hid (∀ w' : World, Fr No W w' → Calls Tryd.prog 46 #[.agg #[S a, .slice A k.len c]] w' fun e w2 => e = .returned (.int .i64 (treeSize a k)) ∧ Fr No W w2) := fun w' hf =>
      (size_any _ k (Nat.lt_succ_self _) a A c w' (New (w.alloc (.cells #[S [], .slice none 0 0] 36)) w1) (by omega) q4 q5 (fun b hb => Nat.lt_of_lt_of_le (hT b hb) hf.size) (hsl2.fr hT hf)).mono fun e w2 h => ⟨h.1, hf.trans h.2⟩
    have hf0 : Fr No W W.drew := (Fr.refl _ _).drew
    obtain ⟨c0, c1, r0, r1, fr0, fr1, l0, l1⟩ := CELLS.out W (Fr.refl _ _)
    by_cases hty : isTm a k = true
    · by_cases h40 : treeSize a k ≤ 300
      · have HP : Hid (TmOk s a k) := ⟨hp.1, hp.2, hty, h40⟩
        have HT := Lib.hid hty
        have h40' : (treeSize a k : Int) ≤ 300 := by omega
        clear hty h40
        go_region_held3 (fun w' => w'.cell? ⟨w1.heap.size, 0, none⟩ = some (S a) ∧ w'.cell? ⟨w1.heap.size, 1, none⟩ = some (.slice A k.len c)) (go_keep)
          (first | (go_at_call 48; refine (IS.out _ hf0).mono ?_; rintro e w2 ⟨rfl, hf2⟩; rw [HT.out]; obtain ⟨d0, d1, d2, d3, d4, d5, d6, d7⟩ := CELLS.out w2 hf2) | (go_at_call 46; refine (SZ.out _ hf2).mono ?_; rintro e w3 ⟨rfl, hf3⟩; obtain ⟨e0, e1, e2, e3, e4, e5, e6, e7⟩ := CELLS.out w3 hf3))
        have hend : ∀ v0 v1, Sl ((w3.setCell ⟨w.heap.size, 0, none⟩ v0).setCell ⟨w.heap.size, 1, none⟩ v1) (New w ((w3.setCell ⟨w.heap.size, 0, none⟩ v0).setCell ⟨w.heap.size, 1, none⟩ v1)) A k := by
          intro v0 v1
          refine (hsl2.fr hT hf3).mono (fun b hb => ⟨by have := hb.1; simp at this; omega, by have := hb.2; simp [World.setCell]; omega⟩) (fun b hb => ?_)
          have h1 := hb.1
          simp at h1
          rw [Below.heap_setCell _ _ _ _ (by show b ≠ w.heap.size; omega), Below.heap_setCell _ _ _ _ (by show b ≠ w.heap.size; omega)]
        have HE := Lib.hid hend
        clear hend
        all_goals go_wp2_with fail
        refine bodyPost_ret (v := .tuple #[.agg #[S a, .slice A k.len c], .bool true]) (by simp [results, Tryd.results30, go_sem, cell_set_same e2, cell_set_next e3]) rfl ?_
        exact TermT.yes (res_done (hfr2.trans hf3)) HP.out (HE.out _ _)
      · have hn := parsed_notm hp (.inr (by omega))
        have HT := Lib.hid hty
        have h40' : 300 < (treeSize a k : Int) := by omega
        have h40'' : ¬ (treeSize a k : Int) ≤ 300 := by omega
        have H40 := Lib.hid h40
        have HN := Lib.hid hn
        clear hty h40 hn
        have HD : Hid (decide ((treeSize a k : Int) ≤ 300) = false) := decide_eq_false h40''
        go_region_held3 (fun w' => w'.cell? ⟨w1.heap.size, 0, none⟩ = some (S a) ∧ w'.cell? ⟨w1.heap.size, 1, none⟩ = some (.slice A k.len c)) (go_keep)
          (first | (go_at_call 48; refine (IS.out _ hf0).mono ?_; rintro e w2 ⟨rfl, hf2⟩; rw [HT.out]; obtain ⟨d0, d1, d2, d3, d4, d5, d6, d7⟩ := CELLS.out w2 hf2) | (go_at_call 46; refine (SZ.out _ hf2).mono ?_; rintro e w3 ⟨rfl, hf3⟩; obtain ⟨e0, e1, e2, e3, e4, e5, e6, e7⟩ := CELLS.out w3 hf3))
        all_goals go_wp2_with fail
        refine bodyPost_ret (v := .tuple #[.agg #[S a, .slice A k.len c], .bool false]) (by simp [results, Tryd.results30, go_sem, cell_set_same e2, cell_set_next e3, HD.out]; try exact Nat.lt_of_not_le H40.out) rfl ?_
        exact TermT.no (res_done (hfr2.trans hf3)) HN.out
    · have hty' : isTm a k = false := Bool.eq_false_iff.2 hty
      have hn := parsed_notm hp (.inl hty')
      have HT := Lib.hid hty'
      have HN := Lib.hid hn
      clear hty hty' hn
      go_region_with (first | (go_at_call 48; refine (IS.out _ hf0).mono ?_; rintro e w2 ⟨rfl, hf2⟩; rw [HT.out]; obtain ⟨d0, d1, d2, d3, d4, d5, d6, d7⟩ := CELLS.out w2 hf2))
      all_goals go_wp2_with fail
      all_goals exact bodyPost_ret (v := .tuple #[.agg #[S a, .slice A k.len c], .bool false]) (by simp [results, Tryd.results30, go_sem, cell_set_same d2, cell_set_next d3]) rfl (TermT.no (res_done (hfr2.trans hf2)) HN.out)
  · have hn : ∀ a k, ¬ TmOk s a k := fun a k ht => hno _ _ ⟨ht.1, ht.2.1⟩
    have HN := Lib.hid hn
    clear hn hno
    go_wp2_with fail
    go_region
    all_goals go_wp2_with fail
    all_goals exact bodyPost_ret (v := .tuple #[.agg #[S a, .slice A m c], .bool false]) (by simp [results, Tryd.results30, go_sem, l0, cell_set_same r0, cell_set_next r1]) rfl (TermT.no (((res_done hfr).alloc _).drew) HN.out)

set_option maxHeartbeats 1000000 in
theorem specTmValid (w : World) (s : List UInt8) (hs : s.length ≤ maxLen) :
    Calls Tryd.prog 11 #[S s] w fun e w' => AnsB (∃ a k, TmOk s a k) w e w' := by
  go_enter Tryd.func11, Tryd.ntmps11
  go_wp2_with fail
  refine (term_any s _ hs).mono ?_
  rintro e w1 ⟨hf, ⟨a, k, A, c, hi, rfl, _⟩ | ⟨a, A, m, c, hno, rfl⟩⟩
  · go_wp2
    go_ret
    exact ⟨true, rfl, ⟨fun _ => ⟨a, k, hi⟩, fun _ => rfl⟩, hf.alloc _⟩
  · go_wp2
    go_ret
    exact ⟨false, rfl, ⟨fun h => (by cases h), fun ⟨a, k, h⟩ => (hno a k h).elim⟩, hf.alloc _⟩

set_option maxHeartbeats 1000000 in
theorem specTmSize (w : World) (s : List UInt8) (hs : s.length ≤ maxLen) :
    Calls Tryd.prog 28 #[S s] w fun e w' => AnsN (fun a k => treeSize a k) s w e w' := by
  go_enter Tryd.func28, Tryd.ntmps28
  go_wp2_with fail
  refine (term_any s _ hs).mono ?_
  rintro e w1 ⟨hf, ⟨a, k, A, c, hi, rfl, hsl⟩ | ⟨a, A, m, c, hno, rfl⟩⟩
  · have hb := Parsed.bounds ⟨hi.1, hi.2.1⟩
    have hsl2 : ∀ o : Obj, Sl (w1.alloc o) (New w w1) A k := fun o => hsl.fr (fun b hb => hb.2) ((Fr.refl _ _).alloc o)
    have HS := Lib.hid hsl2
    have HI := Lib.hid hi
    clear hsl2 hi
    go_wp2_with fail
    refine (size_any _ k (Nat.lt_succ_self _) a A c _ (New w w1) (by omega) hb.2.2.2.1 hb.2.2.2.2 (fun b hb => by have := hb.2; simp; omega) (HS.out _)).mono ?_
    rintro e w2 ⟨rfl, hf2⟩
    go_wp2
    go_ret
    exact ⟨_, rfl, .inl ⟨a, k, HI.out, rfl⟩, (hf.alloc _).trans hf2⟩
  · go_wp2
    go_ret
    exact ⟨_, rfl, .inr ⟨hno, rfl⟩, hf.alloc _⟩

theorem truth_of {a : List UInt8} {k : Fo} (ha : a ≠ []) (h : isTm a k = true) : ndH a k = if isName a then hName else hTruth := by
  have h1 : isAtomTm a = true := by simpa [isTm, ha] using h
  unfold ndH
  rw [if_neg ha]
  by_cases ht : a = tTrue
  · subst ht; rfl
  by_cases hf : a = tFalse
  · subst hf; rfl
  have : isName a = true := by simpa [isAtomTm, ht, hf] using h1
  rw [this, if_neg (by rintro (h | h); exact ht h; exact hf h)]
  rfl

set_option maxHeartbeats 1000000 in
theorem specTmHead (w : World) (s : List UInt8) (hs : s.length ≤ maxLen) :
    Calls Tryd.prog 13 #[S s] w fun e w' => AnsH s w e w' := by
  go_enter Tryd.func13, Tryd.ntmps13
  go_wp2_with fail
  refine (term_any s _ hs).mono ?_
  rintro e w1 ⟨hf, ⟨a, k, A, c, hi, rfl, hsl⟩ | ⟨a, A, m, c, hno, rfl⟩⟩
  · have hb := Parsed.bounds ⟨hi.1, hi.2.1⟩
    have HI := Lib.hid hi
    have htm := hi.2.2.1
    clear hi
    by_cases ha : a = []
    · subst ha
      cases k with
      | nil => simp [isTm, isTms] at htm
      | cons h k0 r =>
        obtain ⟨g, o, a', k', A', c', rfl, hg, hn, q0, q1, hsl'⟩ := hsl.nth (j := 0) (by simp [Fo.len])
        simp only [Fo.nth, Option.some.injEq, Prod.mk.injEq] at hn
        obtain ⟨rfl, rfl⟩ := hn
        have n1 : 0 < (Fo.cons h k0 r).len := by simp [Fo.len]
        have hlg := block_lt q0
        rw [show o + 0 * 2 = o by omega] at q0
        have HH : Hid (h = ndH [] (.cons h k0 r)) := rfl
        clear hsl hb htm q1 hsl'
        generalize (Fo.cons h k0 r).len = n at n1 ⊢
        go_wp2_with fail
        go_ret
        exact ⟨_, rfl, .inl ⟨[], _, HI.out, HH.out⟩, hf.alloc _⟩
  
    · have hae : a.isEmpty = false := by cases a; exact absurd rfl ha; rfl
      have HH := Lib.hid (truth_of ha htm)
      have NM := Lib.hid (fun w => name2_any a w hb.2.1)
      clear hb htm
      go_wp2_with fail
      refine (NM.out _).mono ?_
      rintro e w2 ⟨rfl, rfl⟩
      have HH2 := HH.out
      rcases hq : isName a with _ | _
      · rw [hq] at HH2
        have H3 := Lib.hid HH2
        clear HH2
        go_wp2_with fail
        go_ret
        exact ⟨_, rfl, .inl ⟨a, k, HI.out, H3.out.symm⟩, hf.alloc _⟩
      · rw [hq] at HH2
        have H3 := Lib.hid HH2
        clear HH2
        go_wp2_with fail
        go_ret
        exact ⟨_, rfl, .inl ⟨a, k, HI.out, H3.out.symm⟩, hf.alloc _⟩
  · go_wp2
    go_ret
    exact ⟨_, rfl, .inr ⟨hno, rfl⟩, hf.alloc _⟩
end Go.Proofs.YthbidlcfahdfhaaDoor
