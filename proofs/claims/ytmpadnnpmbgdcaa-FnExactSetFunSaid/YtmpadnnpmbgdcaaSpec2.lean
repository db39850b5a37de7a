import Derived.Test.YtmpadnnpmbgdcaaShead
import Derived.Test.YtmpadnnpmbgdcaaStype
import Derived.StillTailTactics
import Derived.BigQuiet
import Derived.Deep.RegionHeld3
import Derived.Deep.RegionWith
namespace Go.Proofs.Ytmpadnnpmbgdcaa
open Go.RowKit Go.ChangeMaps

def TypeT (w : World) (s : List UInt8) (e : Ending) (w' : World) : Prop :=
  Fr No w w' ∧ ((∃ t A c, Ty.Is s t ∧ e = .returned (.tuple #[.agg #[S t.atom, .slice A t.kids.len c], .bool true]) ∧ Sl w' (New w w') A t.kids) ∨
    (∃ a A m c, (∀ t, ¬ Ty.Is s t) ∧ e = .returned (.tuple #[.agg #[S a, .slice A m c], .bool false])))

theorem TypeT.no {w w' : World} {s a : List UInt8} {A : Option Addr} {m c : Nat} (hf : Fr No w w') (h : ∀ t, ¬ Ty.Is s t) :
    TypeT w s (.returned (.tuple #[.agg #[S a, .slice A m c], .bool false])) w' := ⟨hf, .inr ⟨a, A, m, c, h, rfl⟩⟩

theorem TypeT.yes {w w' : World} {s : List UInt8} {t : Ty} {A : Option Addr} {c : Nat} (hf : Fr No w w') (h : Ty.Is s t) (hs : Sl w' (New w w') A t.kids) :
    TypeT w s (.returned (.tuple #[.agg #[S t.atom, .slice A t.kids.len c], .bool true])) w' := ⟨hf, .inl ⟨t, A, c, h, rfl, hs⟩⟩

theorem parsed_is {s : List UInt8} {t : Ty} (h : Ty.Is s t) : Parsed s t.atom t.kids := ⟨by have := Ty.length_text t; rw [h.1]; have := h.2.2; omega, read_ty h⟩

theorem parsed_of {s a : List UInt8} {k : Fo} (h : Parsed s a k) (h1 : isTy a k = true) (h2 : treeSize a k ≤ 40) : ∃ t, Ty.Is s t ∧ a = t.atom ∧ k = t.kids := by
  obtain ⟨t, ht⟩ := (read_is s).1 ⟨a, k, h.2, h1, h2⟩
  have := read_ty ht
  rw [h.2] at this
  simp only [Option.some.injEq, Prod.mk.injEq, and_true] at this
  exact ⟨t, ht, this.1, this.2⟩

theorem parsed_not {s a : List UInt8} {k : Fo} (h : Parsed s a k) (h1 : isTy a k = false ∨ 40 < treeSize a k) : ∀ t, ¬ Ty.Is s t := by
  intro t ht
  have := read_ty ht
  rw [h.2] at this
  simp only [Option.some.injEq, Prod.mk.injEq, and_true] at this
  obtain ⟨rfl, rfl⟩ := this
  have := is_ty t ht.2.1
  rcases h1 with h1 | h1
  · rw [this.1] at h1; cases h1
  · have := ht.2.2; omega

set_option maxRecDepth 100000 in
set_option maxHeartbeats 1000000 in
theorem type_any (s : List UInt8) (w : World) (hs : s.length ≤ maxLen) :
    Calls Try.prog 32 #[S s] w fun e w' => TypeT w s e w' := by
  have b0 := Blk.new w 47 #[S [], .slice none 0 0]
  have HS := Lib.hid hs
  clear hs
  go_enter Try.func32, Try.ntmps32
  go_wp2_with fail
  refine (parse_any s _ HS.out).mono ?_
  rintro e w1 ⟨hfr, hres⟩
  have b1 := b0.fr hfr (fun h => h)
  have r0 : w1.cell? ⟨w.heap.size, 0, none⟩ = some (S []) := (b1.cell 0).trans rfl
  have r1 : w1.cell? ⟨w.heap.size, 1, none⟩ = some (.slice none 0 0) := (b1.cell 1).trans rfl
  have fr0 := b1.frozen 0
  have fr1 := b1.frozen 1
  have l0 := b1.lt
  rcases hres with ⟨a, k, A, c, hp, rfl, hsl⟩ | ⟨a, A, m, c, hno, rfl⟩
  · obtain ⟨q1, q2, q3, q4, q5⟩ := hp.bounds
    have bb : Blk (w1.alloc (.cells #[S a, .slice A k.len c] 47)) w1.heap.size 47 #[S a, .slice A k.len c] := Blk.new _ _ _
    have b2 := b1.alloc (.cells #[S a, .slice A k.len c] 47)
    have hsl2 : Sl (w1.alloc (.cells #[S a, .slice A k.len c] 47)) (New (w.alloc (.cells #[S [], .slice none 0 0] 47)) w1) A k := hsl.fr (fun b hb => hb.2) ((Fr.refl _ _).alloc _)
    have hT : ∀ b, New (w.alloc (.cells #[S [], .slice none 0 0] 47)) w1 b → b < (w1.alloc (.cells #[S a, .slice A k.len c] 47)).heap.size := fun b hb => by have := hb.2; simp; omega
    have hfr2 : Fr No (w.alloc (.cells #[S [], .slice none 0 0] 47)) (w1.alloc (.cells #[S a, .slice A k.len c] 47)) := hfr.alloc _
    go_wp2_with fail
    have ne1 : w1.heap.size ≠ w.heap.size := by omega
    have ne2 : w.heap.size ≠ w1.heap.size := by omega
    clear r0 r1 fr0 fr1 l0 b0
    generalize hW : w1.alloc (.cells #[S a, .slice A k.len c] 47) = W at bb b2 hsl2 hT hfr2 ⊢
    have hWs : W.heap.size = w1.heap.size + 1 := by rw [← hW]; simp
    clear hW
    have CELLS : Hid (∀ w' : World, Fr No W w' → w'.cell? ⟨w1.heap.size, 0, none⟩ = some (S a) ∧ w'.cell? ⟨w1.heap.size, 1, none⟩ = some (.slice A k.len c) ∧ w'.cell? ⟨w.heap.size, 0, none⟩ = some (S []) ∧ w'.cell? ⟨w.heap.size, 1, none⟩ = some (.slice none 0 0) ∧
        w'.frozen? ⟨w.heap.size, 0, none⟩ = false ∧ w'.frozen? ⟨w.heap.size, 1, none⟩ = false ∧ w.heap.size < w'.heap.size ∧ w1.heap.size < w'.heap.size) := by
      intro w' hf
      have g1 := bb.fr hf (fun h => h)
      have g2 := b2.fr hf (fun h => h)
      exact ⟨(g1.cell 0).trans rfl, (g1.cell 1).trans rfl, (g2.cell 0).trans rfl, (g2.cell 1).trans rfl, g2.frozen 0, g2.frozen 1, g2.lt, g1.lt⟩
    have IS : Hid (∀ w' : World, Fr No W w' → Calls Try.prog 60 #[.agg #[S a, .slice A k.len c]] w' fun e w2 => e = .returned (.bool (isTy a k)) ∧ Fr No W w2) := fun w' hf =>
      (is_any _ k (Nat.lt_succ_self _) a A c w' (New (w.alloc (.cells #[S [], .slice none 0 0] 47)) w1) q2 q3 (fun b hb => Nat.lt_of_lt_of_le (hT b hb) hf.size) (hsl2.fr hT hf)).mono fun e w2 h => ⟨h.1, hf.trans h.2⟩
    have SZ : Hid (∀ w' : World, Fr No W w' → Calls Try.prog 61 #[.agg #[S a, .slice A k.len c]] w' fun e w2 => e = .returned (.int .i64 (treeSize a k)) ∧ Fr No W w2) := fun w' hf =>
      (size_any _ k (Nat.lt_succ_self _) a A c w' (New (w.alloc (.cells #[S [], .slice none 0 0] 47)) w1) (by omega) q4 q5 (fun b hb => Nat.lt_of_lt_of_le (hT b hb) hf.size) (hsl2.fr hT hf)).mono fun e w2 h => ⟨h.1, hf.trans h.2⟩
    have hf0 : Fr No W W.drew := (Fr.refl _ _).drew
    obtain ⟨c0, c1, r0, r1, fr0, fr1, l0, l1⟩ := CELLS.out W (Fr.refl _ _)
    by_cases hty : isTy a k = true
    · by_cases h40 : treeSize a k ≤ 40
      · obtain ⟨t, ht, rfl, rfl⟩ := parsed_of hp hty h40
        have HT := Lib.hid hty
        have h40' : (treeSize t.atom t.kids : Int) ≤ 40 := by omega
        have HP := Lib.hid ht
        clear hty h40 ht
        go_region_held3 (fun w' => w'.cell? ⟨w1.heap.size, 0, none⟩ = some (S t.atom) ∧ w'.cell? ⟨w1.heap.size, 1, none⟩ = some (.slice A t.kids.len c)) (go_keep)
          (first | (go_at_call 60; refine (IS.out _ hf0).mono ?_; rintro e w2 ⟨rfl, hf2⟩; rw [HT.out]; obtain ⟨d0, d1, d2, d3, d4, d5, d6, d7⟩ := CELLS.out w2 hf2) | (go_at_call 61; refine (SZ.out _ hf2).mono ?_; rintro e w3 ⟨rfl, hf3⟩; obtain ⟨e0, e1, e2, e3, e4, e5, e6, e7⟩ := CELLS.out w3 hf3))
        have hend : ∀ v0 v1, Sl ((w3.setCell ⟨w.heap.size, 0, none⟩ v0).setCell ⟨w.heap.size, 1, none⟩ v1) (New w ((w3.setCell ⟨w.heap.size, 0, none⟩ v0).setCell ⟨w.heap.size, 1, none⟩ v1)) A t.kids := by
          intro v0 v1
          refine (hsl2.fr hT hf3).mono (fun b hb => ⟨by have := hb.1; simp at this; omega, by have := hb.2; simp [World.setCell]; omega⟩) (fun b hb => ?_)
          have h1 := hb.1
          simp at h1
          rw [Below.heap_setCell _ _ _ _ (by show b ≠ w.heap.size; omega), Below.heap_setCell _ _ _ _ (by show b ≠ w.heap.size; omega)]
        have HE := Lib.hid hend
        clear hend
        all_goals go_wp2_with fail
        refine bodyPost_ret (v := .tuple #[.agg #[S t.atom, .slice A t.kids.len c], .bool true]) (by simp [results, Try.results32, go_sem, cell_set_same e2, cell_set_next e3]) rfl ?_
        exact TypeT.yes (res_done (hfr2.trans hf3)) HP.out (HE.out _ _)
      · have hn := parsed_not hp (.inr (by omega))
        have HT := Lib.hid hty
        have h40' : 40 < (treeSize a k : Int) := by omega
        have h40'' : ¬ (treeSize a k : Int) ≤ 40 := by omega
        have H40 := Lib.hid h40
        have HN := Lib.hid hn
        clear hty h40 hn
        have HD : Hid (decide ((treeSize a k : Int) ≤ 40) = false) := decide_eq_false h40''
        go_region_held3 (fun w' => w'.cell? ⟨w1.heap.size, 0, none⟩ = some (S a) ∧ w'.cell? ⟨w1.heap.size, 1, none⟩ = some (.slice A k.len c)) (go_keep)
          (first | (go_at_call 60; refine (IS.out _ hf0).mono ?_; rintro e w2 ⟨rfl, hf2⟩; rw [HT.out]; obtain ⟨d0, d1, d2, d3, d4, d5, d6, d7⟩ := CELLS.out w2 hf2) | (go_at_call 61; refine (SZ.out _ hf2).mono ?_; rintro e w3 ⟨rfl, hf3⟩; obtain ⟨e0, e1, e2, e3, e4, e5, e6, e7⟩ := CELLS.out w3 hf3))
        all_goals go_wp2_with fail
        refine bodyPost_ret (v := .tuple #[.agg #[S a, .slice A k.len c], .bool false]) (by simp [results, Try.results32, go_sem, cell_set_same e2, cell_set_next e3, HD.out]; try exact Nat.lt_of_not_le H40.out) rfl ?_
        exact TypeT.no (res_done (hfr2.trans hf3)) HN.out
    · have hty' : isTy a k = false := Bool.eq_false_iff.2 hty
      have hn := parsed_not hp (.inl hty')
      have HT := Lib.hid hty'
      have HN := Lib.hid hn
      clear hty hty' hn
      go_region_with (first | (go_at_call 60; refine (IS.out _ hf0).mono ?_; rintro e w2 ⟨rfl, hf2⟩; rw [HT.out]; obtain ⟨d0, d1, d2, d3, d4, d5, d6, d7⟩ := CELLS.out w2 hf2))
      all_goals go_wp2_with fail
      all_goals exact bodyPost_ret (v := .tuple #[.agg #[S a, .slice A k.len c], .bool false]) (by simp [results, Try.results32, go_sem, cell_set_same d2, cell_set_next d3]) rfl (TypeT.no (res_done (hfr2.trans hf2)) HN.out)
  · have hn : ∀ t, ¬ Ty.Is s t := fun t ht => hno _ _ (parsed_is ht)
    have HN := Lib.hid hn
    clear hn hno
    go_wp2_with fail
    go_region
    all_goals go_wp2_with fail
    all_goals exact bodyPost_ret (v := .tuple #[.agg #[S a, .slice A m c], .bool false]) (by simp [results, Try.results32, go_sem, l0, cell_set_same r0, cell_set_next r1]) rfl (TypeT.no (((res_done hfr).alloc _).drew) HN.out)
end Go.Proofs.Ytmpadnnpmbgdcaa
