import Derived.Test.YtjkkjdmfhdoojaaText
import Derived.Test.YtjkkjdmfhdoojaaStext
import Derived.Deep.RegionHeld3
namespace Go.Proofs.Ytjkkjdmfhdoojaa
open Go.RowKit Go.ChangeMaps

def AnsParts (s : List UInt8) (w : World) (e : Ending) (w' : World) : Prop :=
  ∃ a b c ok, e = .returned (.tuple #[S a, S b, S c, .bool ok]) ∧ ((∃ f l r, Ty.Is s (.n f l r) ∧ a = l.text ∧ b = r.text ∧ c = [Ty.sign f] ∧ ok = true) ∨ ((∀ f l r, ¬ Ty.Is s (.n f l r)) ∧ a = [] ∧ b = [] ∧ c = [] ∧ ok = false)) ∧ Fr No w w'

theorem AnsParts.no {s : List UInt8} {w w' : World} (h : ∀ f l r, ¬ Ty.Is s (.n f l r)) (hf : Fr No w w') : AnsParts s w (.returned (.tuple #[S [], S [], S [], .bool false])) w' :=
  ⟨[], [], [], false, rfl, .inr ⟨h, rfl, rfl, rfl, rfl⟩, hf⟩
theorem AnsParts.yes {s : List UInt8} {w w' : World} {f : Bool} {l r : Ty} (h : Ty.Is s (.n f l r)) (hf : Fr No w w') : AnsParts s w (.returned (.tuple #[S l.text, S r.text, S [Ty.sign f], .bool true])) w' :=
  ⟨_, _, _, true, rfl, .inl ⟨f, l, r, h, rfl, rfl, rfl, rfl⟩, hf⟩

set_option maxRecDepth 100000 in
set_option maxHeartbeats 1000000 in
theorem implParts (w : World) (s : List UInt8) (hs : s.length ≤ maxLen) :
    Calls Try.prog 15 #[S s] w fun e w' => AnsParts s w e w' := by
  go_enter Try.func15, Try.ntmps15
  go_wp2_with fail
  refine (newPool_any _).mono ?_
  rintro e w1 ⟨rfl, rfl⟩
  have hP := pool_start w
  have hf0 : Fr No w ((w.alloc (.map #[] 0)).alloc (.cells #[.map (some w.heap.size)] 86)) := ((Fr.refl _ _).alloc _).alloc _
  generalize (w.alloc (.map #[] 0)).alloc (.cells #[.map (some w.heap.size)] 86) = w1 at hP hf0 ⊢
  go_wp2_with fail
  refine (read_any w1 _ _ [] [] s 0 hP (by omega) hs).mono ?_
  rintro e w2 ⟨ps, D, hP2, hg, hf, hor⟩
  have hfr : Fr No w w2 := hf0.then_ hf (fun i hi e => by unfold One at e; omega)
  rcases hor with ⟨t, p, hi, hh, he⟩ | ⟨hno, he⟩
  · obtain rfl := he
    rw [Ty.shift_zero] at hh
    cases t with
    | v j =>
      obtain ⟨x, y, k, hb, rfl, rfl⟩ := hh.blk hP2
      have HB := Lib.hid hb
      have HN : Hid (∀ f l r, ¬ Ty.Is s (.n f l r)) := fun f l r h => by have := hi.unique h; cases this
      clear hb
      go_wp2_with fail
      refine (compound_no _ _ _ _ _ _ _ HB.out).mono ?_
      rintro e w' ⟨rfl, rfl⟩
      go_wp2_with fail
      refine bodyPost_ret (v := .tuple #[S [], S [], S [], .bool false]) (by simp [results, Try.results15, go_sem]) rfl ?_
      exact AnsParts.no HN.out hfr
    | o =>
      obtain ⟨x, y, k, hb, rfl, rfl⟩ := hh.blk hP2
      have HB := Lib.hid hb
      have HN : Hid (∀ f l r, ¬ Ty.Is s (.n f l r)) := fun f l r h => by have := hi.unique h; cases this
      clear hb
      go_wp2_with fail
      refine (compound_no _ _ _ _ _ _ _ HB.out).mono ?_
      rintro e w' ⟨rfl, rfl⟩
      go_wp2_with fail
      refine bodyPost_ret (v := .tuple #[S [], S [], S [], .bool false]) (by simp [results, Try.results15, go_sem]) rfl ?_
      exact AnsParts.no HN.out hfr
    | n f l r =>
      obtain ⟨pl, pr, k, hb, hl, hr⟩ := hh.kids hP2
      have c0 : w2.cell? ⟨p, 0, none⟩ = some (S [Ty.sign f]) := (hb.cell 0).trans rfl
      have c2 : w2.cell? ⟨p, 2, none⟩ = some (Ptr pl) := (hb.cell 2).trans rfl
      have c3 : w2.cell? ⟨p, 3, none⟩ = some (Ptr pr) := (hb.cell 3).trans rfl
      have HB := Lib.hid hb
      have hsz := hi.2.2
      simp only [Ty.size] at hsz
      have IL : Hid (∀ n, Calls Try.prog 51 #[Ptr pl] (w2.drewN n) fun e w' => e = .returned (S l.text) ∧ ∃ m, w' = w2.drewN m) := fun n => Calls.quiet_of (text_any _ _ ps D l hi.2.1.1 (by omega) _ pl (hP2.drewN n) hl)
      have IR : Hid (∀ n, Calls Try.prog 51 #[Ptr pr] (w2.drewN n) fun e w' => e = .returned (S r.text) ∧ ∃ m, w' = w2.drewN m) := fun n => Calls.quiet_of (text_any _ _ ps D r hi.2.1.2 (by omega) _ pr (hP2.drewN n) hr)
      clear hb
      go_wp2_with fail
      refine (compound_yes _ _ _ _ _ _ _ _ HB.out).mono ?_
      rintro e w' ⟨rfl, rfl⟩
      go_wp2_with fail
      go_quiet ((first | (go_at_call 51; with_reducible exact IL.out _) | (go_at_call 51; with_reducible exact IR.out _)))
      go_wp2_with fail
      refine bodyPost_ret (v := .tuple #[S l.text, S r.text, S [Ty.sign f], .bool true]) (by simp [results, Try.results15, go_sem]) rfl ?_
      exact AnsParts.yes hi (hfr.drewN _)
  · obtain rfl := he
    have HN : Hid (∀ f l r, ¬ Ty.Is s (.n f l r)) := fun f l r h => hno _ h
    clear hno
    go_wp2_with fail
    refine bodyPost_ret (v := .tuple #[S [], S [], S [], .bool false]) (by simp [results, Try.results15, go_sem]) rfl ?_
    exact AnsParts.no HN.out hfr

theorem kids_cnt (t : Ty) : t.kids.cnt ≤ 3 * t.size := by
  induction t with
  | v j => simp [Ty.kids, Fo.cnt]
  | o => simp [Ty.kids, Fo.cnt]
  | n f l r hl hr => simp only [Ty.kids_n, Fo.cnt, Ty.size]; omega

/-- a part's text in the model -/
theorem spec_part (t : Ty) (hl : t.lets) (hsz : t.size ≤ 40) (A : Option Addr) (c : Nat) (w : World) (T : Nat → Prop) (hT : ∀ b, T b → b < w.heap.size) (h : Sl w T A t.kids) :
    Calls Try.prog 56 #[.agg #[S t.atom, .slice A t.kids.len c]] w fun e w' => e = .returned (S t.text) ∧ Fr No w w' := by
  have hp := (parsed_is (s := t.text) ⟨rfl, hl, hsz⟩).bounds
  have htt := text_tree t hl
  have hlen := t.length_text
  have := spec_text _ t.kids (Nat.lt_succ_self _) t.atom A c w T ((treeText t.atom t.kids).length + t.kids.cnt) (Nat.le_refl _) (by rw [htt]; have := kids_cnt t; omega) hp.2.2.2.1 hp.2.2.2.2 hT h
  rw [htt] at this
  exact this

set_option maxRecDepth 100000 in
set_option maxHeartbeats 1000000 in
theorem specParts (w : World) (s : List UInt8) (hs : s.length ≤ maxLen) :
    Calls Try.prog 24 #[S s] w fun e w' => AnsParts s w e w' := by
  go_enter Try.func24, Try.ntmps24
  go_wp2_with fail
  refine (type_any s _ hs).mono ?_
  rintro e w1 ⟨hf, ⟨t, A, c, hi, rfl, hsl⟩ | ⟨a, A, m, c, hno, rfl⟩⟩
  · cases t with
    | v j =>
      have HN : Hid (∀ f l r, ¬ Ty.Is s (.n f l r)) := fun f l r h => by have := hi.unique h; cases this
      simp only [Ty.atom, Ty.kids, Fo.len]
      generalize Ty.letter j = x
      clear hsl hi
      go_wp2_with fail
      refine bodyPost_ret (v := .tuple #[S [], S [], S [], .bool false]) (by simp [results, Try.results24, go_sem]) rfl ?_
      exact AnsParts.no HN.out (hf.alloc _)
    | o =>
      have HN : Hid (∀ f l r, ¬ Ty.Is s (.n f l r)) := fun f l r h => by have := hi.unique h; cases this
      simp only [Ty.atom, Ty.kids, Fo.len]
      clear hsl hi
      go_wp2_with fail
      refine bodyPost_ret (v := .tuple #[S [], S [], S [], .bool false]) (by simp [results, Try.results24, go_sem]) rfl ?_
      exact AnsParts.no HN.out (hf.alloc _)
    | n f l r =>
      have hsz := hi.2.2
      simp only [Ty.size] at hsz
      rw [Ty.kids_n] at hsl
      obtain ⟨g, o, A0, c0, A1, c1, A2, c2, rfl, hg, q0, q1, q2, q3, q4, q5, s0, s1, s2, hl⟩ := hsl.three
      have hkl : (Ty.n f l r).kids.len = 3 := rfl
      rw [hkl, Ty.atom_n]
      have b0 := Blk.new w1 54 #[S [], .slice (some ⟨g, o, none⟩) 3 c]
      have hT : ∀ b, New w w1 b → b < w1.heap.size := fun b hb => hb.2
      have CELLS : Hid (∀ w' : World, Fr No (w1.alloc (.cells #[S [], .slice (some ⟨g, o, none⟩) 3 c] 54)) w' → w'.cell? ⟨w1.heap.size, 1, none⟩ = some (.slice (some ⟨g, o, none⟩) 3 c) ∧ w'.cell? ⟨g, o, none⟩ = some (S [Ty.sign f]) ∧ w'.cell? ⟨g, o + 2, none⟩ = some (S l.atom) ∧
          w'.cell? ⟨g, o + 3, none⟩ = some (.slice A1 l.kids.len c1) ∧ w'.cell? ⟨g, o + 4, none⟩ = some (S r.atom) ∧ w'.cell? ⟨g, o + 5, none⟩ = some (.slice A2 r.kids.len c2) ∧ g < w'.heap.size ∧ w1.heap.size < w'.heap.size) := by
        intro w' hf'
        have hfa : Fr No w1 w' := ((Fr.refl No w1).alloc _).trans hf'
        have b1 := b0.fr hf' (fun h => h)
        exact ⟨(b1.cell 1).trans rfl, (hfa.cell (p := ⟨g, o, none⟩) hl (fun h => h)).trans q0, (hfa.cell (p := ⟨g, o + 2, none⟩) hl (fun h => h)).trans q2, (hfa.cell (p := ⟨g, o + 3, none⟩) hl (fun h => h)).trans q3, (hfa.cell (p := ⟨g, o + 4, none⟩) hl (fun h => h)).trans q4,
          (hfa.cell (p := ⟨g, o + 5, none⟩) hl (fun h => h)).trans q5, Nat.lt_of_lt_of_le hl hfa.size, b1.lt⟩
      have TL : Hid (∀ w', Fr No (w1.alloc (.cells #[S [], .slice (some ⟨g, o, none⟩) 3 c] 54)) w' → Calls Try.prog 56 #[.agg #[S l.atom, .slice A1 l.kids.len c1]] w' fun e w2 => e = .returned (S l.text) ∧ Fr No (w1.alloc (.cells #[S [], .slice (some ⟨g, o, none⟩) 3 c] 54)) w2) := fun w' hf' =>
        have hfa : Fr No w1 w' := ((Fr.refl No w1).alloc _).trans hf'
        (spec_part l hi.2.1.1 (by omega) A1 c1 w' (New w w1) (fun b hb => Nat.lt_of_lt_of_le (hT b hb) hfa.size) (s1.fr hT hfa)).mono fun e w2 h => ⟨h.1, hf'.trans h.2⟩
      have TR : Hid (∀ w', Fr No (w1.alloc (.cells #[S [], .slice (some ⟨g, o, none⟩) 3 c] 54)) w' → Calls Try.prog 56 #[.agg #[S r.atom, .slice A2 r.kids.len c2]] w' fun e w2 => e = .returned (S r.text) ∧ Fr No (w1.alloc (.cells #[S [], .slice (some ⟨g, o, none⟩) 3 c] 54)) w2) := fun w' hf' =>
        have hfa : Fr No w1 w' := ((Fr.refl No w1).alloc _).trans hf'
        (spec_part r hi.2.1.2 (by omega) A2 c2 w' (New w w1) (fun b hb => Nat.lt_of_lt_of_le (hT b hb) hfa.size) (s2.fr hT hfa)).mono fun e w2 h => ⟨h.1, hf'.trans h.2⟩
      clear q0 q1 q2 q3 q4 q5 s0 s1 s2 hsl
      have hfw : Fr No w (w1.alloc (.cells #[S [], .slice (some ⟨g, o, none⟩) 3 c] 54)) := hf.alloc _
      go_wp2_with fail
      generalize w1.alloc (.cells #[S [], .slice (some ⟨g, o, none⟩) 3 c] 54) = W at CELLS TL TR hfw ⊢
      obtain ⟨p1, p0, p2, p3, p4, p5, p6, p7⟩ := CELLS.out W (Fr.refl _ _)
      have hW : Fr No W W.drew := (Fr.refl _ _).drew
      go_region_held3 (fun w' => w'.cell? ⟨w1.heap.size, 1, none⟩ = some (.slice (some ⟨g, o, none⟩) 3 c) ∧ w'.cell? ⟨g, o, none⟩ = some (S [Ty.sign f]) ∧ w'.cell? ⟨g, o + 2, none⟩ = some (S l.atom) ∧ w'.cell? ⟨g, o + 3, none⟩ = some (.slice A1 l.kids.len c1) ∧ w'.cell? ⟨g, o + 4, none⟩ = some (S r.atom) ∧ w'.cell? ⟨g, o + 5, none⟩ = some (.slice A2 r.kids.len c2)) (go_keep)
        (first | (go_at_call 56; ((with_reducible refine (TL.out _ hW).mono ?_); rintro e w2 ⟨rfl, hf2⟩; obtain ⟨d1, d0, d2, d3, d4, d5, d6, d7⟩ := CELLS.out w2 hf2)) | (go_at_call 56; ((with_reducible refine (TR.out _ hf2).mono ?_); rintro e w3 ⟨rfl, hf3⟩; obtain ⟨e1, e0, e2, e3, e4, e5, e6, e7⟩ := CELLS.out w3 hf3)))
      go_wp2_with fail
      refine bodyPost_ret (v := .tuple #[S l.text, S r.text, S [Ty.sign f], .bool true]) (by simp [results, Try.results24, go_sem]) rfl ?_
      exact AnsParts.yes hi (hfw.trans hf3)
  · have HN : Hid (∀ f l r, ¬ Ty.Is s (.n f l r)) := fun f l r h => hno _ h
    clear hno
    go_wp2_with fail
    refine bodyPost_ret (v := .tuple #[S [], S [], S [], .bool false]) (by simp [results, Try.results24, go_sem]) rfl ?_
    exact AnsParts.no HN.out (hf.alloc _)

end Go.Proofs.Ytjkkjdmfhdoojaa
