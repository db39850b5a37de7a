import Derived.Test.YtngbpcphkfmncaaText
import Derived.Test.YtngbpcphkfmncaaStext
import Derived.Deep.RegionHeld3
namespace Go.Proofs.Ytngbpcphkfmncaa
open Go.RowKit Go.ChangeMaps

def AnsParts (s : List UInt8) (w : World) (e : Ending) (w' : World) : Prop :=
  ∃ a b c ok, e = .returned (.tuple #[S a, S b, S c, .bool ok]) ∧ ((∃ f l r, Ty.Is s (.n f l r) ∧ a = l.text ∧ b = r.text ∧ c = [Ty.sign f] ∧ ok = true) ∨ ((∀ f l r, ¬ Ty.Is s (.n f l r)) ∧ a = [] ∧ b = [] ∧ c = [] ∧ ok = false)) ∧ Fr No w w'

theorem AnsParts.no {s : List UInt8} {w w' : World} (h : ∀ f l r, ¬ Ty.Is s (.n f l r)) (hf : Fr No w w') : AnsParts s w (.returned (.tuple #[S [], S [], S [], .bool false])) w' :=
  ⟨[], [], [], false, rfl, .inr ⟨h, rfl, rfl, rfl, rfl⟩, hf⟩
theorem AnsParts.yes {s : List UInt8} {w w' : World} {f : Bool} {l r : Ty} (h : Ty.Is s (.n f l r)) (hf : Fr No w w') : AnsParts s w (.returned (.tuple #[S l.text, S r.text, S [Ty.sign f], .bool true])) w' :=
  ⟨_, _, _, true, rfl, .inl ⟨f, l, r, h, rfl, rfl, rfl, rfl⟩, hf⟩

set_option maxRecDepth 100000 in
set_option maxHeartbeats 1000000 in
theorem implParts (w : World) (s : List UInt8) (hs : s.length ≤ maxLen) :
    Calls Try.prog 20 #[S s] w fun e w' => AnsParts s w e w' := by
  go_enter Try.func20, Try.ntmps20
  go_wp2_with fail
  refine (newPool_any _).mono ?_
  rintro e w1 ⟨rfl, rfl⟩
  have hP := pool_start w
  have hf0 : Fr No w ((w.alloc (.map #[] 0)).alloc (.cells #[.map (some w.heap.size)] 103)) := ((Fr.refl _ _).alloc _).alloc _
  generalize (w.alloc (.map #[] 0)).alloc (.cells #[.map (some w.heap.size)] 103) = w1 at hP hf0 ⊢
  go_wp2_with fail
  refine (read_any w1 _ _ [] [] s 0 hP (by omega) hs).mono ?_
  rintro e w2 ⟨ps, D, hP2, hg, hf, hor⟩
  have hfr : Fr No w w2 := hf0.then_ hf (fun i hi e => by unfold One at e; omega)
  rcases hor with ⟨t, p, hi, hh, he⟩ | ⟨hno, he⟩
  · obtain rfl := he
    rw [Ty.shift_zero] at hh
    cases t with
    | v j =>
      obtain ⟨x, y, k, hb, rfl, rfl⟩ := hh.blk hP2
      have HB := Lib.hid hb
      have HN : Hid (∀ f l r, ¬ Ty.Is s (.n f l r)) := fun f l r h => by have := hi.unique h; cases this
      clear hb
      go_wp2_with fail
      refine (compound_no _ _ _ _ _ _ _ HB.out).mono ?_
      rintro e w' ⟨rfl, rfl⟩
      go_wp2_with fail
      refine bodyPost_ret (v := .tuple #[S [], S [], S [], .bool false]) (by simp [results, Try.results20, go_sem]) rfl ?_
      exact AnsParts.no HN.out hfr
    | o =>
      obtain ⟨x, y, k, hb, rfl, rfl⟩ := hh.blk hP2
      have HB := Lib.hid hb
      have HN : Hid (∀ f l r, ¬ Ty.Is s (.n f l r)) := fun f l r h => by have := hi.unique h; cases this
      clear hb
      go_wp2_with fail
      refine (compound_no _ _ _ _ _ _ _ HB.out).mono ?_
      rintro e w' ⟨rfl, rfl⟩
      go_wp2_with fail
      refine bodyPost_ret (v := .tuple #[S [], S [], S [], .bool false]) (by simp [results, Try.results20, go_sem]) rfl ?_
      exact AnsParts.no HN.out hfr
    | n f l r =>
      obtain ⟨pl, pr, k, hb, hl, hr⟩ := hh.kids hP2
      have c0 : w2.cell? ⟨p, 0, none⟩ = some (S [Ty.sign f]) := (hb.cell 0).trans rfl
      have c2 : w2.cell? ⟨p, 2, none⟩ = some (Ptr pl) := (hb.cell 2).trans rfl
      have c3 : w2.cell? ⟨p, 3, none⟩ = some (Ptr pr) := (hb.cell 3).trans rfl
      have HB := Lib.hid hb
      have hsz := hi.2.2
      simp only [Ty.size] at hsz
      have IL : Hid (∀ n, Calls Try.prog 37 #[Ptr pl] (w2.drewN n) fun e w' => e = .returned (S l.text) ∧ ∃ m, w' = w2.drewN m) := fun n => Calls.quiet_of (text_any _ _ ps D l hi.2.1.1 (by omega) _ pl (hP2.drewN n) hl)
      have IR : Hid (∀ n, Calls Try.prog 37 #[Ptr pr] (w2.drewN n) fun e w' => e = .returned (S r.text) ∧ ∃ m, w' = w2.drewN m) := fun n => Calls.quiet_of (text_any _ _ ps D r hi.2.1.2 (by omega) _ pr (hP2.drewN n) hr)
      clear hb
      go_wp2_with fail
      refine (compound_yes _ _ _ _ _ _ _ _ HB.out).mono ?_
      rintro e w' ⟨rfl, rfl⟩
      go_wp2_with fail
      go_quiet ((first | (go_at_call 37; with_reducible exact IL.out _) | (go_at_call 37; with_reducible exact IR.out _)))
      go_wp2_with fail
      refine bodyPost_ret (v := .tuple #[S l.text, S r.text, S [Ty.sign f], .bool true]) (by simp [results, Try.results20, go_sem]) rfl ?_
      exact AnsParts.yes hi (hfr.drewN _)
  · obtain rfl := he
    have HN : Hid (∀ f l r, ¬ Ty.Is s (.n f l r)) := fun f l r h => hno _ h
    clear hno
    go_wp2_with fail
    refine bodyPost_ret (v := .tuple #[S [], S [], S [], .bool false]) (by simp [results, Try.results20, go_sem]) rfl ?_
    exact AnsParts.no HN.out hfr

theorem kids_cnt (t : Ty) : t.kids.cnt ≤ 3 * t.size := by
  induction t with
  | v j => simp [Ty.kids, Fo.cnt]
  | o => simp [Ty.kids, Fo.cnt]
  | n f l r hl hr => simp only [Ty.kids_n, Fo.cnt, Ty.size]; omega

/-- a part's text in the model -/
theorem spec_part (t : Ty) (hl : t.lets) (hsz : t.size ≤ 40) (A : Option Addr) (c : Nat) (w : World) (T : Nat → Prop) (hT : ∀ b, T b → b < w.heap.size) (h : Sl w T A t.kids) :
    Calls Try.prog 41 #[.agg #[S t.atom, .slice A t.kids.len c]] w fun e w' => e = .returned (S t.text) ∧ Fr No w w' := by
  have hp := (parsed_is (s := t.text) ⟨rfl, hl, hsz⟩).bounds
  have htt := text_tree t hl
  have hlen := t.length_text
  have := spec_text _ t.kids (Nat.lt_succ_self _) t.atom A c w T ((treeText t.atom t.kids).length + t.kids.cnt) (Nat.le_refl _) (by rw [htt]; have := kids_cnt t; omega) hp.2.2.2.1 hp.2.2.2.2 hT h
  rw [htt] at this
  exact this

end Go.Proofs.Ytngbpcphkfmncaa
