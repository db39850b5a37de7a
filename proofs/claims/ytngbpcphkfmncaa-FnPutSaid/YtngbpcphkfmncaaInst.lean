/- TypeInstance of the program. -/
import Derived.Test.YtngbpcphkfmncaaMtn
import Derived.Test.YtngbpcphkfmncaaSput
import Derived.Test.YtngbpcphkfmncaaLaw3
namespace Go.Proofs.Ytngbpcphkfmncaa
open Go.RowKit Go.ChangeMaps

/-- the second text is a type that is an instance of the first one, a type -/
def Inst (a b : List UInt8) : Prop := ∃ t u, Ty.Is a t ∧ Ty.Is b u ∧ (mt t u []).isSome = true

theorem Inst.no1 {a b : List UInt8} (h : ∀ t, ¬ Ty.Is a t) : ¬ Inst a b := fun ⟨t, _, i, _⟩ => h t i
theorem Inst.no2 {a b : List UInt8} (h : ∀ t, ¬ Ty.Is b t) : ¬ Inst a b := fun ⟨_, u, _, i, _⟩ => h u i
theorem Inst.iff {a b : List UInt8} {t u : Ty} (h1 : Ty.Is a t) (h2 : Ty.Is b u) : Inst a b ↔ (mt t u []).isSome = true :=
  ⟨fun ⟨t', u', i1, i2, e⟩ => by rw [h1.unique i1, h2.unique i2]; exact e, fun e => ⟨t, u, h1, h2, e⟩⟩

set_option maxRecDepth 100000 in
set_option maxHeartbeats 1000000 in
theorem implInst (w : World) (a b : List UInt8) (ha : a.length ≤ maxLen) (hb : b.length ≤ maxLen) :
    Calls Try.prog 12 #[S a, S b] w fun e w' => AnsB (Inst a b) w e w' := by
  have hmm := @run_makeMap Try.prog
  go_enter Try.func12, Try.ntmps12
  go_wp2_with fail
  refine (newPool_any _).mono ?_
  rintro e w1 ⟨rfl, rfl⟩
  have hP := pool_start w
  have hf0 : Fr No w ((w.alloc (.map #[] 0)).alloc (.cells #[.map (some w.heap.size)] 103)) := ((Fr.refl _ _).alloc _).alloc _
  generalize (w.alloc (.map #[] 0)).alloc (.cells #[.map (some w.heap.size)] 103) = w1 at hP hf0 ⊢
  go_wp2_with fail
  refine (read_any w1 _ _ [] [] a 0 hP (by omega) ha).mono ?_
  rintro e w2 ⟨ps, D, hP2, hg, hf, hor⟩
  have hfr : Fr No w w2 := hf0.then_ hf (fun i hi e => by unfold One at e; omega)
  clear hg hf hf0 hP
  rcases hor with ⟨t, p, hi, hh, he⟩ | ⟨hno, he⟩
  · obtain rfl := he
    rw [Ty.shift_zero] at hh
    go_wp2_with fail
    refine (read_any w2 _ _ ps D b 0 hP2 (by omega) hb).mono ?_
    rintro e w3 ⟨ps3, D3, hP3, hg3, hf3, hor⟩
    have hfr3 : Fr No w w3 := hfr.then_ hf3 (fun i hi e => by unfold One at e; omega)
    have hh3 := hh.grew hg3
    clear hg3 hf3 hh hP2 hfr
    rcases hor with ⟨u, p', hi', hh', he⟩ | ⟨hno, he⟩
    · obtain rfl := he
      rw [Ty.shift_zero] at hh'
      have CALL : Hid (Calls Try.prog 44 #[Ptr p, Ptr p', .map (some w3.heap.size)] (w3.alloc (.map #[] 0)) fun e w' => AnsB (Inst a b) w e w' ∧ ∃ bb, e = .returned (.bool bb)) := by
        have hlow := hP3.low.2.1
        have hP4 := hP3.fr ((Fr.refl No w3).alloc (.map #[] 0)) (fun h => h) (fun h => h) (fun _ _ h => h)
        have hM : ByAt (w3.alloc (.map #[] 0)) w3.heap.size ps3 D3 (asg []) := ⟨0, _, MapAt.made w3 encI, fun n t h => by simp [asg] at h, fun _ _ => rfl⟩
        refine (match_any _ _ _ ps3 D3 t _ p p' u [] hP4 hM (by omega) hh3 hh').mono ?_
        rintro e w' ⟨rfl, hf, _, _⟩
        refine ⟨⟨_, rfl, (Inst.iff hi hi').symm, hfr3.then_ (((Fr.refl _ w3).alloc _).trans hf) (fun i hi e => ?_)⟩, _, rfl⟩
        have := hfr3.size
        unfold One at e
        omega
      clear hP3 hh3 hh' hi hi' hfr3
      go_wp2_with fail
      refine CALL.out.mono ?_
      rintro e w4 ⟨h, bb, rfl⟩
      have H := Lib.hid h
      clear h
      go_wp2_with fail
      go_ret
      exact H.out
    · obtain rfl := he
      have HN := Lib.hid hno
      clear hno
      go_wp2_with fail
      go_ret
      exact ⟨false, rfl, ⟨fun h => (by cases h), fun h => (Inst.no2 HN.out h).elim⟩, hfr3⟩
  · obtain rfl := he
    have HN := Lib.hid hno
    clear hno
    go_wp2_with fail
    refine (read_any w2 _ _ ps D b 0 hP2 (by omega) hb).mono ?_
    rintro e w3 ⟨ps3, D3, hP3, hg3, hf3, hor⟩
    have hfr3 : Fr No w w3 := hfr.then_ hf3 (fun i hi e => by unfold One at e; omega)
    have hret : ∃ v : Option Addr, e = .returned (.pointer v) := by rcases hor with ⟨u, p', _, _, he⟩ | ⟨_, he⟩ <;> exact ⟨_, he⟩
    obtain ⟨v, rfl⟩ := hret
    clear hor hg3 hf3
    go_wp2_with fail
    go_ret
    exact ⟨false, rfl, ⟨fun h => (by cases h), fun h => (Inst.no1 HN.out h).elim⟩, hfr3⟩
end Go.Proofs.Ytngbpcphkfmncaa
