/- The law TypeInstance. -/
import Derived.Test.YthbidlcfahdfhaaSmt5
namespace Go.Proofs.Ythbidlcfahdfhaa
open Go.RowKit Go.ChangeMaps

theorem sm_any (t : Ty) : t.lets → SmSaid t := by
  induction t with
  | v k =>
    intro hk w T A c u A' c' B N nc M mc ms n hn hok hlen hu hsz hB hT hA hA' hms
    simp only [Ty.size] at hlen
    rcases hx : asg ms k with _ | x
    · exact sm_v_new k hk w T A c u A' c' B N nc M mc ms n hn hok (by omega) hB hT hA' hms hx
    · exact sm_v_old k hk x w T A c u A' c' B N nc M mc ms n hn hok (by omega) hu hsz (fun b hb => Nat.lt_of_lt_of_le (hT b hb) hB) hA' hms hx
  | o => exact fun _ => sm_o
  | n f l r ihl ihr => exact fun h => sm_n f l r h.1 (ihl h.1) (ihr h.2)

theorem own_none {w : World} (B s : Nat) (t : TypeId) (hB : B ≤ w.heap.size) : (w.alloc (.cells #[] t)).ownsRow B t s (.slice (some ⟨w.heap.size, 0, none⟩) 0 0) 0 [] :=
  ⟨by simp, .inr ⟨w.heap.size, 0, #[], rfl, hB, heap_alloc_new w _, Nat.le_refl _, Nat.zero_le _, by simp, by simp⟩⟩

set_option maxRecDepth 100000 in
set_option maxHeartbeats 1000000 in
theorem specInst (w : World) (a b : List UInt8) (ha : a.length ≤ maxLen) (hb : b.length ≤ maxLen) :
    Calls Try.prog 42 #[S a, S b] w fun e w' => AnsB (Inst a b) w e w' := by
  go_enter Try.func42, Try.ntmps42
  go_wp2_with fail
  refine (type_any a _ ha).mono ?_
  rintro e w1 ⟨hf, ⟨t, A, c, hi, rfl, hsl⟩ | ⟨a0, A, m, c, hno, rfl⟩⟩
  · have b5 := Blk.new w1 49 #[S t.atom, .slice A t.kids.len c]
    have hf5 : Fr No w1 (w1.alloc (.cells #[S t.atom, .slice A t.kids.len c] 49)) := (Fr.refl _ _).alloc _
    have HSL := Lib.hid hsl
    have HI := Lib.hid hi
    clear hsl hi
    go_wp2_with fail
    refine (type_any b _ hb).mono ?_
    rintro e w2 ⟨hf2, hor⟩
    rcases hor with ⟨u, A', c', hi', rfl, hsl'⟩ | ⟨x, X, xm, xc, hno, rfl⟩
    · have d5 := (b5.fr hf2 (fun h => h)).alloc (.cells #[S u.atom, .slice A' u.kids.len c'] 49)
      have b7 := Blk.new w2 49 #[S u.atom, .slice A' u.kids.len c']
      have x0 : (w2.alloc (.cells #[S u.atom, .slice A' u.kids.len c'] 49)).cell? ⟨w1.heap.size, 0, none⟩ = some (S t.atom) := (d5.cell 0).trans rfl
      have x1 : (w2.alloc (.cells #[S u.atom, .slice A' u.kids.len c'] 49)).cell? ⟨w1.heap.size, 1, none⟩ = some (.slice A t.kids.len c) := (d5.cell 1).trans rfl
      have y0 : (w2.alloc (.cells #[S u.atom, .slice A' u.kids.len c'] 49)).cell? ⟨w2.heap.size, 0, none⟩ = some (S u.atom) := (b7.cell 0).trans rfl
      have y1 : (w2.alloc (.cells #[S u.atom, .slice A' u.kids.len c'] 49)).cell? ⟨w2.heap.size, 1, none⟩ = some (.slice A' u.kids.len c') := (b7.cell 1).trans rfl
      have l5 := d5.lt
      have l7 := b7.lt
      have CALL : Hid (Calls Try.prog 73 #[.agg #[S t.atom, .slice A t.kids.len c], .agg #[S u.atom, .slice A' u.kids.len c'], .slice (some ⟨w2.heap.size + 1, 0, none⟩) 0 0, .slice (some ⟨w2.heap.size + 2, 0, none⟩) 0 0]
          (((w2.alloc (.cells #[S u.atom, .slice A' u.kids.len c'] 49)).alloc (.cells #[] 9)).alloc (.cells #[] 49)) fun e w' => ∃ N n nc M m mc bb, e = .returned (.tuple #[.slice N n nc, .slice M m mc, .bool bb]) ∧ (bb = true ↔ Inst a b) ∧ Fr No w w') := by
        have hsz := HI.out.2.2
        have hlets := HI.out.2.1
        have hz1 : (w2.alloc (.cells #[S u.atom, .slice A' u.kids.len c'] 49)).heap.size = w2.heap.size + 1 := by simp
        have hz2 : ((w2.alloc (.cells #[S u.atom, .slice A' u.kids.len c'] 49)).alloc (.cells #[] 9)).heap.size = w2.heap.size + 2 := by simp
        have hfa : Fr No w2 (((w2.alloc (.cells #[S u.atom, .slice A' u.kids.len c'] 49)).alloc (.cells #[] 9)).alloc (.cells #[] 49)) := (((Fr.refl _ _).alloc _).alloc _).alloc _
        have r1 := own_none (w := w2.alloc (.cells #[S u.atom, .slice A' u.kids.len c'] 49)) (w2.heap.size + 1) 1 9 (by omega)
        have r2 := own_none (w := (w2.alloc (.cells #[S u.atom, .slice A' u.kids.len c'] 49)).alloc (.cells #[] 9)) (w2.heap.size + 1) 2 49 (by omega)
        rw [hz1] at r1
        rw [hz2] at r2
        have hf12 := hf5.trans hf2
        have s1 : Sl w2 (Old w2) A t.kids := (HSL.out.keepT (fun b hb => hb.2) hf12).mono (fun b hb => Nat.lt_of_lt_of_le hb.2 hf12.size) (fun _ _ => rfl)
        have s2 : Sl w2 (Old w2) A' u.kids := hsl'.mono (fun b hb => hb.2) (fun _ _ => rfl)
        refine (sm_any t hlets _ (Old w2) A c u A' c' (w2.heap.size + 1) _ 0 _ 0 [] 0 rfl (fun p hp => by cases hp) (by simp; omega) hi'.2.1 hi'.2.2 (by simp) (fun b hb => Nat.lt_succ_of_lt hb) (s1.keepT (fun b hb => hb) hfa) (s2.keepT (fun b hb => hb) hfa) ⟨r1.alloc _, [], r2, rfl⟩).mono ?_
        rintro e w' ⟨N, n, nc, M, m, mc, rfl, g1, _⟩
        refine ⟨N, n, nc, M, m, mc, _, rfl, (Inst.iff HI.out hi').symm, ?_⟩
        have hfw := (hf.trans hf12).trans hfa
        refine hfw.then_ g1 (fun i hi e => ?_)
        have hle := (hf.trans hf12).size
        rcases e with e | e
        · simp only [Value.ownBlock, Option.some.injEq] at e
          omega
        · simp only [Value.ownBlock, Option.some.injEq] at e
          omega
      clear b5 b7 d5 hf5 hsl' hi'
      go_wp2_with fail
      refine CALL.out.mono ?_
      rintro e w3 ⟨N, n, nc, M, m, mc, bb, rfl, h1, h2⟩
      have H1 := Lib.hid h1
      clear h1
      go_wp2_with fail
      go_ret
      exact ⟨bb, rfl, H1.out, h2⟩
    · have HN : Hid (∀ t, ¬ Ty.Is b t) := fun t h => hno _ h
      clear hno b5
      go_wp2_with fail
      go_ret
      exact ⟨false, rfl, ⟨fun h => (by cases h), fun h => (Inst.no2 HN.out h).elim⟩, ((hf.trans hf5).trans hf2).alloc _⟩
  · have HN : Hid (∀ t, ¬ Ty.Is a t) := fun t h => hno _ h
    clear hno
    go_wp2_with fail
    refine (type_any b _ hb).mono ?_
    rintro e w2 ⟨hf2, hor⟩
    obtain ⟨x, X, xm, xc, bb, rfl⟩ : ∃ x X xm xc bb, e = .returned (.tuple #[.agg #[S x, .slice X xm xc], .bool bb]) := by
      rcases hor with ⟨u, A', c', _, he, _⟩ | ⟨x, X, xm, xc, _, he⟩ <;> exact ⟨_, _, _, _, _, he⟩
    clear hor
    go_wp2_with fail
    go_ret
    exact ⟨false, rfl, ⟨fun h => (by cases h), fun h => (Inst.no1 HN.out h).elim⟩, ((hf.alloc _).trans hf2).alloc _⟩

set_option maxHeartbeats 1000000 in
theorem lawInst (w : World) (a b : List UInt8) (ha : a.length ≤ maxLen) (hb : b.length ≤ maxLen) :
    Calls Try.prog 11 #[S a, S b] w fun e w' => Yes w e w' := by
  have ha' := ha
  have hb' := hb
  unfold maxLen at ha' hb'
  by_cases hl : 1048576 < a.length
  · have hd : decide ((1048576 : Int) < (a.length : Int)) = true := by simp; omega
    go_enter Try.func11, Try.ntmps11
    go_wp2_with fail
    go_ret
    exact ⟨rfl, Fr.refl _ _⟩
  · have hd : decide ((1048576 : Int) < (a.length : Int)) = false := by simp; omega
    by_cases hl2 : 1048576 < b.length
    · have hd2 : decide ((1048576 : Int) < (b.length : Int)) = true := by simp; omega
      go_enter Try.func11, Try.ntmps11
      go_wp2_with fail
      go_ret
      exact ⟨rfl, Fr.refl _ _⟩
    · have hd2 : decide ((1048576 : Int) < (b.length : Int)) = false := by simp; omega
      go_enter Try.func11, Try.ntmps11
      go_wp2_with fail
      refine (specInst _ a b ha hb).mono ?_
      rintro e w1 ⟨b1, rfl, h1, hf1⟩
      go_wp2_with fail
      refine (implInst _ a b ha hb).mono ?_
      rintro e w2 ⟨b2, rfl, h2, hf2⟩
      obtain rfl : b1 = b2 := Bool.eq_iff_iff.2 (h1.trans h2.symm)
      clear h1 h2
      go_wp2
      go_ret
      exact ⟨rfl, hf1.trans hf2⟩
end Go.Proofs.Ythbidlcfahdfhaa
