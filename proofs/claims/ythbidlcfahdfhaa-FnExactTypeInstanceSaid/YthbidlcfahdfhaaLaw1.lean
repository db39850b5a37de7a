import Derived.Test.YthbidlcfahdfhaaSpec2
import Derived.Test.YthbidlcfahdfhaaImpl
namespace Go.Proofs.Ythbidlcfahdfhaa
open Go.RowKit Go.ChangeMaps

theorem Fr.kept {w w' : World} (h : Fr No w w') : Below w.heap.size w w' := h.below (Nat.le_refl _) (fun _ h => h.elim)

set_option maxHeartbeats 1000000 in
theorem specValid (w : World) (s : List UInt8) (hs : s.length ≤ maxLen) :
    Calls Try.prog 27 #[S s] w fun e w' => AnsB (∃ t, Ty.Is s t) w e w' := by
  go_enter Try.func27, Try.ntmps27
  go_wp2_with fail
  refine (type_any s _ hs).mono ?_
  rintro e w1 ⟨hf, ⟨t, A, c, hi, rfl, _⟩ | ⟨a, A, m, c, hno, rfl⟩⟩
  · go_wp2
    go_ret
    exact ⟨true, rfl, ⟨fun _ => ⟨t, hi⟩, fun _ => rfl⟩, hf.alloc _⟩
  · go_wp2
    go_ret
    exact ⟨false, rfl, ⟨fun h => (by cases h), fun ⟨t, h⟩ => (hno t h).elim⟩, hf.alloc _⟩

set_option maxHeartbeats 1000000 in
theorem specSize (w : World) (s : List UInt8) (hs : s.length ≤ maxLen) :
    Calls Try.prog 46 #[S s] w fun e w' => AnsSize s w e w' := by
  go_enter Try.func46, Try.ntmps46
  go_wp2_with fail
  refine (type_any s _ hs).mono ?_
  rintro e w1 ⟨hf, ⟨t, A, c, hi, rfl, hsl⟩ | ⟨a, A, m, c, hno, rfl⟩⟩
  · have hb := (parsed_is hi).bounds
    have hsz := (is_ty t hi.2.1).2
    have HZ : Hid ((treeSize t.atom t.kids : Int) = (t.size : Int)) := by rw [hsz]; rfl
    have hsl2 : ∀ o : Obj, Sl (w1.alloc o) (New w w1) A t.kids := fun o => hsl.fr (fun b hb => hb.2) ((Fr.refl _ _).alloc o)
    have HS := Lib.hid hsl2
    clear hsz hsl2
    go_wp2_with fail
    refine (size_any _ t.kids (Nat.lt_succ_self _) t.atom A c _ (New w w1) (by omega) hb.2.2.2.1 hb.2.2.2.2 (fun b hb => by have := hb.2; simp; omega) (HS.out _)).mono ?_
    rintro e w2 ⟨rfl, hf2⟩
    rw [HZ.out]
    go_wp2
    go_ret
    exact ⟨_, rfl, .inl ⟨t, hi, rfl⟩, (hf.alloc _).trans hf2⟩
  · go_wp2
    go_ret
    exact ⟨_, rfl, .inr ⟨hno, rfl⟩, hf.alloc _⟩

theorem str_S (a : ByteArray) : Value.string a = S a.data.toList := rfl
theorem str_len {a : ByteArray} (h : a.size ≤ maxLen) : a.data.toList.length ≤ maxLen := by
  rw [Array.length_toList]; exact h

/-- what a law answers -/
def Yes (w : World) (e : Ending) (w' : World) : Prop := e = .returned (.bool true) ∧ Fr No w w'

set_option maxHeartbeats 1000000 in
theorem lawValid (w : World) (s : List UInt8) (hs : s.length ≤ maxLen) :
    Calls Try.prog 5 #[S s] w fun e w' => Yes w e w' := by
  have hs' := hs
  unfold maxLen at hs'
  by_cases hl : 1048576 < s.length
  · have hb : decide ((1048576 : Int) < (s.length : Int)) = true := by simp; omega
    go_enter Try.func5, Try.ntmps5
    go_wp2_with fail
    go_ret
    exact ⟨rfl, Fr.refl _ _⟩
  · have hb : decide ((1048576 : Int) < (s.length : Int)) = false := by simp; omega
    go_enter Try.func5, Try.ntmps5
    go_wp2_with fail
    refine (specValid _ s hs).mono ?_
    rintro e w1 ⟨b1, rfl, h1, hf1⟩
    go_wp2_with fail
    refine (implValid _ s hs).mono ?_
    rintro e w2 ⟨b2, rfl, h2, hf2⟩
    obtain rfl : b1 = b2 := Bool.eq_iff_iff.2 (h1.trans h2.symm)
    clear h1 h2
    go_wp2
    go_ret
    exact ⟨rfl, hf1.trans hf2⟩

set_option maxHeartbeats 1000000 in
theorem lawSize (w : World) (s : List UInt8) (hs : s.length ≤ maxLen) :
    Calls Try.prog 16 #[S s] w fun e w' => Yes w e w' := by
  have hs' := hs
  unfold maxLen at hs'
  by_cases hl : 1048576 < s.length
  · have hb : decide ((1048576 : Int) < (s.length : Int)) = true := by simp; omega
    go_enter Try.func16, Try.ntmps16
    go_wp2_with fail
    go_ret
    exact ⟨rfl, Fr.refl _ _⟩
  · have hb : decide ((1048576 : Int) < (s.length : Int)) = false := by simp; omega
    go_enter Try.func16, Try.ntmps16
    go_wp2_with fail
    refine (specSize _ s hs).mono ?_
    rintro e w1 ⟨b1, rfl, h1, hf1⟩
    go_wp2_with fail
    refine (implSize _ s hs).mono ?_
    rintro e w2 ⟨b2, rfl, h2, hf2⟩
    obtain rfl : b1 = b2 := by
      rcases h1 with ⟨t, h1, e1⟩ | ⟨h1, e1⟩ <;> rcases h2 with ⟨t', h2, e2⟩ | ⟨h2, e2⟩
      · rw [e1, e2, h1.unique h2]
      · exact absurd h1 (h2 t)
      · exact absurd h2 (h1 t')
      · rw [e1, e2]
    clear h1 h2
    go_wp2
    go_ret
    exact ⟨rfl, hf1.trans hf2⟩
end Go.Proofs.Ythbidlcfahdfhaa
