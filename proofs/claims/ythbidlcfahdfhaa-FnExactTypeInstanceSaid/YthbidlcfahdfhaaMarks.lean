import Derived.Test.YthbidlcfahdfhaaEqs
import Derived.Laws.OwnMore
namespace Go.Proofs.Ythbidlcfahdfhaa
open Go.RowKit Go.ChangeMaps

/-- the first j texts bear marks from k on -/
def Marked (k j n : Nat) (ys : List (List UInt8)) : Prop := ys.length = n ∧ ∀ i, i < j → ys[i]? = some (markOf (k + i))

theorem Marked.more {k j n : Nat} {ys : List (List UInt8)} (h : Marked k j n ys) (hj : j < n) : Marked k (j + 1) n (ys.set j (markOf (k + j))) := by
  refine ⟨by simp [h.1], fun i hi => ?_⟩
  by_cases he : i = j
  · subst he
    rw [List.getElem?_set_self (by rw [h.1]; exact hj)]
  · rw [List.getElem?_set_ne (Ne.symm he)]
    exact h.2 i (by omega)

def MarkP (B : Nat) (A : Option Addr) (c n k : Nat) (w : World) (e : Ending) (w' : World) : Prop :=
  e = .returned (.int .i64 ((k + n : Nat) : Int)) ∧ Fr (fun b => (Value.slice A n c).ownBlock = some b) w w' ∧ ∃ ys, Marked k n n ys ∧ w'.ownsRow B 9 1 (.slice A n c) n (ys.map S)

set_option maxRecDepth 100000 in
set_option maxHeartbeats 1000000 in
theorem marks_any (B : Nat) (w : World) (A : Option Addr) (xs : List (List UInt8)) (n k c : Nat) (hn : xs.length = n) (ho : w.ownsRow B 9 1 (.slice A n c) n (xs.map S)) (hl : n ≤ 1000) (hk : k ≤ 1000) :
    Calls Try.prog 31 #[.slice A n c, .int .i64 k] w fun e w' => MarkP B A c n k w e w' := by
  have HO := Lib.hid ho
  have HL := Lib.hid hn
  clear ho hn
  have hl' : (n : Int) ≤ 1000 := by omega
  have hk' : (k : Int) ≤ 1000 := by omega
  go_enter Try.func31, Try.ntmps31
  go_wp2_with fail
  go_loopw [1, 5] (fun v u wr => ∃ (j : Nat) (ys : List (List UInt8)), j ≤ n ∧ v = .int .i64 ((k + j : Nat) : Int) ∧ u = .int .i64 j ∧ Marked k j n ys ∧ wr.ownsRow B 9 1 (.slice A n c) n (ys.map S) ∧ Fr (fun b => (Value.slice A n c).ownBlock = some b) w wr) (fun _ u _ => n - (intOf u).toNat)
  case atStart => exact ⟨0, xs, Nat.zero_le _, rfl, rfl, ⟨HL.out, fun i hi => by omega⟩, HO.out, Fr.refl _ _⟩
  case round =>
    obtain ⟨j, ys, hj, rfl, rfl, hM, hown, hfr⟩ := hrel
    have HM := Lib.hid hM
    have HW := Lib.hid hown
    have HF := Lib.hid hfr
    clear hM hfr
    by_cases hlt : j < n
    · have hkj : k + j ≤ 1000000 := by omega
      have hnat : ((k + j : Nat) : Int) ≤ 3000 := by omega
      obtain ⟨g, hA⟩ : ∃ g, A = some ⟨g, 0, none⟩ := by
        rcases hown.2 with ⟨_, h0⟩ | ⟨g, cap, cur, hv, _⟩
        · omega
        · injection hv with e1 e2 e3
          exact ⟨g, e1⟩
      subst hA
      clear hown
      have MK : Hid (Calls Try.prog 66 #[.int .i64 ((k + j : Nat) : Int)] wr fun e w' => e = .returned (S (markOf (k + j))) ∧ Fr No wr w') := mark_any (k + j) wr hkj
      have FIN : Hid (∀ w2, Fr No wr w2 → (∃ v, w2.cell? ⟨g, j, none⟩ = some v) ∧ w2.frozen? ⟨g, j, none⟩ = false ∧
          ∃ ys', Marked k (j + 1) n ys' ∧ (w2.setCell ⟨g, j, none⟩ (S (markOf (k + j)))).ownsRow B 9 1 (.slice (some ⟨g, 0, none⟩) n c) n (ys'.map S) ∧ Fr (fun b => (Value.slice (some ⟨g, 0, none⟩) n c).ownBlock = some b) w (w2.setCell ⟨g, j, none⟩ (S (markOf (k + j))))) := by
        intro w2 hf
        have h2 := own_fr HW.out hf (fun _ _ h => h)
        have hys : j < ys.length := by rw [HM.out.1]; exact hlt
        refine ⟨⟨S ys[j], ?_⟩, h2.frozenAt j, ys.set j (markOf (k + j)), HM.out.more hlt, ?_, ?_⟩
        · rw [h2.cellAt j (by omega)]
          simp [List.getElem?_eq_getElem hys]
        · rw [List.map_set]
          exact (h2.stored j _).1
        · exact (HF.out.trans (hf.mono fun _ _ h => h.elim)).setCell (p := ⟨g, j, none⟩) (.inl rfl) _
      clear HW HM HF
      generalize markOf (k + j) = mk at *
      go_wp2_with fail
      refine MK.out.mono ?_
      rintro e w2 ⟨rfl, hf⟩
      obtain ⟨⟨v, hc⟩, hz, ys', hm, hown', hfr'⟩ := FIN.out w2 hf
      have HE : Hid (∃ ys', Marked k (j + 1) n ys' ∧ (w2.setCell ⟨g, j, none⟩ (S mk)).ownsRow B 9 1 (.slice (some ⟨g, 0, none⟩) n c) n (ys'.map S) ∧ Fr (fun b => (Value.slice (some ⟨g, 0, none⟩) n c).ownBlock = some b) w (w2.setCell ⟨g, j, none⟩ (S mk))) := ⟨ys', hm, hown', hfr'⟩
      clear hm hown' hfr' FIN MK
      go_wp2
      go_round
      case rel =>
        obtain ⟨ys', h1, h2, h3⟩ := HE.out
        exact ⟨j + 1, ys', by omega, by go_num, by go_num, h1, h2, h3⟩
      case measure => simp [intOf]; omega
    · have hjl : j = n := by omega
      subst hjl
      clear hown
      go_wp2
      go_ret
      exact ⟨rfl, HF.out, ys, HM.out, HW.out⟩
end Go.Proofs.Ythbidlcfahdfhaa
