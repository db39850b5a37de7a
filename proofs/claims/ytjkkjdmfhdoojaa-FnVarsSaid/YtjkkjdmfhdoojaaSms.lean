/- The plain laws' helpers over lists of texts: hasText, sameTexts; what is left when o is put for all variables. -/
import Derived.Test.YtjkkjdmfhdoojaaPis
import Derived.StillTailTactics
namespace Go.Proofs.Ytjkkjdmfhdoojaa
open Go.RowKit Go.ChangeMaps

set_option maxRecDepth 100000 in
set_option maxHeartbeats 1000000 in
theorem hasTexts_any (w : World) (A : Option Addr) (xs : List (List UInt8)) (c : Nat) (s : List UInt8) (hx : SSl w A xs) (hl : xs.length ≤ 2000000) :
    Calls Try.prog 21 #[.slice A xs.length c, S s] w fun e w' => HasS xs s w e w' := by
  have HX := Lib.hid hx
  clear hx
  have hl' : (xs.length : Int) ≤ 2000000 := by omega
  go_enter Try.func21, Try.ntmps21
  go_wp2_with fail
  go_loop [5] (fun v => ∃ j : Nat, j ≤ xs.length ∧ v = .int .i64 j ∧ s ∉ xs.take j) (fun v => xs.length - (intOf v).toNat)
  case atStart => exact ⟨0, Nat.zero_le _, rfl, by simp⟩
  case round =>
    obtain ⟨j, hj, rfl, hno⟩ := hrel
    have HN := Lib.hid hno
    clear hno
    by_cases hlt : j < xs.length
    · obtain ⟨x, hxj⟩ : ∃ x, xs[j]? = some x := ⟨_, List.getElem?_eq_getElem hlt⟩
      obtain ⟨g, o, rfl, hc⟩ := HX.out j x hxj
      have HXJ := Lib.hid hxj
      clear hxj
      by_cases hpx : x = s
      · subst hpx
        go_wp2
        go_ret
        exact ⟨true, rfl, ⟨fun _ => List.mem_of_getElem? HXJ.out, fun _ => rfl⟩, rfl⟩
      · have hb : (x == s) = false := by simpa using hpx
        have HPX := Lib.hid hpx
        clear hpx
        go_wp2
        go_round
        case rel => exact ⟨j + 1, by omega, by go_num, nots_more HN.out HXJ.out HPX.out⟩
        case measure => simp [intOf]; omega
    · have hjl : j = xs.length := by omega
      have HF : Hid (s ∉ xs) := by
        have := HN.out
        rw [hjl, List.take_length] at this
        exact this
      clear hjl
      go_wp2
      go_ret
      exact ⟨false, rfl, ⟨fun h => (by cases h), fun h => (HF.out h).elim⟩, rfl⟩

set_option maxRecDepth 100000 in
set_option maxHeartbeats 1000000 in
/-- a list of texts is the same as itself, wherever it lies -/
theorem sameTexts_eq (w : World) (A A' : Option Addr) (xs : List (List UInt8)) (c c' : Nat) (hx : SSl w A xs) (hy : SSl w A' xs) (hl : xs.length ≤ 2000000) :
    Calls Try.prog 18 #[.slice A xs.length c, .slice A' xs.length c'] w fun e w' => e = .returned (.bool true) ∧ Fr No w w' := by
  have HX := Lib.hid hx
  have HY := Lib.hid hy
  clear hx hy
  have hl' : (xs.length : Int) ≤ 2000000 := by omega
  go_enter Try.func18, Try.ntmps18
  go_wp2_with fail
  go_loopw [5] (fun v wr => ∃ j : Nat, j ≤ xs.length ∧ v = .int .i64 j ∧ Fr No w wr) (fun v _ => xs.length - (intOf v).toNat)
  case atStart => exact ⟨0, Nat.zero_le _, rfl, Fr.refl _ _⟩
  case round =>
    obtain ⟨j, hj, rfl, hf⟩ := hrel
    by_cases hlt : j < xs.length
    · obtain ⟨x, hxj⟩ : ∃ x, xs[j]? = some x := ⟨_, List.getElem?_eq_getElem hlt⟩
      obtain ⟨g, o, rfl, hc0⟩ := HX.out j x hxj
      obtain ⟨g', o', rfl, hc1⟩ := HY.out j x hxj
      have hc : wr.cell? ⟨g, o + j, none⟩ = some (S x) := (hf.cell (p := ⟨g, o + j, none⟩) (World.block_lt_of_cell? w _ hc0) (fun h => h)).trans hc0
      have hc' : wr.cell? ⟨g', o' + j, none⟩ = some (S x) := (hf.cell (p := ⟨g', o' + j, none⟩) (World.block_lt_of_cell? w _ hc1) (fun h => h)).trans hc1
      have HFD : Hid (Fr No w wr.drew) := hf.drew
      clear hf hc0 hc1 hxj
      go_wp2_with fail
      refine wp_region_still_lit (by kernel_rfl) (by kernel_rfl) ?_
      change wpStill _ _ (World.drew _) (fun a' => _) _ _
      repeat still_step
      refine wpStill_nil ?_
      go_wp2
      go_round
      case rel => exact ⟨j + 1, by omega, by go_num, HFD.out⟩
      case measure => simp [intOf]; omega
    · have HF := Lib.hid hf
      clear hf
      go_wp2_with fail
      go_ret
      exact ⟨rfl, HF.out⟩

/-- o put for all of these variables -/
def allO (vs : List Nat) : List (Nat × Ty) := vs.map fun n => (n, Ty.o)

theorem asg_allO {vs : List Nat} {n : Nat} (h : n ∈ vs) : asg (allO vs) n = some .o := by
  induction vs with
  | nil => cases h
  | cons k r ih =>
    simp only [allO, List.map_cons, asg]
    split
    · rfl
    · rename_i e
      rcases List.mem_cons.1 h with h | h
      · exact absurd h.symm e
      · exact ih h

theorem allO_is {vs : List Nat} (hd : vs.Nodup) (hv : ∀ n ∈ vs, n < 25) (hl : vs.length ≤ 26) : PutIs (letS vs) (vs.map fun _ => [111]) (allO vs) where
  names := by simp [letS, allO]
  bys := by simp [allO, Ty.text]
  ok := fun p hp => by
    obtain ⟨n, hn, rfl⟩ := List.mem_map.1 hp
    exact ⟨hv n hn, trivial, by simp [Ty.size]⟩
  nodup := by
    have e : (allO vs).map Prod.fst = vs := by simp [allO, Function.comp_def]
    rw [e]
    exact hd
  few := by simp only [allO, List.length_map]; exact hl

theorem put_allO (t : Ty) : ∀ vs : List Nat, (∀ n, t.has n → n ∈ vs) → (t.put (asg (allO vs))).size = t.size ∧ (∀ ws, addV ws (t.put (asg (allO vs))) = ws) ∧ (t.put (asg (allO vs))).lets := by
  induction t with
  | v k =>
    intro vs h
    simp only [Ty.put, asg_allO (h k rfl)]
    exact ⟨rfl, fun _ => rfl, trivial⟩
  | o => exact fun _ _ => ⟨rfl, fun _ => rfl, trivial⟩
  | n f l r hl hr =>
    intro vs h
    obtain ⟨a1, a2, a3⟩ := hl vs (fun n hn => h n (.inl hn))
    obtain ⟨b1, b2, b3⟩ := hr vs (fun n hn => h n (.inr hn))
    refine ⟨by simp only [Ty.put, Ty.size, a1, b1], fun ws => by simp only [Ty.put, addV, a2, b2], ?_⟩
    simp only [Ty.put]
    exact ⟨a3, b3⟩
end Go.Proofs.Ytjkkjdmfhdoojaa
