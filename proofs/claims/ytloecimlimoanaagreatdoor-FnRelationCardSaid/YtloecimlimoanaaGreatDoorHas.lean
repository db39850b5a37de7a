/- Lists of texts in memory: l1Has; a row of the call's own. -/
import Derived.Test.YtloecimlimoanaaGreatDoorSread
namespace Go.Proofs.YtloecimlimoanaaGreatDoor
open Go.RowKit Go.ChangeMaps

theorem ret_str {a b : ByteArray} (h : a.data.toList = b.data.toList) : Ending.returned (.string a) = .returned (.string b) := by
  have : a = b := by
    apply ByteArray.ext
    exact Array.toList_inj.1 h
  rw [this]

/-- The slice at A holds these texts. -/
def SSl (w : World) (A : Option Addr) (xs : List (List UInt8)) : Prop :=
  ∀ (j : Nat) (x : List UInt8), xs[j]? = some x → ∃ g o, A = some ⟨g, o, none⟩ ∧ w.cell? ⟨g, o + j, none⟩ = some (S x)

def HasS (xs : List (List UInt8)) (s : List UInt8) (w : World) (e : Ending) (w' : World) : Prop := ∃ b : Bool, e = .returned (.bool b) ∧ (b = true ↔ s ∈ xs) ∧ w = w'

theorem nots_more {xs : List (List UInt8)} {j : Nat} {x s : List UInt8} (h : s ∉ xs.take j) (hx : xs[j]? = some x) (hne : x ≠ s) : s ∉ xs.take (j + 1) := by
  rw [List.take_add_one, hx]
  simp [h, Ne.symm hne]

set_option maxRecDepth 100000 in
set_option maxHeartbeats 1000000 in
theorem has_big (w : World) (A : Option Addr) (xs : List (List UInt8)) (c : Nat) (s : List UInt8) (hx : SSl w A xs) (hl : xs.length ≤ 2000000) :
    Calls Tryz.prog 85 #[.slice A xs.length c, S s] w fun e w' => HasS xs s w e w' := by
  have HX := Lib.hid hx
  clear hx
  have hl' : (xs.length : Int) ≤ 2000000 := by omega
  go_enter Tryz.func85, Tryz.ntmps85
  go_wp2_with fail
  go_loop [5] (fun v => ∃ j : Nat, j ≤ xs.length ∧ v = .int .i64 j ∧ s ∉ xs.take j) (fun v => xs.length - (intOf v).toNat)
  case atStart => exact ⟨0, Nat.zero_le _, rfl, by simp⟩
  case round =>
    obtain ⟨j, hj, rfl, hno⟩ := hrel
    have HN := Lib.hid hno
    clear hno
    by_cases hlt : j < xs.length
    · obtain ⟨x, hxj⟩ : ∃ x, xs[j]? = some x := ⟨_, List.getElem?_eq_getElem hlt⟩
      obtain ⟨g, o, rfl, hc⟩ := HX.out j x hxj
      have HXJ := Lib.hid hxj
      clear hxj
      by_cases hpx : x = s
      · subst hpx
        go_wp2
        go_ret
        exact ⟨true, rfl, ⟨fun _ => List.mem_of_getElem? HXJ.out, fun _ => rfl⟩, rfl⟩
      · have hb : (x == s) = false := by simpa using hpx
        have HPX := Lib.hid hpx
        clear hpx
        go_wp2
        go_round
        case rel => exact ⟨j + 1, by omega, by go_num, nots_more HN.out HXJ.out HPX.out⟩
        case measure => simp [intOf]; omega
    · have hjl : j = xs.length := by omega
      have HF : Hid (s ∉ xs) := by
        have := HN.out
        rw [hjl, List.take_length] at this
        exact this
      clear hjl
      go_wp2
      go_ret
      exact ⟨false, rfl, ⟨fun h => (by cases h), fun h => (HF.out h).elim⟩, rfl⟩

theorem has_any (w : World) (A : Option Addr) (xs : List (List UInt8)) (c : Nat) (s : List UInt8) (hx : SSl w A xs) (hl : xs.length ≤ 1000000) :
    Calls Tryz.prog 85 #[.slice A xs.length c, S s] w fun e w' => HasS xs s w e w' := has_big w A xs c s hx (by omega)

theorem SSl.of_own {w : World} {B : Nat} {xs : List (List UInt8)} {A : Option Addr} {c : Nat} (ho : w.ownsRow B 9 1 (.slice A xs.length c) xs.length (xs.map S)) : SSl w A xs := by
  intro j x hj
  have hl := (List.getElem?_eq_some_iff.1 hj).1
  rcases ho.2 with ⟨_, hn⟩ | ⟨g, cap, cur, hv, _⟩
  · omega
  · injection hv with e1 e2 e3
    refine ⟨g, 0, e1, ?_⟩
    have := ho.cells (g := g) (by rw [e1]; rfl) j (S x) (by rw [List.getElem?_map, hj]; rfl)
    rw [addr_add] at this
    exact this

theorem info_str : (Tryz.prog.info? 9).map (fun i => (i.zero, i.size, i.bytes)) = some (some (.string ⟨#[]⟩), 1, 16) := by kernel_rfl
end Go.Proofs.YtloecimlimoanaaGreatDoor
