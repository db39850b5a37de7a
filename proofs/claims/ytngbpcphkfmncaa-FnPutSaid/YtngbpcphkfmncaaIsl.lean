/- Slices of integers: copied, compared; what comes in. -/
import Derived.Test.YtngbpcphkfmncaaPre
import Derived.OwnWalk
import Derived.OpenShut
import Derived.Below
namespace Go.Proofs.Ytngbpcphkfmncaa
open Go.RowKit Go.ChangeMaps Go.ChangeShapes Go.WideShapes

/-- The slice at A holds these integers. -/
def ISl (w : World) (A : Option Addr) (zs : List Int) : Prop :=
  ∀ (j : Nat) (z : Int), zs[j]? = some z → ∃ g o, A = some ⟨g, o, none⟩ ∧ w.cell? ⟨g, o + j, none⟩ = some (.int .i64 z)

theorem ISl.keep {w w' : World} {A : Option Addr} {zs : List Int} {T : Nat → Prop} (h : ISl w A zs) (hf : Fr T w w') (hT : ∀ b, T b → w.heap.size ≤ b) : ISl w' A zs := by
  intro j x hj
  obtain ⟨g, o, e, hc⟩ := h j x hj
  have hl := block_lt hc
  exact ⟨g, o, e, (hf.cell (p := ⟨g, o + j, none⟩) hl (fun h => by have := hT _ h; simp at this; omega)).trans hc⟩

theorem ISl.of_own {w : World} {B : Nat} {zs : List Int} {A : Option Addr} {c : Nat} (ho : w.ownsRow B 3 1 (.slice A zs.length c) zs.length (zs.map (Value.int .i64))) : ISl w A zs := by
  intro j x hj
  have hl := (List.getElem?_eq_some_iff.1 hj).1
  rcases ho.2 with ⟨_, hn⟩ | ⟨g, cap, cur, hv, _⟩
  · omega
  · injection hv with e1 e2 e3
    refine ⟨g, 0, e1, ?_⟩
    have := ho.cells (g := g) (by rw [e1]; rfl) j (.int .i64 x) (by rw [List.getElem?_map, hj]; rfl)
    rw [addr_add] at this
    exact this

theorem info_int : (Try.prog.info? 3).map (fun i => (i.zero, i.size, i.bytes)) = some (some (.int .i64 0), 1, 8) := by kernel_rfl

def CopyI (zs : List Int) (w : World) (e : Ending) (w' : World) : Prop :=
  ∃ g, e = .returned (.slice (some ⟨g, 0, none⟩) zs.length zs.length) ∧ w.heap.size ≤ g ∧ Fr No w w' ∧ w'.ownsRow w.heap.size 3 1 (.slice (some ⟨g, 0, none⟩) zs.length zs.length) zs.length (zs.map (Value.int .i64))

theorem take_set_more {α β : Type} {f : α → β} {xs : List α} {ys : List β} {j : Nat} {x : α} (h : ys.take j = (xs.map f).take j) (hl : j < ys.length) (hx : xs[j]? = some x) : (ys.set j (f x)).take (j + 1) = (xs.map f).take (j + 1) := by
  rw [List.take_add_one, List.take_add_one, List.take_set_of_le (Nat.le_refl _), h, List.getElem?_set_self hl, List.getElem?_map, hx]
  rfl

def EqI (xs ys : List Int) (w : World) (e : Ending) (w' : World) : Prop := ∃ b : Bool, e = .returned (.bool b) ∧ (b = true ↔ xs = ys) ∧ ∃ n, w' = w.drewN n

theorem eq_take_moreI {xs ys : List Int} {j : Nat} {x y : Int} (h : xs.take j = ys.take j) (hx : xs[j]? = some x) (hy : ys[j]? = some y) (hxy : x = y) : xs.take (j + 1) = ys.take (j + 1) := by
  rw [List.take_add_one, List.take_add_one, h, hx, hy, hxy]

theorem spot_of {w : World} {a : Addr} {v : Value} (h : w.cell? (a.add 0) = some v) : a = ⟨a.block, a.off, none⟩ := by
  obtain ⟨b, o, s⟩ := a
  have hs : s = none := by simpa [Addr.add] using World.cell?_spot h
  subst hs
  rfl

/-- and of a slice of integers -/
def IntsIn (w : World) (a : Option Addr) (len cap : Nat) (zs : List Int) : Prop :=
  len = zs.length ∧ len ≤ cap ∧ len ≤ maxLen ∧ ISl w a zs ∧ ∀ z ∈ zs, -9223372036854775808 ≤ z ∧ z ≤ 9223372036854775807

theorem ints_in {w : World} {a : Option Addr} {len cap : Nat} {zs : List Int}
    (h : (a = none ∧ len = 0 ∧ cap = 0 ∧ zs = []) ∨ ∃ x, a = some x ∧ len ≤ cap ∧ cap ≤ maxLen ∧ zs.length = cap ∧ (∀ i, i < zs.length → w.cell? (x.add i) = some (.int .i64 (zs.getD i 0))) ∧ ∀ n ∈ zs, (Lit.int .i64 n).wf = true) : ∃ ys, IntsIn w a len cap ys := by
  rcases h with ⟨rfl, rfl, rfl, rfl⟩ | ⟨b, rfl, hlc, hcm, hz, hcell, hwf⟩
  · exact ⟨[], rfl, Nat.le_refl _, Nat.zero_le _, fun j x hj => by simp at hj, by simp⟩
  · refine ⟨zs.take len, by simp; omega, hlc, Nat.le_trans hlc hcm, ?_, ?_⟩
    · intro j x hj
      rw [List.getElem?_take] at hj
      split at hj
      · have hl := (List.getElem?_eq_some_iff.1 hj).1
        have h0 := hcell 0 (by omega)
        have h1 := hcell j hl
        have hb := spot_of h0
        refine ⟨b.block, b.off, by rw [← hb], ?_⟩
        rw [hb, addr_add] at h1
        rw [List.getD_eq_getElem?_getD, hj] at h1
        exact h1
      · cases hj
    · intro z hz'
      have := hwf z (List.mem_of_mem_take hz')
      simp [Lit.wf, IntKind.min, IntKind.max, IntKind.signed, IntKind.bits] at this
      omega

end Go.Proofs.Ytngbpcphkfmncaa
