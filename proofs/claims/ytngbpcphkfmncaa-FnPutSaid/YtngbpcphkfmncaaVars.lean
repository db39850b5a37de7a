/- Vars · Vars2 -/
import Derived.Test.YtngbpcphkfmncaaLaw2
import Derived.Test.YtngbpcphkfmncaaCan
import Derived.Maps.AppendAt
import Derived.Deep.RegionHeld3
/- Vars -/
namespace Go.Proofs.Ytngbpcphkfmncaa
open Go.RowKit Go.ChangeMaps

/-- The slice at A holds pointers to these nodes. -/
def PSl (w : World) (A : Option Addr) (xs : List Nat) : Prop :=
  ∀ j x, xs[j]? = some x → ∃ g, A = some ⟨g, 0, none⟩ ∧ w.cell? ⟨g, j, none⟩ = some (Ptr x) ∧ ∃ cs, Blk w x 63 cs

def IndexP (xs : List Nat) (p : Nat) (w : World) (e : Ending) (w' : World) : Prop := ∃ r : Int, e = .returned (.int .i64 r) ∧ ((0 ≤ r ∧ p ∈ xs) ∨ (r = -1 ∧ p ∉ xs)) ∧ w = w'

theorem not_take_more {xs : List Nat} {j x p : Nat} (h : p ∉ xs.take j) (hx : xs[j]? = some x) (hne : p ≠ x) : p ∉ xs.take (j + 1) := by
  rw [List.take_add_one, hx]
  simp [h, hne]

def HasP (xs : List Nat) (p : Nat) (w : World) (e : Ending) (w' : World) : Prop := ∃ b : Bool, e = .returned (.bool b) ∧ (b = true ↔ p ∈ xs) ∧ w = w'

theorem addV_len (t : Ty) : ∀ vs : List Nat, (addV vs t).length ≤ vs.length + t.size := by
  induction t with
  | v n => intro vs; simp only [addV, Ty.size]; split <;> simp
  | o => intro vs; simp [addV]
  | n f l r hl hr =>
    intro vs
    have h1 := hl vs
    have h2 := hr (addV vs l)
    simp only [addV, Ty.size]
    omega

/-- these nodes are these variables -/
def VAt (ps : List Nat) (D : List Ty) (vs xs : List Nat) : Prop := xs.length = vs.length ∧ ∀ (j n x : Nat), vs[j]? = some n → xs[j]? = some x → Has ps D (.v n) x

theorem VAt.snoc {ps : List Nat} {D : List Ty} {vs xs : List Nat} {n x : Nat} (h : VAt ps D vs xs) (hx : Has ps D (.v n) x) : VAt ps D (vs ++ [n]) (xs ++ [x]) := by
  refine ⟨by simp [h.1], fun j n' x' h1 h2 => ?_⟩
  rcases Nat.lt_or_ge j vs.length with hl | hl
  · rw [List.getElem?_append_left hl] at h1
    rw [List.getElem?_append_left (by rw [h.1]; exact hl)] at h2
    exact h.2 j n' x' h1 h2
  · rw [List.getElem?_append_right hl] at h1
    rw [List.getElem?_append_right (by rw [h.1]; exact hl), h.1] at h2
    have : j - vs.length = 0 := by
      rcases Nat.eq_zero_or_pos (j - vs.length) with h0 | h0
      · exact h0
      · rw [List.getElem?_eq_none (by simp; omega)] at h1; cases h1
    rw [this] at h1 h2
    simp at h1 h2
    subst h1; subst h2
    exact hx

/-- a variable is among them just if its node is -/
theorem VAt.mem {w : World} {q m : Nat} {ps : List Nat} {D : List Ty} {vs xs : List Nat} {n x : Nat} (h : VAt ps D vs xs) (hP : Pool w q m ps D) (hx : Has ps D (.v n) x) : x ∈ xs ↔ n ∈ vs := by
  constructor
  · intro hm
    obtain ⟨j, hj⟩ := List.getElem?_of_mem hm
    have hl := (List.getElem?_eq_some_iff.1 hj).1
    rw [h.1] at hl
    have hv := List.getElem?_eq_getElem hl
    have := (Has.inj hP (h.2 j _ x hv hj) hx).1 rfl
    injection this with this
    exact this ▸ List.mem_of_getElem? hv
  · intro hm
    obtain ⟨j, hj⟩ := List.getElem?_of_mem hm
    have hl := (List.getElem?_eq_some_iff.1 hj).1
    rw [← h.1] at hl
    have hv := List.getElem?_eq_getElem hl
    have := (Has.inj hP (h.2 j n _ hj hv) hx).2 rfl
    exact this ▸ List.mem_of_getElem? hv

theorem PSl.of_own {w : World} {q m B : Nat} {ps : List Nat} {D : List Ty} {vs xs : List Nat} {A : Option Addr} {c : Nat} (hP : Pool w q m ps D) (h : VAt ps D vs xs)
    (ho : w.ownsRow B 58 1 (.slice A xs.length c) xs.length (xs.map Ptr)) : PSl w A xs := by
  intro j x hj
  have hl := (List.getElem?_eq_some_iff.1 hj).1
  rcases ho.2 with ⟨_, hn⟩ | ⟨g, cap, cur, hv, _⟩
  · omega
  · injection hv with e1 e2 e3
    refine ⟨g, e1, ?_, ?_⟩
    · have := ho.cells (g := g) (by rw [e1]; rfl) j (Ptr x) (by rw [List.getElem?_map, hj]; rfl)
      rw [addr_add] at this
      simpa using this
    · rw [h.1] at hl
      obtain ⟨a, b, k, hb, _⟩ := (h.2 j _ x (List.getElem?_eq_getElem hl) hj).blk hP
      exact ⟨_, hb⟩

theorem own_form {w : World} {B e size n : Nat} {v : Value} {xs : List Value} (h : w.ownsRow B e size v n xs) : ∃ A c, v = .slice A n c := by
  rcases h.2 with ⟨hv, hn⟩ | ⟨g, cap, cur, hv, _⟩
  · exact ⟨none, 0, by rw [hv, hn]⟩
  · exact ⟨_, _, hv⟩

def AddPost (B q m : Nat) (ps : List Nat) (D : List Ty) (vs : List Nat) (w : World) (e : Ending) (w' : World) : Prop :=
  ∃ A xs c, e = .returned (.slice A xs.length c) ∧ Pool w' q m ps D ∧ Below B w w' ∧ w'.ownsRow B 58 1 (.slice A xs.length c) xs.length (xs.map Ptr) ∧ VAt ps D vs xs

theorem Pool.below {w w' : World} {B q m : Nat} {ps : List Nat} {D : List Ty} (h : Pool w q m ps D) (hb : Below B w w') (hlow : q < B ∧ m < B ∧ ∀ p ∈ ps, p < B) : Pool w' q m ps D :=
  h.keep fun k _ hor => hb.block k (by rcases hor with rfl | rfl | hp; exact hlow.1; exact hlow.2.1; exact hlow.2.2 k hp)

theorem info_ptr : (Try.prog.info? 58).map (fun i => (i.zero, i.size, i.bytes)) = some (some (.pointer none), 1, 8) := by kernel_rfl

end Go.Proofs.Ytngbpcphkfmncaa

/- Vars2 -/
namespace Go.Proofs.Ytngbpcphkfmncaa
open Go.RowKit Go.ChangeMaps

theorem Pool.low {w : World} {q m : Nat} {ps : List Nat} {D : List Ty} (h : Pool w q m ps D) : q < w.heap.size ∧ m < w.heap.size ∧ ∀ p ∈ ps, p < w.heap.size :=
  ⟨h.head.lt, by obtain ⟨f, hm, _⟩ := h.map; exact hm.lt, fun _ hp => h.lt hp⟩

end Go.Proofs.Ytngbpcphkfmncaa
