import Derived.Test.YtfajneodponbmaaVars
import Derived.Test.YtfajneodponbmaaStext
namespace Go.Proofs.Ytfajneodponbmaa
open Go.RowKit Go.ChangeMaps

/-- The slice at A holds these texts. -/
def SSl (w : World) (A : Option Addr) (xs : List (List UInt8)) : Prop :=
  ∀ (j : Nat) (x : List UInt8), xs[j]? = some x → ∃ g o, A = some ⟨g, o, none⟩ ∧ w.cell? ⟨g, o + j, none⟩ = some (S x)

def HasS (xs : List (List UInt8)) (s : List UInt8) (w : World) (e : Ending) (w' : World) : Prop := ∃ b : Bool, e = .returned (.bool b) ∧ (b = true ↔ s ∈ xs) ∧ w = w'

theorem nots_more {xs : List (List UInt8)} {j : Nat} {x s : List UInt8} (h : s ∉ xs.take j) (hx : xs[j]? = some x) (hne : x ≠ s) : s ∉ xs.take (j + 1) := by
  rw [List.take_add_one, hx]
  simp [h, Ne.symm hne]

set_option maxRecDepth 100000 in
set_option maxHeartbeats 1000000 in
theorem has_any (w : World) (A : Option Addr) (xs : List (List UInt8)) (c : Nat) (s : List UInt8) (hx : SSl w A xs) (hl : xs.length ≤ 1000000) :
    Calls Try.prog 70 #[.slice A xs.length c, S s] w fun e w' => HasS xs s w e w' := by
  have HX := Lib.hid hx
  clear hx
  have hl' : (xs.length : Int) ≤ 1000000 := by omega
  go_enter Try.func70, Try.ntmps70
  go_wp2_with fail
  go_loop [5] (fun v => ∃ j : Nat, j ≤ xs.length ∧ v = .int .i64 j ∧ s ∉ xs.take j) (fun v => xs.length - (intOf v).toNat)
  case atStart => exact ⟨0, Nat.zero_le _, rfl, by simp⟩
  case round =>
    obtain ⟨j, hj, rfl, hno⟩ := hrel
    have HN := Lib.hid hno
    clear hno
    by_cases hlt : j < xs.length
    · obtain ⟨x, hxj⟩ : ∃ x, xs[j]? = some x := ⟨_, List.getElem?_eq_getElem hlt⟩
      obtain ⟨g, o, rfl, hc⟩ := HX.out j x hxj
      have HXJ := Lib.hid hxj
      clear hxj
      by_cases hpx : x = s
      · subst hpx
        go_wp2
        go_ret
        exact ⟨true, rfl, ⟨fun _ => List.mem_of_getElem? HXJ.out, fun _ => rfl⟩, rfl⟩
      · have hb : (x == s) = false := by simpa using hpx
        have HPX := Lib.hid hpx
        clear hpx
        go_wp2
        go_round
        case rel => exact ⟨j + 1, by omega, by go_num, nots_more HN.out HXJ.out HPX.out⟩
        case measure => simp [intOf]; omega
    · have hjl : j = xs.length := by omega
      have HF : Hid (s ∉ xs) := by
        have := HN.out
        rw [hjl, List.take_length] at this
        exact this
      clear hjl
      go_wp2
      go_ret
      exact ⟨false, rfl, ⟨fun h => (by cases h), fun h => (HF.out h).elim⟩, rfl⟩

def letS (vs : List Nat) : List (List UInt8) := vs.map fun n => [Ty.letter n]

theorem let_mem {vs : List Nat} (hv : ∀ n ∈ vs, n < 25) {n : Nat} (hn : n < 25) : [Ty.letter n] ∈ letS vs ↔ n ∈ vs := by
  simp only [letS, List.mem_map]
  constructor
  · rintro ⟨k, hk, e⟩
    simp at e
    have := Ty.letter_inj (hv k hk) hn e
    exact this ▸ hk
  · intro h; exact ⟨n, h, rfl⟩

theorem addV_lt (t : Ty) : ∀ vs : List Nat, (∀ n ∈ vs, n < 25) → t.lets → ∀ n ∈ addV vs t, n < 25 := by
  induction t with
  | v k =>
    intro vs hv hk n hn
    simp only [addV] at hn
    split at hn
    · exact hv n hn
    · rcases List.mem_append.1 hn with h | h
      · exact hv n h
      · simp at h; rw [h]; exact hk
  | o => intro vs hv _; exact hv
  | n f l r hl hr => intro vs hv h; exact hr _ (hl vs hv h.1) h.2

theorem SSl.of_own {w : World} {B : Nat} {xs : List (List UInt8)} {A : Option Addr} {c : Nat} (ho : w.ownsRow B 9 1 (.slice A xs.length c) xs.length (xs.map S)) : SSl w A xs := by
  intro j x hj
  have hl := (List.getElem?_eq_some_iff.1 hj).1
  rcases ho.2 with ⟨_, hn⟩ | ⟨g, cap, cur, hv, _⟩
  · omega
  · injection hv with e1 e2 e3
    refine ⟨g, 0, e1, ?_⟩
    have := ho.cells (g := g) (by rw [e1]; rfl) j (S x) (by rw [List.getElem?_map, hj]; rfl)
    rw [addr_add] at this
    exact this

/-- texts in a row of the call's own; of what lies below B nothing turns; what is kept above B lies in K -/
def AddS (B : Nat) (vs : List Nat) (w : World) (v : Value) (e : Ending) (w' : World) : Prop :=
  ∃ A c, e = .returned (.slice A (letS vs).length c) ∧ Fr (fun b => v.ownBlock = some b) w w' ∧ w'.ownsRow B 9 1 (.slice A (letS vs).length c) (letS vs).length ((letS vs).map S) ∧
    ((Value.slice A (letS vs).length c).ownBlock = v.ownBlock ∨ ∀ b, (Value.slice A (letS vs).length c).ownBlock = some b → w.heap.size ≤ b)

/-- The model's tree k lies away from the row. -/
def SvSaid (t : Ty) : Prop := ∀ (w : World) (A : Option Addr) (c : Nat) (T : Nat → Prop) (B : Nat) (V : Option Addr) (vc : Nat) (vs : List Nat), (∀ n ∈ vs, n < 25) → vs.length + t.size ≤ 1000 → B ≤ w.heap.size →
  (∀ b, T b → b < w.heap.size ∧ (Value.slice V (letS vs).length vc).ownBlock ≠ some b) → Sl w T A t.kids → w.ownsRow B 9 1 (.slice V (letS vs).length vc) (letS vs).length ((letS vs).map S) →
  Calls Try.prog 64 #[.agg #[S t.atom, .slice A t.kids.len c], .slice V (letS vs).length vc] w fun e w' => AddS B (addV vs t) w (.slice V (letS vs).length vc) e w'

theorem info_str : (Try.prog.info? 9).map (fun i => (i.zero, i.size, i.bytes)) = some (some (.string ⟨#[]⟩), 1, 16) := by kernel_rfl
end Go.Proofs.Ytfajneodponbmaa
