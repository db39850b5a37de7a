/- Sets of types in memory; powers; the set of a compound type. -/
import Derived.Test.YtmpadnnpmbgdcaaMdl
import Derived.Test.YtmpadnnpmbgdcaaMapv
import Derived.Deep.RegionHeld3
namespace Go.Proofs.Ytmpadnnpmbgdcaa
open Go.RowKit Go.ChangeMaps

/-- the count, if it is known: of small types -/
def Ty.kn (μ : Nat → Option Nat) (t : Ty) : Option Nat := if t.size ≤ 400 then t.cnt μ else none

theorem Ty.kn_n {μ : Nat → Option Nat} {f : Bool} {l r : Ty} {c : Nat} (h : (Ty.n f l r).kn μ = some c) : ∃ a b, l.kn μ = some a ∧ r.kn μ = some b ∧ c = (if f then b ^ a else a * b) ∧ c ≤ 4096 ∧ l.size + r.size + 1 ≤ 400 := by
  unfold Ty.kn at h
  split at h
  · rename_i hs
    simp only [Ty.size] at hs
    obtain ⟨a, b, h1, h2, h3, h4⟩ := Ty.cnt_n h
    exact ⟨a, b, by unfold Ty.kn; rw [if_pos (by omega)]; exact h1, by unfold Ty.kn; rw [if_pos (by omega)]; exact h2, h3, h4, by omega⟩
  · cases h

theorem Ty.kn_of {μ : Nat → Option Nat} {f : Bool} {l r : Ty} {a b : Nat} (h1 : l.kn μ = some a) (h2 : r.kn μ = some b) : (Ty.n f l r).kn μ = if 1 + l.size + r.size ≤ 400 then cap (if f then b ^ a else a * b) else none := by
  unfold Ty.kn at h1 h2 ⊢
  split at h1
  · split at h2
    · simp only [Ty.size, Ty.cnt, h1, h2]
    · cases h2
  · cases h1

theorem Ty.kn_size {μ : Nat → Option Nat} {t : Ty} {a : Nat} (h : t.kn μ = some a) : t.size ≤ 400 := by
  unfold Ty.kn at h
  split at h
  · assumption
  · cases h

theorem Ty.kn_none {μ : Nat → Option Nat} {f : Bool} {l r : Ty} (h : l.kn μ = none ∨ r.kn μ = none) : (Ty.n f l r).kn μ = none := by
  rcases hk : (Ty.n f l r).kn μ with _ | c
  · rfl
  · obtain ⟨a, b, h1, h2, _⟩ := Ty.kn_n hk
    rcases h with h | h
    · rw [h] at h1; cases h1
    · rw [h] at h2; cases h2

theorem Ty.kn_bounds {μ : Nat → Option Nat} (hμ : Sizes μ) {t : Ty} {c : Nat} (h : t.kn μ = some c) : 1 ≤ c ∧ c ≤ 4096 := by
  unfold Ty.kn at h
  split at h
  · exact t.cnt_bounds hμ c h
  · cases h

/-- The value v is the set of a type, or nil if its count is not known. -/
def SetV (w : World) (μ : Nat → Option Nat) : Ty → Value → Prop
  | .n f l r, v => (∃ c g x y, (Ty.n f l r).kn μ = some c ∧ v = Ptr g ∧ Blk w g 78 #[S [Ty.sign f], .int .i64 ((Ty.n f l r).size : Nat), .int .i64 c, x, y] ∧ SetV w μ l x ∧ SetV w μ r y) ∨ ((Ty.n f l r).kn μ = none ∧ v = .pointer none)
  | .v i, v => (∃ c g, (Ty.v i).kn μ = some c ∧ v = Ptr g ∧ Blk w g 78 #[S [], .int .i64 1, .int .i64 c, .pointer none, .pointer none]) ∨ ((Ty.v i).kn μ = none ∧ v = .pointer none)
  | .o, v => ∃ g, v = Ptr g ∧ Blk w g 78 #[S [111], .int .i64 1, .int .i64 2, .pointer none, .pointer none]

/-- sets stay -/
def KeepS (w w' : World) : Prop := ∀ g cs, Blk w g 78 cs → Blk w' g 78 cs

theorem KeepS.fr {w w' : World} {T : Nat → Prop} (hf : Fr T w w') (hT : ∀ b, T b → (∃ es clk, w.heap[b]? = some (.map es clk)) ∨ w.heap.size ≤ b) : KeepS w w' := by
  intro g cs hb
  refine hb.fr hf fun h => ?_
  rcases hT g h with ⟨es, clk, hm⟩ | hl
  · exact hb.ne_map hm rfl
  · have := hb.lt; omega

theorem SetV.keep {w w' : World} {μ : Nat → Option Nat} (hk : KeepS w w') : ∀ {t : Ty} {v : Value}, SetV w μ t v → SetV w' μ t v := by
  intro t
  induction t with
  | v i =>
    rintro v (⟨c, g, h1, h2, h3⟩ | h)
    · exact .inl ⟨c, g, h1, h2, hk _ _ h3⟩
    · exact .inr h
  | o => rintro v ⟨g, h1, h2⟩; exact ⟨g, h1, hk _ _ h2⟩
  | n f l r ihl ihr =>
    rintro v (⟨c, g, x, y, h1, h2, h3, h4, h5⟩ | h)
    · exact .inl ⟨c, g, x, y, h1, h2, hk _ _ h3, ihl h4, ihr h5⟩
    · exact .inr h

/-- what a set that is known bears -/
theorem SetV.some_ {w : World} {μ : Nat → Option Nat} {t : Ty} {v : Value} {c : Nat} (h : SetV w μ t v) (hc : t.kn μ = some c) : ∃ g x y, v = Ptr g ∧ Blk w g 78 #[S (sgn t), .int .i64 (t.size : Nat), .int .i64 c, x, y] := by
  cases t with
  | v i =>
    rcases h with ⟨c', g, h1, h2, h3⟩ | ⟨h1, _⟩
    · rw [hc] at h1; injection h1 with h1; subst h1
      exact ⟨g, _, _, h2, h3⟩
    · rw [hc] at h1; cases h1
  | o =>
    obtain ⟨g, h2, h3⟩ := h
    have : c = 2 := by simp [Ty.kn, Ty.size, Ty.cnt] at hc; exact hc.symm
    subst this
    exact ⟨g, _, _, h2, h3⟩
  | n f l r =>
    rcases h with ⟨c', g, x, y, h1, h2, h3, _⟩ | ⟨h1, _⟩
    · rw [hc] at h1; injection h1 with h1; subst h1
      exact ⟨g, _, _, h2, h3⟩
    · rw [hc] at h1; cases h1

theorem SetV.none_ {w : World} {μ : Nat → Option Nat} {t : Ty} {v : Value} (h : SetV w μ t v) (hc : t.kn μ = none) : v = .pointer none := by
  cases t with
  | v i =>
    rcases h with ⟨c', g, h1, h2, h3⟩ | ⟨_, h⟩
    · rw [hc] at h1; cases h1
    · exact h
  | o => simp [Ty.kn, Ty.size, Ty.cnt] at hc
  | n f l r =>
    rcases h with ⟨c', g, x, y, h1, _⟩ | ⟨_, h⟩
    · rw [hc] at h1; cases h1
    · exact h

/-! Powers. -/
def PowR (b a : Nat) (w : World) (e : Ending) (w' : World) : Prop := ∃ r : Nat, e = .returned (.int .i64 r) ∧ (b ^ a ≤ 4096 → r = b ^ a) ∧ (4096 < b ^ a → 4096 < r) ∧ r ≤ 100000000 ∧ w = w'

set_option maxRecDepth 100000 in
set_option maxHeartbeats 1000000 in
theorem power_any (w : World) (b a : Nat) (hb : 1 ≤ b) (hb2 : b ≤ 4096) (ha : a ≤ 4096) :
    Calls Try.prog 100 #[.int .i64 b, .int .i64 a] w fun e w' => PowR b a w e w' := by
  have hb' : (b : Int) ≤ 4096 := by omega
  have hb0 : (0 : Int) ≤ (b : Int) := by omega
  have ha' : (a : Int) ≤ 4096 := by omega
  go_enter Try.func100, Try.ntmps100
  go_wp2_with fail
  go_loop [5, 7] (fun r u => ∃ j : Nat, j ≤ a ∧ u = .int .i64 j ∧ r = .int .i64 ((b ^ j : Nat) : Int) ∧ b ^ j ≤ 4096) (fun _ u => a - (intOf u).toNat)
  case atStart => exact ⟨0, Nat.zero_le _, rfl, by simp, by simp⟩
  case round =>
    obtain ⟨j, hj, rfl, rfl, hp⟩ := hrel
    by_cases hlt : j < a
    · have hs : b ^ (j + 1) = b ^ j * b := Nat.pow_succ ..
      have hm : b ^ j * b ≤ 4096 * 4096 := Nat.mul_le_mul hp hb2
      have HS : Hid (((b ^ j : Nat) : Int) * (b : Int) = ((b ^ (j + 1) : Nat) : Int)) := by show _ = _; rw [hs]; simp
      have HP1 : Hid (b ^ (j + 1) ≤ 4096 * 4096) := by show _ ≤ _; rw [hs]; exact hm
      have HBIG : Hid (4096 < b ^ (j + 1) → 4096 < b ^ a) := fun h => pow_big hb (by omega) h
      have HQ : Hid (∀ h : b ^ (j + 1) ≤ 4096, b ^ (j + 1) ≤ 4096) := fun h => h
      have hm1 : ((b ^ j : Nat) : Int) * (b : Int) ≤ 16777216 := by rw [HS.out]; have := HP1.out; omega
      have hm0 : 0 ≤ ((b ^ j : Nat) : Int) * (b : Int) := by rw [HS.out]; omega
      clear hs hm
      by_cases hbig : b ^ (j + 1) ≤ 4096
      · have hb1 : ¬ 4096 < ((b ^ j : Nat) : Int) * (b : Int) := by rw [HS.out]; omega
        have HB := Lib.hid hbig
        clear hbig
        generalize hq : b ^ (j + 1) = q at *
        generalize b ^ j = p at *
        have HQE := Lib.hid hq
        clear hq
        go_wp2_with fail
        go_round
        case rel => exact ⟨j + 1, by omega, by go_num, by rw [HS.out, HQE.out], by rw [HQE.out]; exact HB.out⟩
        case measure => simp [intOf]; omega
      · have hb1 : 4096 < ((b ^ j : Nat) : Int) * (b : Int) := by rw [HS.out]; omega
        have HB : Hid (4096 < b ^ (j + 1)) := Nat.lt_of_not_le hbig
        clear hbig
        generalize hq : b ^ (j + 1) = q at *
        generalize b ^ j = p at *
        clear hq
        go_wp2_with fail
        go_ret
        exact ⟨q, by rw [HS.out]; rfl, fun h => absurd (HBIG.out HB.out) (by omega), fun _ => HB.out, by have := HP1.out; omega, rfl⟩
    · have hjl : j = a := by omega
      subst hjl
      go_wp2_with fail
      go_ret
      exact ⟨_, rfl, fun _ => rfl, fun h => by omega, by omega, rfl⟩
end Go.Proofs.Ytmpadnnpmbgdcaa
