/- A term whose parts a function makes (withParts), for each of the three functions. · Terms put under depths: deepen, putBound, putTerm of the program. · putBound and putTerm of the program. · putTerm of the program. -/
import Derived.Test.YtbcgpcnbfaipbaaDoorTcanon
import Derived.Test.YtbcgpcnbfaipbaaDoorTrn
import Derived.Deep.RegionHeld3
import Derived.Test.YtbcgpcnbfaipbaaDoorTfree
import Derived.Test.YtbcgpcnbfaipbaaDoorTuse
import Derived.Deep.QuietTactic
import Derived.BigQuiet
/- A term whose parts a function makes (withParts), for each of the three functions. -/
namespace Go.Proofs.YtbcgpcnbfaipbaaDoor
open Go.RowKit Go.ChangeMaps

def TsP (T : Nat → Prop) (t : Ts) (w : World) (e : Ending) (w' : World) : Prop := ∃ p, e = .returned (Ptr p) ∧ Fr No w w' ∧ TEl w' (TN T w w') t [Ptr p]

theorem apart_no {w : World} {T : Nat → Prop} (hT : ∀ b, T b → b < w.heap.size) : Apart2 w No T := ⟨fun _ h => h.elim, fun b hb => ⟨hT b hb, fun h => h⟩⟩

end Go.Proofs.YtbcgpcnbfaipbaaDoor

/- Terms put under depths: deepen, putBound, putTerm of the program. -/
namespace Go.Proofs.YtbcgpcnbfaipbaaDoor
open Go.RowKit Go.ChangeMaps

/-- depths of bound names are small -/
def Dle (D : Nat) : Ts → Prop
  | .nil => True
  | .cons h a d k r => (h = hName → a = [] → d ≤ D) ∧ Dle D k ∧ Dle D r

theorem Dle.nth {D : Nat} : ∀ {t : Ts} {j : Nat} {h a : List UInt8} {d : Nat} {k : Ts}, Dle D t → t.nth j = some (h, a, d, k) → (h = hName → a = [] → d ≤ D) ∧ Dle D k
  | .nil, _, _, _, _, _, _, e => by cases e
  | .cons _ _ _ _ _, 0, _, _, _, _, hd, e => by
    simp only [Ts.nth, Option.some.injEq, Prod.mk.injEq] at e
    obtain ⟨rfl, rfl, rfl, rfl⟩ := e
    exact ⟨hd.1, hd.2.1⟩
  | .cons _ _ _ _ _, _ + 1, _, _, _, _, hd, e => Dle.nth hd.2.2 e

theorem WfT.nth : ∀ {t : Ts} {j : Nat} {h a : List UInt8} {d : Nat} {k : Ts}, WfT t → t.nth j = some (h, a, d, k) → WfT (.cons h a d k .nil)
  | .nil, _, _, _, _, _, _, e => by cases e
  | .cons _ _ _ _ _, 0, _, _, _, _, hd, e => by
    simp only [Ts.nth, Option.some.injEq, Prod.mk.injEq] at e
    obtain ⟨rfl, rfl, rfl, rfl⟩ := e
    exact ⟨hd.1, hd.2.1, hd.2.2.1, trivial⟩
  | .cons _ _ _ _ _, _ + 1, _, _, _, _, hd, e => WfT.nth hd.2.2.2 e

theorem boundB_iff {h a : List UInt8} : boundB h a = true ↔ h = hName ∧ a = [] := by
  simp [boundB]

theorem node_rn (h a : List UInt8) (d : Nat) (k g : Ts) (hg : k.len = 0 → g = k) : (if k.len = 0 then Ts.cons h a d k .nil else Ts.cons h a 0 g .nil) = Ts.cons h a (rnD d k) g .nil := by
  unfold rnD
  by_cases h0 : k.len = 0
  · rw [if_pos h0, if_pos h0, hg h0]
  · rw [if_neg h0, if_neg h0]

theorem TsP.of {T : Nat → Prop} {t t' : Ts} {w : World} {e : Ending} {w' : World} (h : TsP T t w e w') (ht : t = t') : TsP T t' w e w' := ht ▸ h

theorem dpK_cons (m : Nat) (h a : List UInt8) (d : Nat) (k r : Ts) (o : Nat) (p : List UInt8) (i : Nat) : dpK m (.cons h a d k r) o p i = (dpK m (.cons h a d k .nil) (o + bndN p i) [] 0).app (dpK m r o p (i + 1)) := by
  simp only [dpK, bnd_nil, Nat.add_zero]
  split <;> rfl

theorem pbK_cons (b : Ts) (h a : List UInt8) (d : Nat) (k r : Ts) (o : Nat) (p : List UInt8) (i : Nat) : pbK b (.cons h a d k r) o p i = (pbK b (.cons h a d k .nil) (o + bndN p i) [] 0).app (pbK b r o p (i + 1)) := by
  simp only [pbK, bnd_nil, Nat.add_zero]
  split
  · rw [Ts.app_nil]
  · split <;> rfl

theorem ptT_cons (x hb ab : List UInt8) (db : Nat) (kb : Ts) (h a : List UInt8) (d : Nat) (k r : Ts) : ptT x hb ab db kb (.cons h a d k r) = (ptT x hb ab db kb (.cons h a d k .nil)).app (ptT x hb ab db kb r) := by
  simp only [ptT]
  split <;> rfl

theorem pb_size_le (b : Ts) (hwb : WfT b) (hb : 1 ≤ b.size) : ∀ (t : Ts) (o : Nat) (p : List UInt8) (i : Nat), (pbK b t o p i).size ≤ t.size * b.size
  | .nil, _, _, _ => by simp [pbK, Ts.size]
  | .cons h a d k r, o, p, i => by
    have h1 := pb_size_le b hwb hb k (o + bndN p i) h 0
    have h2 := pb_size_le b hwb hb r o p (i + 1)
    have e : (if bindsB h then 2 else 1) ≤ (if bindsB h then 2 else 1) * b.size := Nat.le_mul_of_pos_right _ hb
    have e1 : 1 ≤ (if bindsB h then 2 else 1) := by split <;> omega
    have e2 : b.size ≤ (if bindsB h then 2 else 1) * b.size := Nat.le_mul_of_pos_left _ e1
    simp only [pbK, Ts.size, Nat.add_mul]
    split
    · rw [app_size, dp_size _ _ _ _ _ hwb]; omega
    · split
      · have : bindsB hName = false := by decide
        simp only [Ts.size, this, Bool.false_eq_true, if_false]
        omega
      · simp only [Ts.size]; omega

/- deepen -/

end Go.Proofs.YtbcgpcnbfaipbaaDoor

/- putBound and putTerm of the program. -/
namespace Go.Proofs.YtbcgpcnbfaipbaaDoor
open Go.RowKit Go.ChangeMaps

/-- what is put: a term in memory -/
structure ByT (w : World) (T : Nat → Prop) (pb : Nat) (hb ab : List UInt8) (db : Nat) (kb : Ts) : Prop where
  tm : Tm w T pb hb ab db kb
  wf : WfT (.cons hb ab db kb .nil)
  dl : Dle 10000 (.cons hb ab db kb .nil)
  sz : kb.size + 2 ≤ 310

theorem ByT.fr {w w' : World} {T : Nat → Prop} {pb : Nat} {hb ab : List UInt8} {db : Nat} {kb : Ts} (h : ByT w T pb hb ab db kb) (hT : ∀ b, T b → b < w.heap.size) (hf : Fr No w w') : ByT w' T pb hb ab db kb :=
  ⟨h.tm.mono (fun _ h => h) (fun b hb => hf.block b (hT b hb) (fun h => h)), h.wf, h.dl, h.sz⟩

theorem ByT.size {w : World} {T : Nat → Prop} {pb : Nat} {hb ab : List UInt8} {db : Nat} {kb : Ts} (h : ByT w T pb hb ab db kb) : 1 ≤ (Ts.cons hb ab db kb .nil).size ∧ (Ts.cons hb ab db kb .nil).size ≤ 310 := by
  have := h.sz
  simp only [Ts.size]
  split <;> omega

end Go.Proofs.YtbcgpcnbfaipbaaDoor

/- putTerm of the program. -/
namespace Go.Proofs.YtbcgpcnbfaipbaaDoor
open Go.RowKit Go.ChangeMaps

theorem pt_size_le (x hb ab : List UInt8) (db : Nat) (kb : Ts) (z : Nat) (hz : (if bindsB hb then 2 else 1) + kb.size ≤ z) (h1z : 1 ≤ z) : ∀ t : Ts, (ptT x hb ab db kb t).size ≤ t.size * z
  | .nil => by simp [ptT, Ts.size]
  | .cons h a d k r => by
    have h1 := pt_size_le x hb ab db kb z hz h1z k
    have h2 := pt_size_le x hb ab db kb z hz h1z r
    have e1 : 1 ≤ (if bindsB h then 2 else 1) := by split <;> omega
    have e : (if bindsB h then 2 else 1) ≤ (if bindsB h then 2 else 1) * z := Nat.le_mul_of_pos_right _ h1z
    have e2 : z ≤ (if bindsB h then 2 else 1) * z := Nat.le_mul_of_pos_left _ e1
    simp only [ptT, Ts.size, Nat.add_mul]
    split
    · simp only [Ts.size]; omega
    · simp only [Ts.size]; omega

end Go.Proofs.YtbcgpcnbfaipbaaDoor
