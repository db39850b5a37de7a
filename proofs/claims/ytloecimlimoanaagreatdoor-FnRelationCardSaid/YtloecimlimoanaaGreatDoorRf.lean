/- A range over a function: the statement, and one round, where a round may be told what lies in memory. · A range over a method value; regions that draw, inside of a round. -/
import Derived.RangeFuncNested
import Derived.RangeFuncBound
import Derived.RangeFuncCalls
import Derived.RangeFuncLeaves
import Derived.Shelf.Abstract
import Derived.Shelf.RegionOpen
import Derived.WalkKit
import Derived.OwnWalkIn
import Derived.TacticsInMore
import Derived.LoopNIn
import Derived.LoopIn
import Derived.Sort.LoopGhostIn
import Derived.Test.YtloecimlimoanaaGreatDoorPre
import Derived.OrdersHeld
import Derived.Deep.RegionHeld3
import Derived.Deep.AppendLies
/- A range over a function: the statement, and one round, where a round may be told what lies in memory. -/
namespace Go.Proofs.YtloecimlimoanaaGreatDoor
open Go.RowKit Go.ChangeMaps Go.Shelf

section
variable {P : Program} {F : Fence} {n : Nat}

/-- the record of a loop -/
abbrev LR (fn : FuncId) (tm : Array Value) (ps : Array Tmp) (assign body : Code) (D : Nat) (st : LoopState) (pe : Option Code) : Loop :=
  { state := st, pending := pe, fn := fn, tmps := tm, params := ps, assign := assign, body := body, defers := D }

/-- the frame behind the loop's start -/
abbrev LA (a : Act) (D : Nat) : Act := { a with defers := { target := .collected D, args := #[] } :: a.defers }

theorem rf_stmt {g : Operand} {ps : Array Tmp} {assign body : Code} {Q : Exit → Act → World → Prop} {a : Act} {w : World} (hro : F.round = none) (h1 : 1 ≤ n) {gf : Nat} {lb : Array Value} (hg : a.eval g = .func (.func gf) #[] lb) (hFg : F.fn gf) (eg : ∀ args w, (callFunc gf args).run P w = .ok (.enter gf args) w)
    (h : ∀ (fn : FuncId) (D : Nat) (rec : LoopState → Option Code → Loop), F.fn fn → D = w.heap.size → rec = (fun st pe => LR fn a.tmps ps assign body D st pe) → ∀ W1, W1 = (w.alloc (.deferred (some []))).alloc (.loop (rec .ready none)) →
      CallsIn F (n - 1) P gf (#[.func (.yield (D + 1)) #[] #[]] ++ lb) W1 fun e W2 => (∃ v, e = .returned v) ∧ ∃ st jump, st ≠ .busy ∧ W2.heap[D + 1]? = some (.loop (rec st jump)) ∧
        (match jump with
          | none => Q .normal (LA a D) (W2.putObj (D + 1) (.loop (rec .exhausted jump)))
          | some c => c.wpIn F n P Q (LA a D) (W2.putObj (D + 1) (.loop (rec .exhausted jump))))) :
    (Code.rangeFunc g ps assign body).wpIn F n P Q a w := by
  refine wpIn_rangeFunc ?_
  intro fn hfn
  rw [hro]
  obtain ⟨W1, hW1⟩ : ∃ W1, W1 = (w.alloc (.deferred (some []))).alloc (.loop (LR fn a.tmps ps assign body w.heap.size .ready none)) := ⟨_, rfl⟩
  refine ⟨w.heap.size + 1, [{ target := .collected w.heap.size, args := #[] }], W1, { target := .fn (.func gf) lb, args := #[.func (.yield (w.heap.size + 1)) #[] #[]] }, W1, gf, #[.func (.yield (w.heap.size + 1)) #[] #[]] ++ lb, W1, ?_, ?_, ?_, ?_, fun _ => h1, ?_⟩
  · rw [hW1]; exact run_enterLoop_outer _ _ _ _ _
  · simp only [resolve, hg]
    simp [go_sem]
  · intro f' hf'
    simp [Target.leads] at hf'
    exact hf' ▸ hFg
  · simp [invoke, go_sem, eg]
  · refine CallsIn.mono (h fn w.heap.size _ hfn rfl rfl W1 hW1) ?_
    rintro e W2 ⟨⟨v, rfl⟩, st, jump, hb, hl, hq⟩
    refine ⟨jump, _, run_endLoop hl hb, ?_⟩
    cases jump with
    | none => exact hq
    | some c => exact hq

theorem rf_round {ps : Array Tmp} {assign body : Code} {W : World} {l D : Nat} {fn : FuncId} {tm args : Array Value} {R : Ending → World → Prop} {rec : LoopState → Option Code → Loop} (hrec : rec = fun st pe => LR fn tm ps assign body D st pe) (hfn : F.fn fn) (hl : W.heap[l]? = some (.loop (rec .ready none))) (hs : args.size = ps.size)
    (h : assign.wpIn (F.inRound l) n P (Exit.then (fun a₁ w₁ => ∃ w₂, (Instr.beginRound l).run P w₁ = .ok () w₂ ∧ body.wpIn (F.inRound l) n P (roundPost P l R) a₁ w₂) (fun _ _ _ => False)) { tmps := (ps.zip args).foldl (fun t (p, v) => t.setIfInBounds p v) tm, defers := [] } W) :
    YieldAt F n P l args W R := by
  subst hrec
  exact ⟨fn, _, assign, body, run_yield hl hs, roundIn_of_wpIn hfn h⟩

theorem rf_begin {ps : Array Tmp} {assign body : Code} {W : World} {l D : Nat} {fn : FuncId} {tm : Array Value} {rec : LoopState → Option Code → Loop} (hrec : rec = fun st pe => LR fn tm ps assign body D st pe) (hl : W.heap[l]? = some (.loop (rec .ready none))) :
    (Instr.beginRound l).run P W = .ok () (W.putObj l (.loop (rec .busy none))) := by
  subst hrec
  exact run_beginRound hl rfl

theorem rf_end {ps : Array Tmp} {assign body : Code} {W : World} {l D : Nat} {fn : FuncId} {tm : Array Value} {rec : LoopState → Option Code → Loop} (hrec : rec = fun st pe => LR fn tm ps assign body D st pe) (jump : Option Code) (hl : W.heap[l]? = some (.loop (rec .busy none))) :
    (Instr.endRound l jump).run P W = .ok (.bool jump.isNone) (W.putObj l (.loop (rec (if jump.isNone then .ready else .done) jump))) := by
  subst hrec
  exact run_endRound jump hl
end
end Go.Proofs.YtloecimlimoanaaGreatDoor

/- A range over a method value; regions that draw, inside of a round. -/
namespace Go.Proofs.YtloecimlimoanaaGreatDoor
open Go.RowKit Go.ChangeMaps Go.Shelf

section
variable {P : Program} {F : Fence} {n : Nat}

theorem rf_stmt1 {g : Operand} {ps : Array Tmp} {assign body : Code} {Q : Exit → Act → World → Prop} {a : Act} {w : World} (hro : F.round = none) (h1 : 1 ≤ n) {gf : Nat} {fa : Array Value} (hg : a.eval g = .func (.func gf) fa #[]) (hFg : F.fn gf) (eg : ∀ args w, (callFunc gf args).run P w = .ok (.enter gf args) w)
    (h : ∀ (fn : FuncId) (D : Nat) (rec : LoopState → Option Code → Loop), F.fn fn → D = w.heap.size → rec = (fun st pe => LR fn a.tmps ps assign body D st pe) → ∀ W1, W1 = (w.alloc (.deferred (some []))).alloc (.loop (rec .ready none)) →
      CallsIn F (n - 1) P gf (fa ++ #[.func (.yield (D + 1)) #[] #[]]) W1 fun e W2 => (∃ v, e = .returned v) ∧ ∃ st jump, st ≠ .busy ∧ W2.heap[D + 1]? = some (.loop (rec st jump)) ∧
        (match jump with
          | none => Q .normal (LA a D) (W2.putObj (D + 1) (.loop (rec .exhausted jump)))
          | some c => c.wpIn F n P Q (LA a D) (W2.putObj (D + 1) (.loop (rec .exhausted jump))))) :
    (Code.rangeFunc g ps assign body).wpIn F n P Q a w := by
  refine wpIn_rangeFunc ?_
  intro fn hfn
  rw [hro]
  obtain ⟨W1, hW1⟩ : ∃ W1, W1 = (w.alloc (.deferred (some []))).alloc (.loop (LR fn a.tmps ps assign body w.heap.size .ready none)) := ⟨_, rfl⟩
  refine ⟨w.heap.size + 1, [{ target := .collected w.heap.size, args := #[] }], W1, { target := .fn (.func gf) #[], args := fa ++ #[.func (.yield (w.heap.size + 1)) #[] #[]] }, W1, gf, fa ++ #[.func (.yield (w.heap.size + 1)) #[] #[]], W1, ?_, ?_, ?_, ?_, fun _ => h1, ?_⟩
  · rw [hW1]; exact run_enterLoop_outer _ _ _ _ _
  · simp only [resolve, hg]
    simp [go_sem]
  · intro f' hf'
    simp [Target.leads] at hf'
    exact hf' ▸ hFg
  · simp [invoke, go_sem, eg]
  · refine CallsIn.mono (h fn w.heap.size _ hfn rfl rfl W1 hW1) ?_
    rintro e W2 ⟨⟨v, rfl⟩, st, jump, hb, hl, hq⟩
    refine ⟨jump, _, run_endLoop hl hb, ?_⟩
    cases jump with
    | none => exact hq
    | some c => exact hq
end

/-! Regions that draw, inside of a round of the wide fence. -/
section
variable {P : Program} {n l : Nat} {ops : Array Oper} {Q : Exit → Act → World → Prop} {md : Region.Mode}

theorem rows_wide {row : String} {args : Array Value} {w : World} {R : Value → World → Prop} (h : Rows P row args w R) : RowsIn (Fence.wide.inRound l) n P row args w R := fun c cs _ => by
  obtain ⟨v, w', r, s⟩ := h c cs
  exact ⟨v, w', r, stepsIn_wide.2 s⟩

theorem calls_wide {f : FuncId} {args : Array Value} {w : World} {R : Ending → World → Prop} (h : Calls P f args w R) : CallsIn (Fence.wide.inRound l) n P f args w R := CallsIn.inRound l (callsIn_wide.2 h)

theorem oper_in {o : Oper} {a : Act} {w : World} {K : Act → World → Prop} (hd : ∀ c, o.op ≠ .defer c) (h : o.wp P a w K Q) : o.wpIn (Fence.wide.inRound l) n P a w K Q := by
  refine ⟨fun _ _ => trivial, ?_⟩
  have e : o.semAt (some l) a.eval = execOp a.eval o := by
    unfold Oper.semAt
    split
    · rename_i hop; exact (hd _ hop).elim
    · rfl
  show o.uponIn (Fence.wide.inRound l) n P a K Q ((o.semAt (some l) a.eval).run P w)
  rw [e]
  unfold Oper.wp at h
  generalize (execOp a.eval o).run P w = r at h ⊢
  cases r with
  | ok x w' =>
    cases x with
    | value v => exact h
    | skip => exact h
    | «defer» d => exact h
    | enter f args => exact ⟨fun hh => (by cases hh), calls_wide h⟩
    | row r args => exact ⟨fun hh => (by cases hh), rows_wide h⟩
    | _ => exact h.elim
  | halt x w' =>
    cases x <;> first | exact h | exact h.elim

theorem wpOpIn_of {i : Nat} {K : Act → World → Prop} {a : Act} {w : World} (hd : ∀ o ∈ ops, ∀ c, o.op ≠ .defer c) (hL : ¬ LetsOut Q) (h : wpOp P ops Q i K a w) : wpOpIn (Fence.wide.inRound l) n P ops Q i K a w := by
  unfold wpOp at h
  unfold wpOpIn
  split
  · simpa [*] using h
  · rename_i o ho
    simp only [ho] at h
    have ho' : o ∈ ops := Array.mem_of_getElem? ho
    split
    · rename_i hw
      rw [if_pos hw] at h
      rcases h with h | ⟨_, h⟩
      · exact oper_in (hd o ho') h
      · exact (hL h).elim
    · rename_i hw
      rw [if_neg hw] at h
      exact ⟨fun _ _ => trivial, h⟩

theorem wpAnyIn_of (hd : ∀ o ∈ ops, ∀ c, o.op ≠ .defer c) (hL : ¬ LetsOut Q) : ∀ (fuel : Nat) (listed : Array Bool) (a : Act) (w : World), wpAny P md ops Q fuel listed a w → wpAnyIn (Fence.wide.inRound l) n P md ops Q fuel listed a w := by
  intro fuel
  induction fuel with
  | zero => intro listed a w h; exact h
  | succ fuel ih =>
    intro listed a w h
    exact ⟨h.1, fun i hi => wpOpIn_mono (fun a w h => ih _ a w h) (wpOpIn_of hd hL (h.2 i hi))⟩

/-- no deferred call among the operations -/
def noDefer (ops : Array Oper) : Bool := ops.all fun o => match o.op with | .defer _ => false | _ => true

theorem noDefer_all (h : noDefer ops = true) : ∀ o ∈ ops, ∀ c, o.op ≠ .defer c := by
  intro o ho c e
  unfold noDefer at h
  rw [Array.all_eq_true_iff_forall_mem] at h
  have := h o ho
  rw [e] at this
  cases this

theorem wpIn_region_heldR {id : Nat} {a : Act} {w : World} {S : World → Prop} (hm : P.follows .mixedOrders = true) (hd : noDefer ops = true) (hL : ¬ LetsOut Q) (hS : S w.drew)
    (h : S w.drew → wpAnyH P .any ops Q S ops.size (Array.replicate ops.size false) a w.drew) : (Code.region id ops true).wpIn (Fence.wide.inRound l) n P Q a w :=
  wpIn_region_any hm (wpAnyIn_of (noDefer_all hd) hL _ _ _ _ (wpAny_of_held _ _ _ _ (h hS)))
end
end Go.Proofs.YtloecimlimoanaaGreatDoor
