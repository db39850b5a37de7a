/- A range over a function: the statement, and one round, where a round may be told what lies in memory. -/
import Derived.RangeFuncNested
import Derived.RangeFuncBound
import Derived.RangeFuncCalls
import Derived.RangeFuncLeaves
import Derived.Shelf.Abstract
import Derived.Shelf.RegionOpen
import Derived.WalkKit
import Derived.OwnWalkIn
import Derived.TacticsInMore
import Derived.LoopNIn
import Derived.LoopIn
import Derived.Sort.LoopGhostIn
import Derived.Test.YtkofjodadcchhaaDoorPre
namespace Go.Proofs.YtkofjodadcchhaaDoor
open Go.RowKit Go.ChangeMaps Go.Shelf

section
variable {P : Program} {F : Fence} {n : Nat}

/-- the record of a loop -/
abbrev LR (fn : FuncId) (tm : Array Value) (ps : Array Tmp) (assign body : Code) (D : Nat) (st : LoopState) (pe : Option Code) : Loop :=
  { state := st, pending := pe, fn := fn, tmps := tm, params := ps, assign := assign, body := body, defers := D }

/-- the frame behind the loop's start -/
abbrev LA (a : Act) (D : Nat) : Act := { a with defers := { target := .collected D, args := #[] } :: a.defers }

theorem rf_stmt {g : Operand} {ps : Array Tmp} {assign body : Code} {Q : Exit → Act → World → Prop} {a : Act} {w : World} (hro : F.round = none) (h1 : 1 ≤ n) {gf : Nat} {lb : Array Value} (hg : a.eval g = .func (.func gf) #[] lb) (hFg : F.fn gf) (eg : ∀ args w, (callFunc gf args).run P w = .ok (.enter gf args) w)
    (h : ∀ (fn : FuncId) (D : Nat) (rec : LoopState → Option Code → Loop), F.fn fn → D = w.heap.size → rec = (fun st pe => LR fn a.tmps ps assign body D st pe) → ∀ W1, W1 = (w.alloc (.deferred (some []))).alloc (.loop (rec .ready none)) →
      CallsIn F (n - 1) P gf (#[.func (.yield (D + 1)) #[] #[]] ++ lb) W1 fun e W2 => (∃ v, e = .returned v) ∧ ∃ st jump, st ≠ .busy ∧ W2.heap[D + 1]? = some (.loop (rec st jump)) ∧
        (match jump with
          | none => Q .normal (LA a D) (W2.putObj (D + 1) (.loop (rec .exhausted jump)))
          | some c => c.wpIn F n P Q (LA a D) (W2.putObj (D + 1) (.loop (rec .exhausted jump))))) :
    (Code.rangeFunc g ps assign body).wpIn F n P Q a w := by
  refine wpIn_rangeFunc ?_
  intro fn hfn
  rw [hro]
  obtain ⟨W1, hW1⟩ : ∃ W1, W1 = (w.alloc (.deferred (some []))).alloc (.loop (LR fn a.tmps ps assign body w.heap.size .ready none)) := ⟨_, rfl⟩
  refine ⟨w.heap.size + 1, [{ target := .collected w.heap.size, args := #[] }], W1, { target := .fn (.func gf) lb, args := #[.func (.yield (w.heap.size + 1)) #[] #[]] }, W1, gf, #[.func (.yield (w.heap.size + 1)) #[] #[]] ++ lb, W1, ?_, ?_, ?_, ?_, fun _ => h1, ?_⟩
  · rw [hW1]; exact run_enterLoop_outer _ _ _ _ _
  · simp only [resolve, hg]
    simp [go_sem]
  · intro f' hf'
    simp [Target.leads] at hf'
    exact hf' ▸ hFg
  · simp [invoke, go_sem, eg]
  · refine CallsIn.mono (h fn w.heap.size _ hfn rfl rfl W1 hW1) ?_
    rintro e W2 ⟨⟨v, rfl⟩, st, jump, hb, hl, hq⟩
    refine ⟨jump, _, run_endLoop hl hb, ?_⟩
    cases jump with
    | none => exact hq
    | some c => exact hq

theorem rf_round {ps : Array Tmp} {assign body : Code} {W : World} {l D : Nat} {fn : FuncId} {tm args : Array Value} {R : Ending → World → Prop} {rec : LoopState → Option Code → Loop} (hrec : rec = fun st pe => LR fn tm ps assign body D st pe) (hfn : F.fn fn) (hl : W.heap[l]? = some (.loop (rec .ready none))) (hs : args.size = ps.size)
    (h : assign.wpIn (F.inRound l) n P (Exit.then (fun a₁ w₁ => ∃ w₂, (Instr.beginRound l).run P w₁ = .ok () w₂ ∧ body.wpIn (F.inRound l) n P (roundPost P l R) a₁ w₂) (fun _ _ _ => False)) { tmps := (ps.zip args).foldl (fun t (p, v) => t.setIfInBounds p v) tm, defers := [] } W) :
    YieldAt F n P l args W R := by
  subst hrec
  exact ⟨fn, _, assign, body, run_yield hl hs, roundIn_of_wpIn hfn h⟩

theorem rf_begin {ps : Array Tmp} {assign body : Code} {W : World} {l D : Nat} {fn : FuncId} {tm : Array Value} {rec : LoopState → Option Code → Loop} (hrec : rec = fun st pe => LR fn tm ps assign body D st pe) (hl : W.heap[l]? = some (.loop (rec .ready none))) :
    (Instr.beginRound l).run P W = .ok () (W.putObj l (.loop (rec .busy none))) := by
  subst hrec
  exact run_beginRound hl rfl

theorem rf_end {ps : Array Tmp} {assign body : Code} {W : World} {l D : Nat} {fn : FuncId} {tm : Array Value} {rec : LoopState → Option Code → Loop} (hrec : rec = fun st pe => LR fn tm ps assign body D st pe) (jump : Option Code) (hl : W.heap[l]? = some (.loop (rec .busy none))) :
    (Instr.endRound l jump).run P W = .ok (.bool jump.isNone) (W.putObj l (.loop (rec (if jump.isNone then .ready else .done) jump))) := by
  subst hrec
  exact run_endRound jump hl
end
end Go.Proofs.YtkofjodadcchhaaDoor
