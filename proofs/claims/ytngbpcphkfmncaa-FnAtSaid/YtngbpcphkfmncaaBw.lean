/- slices.Backward over integers: the iterator, and its loop. -/
import Derived.Test.YtngbpcphkfmncaaRf
import Derived.Test.YtngbpcphkfmncaaSlz
namespace Go.Proofs.Ytngbpcphkfmncaa
open Go.RowKit Go.ChangeMaps Go.Shelf

attribute [local go_sem] Oper.semAt_some

theorem Fr.putObj {W : World} (l : Nat) (o : Obj) : Fr (fun b => b = l) W (W.putObj l o) := ⟨rfl, rfl, rfl, by simp, fun _ _ h => World.putObj_heap_other h⟩

set_option maxHeartbeats 400000 in
theorem backward_any (w : World) (A : Option Addr) (n c : Nat) : Calls Try.prog 73 #[.slice A n c] w fun e w' => e = .returned (.func (.func 83) #[] #[Ptr w.heap.size]) ∧ w' = w.alloc (.cells #[.slice A n c] 31) := by
  go_enter Try.func73, Try.ntmps73
  go_wp2_with fail
  go_ret
  exact ⟨rfl, rfl⟩

set_option maxRecDepth 100000 in
set_option maxHeartbeats 4000000 in
theorem bw_in (F : Fence) (n : Nat) (hfn : ∀ f, F.fn f) (hro : F.round = none) (hn : 2 ≤ n) (l B : Nat) (S : Nat → Prop) (A : Option Addr) (c : Nat) (lst : List Int) (J : Nat → World → Prop)
    (hJ : ∀ (i : Nat) (z : Int) (W : World), J (i + 1) W → lst[i]? = some z → YieldAt F (n - 1) Try.prog l #[.int .i64 i, .int .i64 z] W fun e W' => e = .returned (.bool true) ∧ J i W' ∧ Fr S W W')
    (w : World) (hlen : lst.length ≤ 100000) (h0 : J lst.length w) (hbox : w.cell? ⟨B, 0, none⟩ = some (.slice A lst.length c)) (hsl : ISl w A lst) (hSB : ¬ S B) (hSA : ∀ g o, A = some ⟨g, o, none⟩ → ¬ S g) :
    CallsIn F n Try.prog 83 #[.func (.yield l) #[] #[], Ptr B] w fun e W' => (∃ v, e = .returned v) ∧ J 0 W' := by
  have HJ := Lib.hid hJ
  have CELLS : Hid (∀ W, Fr S w W → W.cell? ⟨B, 0, none⟩ = some (.slice A lst.length c) ∧ ∀ (j : Nat) (z : Int), lst[j]? = some z → ∃ g o, A = some ⟨g, o, none⟩ ∧ W.cell? ⟨g, o + j, none⟩ = some (.int .i64 z)) := by
    intro W hf
    refine ⟨(hf.cell (p := ⟨B, 0, none⟩) (block_lt hbox) hSB).trans hbox, fun j z hz => ?_⟩
    obtain ⟨g, o, e, hc⟩ := hsl j z hz
    exact ⟨g, o, e, (hf.cell (p := ⟨g, o + j, none⟩) (block_lt hc) (hSA g o e)).trans hc⟩
  have H0 := Lib.hid h0
  have hlI : (lst.length : Int) ≤ 100000 := by omega
  have c0 := (CELLS.out w (Fr.refl _ _)).1
  clear hJ h0 hbox hsl hSB hSA
  refine callsIn_of_wp Try.func83 rfl (hfn _) ?_ hro
  simp only [Try.ntmps83, List.size_toArray, List.length_cons, List.length_nil, Nat.reduceAdd, Nat.reduceSub, Array.replicate_succ, Array.replicate_zero, List.push_toArray, List.append_toArray, List.nil_append, List.cons_append]
  gi_wp2_with fail
  gi_loopg [3] lst.length (fun g u W => g ≤ lst.length ∧ J g W ∧ Fr S w W ∧ ((∃ i : Nat, g = i + 1 ∧ u = .int .i64 i) ∨ (g = 0 ∧ u = .int .i64 (-1))))
  case atStart =>
    refine ⟨Nat.le_refl _, H0.out, Fr.refl _ _, ?_⟩
    rcases hlen : lst.length with _ | i
    · exact .inr ⟨rfl, rfl⟩
    · exact .inl ⟨i, rfl, congrArg (Value.int .i64) (by omega)⟩
  case round =>
    obtain ⟨hg, hj, hfr, ⟨i, rfl, rfl⟩ | ⟨rfl, rfl⟩⟩ := hrel
    · obtain ⟨z, hz⟩ : ∃ z, lst[i]? = some z := ⟨_, List.getElem?_eq_getElem (by omega)⟩
      obtain ⟨cb, hcs⟩ := CELLS.out wr hfr
      obtain ⟨g, o, rfl, hc⟩ := hcs i z hz
      obtain ⟨fn, tmps, assign, body, hy, hR⟩ := HJ.out i z wr hj hz
      have hilt : (i : Int) < (lst.length : Int) := by omega
      have HF := Lib.hid hfr
      have hn' : 1 ≤ n := by omega
      clear hcs hz hj hfr
      gi_wp2_with fail
      refine hR.mono ?_
      rintro e W3 ⟨rfl, h3, hf3⟩
      have HREL : Hid (i ≤ lst.length ∧ J i W3 ∧ Fr S w W3) := ⟨by omega, h3, HF.out.trans hf3⟩
      have HV : Hid ((∃ i' : Nat, i = i' + 1 ∧ Value.int .i64 ((i : Int) - 1) = .int .i64 i') ∨ (i = 0 ∧ Value.int .i64 ((i : Int) - 1) = .int .i64 (-1))) := by
        rcases i with _ | i
        · exact .inr ⟨rfl, rfl⟩
        · exact .inl ⟨i, rfl, congrArg (Value.int .i64) (by omega)⟩
      clear hy hR h3 hf3 c0 cb hc
      gi_wp2_with fail
      go_roundg i
      case measure => omega
      case rel => exact ⟨HREL.out.1, HREL.out.2.1, HREL.out.2.2, HV.out⟩
    · gi_wp2_with fail
      go_end0
      exact ⟨⟨_, rfl⟩, hj⟩
end Go.Proofs.Ytngbpcphkfmncaa
