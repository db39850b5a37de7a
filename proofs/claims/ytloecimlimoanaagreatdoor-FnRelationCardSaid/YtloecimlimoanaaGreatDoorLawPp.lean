/- Types with one variable at most, as the model reads them: l7Type. · Two elements, parametric together, as the model finds it. · ParamPair and ParamIs of the model and of the program. · The laws ParamPair and ParamIs. -/
import Derived.Test.YtloecimlimoanaaGreatDoorSvars
import Derived.Test.YtloecimlimoanaaGreatDoorSpec2
import Derived.Test.YtloecimlimoanaaGreatDoorRdpm
import Derived.Test.YtloecimlimoanaaGreatDoorMrf
import Derived.Test.YtloecimlimoanaaGreatDoorLfi
import Derived.Test.YtloecimlimoanaaGreatDoorWri
/- Types with one variable at most, as the model reads them: l7Type. -/
namespace Go.Proofs.YtloecimlimoanaaGreatDoor
open Go.RowKit Go.ChangeMaps

def T7P (s : List UInt8) (w : World) (e : Ending) (w' : World) : Prop :=
  Fr No w w' ∧ ((∃ (t : Ty) (A : Option Addr) (c : Nat), Ty.Is s t ∧ OnlyA t ∧ e = .returned (.tuple #[.agg #[S t.atom, .slice A t.kids.len c], .bool true]) ∧ Sl w' (fun b => w.heap.size ≤ b ∧ b < w'.heap.size) A t.kids) ∨
    (∃ a A m c, (∀ t, Ty.Is s t → ¬ OnlyA t) ∧ e = .returned (.tuple #[.agg #[S a, .slice A m c], .bool false])))

theorem own_empty7 (w : World) (B : Nat) (h : B ≤ w.heap.size) (o : Obj) (ho : o = .cells #[] 9) : (w.alloc o).ownsRow B 9 1 (.slice (some ⟨w.heap.size, 0, none⟩) 0 0) 0 [] := by
  subst ho
  exact ⟨rfl, .inr ⟨w.heap.size, 0, #[], rfl, h, heap_alloc_new w _, Nat.le_refl _, Nat.zero_le _, rfl, rfl⟩⟩

/-- a row of one string -/
theorem own_one7 {w : World} {B vc : Nat} {V : Option Addr} {x : List UInt8} (h : w.ownsRow B 9 1 (.slice V 1 vc) 1 [S x]) : ∃ g, V = some ⟨g, 0, none⟩ ∧ w.cell? ⟨g, 0, none⟩ = some (S x) ∧ B ≤ g := by
  rcases h.2 with ⟨_, hn⟩ | ⟨g, cap, cur, hv, hB, _⟩
  · cases hn
  · injection hv with e1 e2 e3
    have := h.cells (g := g) (by rw [e1]; rfl) 0 (S x) rfl
    rw [addr_add] at this
    exact ⟨g, e1, this, hB⟩

theorem onlyA_nil {t : Ty} (h : addV [] t = []) : OnlyA t := fun n hn => by rw [h] at hn; cases hn
theorem onlyA_one {t : Ty} {i : Nat} (h : addV [] t = [i]) : OnlyA t ↔ i = 0 := by
  unfold OnlyA
  rw [h]
  simp
theorem onlyA_more {t : Ty} (h : 2 ≤ (addV [] t).length) : ¬ OnlyA t := by
  intro ho
  have hnd := addV_nodup t [] List.nodup_nil
  unfold OnlyA at ho
  generalize addV [] t = vs at *
  match vs, h, hnd, ho with
  | a :: b :: r, _, hnd, ho =>
    have h1 := ho a (by simp)
    have h2 := ho b (by simp)
    subst h1
    rw [List.nodup_cons] at hnd
    exact hnd.1 (by rw [h2]; simp)

set_option maxRecDepth 100000 in
set_option maxHeartbeats 4000000 in
theorem type7_any (w : World) (s : List UInt8) (hss : s.length ≤ maxLen) :
    Calls Tryz.prog 38 #[S s] w fun e w' => T7P s w e w' := by
  have br := Blk.new w 46 #[S [], .slice none 0 0]
  have hfr0 : Fr No w (w.alloc (.cells #[S [], .slice none 0 0] 46)) := (Fr.refl _ _).alloc _
  go_enter Tryz.func38, Tryz.ntmps38
  go_wp2_with fail
  generalize hw0 : w.alloc (.cells #[S [], .slice none 0 0] 46) = w0 at *
  clear hw0
  refine (type_any s _ hss).mono ?_
  rintro e w1 ⟨hf1, hor⟩
  have HR : Hid (∀ w', Fr No w1 w' → w'.cell? ⟨w.heap.size, 0, none⟩ = some (S []) ∧ w'.cell? ⟨w.heap.size, 1, none⟩ = some (.slice none 0 0) ∧ w'.frozen? ⟨w.heap.size, 0, none⟩ = false ∧ w'.frozen? ⟨w.heap.size, 1, none⟩ = false ∧ w.heap.size < w'.heap.size) := by
    intro w' hf
    have b := br.fr (hf1.trans hf) (fun h => h)
    exact ⟨(b.cell 0).trans rfl, (b.cell 1).trans rfl, b.frozen 0, b.frozen 1, b.lt⟩
  have HF1 := Lib.hid (hfr0.trans hf1)
  have hwl : w.heap.size < w1.heap.size := (HR.out w1 (Fr.refl _ _)).2.2.2.2
  clear hfr0
  have RES : Hid (∀ w' v0 v1, Fr No w1 w' → Fr No w ((w'.setCell ⟨w.heap.size, 0, none⟩ v0).setCell ⟨w.heap.size, 1, none⟩ v1)) := fun w' v0 v1 hf =>
    ((HF1.out.trans hf).setCell (p := ⟨w.heap.size, 0, none⟩) (.inr (Nat.le_refl _)) _).setCell (p := ⟨w.heap.size, 1, none⟩) (.inr (Nat.le_refl _)) _
  rcases hor with ⟨t, At, ct, hi, rfl, hsl⟩ | ⟨a0, At, mt, ct, hno, rfl⟩
  · have HB : Hid (∀ w', Fr No (w1.alloc (.cells #[S t.atom, .slice At t.kids.len ct] 46)) w' → w'.cell? ⟨w1.heap.size, 0, none⟩ = some (S t.atom) ∧ w'.cell? ⟨w1.heap.size, 1, none⟩ = some (.slice At t.kids.len ct) ∧ w1.heap.size < w'.heap.size) := by
      intro w' hf
      have := (Blk.new w1 46 #[S t.atom, .slice At t.kids.len ct]).fr hf (fun h => h)
      exact ⟨(this.cell 0).trans rfl, (this.cell 1).trans rfl, this.lt⟩
    have HI := Lib.hid hi
    have HSL : Hid (∀ w', Fr No w1 w' → Sl w' (fun b => b < w1.heap.size ∧ b ≠ w.heap.size ∧ w.heap.size ≤ b) At t.kids) := fun w' hf => by
      refine (hsl.fr (fun b hb => hb.2) hf).mono (fun b hb => ⟨hb.2, ?_⟩) (fun _ _ => rfl)
      have := hb.1
      have := br.lt
      omega
    have CALLV : Hid (Calls Tryz.prog 65 #[.agg #[S t.atom, .slice At t.kids.len ct], .slice (some ⟨w1.heap.size + 1, 0, none⟩) 0 0] ((w1.alloc (.cells #[S t.atom, .slice At t.kids.len ct] 46)).alloc (.cells #[] 9)) fun e w' =>
        ∃ V vc, e = .returned (.slice V (letS (addV [] t)).length vc) ∧ Fr No (w1.alloc (.cells #[S t.atom, .slice At t.kids.len ct] 46)) w' ∧ w'.ownsRow (w1.heap.size + 1) 9 1 (.slice V (letS (addV [] t)).length vc) (letS (addV [] t)).length ((letS (addV [] t)).map S)) := by
      have hT : ∀ b, (b < w1.heap.size ∧ b ≠ w.heap.size ∧ w.heap.size ≤ b) → b < w1.heap.size := fun b hb => hb.1
      have hff : Fr No w1 ((w1.alloc (.cells #[S t.atom, .slice At t.kids.len ct] 46)).alloc (.cells #[] 9)) := ((Fr.refl _ _).alloc _).alloc _
      refine (sv_any t HI.out.2.1 _ At ct _ (w1.heap.size + 1) (some ⟨w1.heap.size + 1, 0, none⟩) 0 [] (by simp) (by have := HI.out.2.2; simp; omega) (by simp) (fun b hb => ⟨Nat.lt_of_lt_of_le hb.1 hff.size, fun e => ?_⟩) (HSL.out _ hff) ?_).mono ?_
      · simp only [Value.ownBlock, Option.some.injEq] at e
        have := hb.1
        omega
      · have := own_empty7 (w1.alloc (.cells #[S t.atom, .slice At t.kids.len ct] 46)) (w1.heap.size + 1) (by simp) _ rfl
        simpa [letS] using this
      · rintro e w' ⟨V, vc, rfl, g1, g2, _⟩
        refine ⟨V, vc, rfl, ((Fr.refl _ _).alloc _).then_ g1 (fun i hi e => ?_), g2⟩
        simp only [Value.ownBlock, Option.some.injEq] at e
        have h9 : (w1.alloc (.cells #[S t.atom, .slice At t.kids.len ct] 46)).heap.size = w1.heap.size + 1 := by simp
        omega
    have HFB : Hid (Fr No w1 (w1.alloc (.cells #[S t.atom, .slice At t.kids.len ct] 46))) := (Fr.refl _ _).alloc _
    have ne1 : w.heap.size ≠ w1.heap.size := by omega
    have ne2 : w1.heap.size ≠ w.heap.size := by omega
    clear hi hsl hf1 br
    go_wp2_with fail
    refine CALLV.out.mono ?_
    rintro e w4 ⟨V, vc, rfl, hf4, hown⟩
    have HG4 := Lib.hid (HFB.out.trans hf4)
    have HF4 := Lib.hid hf4
    obtain ⟨x0, x1, x2⟩ := HB.out w4 hf4
    obtain ⟨r0, r1, r2, r3, r4⟩ := HR.out w4 HG4.out
    have FIN : Hid (OnlyA t → ∀ w' v0 v1, Fr No w1 w' → T7P s w (.returned (.tuple #[.agg #[S t.atom, .slice At t.kids.len ct], .bool true])) ((w'.setCell ⟨w.heap.size, 0, none⟩ v0).setCell ⟨w.heap.size, 1, none⟩ v1).drew) := by
      intro ho w' v0 v1 hf
      refine ⟨(RES.out _ _ _ hf).drew, .inl ⟨t, At, ct, HI.out, ho, rfl, ?_⟩⟩
      refine Sl.fr (w := (w'.setCell ⟨w.heap.size, 0, none⟩ v0).setCell ⟨w.heap.size, 1, none⟩ v1) ?_ (fun b hb => hb.2) ((Fr.refl _ _).drew)
      refine (HSL.out w' hf).mono (fun b hb => by have := hf.size; have := hb.1; have := hb.2.2; simp [World.setCell]; omega) (fun b hb => ?_)
      rw [Below.heap_setCell _ _ _ _ (by show b ≠ w.heap.size; exact hb.2.1), Below.heap_setCell _ _ _ _ (by show b ≠ w.heap.size; exact hb.2.1)]
    have FNO : Hid (¬ OnlyA t → ∀ w' v0 v1, Fr No w1 w' → T7P s w (.returned (.tuple #[.agg #[S t.atom, .slice At t.kids.len ct], .bool false])) ((w'.setCell ⟨w.heap.size, 0, none⟩ v0).setCell ⟨w.heap.size, 1, none⟩ v1).drew) := fun ho w' v0 v1 hf =>
      ⟨(RES.out _ _ _ hf).drew, .inr ⟨_, _, _, _, fun t' h => by rw [h.unique HI.out]; exact ho, rfl⟩⟩
    have hll : (letS (addV [] t)).length = (addV [] t).length := by simp [letS]
    have hfd : Fr No w1 w4.drew := HG4.out.drew
    have HFD := Lib.hid hfd
    obtain ⟨vs, hvs⟩ : ∃ z, z = addV [] t := ⟨_, rfl⟩
    have HL25 : Hid (∀ n ∈ vs, n < 25) := by rw [hvs]; exact addV_lt t [] (by simp) HI.out.2.1
    rw [← hvs] at hown hll
    rw [← hvs]
    clear hf4 CALLV HB HR HSL RES HFB
    match vs, hvs, hown, hll, HL25 with
    | [], hvs, hown, hll, HL25 =>
      have HO := Lib.hid (FIN.out (onlyA_nil hvs.symm))
      clear FIN FNO hvs hown HI
      simp only [letS, List.map_nil, List.length_nil]
      have d2 : w4.drew.cell? ⟨w.heap.size, 0, none⟩ = some (S []) := r0
      have d3 : w4.drew.cell? ⟨w.heap.size, 1, none⟩ = some (.slice none 0 0) := r1
      have d4 : w4.drew.frozen? ⟨w.heap.size, 0, none⟩ = false := r2
      have d5 : w4.drew.frozen? ⟨w.heap.size, 1, none⟩ = false := r3
      go_wp2_with fail
      refine wp_region_held_drew (S := (fun w' => w'.cell? ⟨w1.heap.size, 0, none⟩ = some (S t.atom) ∧ w'.cell? ⟨w1.heap.size, 1, none⟩ = some (.slice At t.kids.len ct))) (by kernel_rfl) ?hSA (fun hHeldA => ?_)
      case hSA => (first | exact ⟨x0, x1⟩ | (dsimp only; exact ⟨x0, x1⟩))
      refine wpAnyH_take (i := 0) (v := ?vA0) (by simp only [List.getElem?_toArray, List.getElem?_cons_zero]; rfl) (by kernel_rfl) (by kernel_rfl) (by kernel_rfl) (by exact fun _ _ _ h => h) (Or.inl ⟨by rfl, ?hyA0⟩) (by assumption) ?restA0
      case hyA0 => (intro w hSw; (try dsimp only at hSw); go_simp; try with_reducible rfl)
      try simp only [Act.put, List.setIfInBounds_toArray, List.set_cons_zero, List.set_cons_succ]
      refine wpAnyH_take (i := 1) (v := ?vA1) (by simp only [List.getElem?_toArray, List.getElem?_cons_succ, List.getElem?_cons_zero]; rfl) (by kernel_rfl) (by kernel_rfl) (by kernel_rfl) (by exact fun _ _ _ h => h) (Or.inl ⟨by rfl, ?hyA1⟩) (by assumption) ?restA1
      case hyA1 => (intro w hSw; (try dsimp only at hSw); go_simp; try with_reducible rfl)
      try simp only [Act.put, List.setIfInBounds_toArray, List.set_cons_zero, List.set_cons_succ]
      refine wpAnyH_take (i := 2) (v := ?vA2) (by simp only [List.getElem?_toArray, List.getElem?_cons_succ, List.getElem?_cons_zero]; rfl) (by kernel_rfl) (by kernel_rfl) (by kernel_rfl) (by exact fun _ _ _ h => h) (Or.inl ⟨by rfl, ?hyA2⟩) (by assumption) ?restA2
      case hyA2 => (intro w hSw; (try dsimp only at hSw); go_simp; try with_reducible rfl)
      try simp only [Act.put, List.setIfInBounds_toArray, List.set_cons_zero, List.set_cons_succ]
      refine wpAnyH_take (i := 3) (v := ?vA3) (by simp only [List.getElem?_toArray, List.getElem?_cons_succ, List.getElem?_cons_zero]; rfl) (by kernel_rfl) (by kernel_rfl) (by kernel_rfl) (by exact fun _ _ _ h => h) (Or.inl ⟨by rfl, ?hyA3⟩) (by assumption) ?restA3
      case hyA3 => (intro w hSw; (try dsimp only at hSw); go_simp; try with_reducible rfl)
      try simp only [Act.put, List.setIfInBounds_toArray, List.set_cons_zero, List.set_cons_succ]
      refine wpAnyH_take (i := 4) (v := ?vA4) (by simp only [List.getElem?_toArray, List.getElem?_cons_succ, List.getElem?_cons_zero]; rfl) (by kernel_rfl) (by kernel_rfl) (by kernel_rfl) (by exact fun _ _ _ h => h) (Or.inl ⟨by rfl, ?hyA4⟩) (by assumption) ?restA4
      case hyA4 => (intro w hSw; (try dsimp only at hSw); go_simp; try with_reducible rfl)
      try simp only [Act.put, List.setIfInBounds_toArray, List.set_cons_zero, List.set_cons_succ]
      refine wpAnyH_take (i := 5) (v := undef) (by simp only [List.getElem?_toArray, List.getElem?_cons_succ, List.getElem?_cons_zero]; rfl) (by kernel_rfl) (by kernel_rfl) (by kernel_rfl) (by exact fun _ _ _ h => h) (Or.inr ⟨by rfl, rfl⟩) (by assumption) ?_
      try simp only [Act.put, List.setIfInBounds_toArray, List.set_cons_zero, List.set_cons_succ]
      refine wpAnyH_take (i := 6) (v := undef) (by simp only [List.getElem?_toArray, List.getElem?_cons_succ, List.getElem?_cons_zero]; rfl) (by kernel_rfl) (by kernel_rfl) (by kernel_rfl) (by exact fun _ _ _ h => h) (Or.inr ⟨by rfl, rfl⟩) (by assumption) ?_
      try simp only [Act.put, List.setIfInBounds_toArray, List.set_cons_zero, List.set_cons_succ]
      refine wpAnyH_take (i := 7) (v := undef) (by simp only [List.getElem?_toArray, List.getElem?_cons_succ, List.getElem?_cons_zero]; rfl) (by kernel_rfl) (by kernel_rfl) (by kernel_rfl) (by exact fun _ _ _ h => h) (Or.inr ⟨by rfl, rfl⟩) (by assumption) ?_
      try simp only [Act.put, List.setIfInBounds_toArray, List.set_cons_zero, List.set_cons_succ]
      refine wpAnyH_take (i := 8) (v := undef) (by simp only [List.getElem?_toArray, List.getElem?_cons_succ, List.getElem?_cons_zero]; rfl) (by kernel_rfl) (by kernel_rfl) (by kernel_rfl) (by exact fun _ _ _ h => h) (Or.inr ⟨by rfl, rfl⟩) (by assumption) ?_
      try simp only [Act.put, List.setIfInBounds_toArray, List.set_cons_zero, List.set_cons_succ]
      refine wpAnyH_take (i := 9) (v := undef) (by simp only [List.getElem?_toArray, List.getElem?_cons_succ, List.getElem?_cons_zero]; rfl) (by kernel_rfl) (by kernel_rfl) (by kernel_rfl) (by exact fun _ _ _ h => h) (Or.inr ⟨by rfl, rfl⟩) (by assumption) ?_
      try simp only [Act.put, List.setIfInBounds_toArray, List.set_cons_zero, List.set_cons_succ]
      refine wpAnyH_take (i := 10) (v := undef) (by simp only [List.getElem?_toArray, List.getElem?_cons_succ, List.getElem?_cons_zero]; rfl) (by kernel_rfl) (by kernel_rfl) (by kernel_rfl) (by exact fun _ _ _ h => h) (Or.inr ⟨by rfl, rfl⟩) (by assumption) ?_
      try simp only [Act.put, List.setIfInBounds_toArray, List.set_cons_zero, List.set_cons_succ]
      refine wpAnyH_take (i := 11) (v := undef) (by simp only [List.getElem?_toArray, List.getElem?_cons_succ, List.getElem?_cons_zero]; rfl) (by kernel_rfl) (by kernel_rfl) (by kernel_rfl) (by exact fun _ _ _ h => h) (Or.inr ⟨by rfl, rfl⟩) (by assumption) ?_
      try simp only [Act.put, List.setIfInBounds_toArray, List.set_cons_zero, List.set_cons_succ]
      refine wpAnyH_take (i := 12) (v := undef) (by simp only [List.getElem?_toArray, List.getElem?_cons_succ, List.getElem?_cons_zero]; rfl) (by kernel_rfl) (by kernel_rfl) (by kernel_rfl) (by exact fun _ _ _ h => h) (Or.inr ⟨by rfl, rfl⟩) (by assumption) ?_
      try simp only [Act.put, List.setIfInBounds_toArray, List.set_cons_zero, List.set_cons_succ]
      refine wpAnyH_take (i := 13) (v := undef) (by simp only [List.getElem?_toArray, List.getElem?_cons_succ, List.getElem?_cons_zero]; rfl) (by kernel_rfl) (by kernel_rfl) (by kernel_rfl) (by exact fun _ _ _ h => h) (Or.inr ⟨by rfl, rfl⟩) (by assumption) ?_
      try simp only [Act.put, List.setIfInBounds_toArray, List.set_cons_zero, List.set_cons_succ]
      refine wpAnyH_take (i := 14) (v := ?vA14) (by simp only [List.getElem?_toArray, List.getElem?_cons_succ, List.getElem?_cons_zero]; rfl) (by kernel_rfl) (by kernel_rfl) (by kernel_rfl) (by exact fun _ _ _ h => h) (Or.inl ⟨by rfl, ?hyA14⟩) (by assumption) ?restA14
      case hyA14 => (intro w hSw; (try dsimp only at hSw); go_simp; try with_reducible rfl)
      try simp only [Act.put, List.setIfInBounds_toArray, List.set_cons_zero, List.set_cons_succ]
      refine wpAnyH_ready (rs := [15]) (by kernel_rfl) (by simp) ?_
      refine AllReadyH.cons rfl (fun K hK => ?_) AllReadyH.nil
      go_simp
      refine hK.out _ _ ?hSZA (fun hHeldZA => ?_)
      case hSZA => exact ⟨by simp [go_sem, x0], by simp [go_sem, x1]⟩
      clear hK K
      try simp only [Act.put, List.setIfInBounds_toArray, List.set_cons_zero, List.set_cons_succ]
      refine wpAnyH_take (i := 16) (v := ?vA16) (by simp only [List.getElem?_toArray, List.getElem?_cons_succ, List.getElem?_cons_zero]; rfl) (by kernel_rfl) (by kernel_rfl) (by kernel_rfl) (by exact fun _ _ _ h => h) (Or.inl ⟨by rfl, ?hyA16⟩) (by assumption) ?restA16
      case hyA16 => (intro w hSw; (try dsimp only at hSw); go_simp; try with_reducible rfl)
      try simp only [Act.put, List.setIfInBounds_toArray, List.set_cons_zero, List.set_cons_succ]
      refine wpAnyH_done (by kernel_rfl) ?_ _
      go_wp2_with fail
      refine bodyPost_ret (v := .tuple #[.agg #[S t.atom, .slice At t.kids.len ct], .bool true]) (by simp [results, Tryz.results38, go_sem, cell_set_same r0, cell_set_next r1]) rfl ?_
      exact HO.out _ _ _ HG4.out
    | [i], hvs, hown, hll, HL25 =>
      obtain ⟨g, hV, xg, hg⟩ := own_one7 (show w4.ownsRow (w1.heap.size + 1) 9 1 (.slice V 1 vc) 1 [S [Ty.letter i]] from hown)
      subst hV
      have hi25 : i < 25 := HL25.out i (by simp)
      have ng : w.heap.size ≠ g := by omega
      have ng2 : g ≠ w.heap.size := by omega
      have hgl := block_lt xg
      have hb : (Ty.letter i == (97 : UInt8)) = decide (i = 0) := by
        by_cases e : i = 0
        · subst e; rfl
        · have : Ty.letter i ≠ Ty.letter 0 := fun h => e (Ty.letter_inj hi25 (by omega) h)
          simp only [e, decide_false]
          exact beq_eq_false_iff_ne.2 this
      have HO : Hid (∀ w' v0 v1, Fr No w1 w' → T7P s w (.returned (.tuple #[.agg #[S t.atom, .slice At t.kids.len ct], .bool (Ty.letter i == (97 : UInt8))])) ((w'.setCell ⟨w.heap.size, 0, none⟩ v0).setCell ⟨w.heap.size, 1, none⟩ v1).drew) := by
        rw [hb]
        by_cases e : i = 0
        · rw [decide_eq_true e]
          exact FIN.out ((onlyA_one hvs.symm).2 e)
        · rw [decide_eq_false e]
          exact FNO.out (fun h => e ((onlyA_one hvs.symm).1 h))
      have hl1 : (letS [i]).length = 1 := rfl
      rw [hl1]
      clear FIN FNO hvs hown HI hb hll hi25 hg
      generalize Ty.letter i = li at *
      go_wp2_with fail
      refine wp_region_held_drew (S := (fun w' => w'.cell? ⟨w1.heap.size, 0, none⟩ = some (S t.atom) ∧ w'.cell? ⟨w1.heap.size, 1, none⟩ = some (.slice At t.kids.len ct) ∧ w'.cell? ⟨g, 0, none⟩ = some (S [li]))) (by kernel_rfl) ?hSB (fun hHeldB => ?_)
      case hSB => (first | exact ⟨x0, x1, xg⟩ | (dsimp only; exact ⟨x0, x1, xg⟩))
      refine wpAnyH_take (i := 0) (v := ?vB0) (by simp only [List.getElem?_toArray, List.getElem?_cons_zero]; rfl) (by kernel_rfl) (by kernel_rfl) (by kernel_rfl) (by exact fun _ _ _ h => h) (Or.inl ⟨by rfl, ?hyB0⟩) (by assumption) ?restB0
      case hyB0 => (intro w hSw; (try dsimp only at hSw); go_simp; try with_reducible rfl)
      try simp only [Act.put, List.setIfInBounds_toArray, List.set_cons_zero, List.set_cons_succ]
      refine wpAnyH_take (i := 1) (v := ?vB1) (by simp only [List.getElem?_toArray, List.getElem?_cons_succ, List.getElem?_cons_zero]; rfl) (by kernel_rfl) (by kernel_rfl) (by kernel_rfl) (by exact fun _ _ _ h => h) (Or.inl ⟨by rfl, ?hyB1⟩) (by assumption) ?restB1
      case hyB1 => (intro w hSw; (try dsimp only at hSw); go_simp; try with_reducible rfl)
      try simp only [Act.put, List.setIfInBounds_toArray, List.set_cons_zero, List.set_cons_succ]
      refine wpAnyH_take (i := 2) (v := ?vB2) (by simp only [List.getElem?_toArray, List.getElem?_cons_succ, List.getElem?_cons_zero]; rfl) (by kernel_rfl) (by kernel_rfl) (by kernel_rfl) (by exact fun _ _ _ h => h) (Or.inl ⟨by rfl, ?hyB2⟩) (by assumption) ?restB2
      case hyB2 => (intro w hSw; (try dsimp only at hSw); go_simp; try with_reducible rfl)
      try simp only [Act.put, List.setIfInBounds_toArray, List.set_cons_zero, List.set_cons_succ]
      refine wpAnyH_take (i := 3) (v := ?vB3) (by simp only [List.getElem?_toArray, List.getElem?_cons_succ, List.getElem?_cons_zero]; rfl) (by kernel_rfl) (by kernel_rfl) (by kernel_rfl) (by exact fun _ _ _ h => h) (Or.inl ⟨by rfl, ?hyB3⟩) (by assumption) ?restB3
      case hyB3 => (intro w hSw; (try dsimp only at hSw); go_simp; try with_reducible rfl)
      try simp only [Act.put, List.setIfInBounds_toArray, List.set_cons_zero, List.set_cons_succ]
      refine wpAnyH_take (i := 4) (v := ?vB4) (by simp only [List.getElem?_toArray, List.getElem?_cons_succ, List.getElem?_cons_zero]; rfl) (by kernel_rfl) (by kernel_rfl) (by kernel_rfl) (by exact fun _ _ _ h => h) (Or.inl ⟨by rfl, ?hyB4⟩) (by assumption) ?restB4
      case hyB4 => (intro w hSw; (try dsimp only at hSw); go_simp; try with_reducible rfl)
      try simp only [Act.put, List.setIfInBounds_toArray, List.set_cons_zero, List.set_cons_succ]
      refine wpAnyH_take (i := 5) (v := ?vB5) (by simp only [List.getElem?_toArray, List.getElem?_cons_succ, List.getElem?_cons_zero]; rfl) (by kernel_rfl) (by kernel_rfl) (by kernel_rfl) (by exact fun _ _ _ h => h) (Or.inl ⟨by rfl, ?hyB5⟩) (by assumption) ?restB5
      case hyB5 => (intro w hSw; (try dsimp only at hSw); go_simp; try with_reducible rfl)
      try simp only [Act.put, List.setIfInBounds_toArray, List.set_cons_zero, List.set_cons_succ]
      refine wpAnyH_take (i := 6) (v := ?vB6) (by simp only [List.getElem?_toArray, List.getElem?_cons_succ, List.getElem?_cons_zero]; rfl) (by kernel_rfl) (by kernel_rfl) (by kernel_rfl) (by exact fun _ _ _ h => h) (Or.inl ⟨by rfl, ?hyB6⟩) (by assumption) ?restB6
      case hyB6 => (intro w hSw; (try dsimp only at hSw); go_simp; try with_reducible rfl)
      try simp only [Act.put, List.setIfInBounds_toArray, List.set_cons_zero, List.set_cons_succ]
      refine wpAnyH_take (i := 7) (v := ?vB7) (by simp only [List.getElem?_toArray, List.getElem?_cons_succ, List.getElem?_cons_zero]; rfl) (by kernel_rfl) (by kernel_rfl) (by kernel_rfl) (by exact fun _ _ _ h => h) (Or.inl ⟨by rfl, ?hyB7⟩) (by assumption) ?restB7
      case hyB7 => (intro w hSw; (try dsimp only at hSw); go_simp; try with_reducible rfl)
      try simp only [Act.put, List.setIfInBounds_toArray, List.set_cons_zero, List.set_cons_succ]
      refine wpAnyH_take (i := 8) (v := ?vB8) (by simp only [List.getElem?_toArray, List.getElem?_cons_succ, List.getElem?_cons_zero]; rfl) (by kernel_rfl) (by kernel_rfl) (by kernel_rfl) (by exact fun _ _ _ h => h) (Or.inl ⟨by rfl, ?hyB8⟩) (by assumption) ?restB8
      case hyB8 => (intro w hSw; (try dsimp only at hSw); go_simp; try with_reducible rfl)
      try simp only [Act.put, List.setIfInBounds_toArray, List.set_cons_zero, List.set_cons_succ]
      refine wpAnyH_take (i := 9) (v := ?vB9) (by simp only [List.getElem?_toArray, List.getElem?_cons_succ, List.getElem?_cons_zero]; rfl) (by kernel_rfl) (by kernel_rfl) (by kernel_rfl) (by exact fun _ _ _ h => h) (Or.inl ⟨by rfl, ?hyB9⟩) (by assumption) ?restB9
      case hyB9 => (intro w hSw; (try dsimp only at hSw); go_simp; try with_reducible rfl)
      try simp only [Act.put, List.setIfInBounds_toArray, List.set_cons_zero, List.set_cons_succ]
      refine wpAnyH_take (i := 10) (v := ?vB10) (by simp only [List.getElem?_toArray, List.getElem?_cons_succ, List.getElem?_cons_zero]; rfl) (by kernel_rfl) (by kernel_rfl) (by kernel_rfl) (by exact fun _ _ _ h => h) (Or.inl ⟨by rfl, ?hyB10⟩) (by assumption) ?restB10
      case hyB10 => (intro w hSw; (try dsimp only at hSw); go_simp; try with_reducible rfl)
      try simp only [Act.put, List.setIfInBounds_toArray, List.set_cons_zero, List.set_cons_succ]
      refine wpAnyH_take (i := 11) (v := ?vB11) (by simp only [List.getElem?_toArray, List.getElem?_cons_succ, List.getElem?_cons_zero]; rfl) (by kernel_rfl) (by kernel_rfl) (by kernel_rfl) (by exact fun _ _ _ h => h) (Or.inl ⟨by rfl, ?hyB11⟩) (by assumption) ?restB11
      case hyB11 => (intro w hSw; (try dsimp only at hSw); go_simp; try with_reducible rfl)
      try simp only [Act.put, List.setIfInBounds_toArray, List.set_cons_zero, List.set_cons_succ]
      refine wpAnyH_take (i := 12) (v := ?vB12) (by simp only [List.getElem?_toArray, List.getElem?_cons_succ, List.getElem?_cons_zero]; rfl) (by kernel_rfl) (by kernel_rfl) (by kernel_rfl) (by exact fun _ _ _ h => h) (Or.inl ⟨by rfl, ?hyB12⟩) (by assumption) ?restB12
      case hyB12 => (intro w hSw; (try dsimp only at hSw); go_simp; try with_reducible rfl)
      try simp only [Act.put, List.setIfInBounds_toArray, List.set_cons_zero, List.set_cons_succ]
      refine wpAnyH_take (i := 13) (v := ?vB13) (by simp only [List.getElem?_toArray, List.getElem?_cons_succ, List.getElem?_cons_zero]; rfl) (by kernel_rfl) (by kernel_rfl) (by kernel_rfl) (by exact fun _ _ _ h => h) (Or.inl ⟨by rfl, ?hyB13⟩) (by assumption) ?restB13
      case hyB13 => (intro w hSw; (try dsimp only at hSw); go_simp; try with_reducible rfl)
      try simp only [Act.put, List.setIfInBounds_toArray, List.set_cons_zero, List.set_cons_succ]
      refine wpAnyH_take (i := 14) (v := ?vB14) (by simp only [List.getElem?_toArray, List.getElem?_cons_succ, List.getElem?_cons_zero]; rfl) (by kernel_rfl) (by kernel_rfl) (by kernel_rfl) (by exact fun _ _ _ h => h) (Or.inl ⟨by rfl, ?hyB14⟩) (by assumption) ?restB14
      case hyB14 => (intro w hSw; (try dsimp only at hSw); go_simp; try with_reducible rfl)
      try simp only [Act.put, List.setIfInBounds_toArray, List.set_cons_zero, List.set_cons_succ]
      refine wpAnyH_ready (rs := [15]) (by kernel_rfl) (by simp) ?_
      refine AllReadyH.cons rfl (fun K hK => ?_) AllReadyH.nil
      go_simp
      refine hK.out _ _ ?hSZB (fun hHeldZB => ?_)
      case hSZB => exact ⟨by simp [go_sem, x0], by simp [go_sem, x1], by simp [go_sem, xg]⟩
      clear hK K
      try simp only [Act.put, List.setIfInBounds_toArray, List.set_cons_zero, List.set_cons_succ]
      refine wpAnyH_take (i := 16) (v := ?vB16) (by simp only [List.getElem?_toArray, List.getElem?_cons_succ, List.getElem?_cons_zero]; rfl) (by kernel_rfl) (by kernel_rfl) (by kernel_rfl) (by exact fun _ _ _ h => h) (Or.inl ⟨by rfl, ?hyB16⟩) (by assumption) ?restB16
      case hyB16 => (intro w hSw; (try dsimp only at hSw); go_simp; try with_reducible rfl)
      try simp only [Act.put, List.setIfInBounds_toArray, List.set_cons_zero, List.set_cons_succ]
      refine wpAnyH_done (by kernel_rfl) ?_ _
      go_wp2_with fail
      refine bodyPost_ret (v := .tuple #[.agg #[S t.atom, .slice At t.kids.len ct], .bool (li == (97 : UInt8))]) (by simp [results, Tryz.results38, go_sem, cell_set_same r0, cell_set_next r1]) rfl ?_
      exact HO.out _ _ _ HG4.out
    | i :: j :: r, hvs, hown, hll, HL25 =>
      have hn : 2 ≤ (letS (i :: j :: r)).length := by simp [letS]
      have HO := Lib.hid (FNO.out (onlyA_more (by rw [← hvs]; simp)))
      generalize (letS (i :: j :: r)).length = n at *
      have n0 : ((n : Int) == 0) = false := beq_eq_false_iff_ne.2 (by omega)
      have n1 : ((n : Int) == 1) = false := beq_eq_false_iff_ne.2 (by omega)
      clear FIN FNO hvs hown HI hll hn
      go_wp2_with fail
      refine wp_region_held_drew (S := (fun w' => w'.cell? ⟨w1.heap.size, 0, none⟩ = some (S t.atom) ∧ w'.cell? ⟨w1.heap.size, 1, none⟩ = some (.slice At t.kids.len ct))) (by kernel_rfl) ?hSC (fun hHeldC => ?_)
      case hSC => (first | exact ⟨x0, x1⟩ | (dsimp only; exact ⟨x0, x1⟩))
      refine wpAnyH_take (i := 0) (v := ?vC0) (by simp only [List.getElem?_toArray, List.getElem?_cons_zero]; rfl) (by kernel_rfl) (by kernel_rfl) (by kernel_rfl) (by exact fun _ _ _ h => h) (Or.inl ⟨by rfl, ?hyC0⟩) (by assumption) ?restC0
      case hyC0 => (intro w hSw; (try dsimp only at hSw); go_simp; try with_reducible rfl)
      try simp only [Act.put, List.setIfInBounds_toArray, List.set_cons_zero, List.set_cons_succ]
      refine wpAnyH_take (i := 1) (v := ?vC1) (by simp only [List.getElem?_toArray, List.getElem?_cons_succ, List.getElem?_cons_zero]; rfl) (by kernel_rfl) (by kernel_rfl) (by kernel_rfl) (by exact fun _ _ _ h => h) (Or.inl ⟨by rfl, ?hyC1⟩) (by assumption) ?restC1
      case hyC1 => (intro w hSw; (try dsimp only at hSw); go_simp; try with_reducible rfl)
      try simp only [Act.put, List.setIfInBounds_toArray, List.set_cons_zero, List.set_cons_succ]
      refine wpAnyH_take (i := 2) (v := ?vC2) (by simp only [List.getElem?_toArray, List.getElem?_cons_succ, List.getElem?_cons_zero]; rfl) (by kernel_rfl) (by kernel_rfl) (by kernel_rfl) (by exact fun _ _ _ h => h) (Or.inl ⟨by rfl, ?hyC2⟩) (by assumption) ?restC2
      case hyC2 => (intro w hSw; (try dsimp only at hSw); go_simp; try with_reducible rfl)
      try simp only [Act.put, List.setIfInBounds_toArray, List.set_cons_zero, List.set_cons_succ]
      refine wpAnyH_take (i := 3) (v := ?vC3) (by simp only [List.getElem?_toArray, List.getElem?_cons_succ, List.getElem?_cons_zero]; rfl) (by kernel_rfl) (by kernel_rfl) (by kernel_rfl) (by exact fun _ _ _ h => h) (Or.inl ⟨by rfl, ?hyC3⟩) (by assumption) ?restC3
      case hyC3 => (intro w hSw; (try dsimp only at hSw); go_simp; try with_reducible rfl)
      try simp only [Act.put, List.setIfInBounds_toArray, List.set_cons_zero, List.set_cons_succ]
      refine wpAnyH_take (i := 4) (v := ?vC4) (by simp only [List.getElem?_toArray, List.getElem?_cons_succ, List.getElem?_cons_zero]; rfl) (by kernel_rfl) (by kernel_rfl) (by kernel_rfl) (by exact fun _ _ _ h => h) (Or.inl ⟨by rfl, ?hyC4⟩) (by assumption) ?restC4
      case hyC4 => (intro w hSw; (try dsimp only at hSw); go_simp; try with_reducible rfl)
      try simp only [Act.put, List.setIfInBounds_toArray, List.set_cons_zero, List.set_cons_succ]
      refine wpAnyH_take (i := 5) (v := ?vC5) (by simp only [List.getElem?_toArray, List.getElem?_cons_succ, List.getElem?_cons_zero]; rfl) (by kernel_rfl) (by kernel_rfl) (by kernel_rfl) (by exact fun _ _ _ h => h) (Or.inl ⟨by rfl, ?hyC5⟩) (by assumption) ?restC5
      case hyC5 => (intro w hSw; (try dsimp only at hSw); go_simp; try with_reducible rfl)
      try simp only [Act.put, List.setIfInBounds_toArray, List.set_cons_zero, List.set_cons_succ]
      refine wpAnyH_take (i := 6) (v := ?vC6) (by simp only [List.getElem?_toArray, List.getElem?_cons_succ, List.getElem?_cons_zero]; rfl) (by kernel_rfl) (by kernel_rfl) (by kernel_rfl) (by exact fun _ _ _ h => h) (Or.inl ⟨by rfl, ?hyC6⟩) (by assumption) ?restC6
      case hyC6 => (intro w hSw; (try dsimp only at hSw); go_simp; try with_reducible rfl)
      try simp only [Act.put, List.setIfInBounds_toArray, List.set_cons_zero, List.set_cons_succ]
      refine wpAnyH_take (i := 7) (v := ?vC7) (by simp only [List.getElem?_toArray, List.getElem?_cons_succ, List.getElem?_cons_zero]; rfl) (by kernel_rfl) (by kernel_rfl) (by kernel_rfl) (by exact fun _ _ _ h => h) (Or.inl ⟨by rfl, ?hyC7⟩) (by assumption) ?restC7
      case hyC7 => (intro w hSw; (try dsimp only at hSw); go_simp; try with_reducible rfl)
      try simp only [Act.put, List.setIfInBounds_toArray, List.set_cons_zero, List.set_cons_succ]
      refine wpAnyH_take (i := 8) (v := ?vC8) (by simp only [List.getElem?_toArray, List.getElem?_cons_succ, List.getElem?_cons_zero]; rfl) (by kernel_rfl) (by kernel_rfl) (by kernel_rfl) (by exact fun _ _ _ h => h) (Or.inl ⟨by rfl, ?hyC8⟩) (by assumption) ?restC8
      case hyC8 => (intro w hSw; (try dsimp only at hSw); go_simp; try with_reducible rfl)
      try simp only [Act.put, List.setIfInBounds_toArray, List.set_cons_zero, List.set_cons_succ]
      refine wpAnyH_take (i := 9) (v := undef) (by simp only [List.getElem?_toArray, List.getElem?_cons_succ, List.getElem?_cons_zero]; rfl) (by kernel_rfl) (by kernel_rfl) (by kernel_rfl) (by exact fun _ _ _ h => h) (Or.inr ⟨by rfl, rfl⟩) (by assumption) ?_
      try simp only [Act.put, List.setIfInBounds_toArray, List.set_cons_zero, List.set_cons_succ]
      refine wpAnyH_take (i := 10) (v := undef) (by simp only [List.getElem?_toArray, List.getElem?_cons_succ, List.getElem?_cons_zero]; rfl) (by kernel_rfl) (by kernel_rfl) (by kernel_rfl) (by exact fun _ _ _ h => h) (Or.inr ⟨by rfl, rfl⟩) (by assumption) ?_
      try simp only [Act.put, List.setIfInBounds_toArray, List.set_cons_zero, List.set_cons_succ]
      refine wpAnyH_take (i := 11) (v := undef) (by simp only [List.getElem?_toArray, List.getElem?_cons_succ, List.getElem?_cons_zero]; rfl) (by kernel_rfl) (by kernel_rfl) (by kernel_rfl) (by exact fun _ _ _ h => h) (Or.inr ⟨by rfl, rfl⟩) (by assumption) ?_
      try simp only [Act.put, List.setIfInBounds_toArray, List.set_cons_zero, List.set_cons_succ]
      refine wpAnyH_take (i := 12) (v := undef) (by simp only [List.getElem?_toArray, List.getElem?_cons_succ, List.getElem?_cons_zero]; rfl) (by kernel_rfl) (by kernel_rfl) (by kernel_rfl) (by exact fun _ _ _ h => h) (Or.inr ⟨by rfl, rfl⟩) (by assumption) ?_
      try simp only [Act.put, List.setIfInBounds_toArray, List.set_cons_zero, List.set_cons_succ]
      refine wpAnyH_take (i := 13) (v := ?vC13) (by simp only [List.getElem?_toArray, List.getElem?_cons_succ, List.getElem?_cons_zero]; rfl) (by kernel_rfl) (by kernel_rfl) (by kernel_rfl) (by exact fun _ _ _ h => h) (Or.inl ⟨by rfl, ?hyC13⟩) (by assumption) ?restC13
      case hyC13 => (intro w hSw; (try dsimp only at hSw); go_simp; try with_reducible rfl)
      try simp only [Act.put, List.setIfInBounds_toArray, List.set_cons_zero, List.set_cons_succ]
      refine wpAnyH_take (i := 14) (v := ?vC14) (by simp only [List.getElem?_toArray, List.getElem?_cons_succ, List.getElem?_cons_zero]; rfl) (by kernel_rfl) (by kernel_rfl) (by kernel_rfl) (by exact fun _ _ _ h => h) (Or.inl ⟨by rfl, ?hyC14⟩) (by assumption) ?restC14
      case hyC14 => (intro w hSw; (try dsimp only at hSw); go_simp; try with_reducible rfl)
      try simp only [Act.put, List.setIfInBounds_toArray, List.set_cons_zero, List.set_cons_succ]
      refine wpAnyH_ready (rs := [15]) (by kernel_rfl) (by simp) ?_
      refine AllReadyH.cons rfl (fun K hK => ?_) AllReadyH.nil
      go_simp
      refine hK.out _ _ ?hSZC (fun hHeldZC => ?_)
      case hSZC => exact ⟨by simp [go_sem, x0], by simp [go_sem, x1]⟩
      clear hK K
      try simp only [Act.put, List.setIfInBounds_toArray, List.set_cons_zero, List.set_cons_succ]
      refine wpAnyH_take (i := 16) (v := ?vC16) (by simp only [List.getElem?_toArray, List.getElem?_cons_succ, List.getElem?_cons_zero]; rfl) (by kernel_rfl) (by kernel_rfl) (by kernel_rfl) (by exact fun _ _ _ h => h) (Or.inl ⟨by rfl, ?hyC16⟩) (by assumption) ?restC16
      case hyC16 => (intro w hSw; (try dsimp only at hSw); go_simp; try with_reducible rfl)
      try simp only [Act.put, List.setIfInBounds_toArray, List.set_cons_zero, List.set_cons_succ]
      refine wpAnyH_done (by kernel_rfl) ?_ _
      go_wp2_with fail
      refine bodyPost_ret (v := .tuple #[.agg #[S t.atom, .slice At t.kids.len ct], .bool false]) (by simp [results, Tryz.results38, go_sem, cell_set_same r0, cell_set_next r1]) rfl ?_
      exact HO.out _ _ _ HG4.out
  · have HNO : Hid (∀ t, Ty.Is s t → ¬ OnlyA t) := fun t h => (hno _ h).elim
    have HFB : Hid (Fr No w1 (w1.alloc (.cells #[S a0, .slice At mt ct] 46))) := (Fr.refl _ _).alloc _
    have HB : Hid (Blk (w1.alloc (.cells #[S a0, .slice At mt ct] 46)) w1.heap.size 46 #[S a0, .slice At mt ct]) := Blk.new _ _ _
    clear hno hf1 br
    have ne1 : w.heap.size ≠ w1.heap.size := by omega
    have ne2 : w1.heap.size ≠ w.heap.size := by omega
    obtain ⟨r0, r1, r2, r3, r4⟩ := HR.out _ (Fr.refl _ _)
    go_wp2_with fail
    refine bodyPost_ret (v := .tuple #[.agg #[S a0, .slice At mt ct], .bool false]) (by simp [results, Tryz.results38, go_sem, hwl, cell_set_same r0, cell_set_next r1]) rfl ?_
    first
      | exact ⟨((HF1.out.setCell (p := ⟨w.heap.size, 0, none⟩) (.inr (Nat.le_refl _)) _).setCell (p := ⟨w.heap.size, 1, none⟩) (.inr (Nat.le_refl _)) _).alloc _, .inr ⟨_, _, _, _, HNO.out, rfl⟩⟩
      | exact ⟨(((HF1.out.alloc _).setCell (p := ⟨w.heap.size, 0, none⟩) (.inr (Nat.le_refl _)) _).setCell (p := ⟨w.heap.size, 1, none⟩) (.inr (Nat.le_refl _)) _), .inr ⟨_, _, _, _, HNO.out, rfl⟩⟩
end Go.Proofs.YtloecimlimoanaaGreatDoor

/- Two elements, parametric together, as the model finds it. · ParamPair and ParamIs of the model and of the program. · The laws ParamPair and ParamIs. -/
/- Two elements, parametric together, as the model finds it. -/
namespace Go.Proofs.YtloecimlimoanaaGreatDoor
open Go.RowKit Go.ChangeMaps

/-- the space of one relation -/
def spD (m n k : Nat) (N R L Z : Option Addr) (nc rc lc zc : Nat) : SpD := ⟨[[97]], [(m : Int)], [(n : Int)], [(0, m)], [(0, n)], [numP m n k], N, R, L, Z, nc, rc, lc, zc⟩

theorem spD_model {m : Nat} (h1 : 1 ≤ m) (h3 : m ≤ 3) : ModelIs [[97]] [(m : Int)] [(0, m)] :=
  ⟨rfl, rfl, fun p hp => by simp at hp; subst hp; exact ⟨by omega, h1, by omega⟩, by simp, by simp⟩

theorem spD_rho (m n k : Nat) (N R L Z : Option Addr) (nc rc lc zc : Nat) : RhoOk (spD m n k N R L Z nc rc lc zc) (numR m n k) := by
  intro j i l r ps h1 h2 h3 x y
  have hj : j = 0 := by
    cases j with
    | zero => rfl
    | succ j => simp [spD] at h1
  subst hj
  simp [spD] at h1 h2 h3
  obtain ⟨rfl, rfl⟩ := h1
  obtain ⟨_, rfl⟩ := h2
  rw [← h3]
  rfl

theorem spD_at {m n k : Nat} (hm1 : 1 ≤ m) (hm3 : m ≤ 3) (hn1 : 1 ≤ n) (hn3 : n ≤ 3) {w : World} {Q gN gR gL gZ nc rc lc zc c : Nat} {A : Option Addr}
    (hQ : Blk w Q 87 #[.slice (some ⟨gN, 0, none⟩) 1 nc, .slice (some ⟨gR, 0, none⟩) 1 rc, .slice (some ⟨gL, 0, none⟩) 1 lc, .slice (some ⟨gZ, 0, none⟩) 1 zc])
    (hN : w.cell? ⟨gN, 0, none⟩ = some (S [97])) (hR0 : w.cell? ⟨gR, 0, none⟩ = some (.int .i64 (m : Int))) (hR1 : w.cell? ⟨gR, 1, none⟩ = some (.int .i64 (n : Int))) (hR2 : w.cell? ⟨gR, 2, none⟩ = some (.slice A (numP m n k).length c))
    (hL : w.cell? ⟨gL, 0, none⟩ = some (.int .i64 (m : Int))) (hZ : w.cell? ⟨gZ, 0, none⟩ = some (.int .i64 (n : Int))) (hA : ISl w A (numP m n k)) :
    SpAt (spD m n k (some ⟨gN, 0, none⟩) (some ⟨gR, 0, none⟩) (some ⟨gL, 0, none⟩) (some ⟨gZ, 0, none⟩) nc rc lc zc) w Q := by
  refine ⟨spD_model hm1 hm3, spD_model hn1 hn3, rfl, hQ, ?_, ?_, ?_, ?_⟩
  · intro j x hj
    cases j with
    | zero => simp [spD] at hj; subst hj; exact ⟨gN, 0, rfl, hN⟩
    | succ j => simp [spD] at hj
  · intro j x hj
    cases j with
    | zero => simp [spD] at hj; subst hj; exact ⟨gL, 0, rfl, hL⟩
    | succ j => simp [spD] at hj
  · intro j x hj
    cases j with
    | zero => simp [spD] at hj; subst hj; exact ⟨gZ, 0, rfl, hZ⟩
    | succ j => simp [spD] at hj
  · intro j i l r h1 h2
    cases j with
    | zero =>
      simp [spD] at h1 h2
      obtain ⟨rfl, rfl⟩ := h1
      obtain ⟨_, rfl⟩ := h2
      exact ⟨numP m n k, gR, 0, A, c, rfl, rfl, hR0, hR1, hR2, hA, by have := numP_len m n k; have : m * n ≤ 3 * 3 := Nat.mul_le_mul hm3 hn3; omega, numP_ok hm1 hm3 hn1 hn3⟩
    | succ j => simp [spD] at h1

def L7P (t : Ty) (m n x y : Nat) (w : World) (e : Ending) (w' : World) : Prop := (∃ q, e = .returned (.bool q) ∧ (q = true ↔ ∀ k, k < 2 ^ (m * n) → relT (sz1 m) (sz1 n) (numR m n k) t x y = true)) ∧ Fr No w w'

end Go.Proofs.YtloecimlimoanaaGreatDoor

/- ParamPair and ParamIs of the model and of the program. -/
namespace Go.Proofs.YtloecimlimoanaaGreatDoor
open Go.RowKit Go.ChangeMaps

theorem nrel_iff (t : Ty) (m n x y : Nat) : (∀ k, k < nrel t m n → relT (sz1 m) (sz1 n) (numR m n k) t x y = true) ↔ (∀ k, k < 2 ^ (m * n) → relT (sz1 m) (sz1 n) (numR m n k) t x y = true) :=
  Iff.rfl

theorem PairIs.iff {s : List UInt8} {t : Ty} {m n : Nat} {x y : Int} (hi : Ty.Is s t) (ho : OnlyA t) (h3 : In3 m n) :
    PairIs s m n x y ↔ ∃ (a b xN yN : Nat), t.cnt (sz1 m) = some a ∧ t.cnt (sz1 n) = some b ∧ x = xN ∧ y = yN ∧ xN < a ∧ yN < b ∧ ∀ k, k < 2 ^ (m * n) → relT (sz1 m) (sz1 n) (numR m n k) t xN yN = true := by
  have hs := hi.2.2
  have hk : ∀ μ, t.kn μ = t.cnt μ := fun μ => by unfold Ty.kn; rw [if_pos (by omega)]
  constructor
  · rintro ⟨t', mN, nN, c, c', xN, yN, h1, _, e1, e2, _, h6, h7, h8, h9, h10, h11, h12⟩
    have := h1.unique hi
    subst this
    have e1 : mN = m := by omega
    have e2 : nN = n := by omega
    subst e1 e2
    rw [hk] at h6 h7
    exact ⟨c, c', xN, yN, h6, h7, h8, h9, h10, h11, (nrel_iff _ _ _ _ _).1 h12⟩
  · rintro ⟨a, b, xN, yN, h6, h7, h8, h9, h10, h11, h12⟩
    exact ⟨t, m, n, a, b, xN, yN, hi, ho, rfl, rfl, h3, by rw [hk]; exact h6, by rw [hk]; exact h7, h8, h9, h10, h11, (nrel_iff _ _ _ _ _).2 h12⟩

theorem PairIs.in3 {s : List UInt8} {m n x y : Int} (h : PairIs s m n x y) : In3 m n := by
  obtain ⟨t', mN, nN, c, c', xN, yN, h1, _, e1, e2, h, _⟩ := h
  exact h

theorem PairIs.only {s : List UInt8} {m n x y : Int} (h : PairIs s m n x y) : ∃ t, Ty.Is s t ∧ OnlyA t := by
  obtain ⟨t', mN, nN, c, c', xN, yN, h1, h2, _⟩ := h
  exact ⟨t', h1, h2⟩

theorem ct1_any (W : World) (t : Ty) (hl : t.lets) (A : Option Addr) (c m : Nat) (h1 : 1 ≤ m) (h3 : m ≤ 3) (hA : Sl W (fun b => b < W.heap.size) A t.kids) :
    Calls Tryz.prog 66 #[.agg #[S t.atom, .slice A t.kids.len c], .slice (some ⟨W.heap.size, 0, none⟩) 1 1, .slice (some ⟨W.heap.size + 1, 0, none⟩) 1 1] ((W.alloc (.cells #[S [97]] 9)).alloc (.cells #[.int .i64 (m : Int)] 3)) fun e w2 => e = .returned (.int .i64 (cntI (sz1 m) t)) ∧ Fr No W w2 := by
  have hf : Fr No W ((W.alloc (.cells #[S [97]] 9)).alloc (.cells #[.int .i64 (m : Int)] 3)) := ((Fr.refl _ _).alloc _).alloc _
  have b1 : Blk ((W.alloc (.cells #[S [97]] 9)).alloc (.cells #[.int .i64 (m : Int)] 3)) W.heap.size 9 #[S [97]] := (Blk.new _ _ _).alloc _
  have b2 : Blk ((W.alloc (.cells #[S [97]] 9)).alloc (.cells #[.int .i64 (m : Int)] 3)) (W.heap.size + 1) 3 #[.int .i64 (m : Int)] := Blk.new_at _ _ _ (by simp)
  refine (ct_any [[97]] [(m : Int)] [(0, m)] (spD_model h1 h3) t hl _ (fun b => b < W.heap.size) A c _ _ 1 1 (fun b hb => Nat.lt_of_lt_of_le hb hf.size) (hA.fr (fun b hb => hb) hf) ?_ ?_).mono (fun e w2 h => ⟨h.1, hf.trans h.2⟩)
  · intro j x hj
    cases j with
    | zero => simp at hj; subst hj; exact ⟨_, 0, rfl, (b1.cell 0).trans rfl⟩
    | succ j => simp at hj
  · intro j x hj
    cases j with
    | zero => simp at hj; subst hj; exact ⟨_, 0, rfl, (b2.cell 0).trans rfl⟩
    | succ j => simp at hj

end Go.Proofs.YtloecimlimoanaaGreatDoor

/- The laws ParamPair and ParamIs. -/
namespace Go.Proofs.YtloecimlimoanaaGreatDoor
open Go.RowKit Go.ChangeMaps

end Go.Proofs.YtloecimlimoanaaGreatDoor
