/- Elements of compound types, as the model finds them. -/
import Derived.Test.YtngbpcphkfmncaaScnt
namespace Go.Proofs.Ytngbpcphkfmncaa
open Go.RowKit Go.ChangeMaps

/-- k is an element of a compound type with a sign -/
def ElIs (s : List UInt8) (f : Bool) (ns : List (List UInt8)) (zs : List Int) (k : Int) (l r : Ty) (ms : List (Nat × Nat)) (d : Nat) : Prop :=
  Ty.Is s (.n f l r) ∧ ModelIs ns zs ms ∧ (Ty.n f l r).cnt (szs ms) = some d ∧ 0 ≤ k ∧ k < d

def ElP (s : List UInt8) (f : Bool) (ns : List (List UInt8)) (zs : List Int) (k : Int) (w : World) (e : Ending) (w' : World) : Prop :=
  Fr No w w' ∧ ((∃ l r ms d X xc, ElIs s f ns zs k l r ms d ∧ e = .returned (.tuple #[.agg #[S [], .slice X 3 xc], .bool true]) ∧ Sl w' (fun b => b < w'.heap.size) X (Ty.n f l r).kids) ∨
    (∃ a X m xc, (∀ l r ms d, ¬ ElIs s f ns zs k l r ms d) ∧ e = .returned (.tuple #[.agg #[S a, .slice X m xc], .bool false])))

theorem head_n (f : Bool) (l r : Ty) : headOf (Ty.n f l r).atom (Ty.n f l r).kids = [Ty.sign f] := rfl

theorem head_is {t : Ty} {f : Bool} (h : headOf t.atom t.kids = [Ty.sign f]) : ∃ l r, t = .n f l r := by
  cases t with
  | v i => simp [headOf, Ty.atom] at h
  | o => simp [headOf, Ty.atom] at h
  | n g l r =>
    rw [head_n] at h
    injection h with h
    exact ⟨l, r, by rw [Ty.sign_inj h]⟩

set_option maxRecDepth 100000 in
set_option maxHeartbeats 2000000 in
theorem el_any (w : World) (s : List UInt8) (f : Bool) (A A' : Option Addr) (ns : List (List UInt8)) (zs : List Int) (c c' : Nat) (k : Int) (hc : ns.length ≤ c) (hss : s.length ≤ maxLen) (hN : SSl w A ns) (hZ : ISl w A' zs) (hl : ns.length ≤ 1048576) (hl' : zs.length ≤ 1048576) (hs : ∀ x ∈ ns, x.length ≤ maxLen) :
    Calls Try.prog 56 #[S s, S [Ty.sign f], .slice A ns.length c, .slice A' zs.length c', .int .i64 k] w fun e w' => ElP s f ns zs k w e w' := by
  have HN := Lib.hid hN
  have HZ := Lib.hid hZ
  have HS := Lib.hid hs
  clear hN hZ hs
  have MV : Hid (∀ w', Fr No w w' → Calls Try.prog 16 #[.slice A ns.length c, .slice A' zs.length c'] w' fun e w2 => AnsB (∃ ms, ModelIs ns zs ms) w' e w2) := fun w' hf =>
    specModel w' A A' ns zs c c' hc (HN.out.keep hf (fun _ h => h.elim)) (HZ.out.keep hf (fun _ h => h.elim)) hl hl' HS.out
  have br := Blk.new w 68 #[S [], .slice none 0 0]
  have hfr0 : Fr No w (w.alloc (.cells #[S [], .slice none 0 0] 68)) := (Fr.refl _ _).alloc _
  go_enter Try.func56, Try.ntmps56
  go_wp2_with fail
  generalize hw0 : w.alloc (.cells #[S [], .slice none 0 0] 68) = w0 at *
  clear hw0
  refine (type_any s _ hss).mono ?_
  rintro e w1 ⟨hf1, hor⟩
  have HR : Hid (∀ w', Fr No w1 w' → w'.cell? ⟨w.heap.size, 0, none⟩ = some (S []) ∧ w'.cell? ⟨w.heap.size, 1, none⟩ = some (.slice none 0 0) ∧ w'.frozen? ⟨w.heap.size, 0, none⟩ = false ∧ w'.frozen? ⟨w.heap.size, 1, none⟩ = false ∧ w.heap.size < w'.heap.size) := by
    intro w' hf
    have b := br.fr (hf1.trans hf) (fun h => h)
    exact ⟨(b.cell 0).trans rfl, (b.cell 1).trans rfl, b.frozen 0, b.frozen 1, b.lt⟩
  have HF1 := Lib.hid (hfr0.trans hf1)
  have hwl : w.heap.size < w1.heap.size := (HR.out w1 (Fr.refl _ _)).2.2.2.2
  clear hfr0
  rcases hor with ⟨t, At, ct, hi, rfl, hsl⟩ | ⟨a0, At, mt, ct, hno, rfl⟩
  · have HB : Hid (∀ w', Fr No (w1.alloc (.cells #[S t.atom, .slice At t.kids.len ct] 68)) w' → w'.cell? ⟨w1.heap.size, 0, none⟩ = some (S t.atom) ∧ w'.cell? ⟨w1.heap.size, 1, none⟩ = some (.slice At t.kids.len ct) ∧ w1.heap.size < w'.heap.size) := by
      intro w' hf
      have := (Blk.new w1 68 #[S t.atom, .slice At t.kids.len ct]).fr hf (fun h => h)
      exact ⟨(this.cell 0).trans rfl, (this.cell 1).trans rfl, this.lt⟩
    have HFB : Hid (Fr No w1 (w1.alloc (.cells #[S t.atom, .slice At t.kids.len ct] 68))) := (Fr.refl _ _).alloc _
    have HI := Lib.hid hi
    have HSL : Hid (∀ w', Fr No w1 w' → Sl w' (fun b => b < w1.heap.size ∧ b ≠ w.heap.size) At t.kids) := fun w' hf => by
      refine (hsl.fr (fun b hb => hb.2) hf).mono (fun b hb => ⟨hb.2, ?_⟩) (fun _ _ => rfl)
      have := hb.1
      have := br.lt
      omega
    clear hi hsl hf1
    go_wp2_with fail
    generalize w1.alloc (.cells #[S t.atom, .slice At t.kids.len ct] 68) = W at HB HFB ⊢
    have hsl0 := HSL.out W HFB.out
    go_wp2_with fail
    refine (head_any W _ t.atom t.kids At ct hsl0).mono ?_
    rintro e w2 ⟨rfl, hf2⟩
    have HF2 := Lib.hid hf2
    have HG2 := Lib.hid (HFB.out.trans hf2)
    clear hsl0
    obtain ⟨x0, x1, x2⟩ := HB.out w2 hf2
    obtain ⟨r0, r1, r2, r3, r4⟩ := HR.out w2 HG2.out
    have RES : Hid (∀ w' v0 v1, Fr No w1 w' → Fr No w ((w'.setCell ⟨w.heap.size, 0, none⟩ v0).setCell ⟨w.heap.size, 1, none⟩ v1)) := fun w' v0 v1 hf =>
      ((HF1.out.trans hf).setCell (p := ⟨w.heap.size, 0, none⟩) (.inr (Nat.le_refl _)) _).setCell (p := ⟨w.heap.size, 1, none⟩) (.inr (Nat.le_refl _)) _
    have ne1 : w.heap.size ≠ w1.heap.size := by omega
    have ne2 : w1.heap.size ≠ w.heap.size := by omega
    clear hf2
    by_cases hh : headOf t.atom t.kids = [Ty.sign f]
    · obtain ⟨l, r, rfl⟩ := head_is hh
      rw [hh]
      clear hh
      have HB : Hid (∀ w', Fr No W w' → w'.cell? ⟨w1.heap.size, 0, none⟩ = some (S []) ∧ w'.cell? ⟨w1.heap.size, 1, none⟩ = some (.slice At 3 ct) ∧ w1.heap.size < w'.heap.size) := HB.out
      clear x0 x1
      obtain ⟨x0, x1, _⟩ := HB.out w2 HF2.out
      have e1 : (Ty.n f l r).kids.len = 3 := rfl
      rw [Ty.atom_n, e1]
      clear e1
      go_wp2_with fail
      refine (MV.out _ (HF1.out.trans HG2.out)).mono ?_
      rintro e w3 ⟨b, rfl, hb, hf3⟩
      have HV := Lib.hid hb
      have HF3 := Lib.hid hf3
      have HG3 := Lib.hid (HG2.out.trans hf3)
      clear hb x0 x1 x2 r0 r1 r2 r3 r4 hf3
      obtain ⟨x0, x1, x2⟩ := HB.out w3 (HF2.out.trans HF3.out)
      obtain ⟨r0, r1, r2, r3, r4⟩ := HR.out w3 HG3.out
      cases b
      · have HNO : Hid (∀ l r ms d, ¬ ElIs s f ns zs k l r ms d) := fun l r ms d h => by have := HV.out.2 ⟨ms, h.2.1⟩; cases this
        go_wp2_with fail
        refine bodyPost_ret (v := .tuple #[.agg #[S [], .slice At 3 ct], .bool false]) (by simp [results, Try.results56, go_sem, cell_set_same r0, cell_set_next r1]) rfl ?_
        exact ⟨RES.out _ _ _ HG3.out, .inr ⟨_, _, _, _, HNO.out, rfl⟩⟩
      · obtain ⟨ms, hm⟩ := HV.out.1 (by trivial)
        have HM := Lib.hid hm
        have CT : Hid (∀ w', Fr No w1 w' → Calls Try.prog 49 #[.agg #[S [], .slice At 3 ct], .slice A ns.length c, .slice A' zs.length c'] w' fun e w2 => e = .returned (.int .i64 (cntI (szs ms) (.n f l r))) ∧ Fr No w' w2) := fun w' hf =>
          ct_any ns zs ms HM.out (.n f l r) HI.out.2.1 w' _ At ct A A' c c' (fun b hb => Nat.lt_of_lt_of_le hb.1 hf.size) (HSL.out w' hf) (HN.out.keep (HF1.out.trans hf) (fun _ h => h.elim)) (HZ.out.keep (HF1.out.trans hf) (fun _ h => h.elim))
        have hcb : -1 ≤ cntI (szs ms) (.n f l r) ∧ cntI (szs ms) (.n f l r) ≤ 4096 ∧ (∀ d : Nat, (Ty.n f l r).cnt (szs ms) = some d → cntI (szs ms) (.n f l r) = d) ∧ ((Ty.n f l r).cnt (szs ms) = none → cntI (szs ms) (.n f l r) = -1) := by
          rcases hc : (Ty.n f l r).cnt (szs ms) with _ | d
          · rw [cntI_none hc]; exact ⟨by omega, by omega, fun d h => (by cases h), fun _ => rfl⟩
          · have := (Ty.n f l r).cnt_bounds hm.sz d hc
            rw [cntI_some hc]; exact ⟨by omega, by omega, fun d' h => (by injection h with h; rw [h]), fun h => (by cases h)⟩
        have hlo := hcb.1
        have hhi := hcb.2.1
        have HCB := Lib.hid hcb
        obtain ⟨q, hq⟩ : ∃ q, q = decide (0 ≤ k ∧ k ≤ cntI (szs ms) (.n f l r) - 1) := ⟨_, rfl⟩
        have IN : Hid (∀ w', Calls Try.prog 47 #[.int .i64 k, .int .i64 0, .int .i64 (IntKind.i64.wrap (cntI (szs ms) (.n f l r) - 1))] w' fun e w2 => e = .returned (.bool q) ∧ w' = w2) := fun w' => by
          rw [IntWalk.i64_in _ (by omega), hq]
          exact in_any w' k 0 _
        have HEQ : Hid (q = true ↔ ∃ l' r' ms' d, ElIs s f ns zs k l' r' ms' d) := by
          rw [hq]
          constructor
          · intro h
            obtain ⟨h1, h2⟩ := of_decide_eq_true h
            rcases hc : (Ty.n f l r).cnt (szs ms) with _ | d
            · have := HCB.out.2.2.2 hc; omega
            · have := HCB.out.2.2.1 d hc
              exact ⟨l, r, ms, d, HI.out, HM.out, hc, h1, by omega⟩
          · rintro ⟨l', r', ms', d, h1, h2, h3, h4, h5⟩
            have e1 := h1.unique HI.out
            injection e1 with _ e1 e2
            subst e1; subst e2
            rw [h2.unique HM.out] at h3
            have := HCB.out.2.2.1 d h3
            exact decide_eq_true ⟨h4, by omega⟩
        clear hcb hm HV hq
        generalize cntI (szs ms) (.n f l r) = ci at *
        have hfd : Fr No w1 w3.drew := HG3.out.drew
        have hX3 : Fr No W w3 := HF2.out.trans HF3.out
        have HX3 := Lib.hid hX3
        clear hX3
        go_wp2_with fail
        go_region_held3 (fun w' => w'.cell? ⟨w1.heap.size, 0, none⟩ = some (S []) ∧ w'.cell? ⟨w1.heap.size, 1, none⟩ = some (.slice At 3 ct)) (go_keep)
          (first | (go_at_call 49; ((with_reducible refine (CT.out _ hfd).mono ?_); rintro e w4 ⟨rfl, hf4⟩; have HF4 := Lib.hid hf4; have HG4 := Lib.hid (hfd.trans hf4); obtain ⟨y0, y1, y2⟩ := HB.out w4 ((HX3.out.drew).trans hf4); obtain ⟨s0, s1, s2, s3, s4⟩ := HR.out w4 HG4.out; clear hf4)) | (go_at_call 47; ((with_reducible refine (IN.out _).mono ?_); rintro e w5 ⟨rfl, rfl⟩)))
        cases q
        case true =>
          obtain ⟨l', r', ms', d', hel⟩ := HEQ.out.1 (by trivial)
          have HEL := Lib.hid hel
          have HFIN : Hid (∀ v0 v1, ElP s f ns zs k w (.returned (.tuple #[.agg #[S [], .slice At 3 ct], .bool true])) ((w4.setCell ⟨w.heap.size, 0, none⟩ v0).setCell ⟨w.heap.size, 1, none⟩ v1)) := by
            intro v0 v1
            refine ⟨RES.out _ _ _ HG4.out, .inl ⟨l', r', ms', d', At, ct, HEL.out, rfl, ?_⟩⟩
            have e := HI.out.unique HEL.out.1
            injection e with _ e1 e2
            subst e1; subst e2
            refine (HSL.out w4 HG4.out).mono (fun b hb => by have := HG4.out.size; have := hb.1; simp [World.setCell]; omega) (fun b hb => ?_)
            rw [Below.heap_setCell _ _ _ _ (by show b ≠ w.heap.size; exact hb.2), Below.heap_setCell _ _ _ _ (by show b ≠ w.heap.size; exact hb.2)]
          clear hel
          go_wp2_with fail
          refine bodyPost_ret (v := .tuple #[.agg #[S [], .slice At 3 ct], .bool true]) (by simp [results, Try.results56, go_sem, cell_set_same s0, cell_set_next s1]) rfl ?_
          exact HFIN.out _ _
        case false =>
          have HNO : Hid (∀ l r ms d, ¬ ElIs s f ns zs k l r ms d) := fun l r ms d h => by have := HEQ.out.2 ⟨l, r, ms, d, h⟩; cases this
          go_wp2_with fail
          refine bodyPost_ret (v := .tuple #[.agg #[S [], .slice At 3 ct], .bool false]) (by simp [results, Try.results56, go_sem, cell_set_same s0, cell_set_next s1]) rfl ?_
          exact ⟨RES.out _ _ _ HG4.out, .inr ⟨_, _, _, _, HNO.out, rfl⟩⟩
    · have hne : (headOf t.atom t.kids == [Ty.sign f]) = false := by simpa using hh
      have HNO : Hid (∀ l r ms d, ¬ ElIs s f ns zs k l r ms d) := fun l r ms d h => hh (by rw [HI.out.unique h.1]; rfl)
      clear hh
      generalize headOf t.atom t.kids = hd at *
      generalize t.atom = ta at *
      generalize t.kids.len = tl at *
      go_wp2_with fail
      refine bodyPost_ret (v := .tuple #[.agg #[S ta, .slice At tl ct], .bool false]) (by simp [results, Try.results56, go_sem, cell_set_same r0, cell_set_next r1]) rfl ?_
      exact ⟨RES.out _ _ _ HG2.out, .inr ⟨_, _, _, _, HNO.out, rfl⟩⟩
  · have HNO : Hid (∀ l r ms d, ¬ ElIs s f ns zs k l r ms d) := fun l r ms d h => hno _ h.1
    have HFB : Hid (Fr No w1 (w1.alloc (.cells #[S a0, .slice At mt ct] 68))) := (Fr.refl _ _).alloc _
    have HB : Hid (Blk (w1.alloc (.cells #[S a0, .slice At mt ct] 68)) w1.heap.size 68 #[S a0, .slice At mt ct]) := Blk.new _ _ _
    clear hno hf1 br
    have ne1 : w.heap.size ≠ w1.heap.size := by omega
    have ne2 : w1.heap.size ≠ w.heap.size := by omega
    obtain ⟨r0, r1, r2, r3, r4⟩ := HR.out _ (Fr.refl _ _)
    go_wp2_with fail
    refine bodyPost_ret (v := .tuple #[.agg #[S a0, .slice At mt ct], .bool false]) (by simp [results, Try.results56, go_sem, hwl, cell_set_same r0, cell_set_next r1]) rfl ?_
    exact ⟨((HF1.out.setCell (p := ⟨w.heap.size, 0, none⟩) (.inr (Nat.le_refl _)) _).setCell (p := ⟨w.heap.size, 1, none⟩) (.inr (Nat.le_refl _)) _).alloc _, .inr ⟨_, _, _, _, HNO.out, rfl⟩⟩
end Go.Proofs.Ytngbpcphkfmncaa
