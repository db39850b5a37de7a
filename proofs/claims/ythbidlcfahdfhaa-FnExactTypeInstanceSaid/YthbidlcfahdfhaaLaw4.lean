import Derived.Test.YthbidlcfahdfhaaTvars2
import Derived.Test.YthbidlcfahdfhaaLrow
namespace Go.Proofs.Ythbidlcfahdfhaa
open Go.RowKit Go.ChangeMaps

def VarsIs (s : List UInt8) (xs : List (List UInt8)) (b : Bool) : Prop := (∃ t, Ty.Is s t ∧ xs = letS (addV [] t) ∧ b = true) ∨ ((∀ t, ¬ Ty.Is s t) ∧ xs = [] ∧ b = false)

theorem VarsIs.one {s : List UInt8} {xs xs' : List (List UInt8)} {b b' : Bool} (h : VarsIs s xs b) (h' : VarsIs s xs' b') : xs' = xs ∧ b' = b := by
  rcases h with ⟨t, i1, rfl, rfl⟩ | ⟨n1, rfl, rfl⟩ <;> rcases h' with ⟨t', i2, rfl, rfl⟩ | ⟨n2, rfl, rfl⟩
  · have := i1.unique i2
    subst this
    exact ⟨rfl, rfl⟩
  · exact absurd i1 (n2 t)
  · exact absurd i2 (n1 t')
  · exact ⟨rfl, rfl⟩

theorem VarsIs.len {s : List UInt8} {xs : List (List UInt8)} {b : Bool} (h : VarsIs s xs b) : xs.length ≤ 40 := by
  rcases h with ⟨t, i1, rfl, rfl⟩ | ⟨n1, rfl, rfl⟩
  · have h1 := addV_len t []
    have h2 := i1.2.2
    simp [letS] at h1 ⊢
    omega
  · simp

set_option maxRecDepth 100000 in
set_option maxHeartbeats 1000000 in
theorem lawVars (w : World) (s : List UInt8) (hs : s.length ≤ maxLen) :
    Calls Try.prog 6 #[S s] w fun e w' => Yes w e w' := by
  have hs' := hs
  unfold maxLen at hs'
  by_cases hl : 1048576 < s.length
  · have hb : decide ((1048576 : Int) < (s.length : Int)) = true := by simp; omega
    go_enter Try.func6, Try.ntmps6
    go_wp2_with fail
    go_ret
    exact ⟨rfl, Fr.refl _ _⟩
  · have hb : decide ((1048576 : Int) < (s.length : Int)) = false := by simp; omega
    go_enter Try.func6, Try.ntmps6
    go_wp2_with fail
    refine (specVars _ s hs).mono ?_
    rintro e wa ⟨VW, cW, b, xs, rfl, oW, fW, pW⟩
    have HP : Hid (VarsIs s xs b) := pW
    have hlen : xs.length ≤ 40 := VarsIs.len pW
    have HW : Hid (Row wa w.heap.size VW cW xs) := oW
    have HF := Lib.hid fW
    clear oW fW pW
    go_wp2_with fail
    refine (implVars _ s hs).mono ?_
    rintro e wb ⟨VG, cG, b', xs', rfl, oG, fG, pG⟩
    obtain ⟨rfl, rfl⟩ := VarsIs.one HP.out pG
    have HG : Hid (Row wb wa.heap.size VG cG xs') := oG
    have HFG := Lib.hid fG
    have HWb : Hid (Row wb w.heap.size VW cW xs') := Row.fr HW.out fG (fun _ _ h => h)
    have HLW : Hid (∀ b, (Value.slice VW xs'.length cW).ownBlock = some b → b < wa.heap.size) := fun b hb => (row_low HW.out b hb).2
    have EQ : Hid (Calls Try.prog 30 #[.slice VG xs'.length cG, .slice VW xs'.length cW] wb fun e w' => EqS xs' xs' wb e w') := eqs_any wb VG VW xs' xs' cG cW (SSl.of_own HG.out) (SSl.of_own HWb.out) (by omega) (by omega)
    clear oG fG pG HW
    go_wp2_with fail
    refine EQ.out.mono ?_
    rintro e w' ⟨bb, rfl, hbb, n, rfl⟩
    obtain rfl : bb = true := hbb.2 rfl
    clear hbb EQ
    have HGc : Hid (Row (wb.drewN n) wa.heap.size VG cG xs') := HG.out
    have HWc : Hid (Row (wb.drewN n) w.heap.size VW cW xs') := HWb.out
    have HFc : Hid (Fr No w (wb.drewN n)) := HF.out.trans (HFG.out.drewN n)
    have HAc : Hid (Fr No wa (wb.drewN n)) := HFG.out.drewN n
    have HLA : Hid (w.heap.size ≤ wa.heap.size) := HF.out.size
    clear HG HWb HF HFG
    generalize wb.drewN n = wc at *
    obtain ⟨r, hr⟩ : ∃ r : Int, r = ((1 + xs'.length : Nat) : Int) := ⟨_, rfl⟩
    have hr0 : ¬ r < 0 := by omega
    have HR := Lib.hid hr
    clear hr
    have MK : Hid (Calls Try.prog 31 #[.slice VG xs'.length cG, .int .i64 1] wc fun e w' => e = .returned (.int .i64 r) ∧ Fr (fun b => (Value.slice VG xs'.length cG).ownBlock = some b) wc w' ∧ ∃ ys, Marked 1 xs'.length xs'.length ys ∧ ys.length = xs'.length ∧ Row w' wa.heap.size VG cG ys) :=
      marks_one wa.heap.size wc VG xs' xs'.length cG r HR.out rfl HGc.out (by omega)
    go_wp2_with fail
    refine MK.out.mono ?_
    rintro e wd ⟨rfl, hfd, ys, hys, hyl, hrow⟩
    have HY := Lib.hid hys
    have HYL := Lib.hid hyl
    have HGd := Lib.hid hrow
    have HWd : Hid (Row wd w.heap.size VW cW xs') := Row.fr HWc.out hfd (fun b hb hb' => by have := HLW.out b hb; have := (row_low HGc.out b hb').1; omega)
    have HFd : Hid (Fr No w wd) := HFc.out.then_ hfd (fun i hi e => by have h1 := (row_low HGc.out i e).1; have h2 := HFc.out.size; have h3 := HAc.out.size; exact absurd hi (by have := HLA.out; omega))
    clear hys hyl hrow hfd HGc HWc HFc HAc MK
    have HE1 : Hid (Calls Try.prog 32 #[.slice VG xs'.length cG, .int .i64 1] wd fun e w' => e = .returned (.int .i64 r) ∧ Fr No wd w') := held_one wa.heap.size wd VG ys xs'.length cG r HR.out HY.out HGd.out (by omega)
    go_wp2_with fail
    refine HE1.out.mono ?_
    rintro e we ⟨rfl, hfe⟩
    have HGe : Hid (Row we wa.heap.size VG cG ys) := Row.fr HGd.out hfe (fun _ _ h => h)
    have HWe : Hid (Row we w.heap.size VW cW xs') := Row.fr HWd.out hfe (fun _ _ h => h)
    have HFe : Hid (Fr No w we) := HFd.out.trans hfe
    clear hfe HGd HWd HFd HE1
    go_wp2_with fail
    refine (implVars _ s hs).mono ?_
    rintro e wf ⟨VH, cH, b'', xs'', rfl, oH, fH, pH⟩
    obtain ⟨rfl, rfl⟩ := VarsIs.one HP.out pH
    have HH : Hid (Row wf we.heap.size VH cH xs'') := oH
    have HGf : Hid (Row wf wa.heap.size VG cG ys) := Row.fr HGe.out fH (fun _ _ h => h)
    have HWf : Hid (Row wf w.heap.size VW cW xs'') := Row.fr HWe.out fH (fun _ _ h => h)
    have HFf : Hid (Fr No w wf) := HFe.out.trans fH
    have EQ : Hid (Calls Try.prog 30 #[.slice VH xs''.length cH, .slice VW xs''.length cW] wf fun e w' => EqS xs'' xs'' wf e w') := eqs_any wf VH VW xs'' xs'' cH cW (SSl.of_own HH.out) (SSl.of_own HWf.out) (by omega) (by omega)
    clear oH fH pH HGe HWe HFe HH HWf
    go_wp2_with fail
    refine EQ.out.mono ?_
    rintro e w' ⟨bb, rfl, hbb, n', rfl⟩
    obtain rfl : bb = true := hbb.2 rfl
    clear hbb EQ
    have HE2 : Hid (Calls Try.prog 32 #[.slice VG xs''.length cG, .int .i64 1] (wf.drewN n') fun e w' => e = .returned (.int .i64 r) ∧ Fr No (wf.drewN n') w') := held_one wa.heap.size (wf.drewN n') VG ys xs''.length cG r HR.out HY.out HGf.out (by omega)
    have HFg : Hid (Fr No w (wf.drewN n')) := HFf.out.drewN n'
    clear HGf HFf
    generalize wf.drewN n' = wg at *
    go_wp2_with fail
    refine HE2.out.mono ?_
    rintro e wh ⟨rfl, hfh⟩
    have HZ : Hid (Fr No w wh) := HFg.out.trans hfh
    clear hfh HFg HE2
    go_wp2_with fail
    go_ret
    exact ⟨rfl, HZ.out⟩
end Go.Proofs.Ythbidlcfahdfhaa
