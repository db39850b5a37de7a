/- The set of a compound type. -/
import Derived.Test.YtmpadnnpmbgdcaaSet
namespace Go.Proofs.Ytmpadnnpmbgdcaa
open Go.RowKit Go.ChangeMaps

def SetP (μ : Nat → Option Nat) (t : Ty) (w : World) (e : Ending) (w' : World) : Prop := ∃ v, e = .returned v ∧ SetV w' μ t v ∧ Fr No w w'

set_option maxRecDepth 100000 in
set_option maxHeartbeats 1000000 in
theorem combined_nil (w : World) (μ : Nat → Option Nat) (f : Bool) (l r : Ty) (x y : Value) (hx : SetV w μ l x) (hy : SetV w μ r y) (hn : l.kn μ = none ∨ r.kn μ = none) :
    Calls Try.prog 97 #[S [Ty.sign f], x, y] w fun e w' => SetP μ (.n f l r) w e w' := by
  have HK : Hid ((Ty.n f l r).kn μ = none) := Ty.kn_none hn
  rcases ha : l.kn μ with _ | a
  · obtain rfl := hx.none_ ha
    clear hx hy hn ha
    go_enter Try.func97, Try.ntmps97
    go_wp2_with fail
    go_ret
    exact ⟨_, rfl, .inr ⟨HK.out, rfl⟩, Fr.refl _ _⟩
  · obtain ⟨g, p, q, rfl, _⟩ := hx.some_ ha
    have hb : r.kn μ = none := by
      rcases hn with hn | hn
      · rw [ha] at hn; cases hn
      · exact hn
    obtain rfl := hy.none_ hb
    clear hx hy hn ha hb
    go_enter Try.func97, Try.ntmps97
    go_wp2_with fail
    go_ret
    exact ⟨_, rfl, .inr ⟨HK.out, rfl⟩, Fr.refl _ _⟩

theorem set_end {w w' : World} {μ : Nat → Option Nat} {f : Bool} {l r : Ty} {gl gr c p : Nat} {z : Int} (hX : SetV w μ l (Ptr gl)) (hY : SetV w μ r (Ptr gr)) (hf : Fr No w w') (hz : z = ((Ty.n f l r).size : Nat)) (hb : Blk w' p 78 #[S [Ty.sign f], .int .i64 z, .int .i64 c, Ptr gl, Ptr gr])
    (hk : (Ty.n f l r).kn μ = some c) : SetP μ (.n f l r) w (.returned (Ptr p)) w' := by
  subst hz
  have hk' : KeepS w w' := KeepS.fr hf (fun _ h => h.elim)
  exact ⟨_, rfl, .inl ⟨c, p, _, _, hk, rfl, hb, hX.keep hk', hY.keep hk'⟩, hf⟩

theorem size_n (f : Bool) (l r : Ty) : (1 : Int) + (l.size : Int) + (r.size : Int) = ((Ty.n f l r).size : Nat) := by simp [Ty.size]

set_option maxRecDepth 100000 in
set_option maxHeartbeats 1000000 in
theorem combined_pair (w : World) (μ : Nat → Option Nat) (hμ : Sizes μ) (l r : Ty) (a b : Nat) (x y : Value) (hx : SetV w μ l x) (hy : SetV w μ r y) (ha : l.kn μ = some a) (hb : r.kn μ = some b) :
    Calls Try.prog 97 #[S [42], x, y] w fun e w' => SetP μ (.n false l r) w e w' := by
  obtain ⟨gl, pl, ql, rfl, bl⟩ := hx.some_ ha
  obtain ⟨gr, pr, qr, rfl, br⟩ := hy.some_ hb
  have hab := Ty.kn_bounds hμ ha
  have hbb := Ty.kn_bounds hμ hb
  have hsl := Ty.kn_size ha
  have hsr := Ty.kn_size hb
  have HKN : Hid ((Ty.n false l r).kn μ = if 1 + l.size + r.size ≤ 400 then cap (a * b) else none) := Ty.kn_of (f := false) ha hb
  have HX := Lib.hid hx
  have HY := Lib.hid hy
  have c1 : w.cell? ⟨gl, 1, none⟩ = some (.int .i64 (l.size : Nat)) := (bl.cell 1).trans rfl
  have c2 : w.cell? ⟨gl, 2, none⟩ = some (.int .i64 a) := (bl.cell 2).trans rfl
  have d1 : w.cell? ⟨gr, 1, none⟩ = some (.int .i64 (r.size : Nat)) := (br.cell 1).trans rfl
  have d2 : w.cell? ⟨gr, 2, none⟩ = some (.int .i64 b) := (br.cell 2).trans rfl
  have g1 := bl.lt
  have g2 := br.lt
  have hm : a * b ≤ 4096 * 4096 := Nat.mul_le_mul hab.2 hbb.2
  have hme : (a : Int) * (b : Int) = ((a * b : Nat) : Int) := by simp
  have hm1 : (a : Int) * (b : Int) ≤ 16777216 := by rw [hme]; omega
  have hm0 : 0 ≤ (a : Int) * (b : Int) := by rw [hme]; omega
  have z1 : (l.size : Int) ≤ 400 := by omega
  have z2 : (r.size : Int) ≤ 400 := by omega
  have z3 : (0 : Int) ≤ (l.size : Int) := by omega
  have z4 : (0 : Int) ≤ (r.size : Int) := by omega
  have HME := Lib.hid hme
  clear hx hy ha hb bl br hm hme
  go_enter Try.func97, Try.ntmps97
  go_wp2_with fail
  have hw1 : IntKind.i64.wrap (1 + (l.size : Int)) = 1 + (l.size : Int) := IntWalk.i64_in _ (by omega)
  have hw2 : IntKind.i64.wrap (1 + (l.size : Int) + (r.size : Int)) = 1 + (l.size : Int) + (r.size : Int) := IntWalk.i64_in _ (by omega)
  refine wp_region_still_tail 14 (by kernel_rfl) (by kernel_rfl) ?_
  change wpStill _ _ (World.drew _) (fun a' => wpList _ _ _ _ a' (World.drew _)) _ _
  simp only [List.take_succ_cons, List.take_zero, List.drop_succ_cons, List.drop_zero]
  repeat still_step
  refine wpStill_nil ?_
  clear hw1 hw2
  have BN : Hid (Blk (w.alloc (.cells #[S [42], .int .i64 (1 + (l.size : Int) + (r.size : Int)), .int .i64 0, Ptr gl, Ptr gr] 78)).drew w.heap.size 78 #[S [42], .int .i64 (1 + (l.size : Int) + (r.size : Int)), .int .i64 0, Ptr gl, Ptr gr]) := (Blk.new w 78 #[S [42], .int .i64 (1 + (l.size : Int) + (r.size : Int)), .int .i64 0, Ptr gl, Ptr gr]).drew
  have FN : Hid (Fr No w (w.alloc (.cells #[S [42], .int .i64 (1 + (l.size : Int) + (r.size : Int)), .int .i64 0, Ptr gl, Ptr gr] 78)).drew) := ((Fr.refl No w).alloc _).drew
  go_wp2_with fail
  generalize (w.alloc (.cells #[S [42], .int .i64 (1 + (l.size : Int) + (r.size : Int)), .int .i64 0, Ptr gl, Ptr gr] 78)).drew = W at BN FN ⊢
  have e2 : W.cell? ⟨gl, 2, none⟩ = some (.int .i64 a) := (FN.out.cell (p := ⟨gl, 2, none⟩) g1 (fun h => h)).trans c2
  have e3 : W.cell? ⟨gr, 2, none⟩ = some (.int .i64 b) := (FN.out.cell (p := ⟨gr, 2, none⟩) g2 (fun h => h)).trans d2
  have n0 : W.cell? ⟨w.heap.size, 2, none⟩ = some (.int .i64 0) := (BN.out.cell 2).trans rfl
  have n1 : W.cell? ⟨w.heap.size, 1, none⟩ = some (.int .i64 (1 + (l.size : Int) + (r.size : Int))) := (BN.out.cell 1).trans rfl
  have nf := BN.out.frozen 2
  have nl := BN.out.lt
  clear c1 c2 d1 d2
  generalize hp : w.heap.size = p at *
  have HP := Lib.hid hp
  clear hp g1 g2
  have hw3 : IntKind.i64.wrap ((a : Int) * (b : Int)) = ((a * b : Nat) : Int) := by rw [← HME.out]; exact IntWalk.i64_in _ (by omega)
  have BS : Hid (Blk (W.setCell ⟨p, 2, none⟩ (.int .i64 ((a * b : Nat) : Int))).drew p 78 #[S [42], .int .i64 (1 + (l.size : Int) + (r.size : Int)), .int .i64 ((a * b : Nat) : Int), Ptr gl, Ptr gr]) := (BN.out.set_ 2 _).drew
  have FS : Hid (Fr No w (W.setCell ⟨p, 2, none⟩ (.int .i64 ((a * b : Nat) : Int))).drew) := (FN.out.setCell (p := ⟨p, 2, none⟩) (.inr (by have := HP.out; show w.heap.size ≤ p; omega)) _).drew
  have hM : (0 : Int) ≤ ((a * b : Nat) : Int) := by omega
  generalize hmu : a * b = mu at *
  have HMU := Lib.hid hmu
  clear hmu
  refine wp_region_still_tail 12 (by kernel_rfl) (by kernel_rfl) ?_
  change wpStill _ _ (World.drew _) (fun a' => wpList _ _ _ _ a' (World.drew _)) _ _
  simp only [List.take_succ_cons, List.take_zero, List.drop_succ_cons, List.drop_zero]
  repeat still_step
  refine wpStill_nil ?_
  clear hw3 hm1 hm0
  by_cases h400 : 1 + l.size + r.size ≤ 400
  · have h400' : ¬ 400 < 1 + (l.size : Int) + (r.size : Int) := by omega
    by_cases h4096 : mu ≤ 4096
    · have h4096' : ¬ 4096 < (mu : Int) := by omega
      have HK : Hid ((Ty.n false l r).kn μ = some mu) := by show _ = _; rw [HKN.out, if_pos h400]; unfold cap; rw [if_pos h4096]
      go_wp2_with fail
      go_ret
      exact set_end (f := false) HX.out HY.out FS.out (size_n false l r) BS.out HK.out
    · have h4096' : 4096 < (mu : Int) := by omega
      have HK : Hid ((Ty.n false l r).kn μ = none) := by show _ = _; rw [HKN.out, if_pos h400]; unfold cap; rw [if_neg h4096]
      go_wp2_with fail
      go_ret
      exact ⟨_, rfl, .inr ⟨HK.out, rfl⟩, FS.out⟩
  · have h400' : 400 < 1 + (l.size : Int) + (r.size : Int) := by omega
    have HK : Hid ((Ty.n false l r).kn μ = none) := by show _ = _; rw [HKN.out, if_neg h400]
    go_wp2_with fail
    go_ret
    exact ⟨_, rfl, .inr ⟨HK.out, rfl⟩, FS.out⟩

set_option maxRecDepth 100000 in
set_option maxHeartbeats 1000000 in
theorem combined_fun (w : World) (μ : Nat → Option Nat) (hμ : Sizes μ) (l r : Ty) (a b : Nat) (x y : Value) (hx : SetV w μ l x) (hy : SetV w μ r y) (ha : l.kn μ = some a) (hb : r.kn μ = some b) :
    Calls Try.prog 97 #[S [62], x, y] w fun e w' => SetP μ (.n true l r) w e w' := by
  obtain ⟨gl, pl, ql, rfl, bl⟩ := hx.some_ ha
  obtain ⟨gr, pr, qr, rfl, br⟩ := hy.some_ hb
  have hab := Ty.kn_bounds hμ ha
  have hbb := Ty.kn_bounds hμ hb
  have hsl := Ty.kn_size ha
  have hsr := Ty.kn_size hb
  have HKN : Hid ((Ty.n true l r).kn μ = if 1 + l.size + r.size ≤ 400 then cap (b ^ a) else none) := Ty.kn_of (f := true) ha hb
  have HX := Lib.hid hx
  have HY := Lib.hid hy
  have c1 : w.cell? ⟨gl, 1, none⟩ = some (.int .i64 (l.size : Nat)) := (bl.cell 1).trans rfl
  have c2 : w.cell? ⟨gl, 2, none⟩ = some (.int .i64 a) := (bl.cell 2).trans rfl
  have d1 : w.cell? ⟨gr, 1, none⟩ = some (.int .i64 (r.size : Nat)) := (br.cell 1).trans rfl
  have d2 : w.cell? ⟨gr, 2, none⟩ = some (.int .i64 b) := (br.cell 2).trans rfl
  have g1 := bl.lt
  have g2 := br.lt
  have POW : Hid (∀ w', Calls Try.prog 100 #[.int .i64 b, .int .i64 a] w' fun e w2 => PowR b a w' e w2) := fun w' => power_any w' b a hbb.1 hbb.2 hab.2
  have z1 : (l.size : Int) ≤ 400 := by omega
  have z2 : (r.size : Int) ≤ 400 := by omega
  have z3 : (0 : Int) ≤ (l.size : Int) := by omega
  have z4 : (0 : Int) ≤ (r.size : Int) := by omega
  clear hx hy ha hb bl br
  go_enter Try.func97, Try.ntmps97
  go_wp2_with fail
  have hw1 : IntKind.i64.wrap (1 + (l.size : Int)) = 1 + (l.size : Int) := IntWalk.i64_in _ (by omega)
  have hw2 : IntKind.i64.wrap (1 + (l.size : Int) + (r.size : Int)) = 1 + (l.size : Int) + (r.size : Int) := IntWalk.i64_in _ (by omega)
  refine wp_region_still_tail 14 (by kernel_rfl) (by kernel_rfl) ?_
  change wpStill _ _ (World.drew _) (fun a' => wpList _ _ _ _ a' (World.drew _)) _ _
  simp only [List.take_succ_cons, List.take_zero, List.drop_succ_cons, List.drop_zero]
  repeat still_step
  refine wpStill_nil ?_
  clear hw1 hw2
  have BN : Hid (Blk (w.alloc (.cells #[S [62], .int .i64 (1 + (l.size : Int) + (r.size : Int)), .int .i64 0, Ptr gl, Ptr gr] 78)).drew w.heap.size 78 #[S [62], .int .i64 (1 + (l.size : Int) + (r.size : Int)), .int .i64 0, Ptr gl, Ptr gr]) := (Blk.new w 78 #[S [62], .int .i64 (1 + (l.size : Int) + (r.size : Int)), .int .i64 0, Ptr gl, Ptr gr]).drew
  have FN : Hid (Fr No w (w.alloc (.cells #[S [62], .int .i64 (1 + (l.size : Int) + (r.size : Int)), .int .i64 0, Ptr gl, Ptr gr] 78)).drew) := ((Fr.refl No w).alloc _).drew
  go_wp2_with fail
  generalize (w.alloc (.cells #[S [62], .int .i64 (1 + (l.size : Int) + (r.size : Int)), .int .i64 0, Ptr gl, Ptr gr] 78)).drew = W at BN FN ⊢
  have e2 : W.cell? ⟨gl, 2, none⟩ = some (.int .i64 a) := (FN.out.cell (p := ⟨gl, 2, none⟩) g1 (fun h => h)).trans c2
  have e3 : W.cell? ⟨gr, 2, none⟩ = some (.int .i64 b) := (FN.out.cell (p := ⟨gr, 2, none⟩) g2 (fun h => h)).trans d2
  have n0 : W.cell? ⟨w.heap.size, 2, none⟩ = some (.int .i64 0) := (BN.out.cell 2).trans rfl
  have n1 : W.cell? ⟨w.heap.size, 1, none⟩ = some (.int .i64 (1 + (l.size : Int) + (r.size : Int))) := (BN.out.cell 1).trans rfl
  have nf := BN.out.frozen 2
  have nl := BN.out.lt
  clear c1 c2 d1 d2
  generalize hp : w.heap.size = p at *
  have HP := Lib.hid hp
  have ne1 : gl ≠ p := by omega
  have ne2 : p ≠ gl := by omega
  have ne3 : gr ≠ p := by omega
  have ne4 : p ≠ gr := by omega
  clear hp g1 g2
  have FIN : Hid (∀ mu : Nat, Blk (W.setCell ⟨p, 2, none⟩ (.int .i64 (mu : Int))).drew p 78 #[S [62], .int .i64 (1 + (l.size : Int) + (r.size : Int)), .int .i64 (mu : Int), Ptr gl, Ptr gr] ∧ Fr No w (W.setCell ⟨p, 2, none⟩ (.int .i64 (mu : Int))).drew) := fun mu =>
    ⟨(BN.out.set_ 2 _).drew, (FN.out.setCell (p := ⟨p, 2, none⟩) (.inr (by have := HP.out; show w.heap.size ≤ p; omega)) _).drew⟩
  go_region_held3 (fun w' => w'.cell? ⟨gl, 2, none⟩ = some (.int .i64 a) ∧ w'.cell? ⟨gr, 2, none⟩ = some (.int .i64 b)) (go_keep)
    (first | (go_at_call 100; ((with_reducible refine (POW.out _).mono ?_); rintro e w2 ⟨mu, rfl, hp1, hp2, hp3, rfl⟩; have HP1 := Lib.hid hp1; have HP2 := Lib.hid hp2; clear hp1 hp2)))
  have hM : (0 : Int) ≤ (mu : Int) := by omega
  obtain ⟨BS, FS⟩ := FIN.out mu
  have BS := Lib.hid BS
  have FS := Lib.hid FS
  by_cases h400 : 1 + l.size + r.size ≤ 400
  · have h400' : ¬ 400 < 1 + (l.size : Int) + (r.size : Int) := by omega
    by_cases h4096 : mu ≤ 4096
    · have h4096' : ¬ 4096 < (mu : Int) := by omega
      have HK : Hid ((Ty.n true l r).kn μ = some mu) := by
        show _ = _
        have hle : b ^ a ≤ 4096 := Nat.le_of_not_lt fun h => absurd (HP2.out h) (by omega)
        rw [HKN.out, if_pos h400, HP1.out hle]; unfold cap; rw [if_pos hle]
      go_wp2_with fail
      go_ret
      exact set_end (f := true) HX.out HY.out FS.out (size_n true l r) BS.out HK.out
    · have h4096' : 4096 < (mu : Int) := by omega
      have HK : Hid ((Ty.n true l r).kn μ = none) := by show _ = _; rw [HKN.out, if_pos h400]; unfold cap; rw [if_neg fun hle => h4096 (by rw [HP1.out hle]; exact hle)]
      go_wp2_with fail
      go_ret
      exact ⟨_, rfl, .inr ⟨HK.out, rfl⟩, FS.out⟩
  · have h400' : 400 < 1 + (l.size : Int) + (r.size : Int) := by omega
    have HK : Hid ((Ty.n true l r).kn μ = none) := by show _ = _; rw [HKN.out, if_neg h400]
    go_wp2_with fail
    go_ret
    exact ⟨_, rfl, .inr ⟨HK.out, rfl⟩, FS.out⟩

theorem combined_any (w : World) (μ : Nat → Option Nat) (hμ : Sizes μ) (f : Bool) (l r : Ty) (x y : Value) (hx : SetV w μ l x) (hy : SetV w μ r y) :
    Calls Try.prog 97 #[S [Ty.sign f], x, y] w fun e w' => SetP μ (.n f l r) w e w' := by
  rcases ha : l.kn μ with _ | a
  · exact combined_nil w μ f l r x y hx hy (.inl ha)
  · rcases hb : r.kn μ with _ | b
    · exact combined_nil w μ f l r x y hx hy (.inr hb)
    · cases f
      · exact combined_pair w μ hμ l r a b x y hx hy ha hb
      · exact combined_fun w μ hμ l r a b x y hx hy ha hb
end Go.Proofs.Ytmpadnnpmbgdcaa
