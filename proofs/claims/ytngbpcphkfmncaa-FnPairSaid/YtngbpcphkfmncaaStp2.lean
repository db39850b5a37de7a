/- Sets of compound types with a sign; SetPair and SetAt of the program. -/
import Derived.Test.YtngbpcphkfmncaaDig
import Derived.Test.YtngbpcphkfmncaaSel
import Derived.Test.YtngbpcphkfmncaaStc
namespace Go.Proofs.Ytngbpcphkfmncaa
open Go.RowKit Go.ChangeMaps

/-- the set of a compound type with a sign -/
def SfIs (s : List UInt8) (f : Bool) (ns : List (List UInt8)) (zs : List Int) (l r : Ty) (ms : List (Nat × Nat)) (a b d : Nat) : Prop :=
  Ty.Is s (.n f l r) ∧ ModelIs ns zs ms ∧ l.cnt (szs ms) = some a ∧ r.cnt (szs ms) = some b ∧ (Ty.n f l r).cnt (szs ms) = some d ∧ d = (if f then b ^ a else a * b) ∧ 1 ≤ a ∧ a ≤ 4096 ∧ 1 ≤ b ∧ b ≤ 4096 ∧ d ≤ 4096

def RsoP (s : List UInt8) (f : Bool) (ns : List (List UInt8)) (zs : List Int) (w : World) (e : Ending) (w' : World) : Prop :=
  Fr No w w' ∧ ((∃ l r ms a b d g, SfIs s f ns zs l r ms a b d ∧ e = .returned (Ptr g) ∧ FsAt w' g f a b d) ∨ ((∀ l r ms a b d, ¬ SfIs s f ns zs l r ms a b d) ∧ e = .returned (.pointer none)))

theorem sgn_other {t : Ty} {f : Bool} (h : ∀ l r, t ≠ .n f l r) : sgn t ≠ [Ty.sign f] := by
  cases t with
  | v i => simp [sgn]
  | o => cases f <;> simp [sgn, Ty.sign]
  | n g l r =>
    intro e
    simp only [sgn, List.cons.injEq, and_true] at e
    exact h l r (by rw [Ty.sign_inj e])

set_option maxRecDepth 100000 in
set_option maxHeartbeats 1000000 in
theorem readSetOf_any (w : World) (f : Bool) (s : List UInt8) (A A' : Option Addr) (ns : List (List UInt8)) (zs : List Int) (c c' : Nat) (hss : s.length ≤ maxLen) (hN : SSl w A ns) (hZ : ISl w A' zs) (hl : ns.length ≤ 2000000) (hl' : zs.length ≤ 2000000) (hs : ∀ x ∈ ns, x.length ≤ maxLen) :
    Calls Try.prog 53 #[S [Ty.sign f], S s, .slice A ns.length c, .slice A' zs.length c'] w fun e w' => RsoP s f ns zs w e w' := by
  have CALL := Lib.hid (readSet_any w s A A' ns zs c c' hss hN hZ hl hl' hs)
  clear hN hZ hs
  go_enter Try.func53, Try.ntmps53
  go_wp2_with fail
  refine CALL.out.mono ?_
  rintro e w1 ⟨hf, ⟨t, ms, v, hi, hm, rfl, hv⟩ | ⟨hno, rfl⟩⟩
  · have hk := kn_small (μ := szs ms) hi
    have HI := Lib.hid hi
    have HM := Lib.hid hm
    rcases hc : t.cnt (szs ms) with _ | d
    · obtain rfl := hv.none_ (hk.trans hc)
      have HR : Hid (∀ l r ms a b d, ¬ SfIs s f ns zs l r ms a b d) := by
        intro l r ms' a b d h
        have e1 := h.1.unique HI.out
        have e2 := h.2.1.unique HM.out
        have h3 := h.2.2.2.2.1
        rw [e1, e2, hc] at h3
        cases h3
      clear hi hm hv hk hc
      go_wp2_with fail
      go_ret
      exact ⟨hf, .inr ⟨HR.out, rfl⟩⟩
    · by_cases hn : ∃ l r, t = .n f l r
      · obtain ⟨l, r, rfl⟩ := hn
        obtain ⟨g, a, b, rfl, ha, hb, hd, hle, hfs⟩ := hv.fs (hk.trans hc)
        have c0 : w1.cell? ⟨g, 0, none⟩ = some (S [Ty.sign f]) := by
          obtain ⟨gl, gr, sz, s1, z1, p1, q1, s2, z2, p2, q2, h1, _⟩ := hfs
          exact (h1.cell 0).trans rfl
        have hab := Ty.kn_bounds hm.sz ha
        have hbb := Ty.kn_bounds hm.sz hb
        have ha' : l.cnt (szs ms) = some a := by unfold Ty.kn at ha; split at ha; exact ha; cases ha
        have hb' : r.cnt (szs ms) = some b := by unfold Ty.kn at hb; split at hb; exact hb; cases hb
        have HR : Hid (SfIs s f ns zs l r ms a b d) := ⟨hi, hm, ha', hb', hc, hd, hab.1, hab.2, hbb.1, hbb.2, hle⟩
        have HFS := Lib.hid hfs
        clear hi hm hv hk hc ha hb ha' hb' hd hfs
        go_wp2_with fail
        go_ret
        exact ⟨hf, .inl ⟨l, r, ms, a, b, d, g, HR.out, rfl, HFS.out⟩⟩
      · obtain ⟨g, x, y, rfl, hb⟩ := hv.some_ (hk.trans hc)
        have hne := sgn_other (t := t) (f := f) (fun l r e => hn ⟨l, r, e⟩)
        have c0 : w1.cell? ⟨g, 0, none⟩ = some (S (sgn t)) := (hb.cell 0).trans rfl
        have hbq : (sgn t == [Ty.sign f]) = false := by simpa using hne
        have HR : Hid (∀ l r ms a b d, ¬ SfIs s f ns zs l r ms a b d) := fun l r ms' a b d h => hn ⟨l, r, (h.1.unique HI.out).symm⟩
        clear hi hm hv hk hc hb hn hne
        generalize sgn t = sg at *
        go_wp2_with fail
        go_ret
        exact ⟨hf, .inr ⟨HR.out, rfl⟩⟩
  · have HR : Hid (∀ l r ms a b d, ¬ SfIs s f ns zs l r ms a b d) := fun l r ms' a b d h => hno _ _ h.1 h.2.1
    clear hno
    go_wp2_with fail
    go_ret
    exact ⟨hf, .inr ⟨HR.out, rfl⟩⟩

/-- what SetPair answers -/
def PairR (s : List UInt8) (ns : List (List UInt8)) (zs : List Int) (k x y : Int) (ok : Bool) : Prop :=
  (∃ l r ms a b d, SfIs s false ns zs l r ms a b d ∧ 0 ≤ k ∧ k < (d : Int) ∧ x = k / b ∧ y = k % b ∧ ok = true) ∨ ((∀ l r ms a b d, SfIs s false ns zs l r ms a b d → ¬ (0 ≤ k ∧ k < (d : Int))) ∧ x = 0 ∧ y = 0 ∧ ok = false)

theorem SfIs.unique {s : List UInt8} {f : Bool} {ns : List (List UInt8)} {zs : List Int} {l r l' r' : Ty} {ms ms' : List (Nat × Nat)} {a b d a' b' d' : Nat} (h : SfIs s f ns zs l r ms a b d) (h' : SfIs s f ns zs l' r' ms' a' b' d') : a = a' ∧ b = b' ∧ d = d' := by
  have e1 := h.1.unique h'.1
  injection e1 with _ e1 e2
  have e3 := h.2.1.unique h'.2.1
  subst e1; subst e2; subst e3
  have h1 := h.2.2.1.symm.trans h'.2.2.1
  have h2 := h.2.2.2.1.symm.trans h'.2.2.2.1
  have h3 := h.2.2.2.2.1.symm.trans h'.2.2.2.2.1
  injection h1 with h1; injection h2 with h2; injection h3 with h3
  exact ⟨h1, h2, h3⟩

theorem PairR.one {s : List UInt8} {ns : List (List UInt8)} {zs : List Int} {k x y x' y' : Int} {b b' : Bool} (h : PairR s ns zs k x y b) (h' : PairR s ns zs k x' y' b') : x' = x ∧ y' = y ∧ b' = b := by
  rcases h with ⟨l, r, ms, a, c, d, h1, k0, k1, rfl, rfl, rfl⟩ | ⟨n1, rfl, rfl, rfl⟩ <;> rcases h' with ⟨l', r', ms', a', c', d', h2, _, _, rfl, rfl, rfl⟩ | ⟨n2, rfl, rfl, rfl⟩
  · obtain ⟨_, e, _⟩ := h1.unique h2
    subst e
    exact ⟨rfl, rfl, rfl⟩
  · exact absurd ⟨k0, k1⟩ (n2 _ _ _ _ _ _ h1)
  · rename_i g0 g1
    exact absurd ⟨g0, g1⟩ (n1 _ _ _ _ _ _ h2)
  · exact ⟨rfl, rfl, rfl⟩

def AnsPair (s : List UInt8) (ns : List (List UInt8)) (zs : List Int) (k : Int) (w : World) (e : Ending) (w' : World) : Prop := ∃ x y ok, e = .returned (.tuple #[.int .i64 x, .int .i64 y, .bool ok]) ∧ PairR s ns zs k x y ok ∧ Fr No w w'

set_option maxRecDepth 100000 in
set_option maxHeartbeats 1000000 in
theorem implPair (w : World) (s : List UInt8) (A A' : Option Addr) (ns : List (List UInt8)) (zs : List Int) (c c' : Nat) (k : Int) (hss : s.length ≤ maxLen) (hN : SSl w A ns) (hZ : ISl w A' zs) (hl : ns.length ≤ 2000000) (hl' : zs.length ≤ 2000000) (hs : ∀ x ∈ ns, x.length ≤ maxLen) :
    Calls Try.prog 22 #[S s, .slice A ns.length c, .slice A' zs.length c', .int .i64 k] w fun e w' => AnsPair s ns zs k w e w' := by
  have CALL := Lib.hid (readSetOf_any w false s A A' ns zs c c' hss hN hZ hl hl' hs)
  clear hN hZ hs
  go_enter Try.func22, Try.ntmps22
  go_wp2_with fail
  refine CALL.out.mono ?_
  rintro e w1 ⟨hf, ⟨l, r, ms, a, b, d, g, hi, rfl, hfs⟩ | ⟨hno, rfl⟩⟩
  · have HI := Lib.hid hi
    have HAS : Hid (Calls Try.prog 54 #[Ptr g, .int .i64 k] w1 fun e w' => e = .returned (.bool (decide (0 ≤ k ∧ k < (d : Int)))) ∧ w1 = w') := by
      obtain ⟨gl, gr, sz, s1, z1, p1, q1, s2, z2, p2, q2, h1, _⟩ := hfs
      exact has_set w1 g _ _ _ _ d k h1
    have HFS := Lib.hid hfs
    clear hi hfs
    by_cases hk : 0 ≤ k ∧ k < (d : Int)
    · rw [decide_eq_true hk] at HAS
      obtain ⟨kn, rfl⟩ : ∃ kn : Nat, k = (kn : Int) := ⟨k.toNat, by omega⟩
      have hbnd := HI.out.2.2.2.2.2
      have DG : Hid (Calls Try.prog 55 #[Ptr g, .int .i64 kn] w1 fun e w' => DigP b kn 1 w1 e w') := digits_pair w1 g a b d kn hbnd.2.2.2.1 hbnd.2.2.2.2.1 (by omega) HFS.out
      have HK := Lib.hid hk
      clear hk hbnd
      go_wp2_with fail
      refine HAS.out.mono ?_
      rintro e w2 ⟨rfl, rfl⟩
      go_wp2_with fail
      refine DG.out.mono ?_
      rintro e w3 ⟨G, rfl, hf3, hsl⟩
      obtain ⟨g1, o1, e1, d0⟩ := hsl 0 ((kn / b ^ 0 % b : Nat) : Int) (by simp [digL])
      obtain ⟨g2, o2, e2, d1⟩ := hsl 1 ((kn / b ^ 1 : Nat) : Int) (by simp [digL])
      simp only [Option.some.injEq, Addr.mk.injEq, and_true] at e1 e2
      obtain ⟨rfl, rfl⟩ := e1
      obtain ⟨rfl, rfl⟩ := e2
      have HX : Hid (((kn / b ^ 1 : Nat) : Int) = (kn : Int) / (b : Int)) := by show _ = _; simp
      have HY : Hid (((kn / b ^ 0 % b : Nat) : Int) = (kn : Int) % (b : Int)) := by show _ = _; simp
      have hlg := block_lt d0
      have HF := Lib.hid (hf.trans hf3)
      clear hsl
      generalize kn / b ^ 1 = x1 at *
      generalize kn / b ^ 0 % b = y1 at *
      simp only [Nat.zero_add] at d0 d1
      go_wp2_with fail
      refine wp_region_still_lit (by kernel_rfl) (by kernel_rfl) ?_
      change wpStill _ _ (World.drew _) (fun a' => _) _ _
      repeat still_step
      refine wpStill_nil ?_
      go_wp2_with fail
      go_ret3
      exact ⟨_, _, _, rfl, .inl ⟨l, r, ms, a, b, d, HI.out, HK.out.1, HK.out.2, HX.out, HY.out, rfl⟩, HF.out.drew⟩
    · have HNO : Hid (∀ l r ms a b d, SfIs s false ns zs l r ms a b d → ¬ (0 ≤ k ∧ k < (d : Int))) := fun l r ms a b d' h => by rw [(h.unique HI.out).2.2]; exact hk
      rw [decide_eq_false hk] at HAS
      clear hk
      go_wp2_with fail
      refine HAS.out.mono ?_
      rintro e w2 ⟨rfl, rfl⟩
      go_wp2_with fail
      go_ret3
      exact ⟨_, _, _, rfl, .inr ⟨HNO.out, rfl, rfl, rfl⟩, hf⟩
  · have HNO := Lib.hid hno
    clear hno
    go_wp2_with fail
    go_ret3
    exact ⟨_, _, _, rfl, .inr ⟨fun l r ms a b d h => (HNO.out l r ms a b d h).elim, rfl, rfl, rfl⟩, hf⟩
end Go.Proofs.Ytngbpcphkfmncaa
