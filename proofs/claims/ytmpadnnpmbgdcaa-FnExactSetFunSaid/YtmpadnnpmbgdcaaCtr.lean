/- The counter of sets: what it keeps; the set of a type. -/
import Derived.Test.YtmpadnnpmbgdcaaCmb
namespace Go.Proofs.Ytmpadnnpmbgdcaa
open Go.RowKit Go.ChangeMaps

/-- what stands behind a node's parts -/
def KidsL (L : Nat → Ty → Prop) : Ty → Int → Value → Value → Prop
  | .n _ l r, _, x, y => ∃ pl pr : Nat, x = Ptr pl ∧ y = Ptr pr ∧ L pl l ∧ L pr r
  | .v i, nu, x, y => nu = i ∧ x = .pointer none ∧ y = .pointer none
  | .o, _, x, y => x = .pointer none ∧ y = .pointer none

def Nd (w : World) (L : Nat → Ty → Prop) (p : Nat) (t : Ty) : Prop := ∃ (nu : Int) (x y : Value) (sz pl : Int), Blk w p 61 #[S (sgn t), .int .i64 nu, x, y, .int .i64 sz, .int .i64 pl] ∧ KidsL L t nu x y

/-- pointers that stand for types, and a union that knows their leaders -/
structure Lead (u ml : Nat) (own : Nat → Prop) (L : Nat → Ty → Prop) (Q : World → Prop) : Prop where
  call : ∀ w p t, Q w → L p t → Calls Try.prog 87 #[Ptr u, Ptr p] w fun e w' => ∃ p', e = .returned (Ptr p') ∧ Q w' ∧ L p' t ∧ Fr (One ml) w w' ∧ Nd w' L p' t
  uniq : ∀ w p t t', Q w → L p t → L p t' → t = t'
  node : ∀ w p t, Q w → L p t → isNode w p
  keep : ∀ w w' T, Q w → Fr T w w' → (∀ b, T b → ¬ own b) → Q w'
  map : ∀ w, Q w → ∃ es clk, w.heap[ml]? = some (.map es clk)

/-- the counter's state -/
structure CsAt (u ml mz mk c : Nat) (L : Nat → Ty → Prop) (Q : World → Prop) (μ : Nat → Option Nat) (w : World) : Prop where
  q : Q w
  blk : Blk w c 134 #[Ptr u, .map (some mz), .map (some mk)]
  sz : SzAt w mz μ
  kn : ∃ k f, MapAt w (fun p : Nat => Ptr p) mk k f ∧ ∀ p v, f p = some v → ∃ t, L p t ∧ SetV w μ t v

structure CsOk (ml mz mk : Nat) (own : Nat → Prop) (μ : Nat → Option Nat) : Prop where
  zl : mz ≠ ml
  zk : mz ≠ mk
  kl : mk ≠ ml
  ko : ¬ own mk
  sizes : Sizes μ

section
variable {u ml mz mk c : Nat} {own : Nat → Prop} {L : Nat → Ty → Prop} {Q : World → Prop} {μ : Nat → Option Nat}

theorem CsAt.maps {w : World} (hL : Lead u ml own L Q) (h : CsAt u ml mz mk c L Q μ w) : ∀ b, Two ml mk b → ∃ es clk, w.heap[b]? = some (.map es clk) := by
  rintro b (rfl | rfl)
  · exact hL.map w h.q
  · obtain ⟨k, f, ⟨es, clk, hb, _⟩, _⟩ := h.kn
    exact ⟨es, clk, hb⟩

/-- kept by what leaves maps and nodes alone -/
theorem CsAt.fr {w w' : World} {T : Nat → Prop} (h : CsAt u ml mz mk c L Q μ w) (hf : Fr T w w') (hq : Q w') (hT : ∀ b, T b → ((∃ es clk, w.heap[b]? = some (.map es clk)) ∨ w.heap.size ≤ b) ∧ b ≠ mz ∧ b ≠ mk) : CsAt u ml mz mk c L Q μ w' := by
  have hk : KeepS w w' := KeepS.fr hf fun b hb => (hT b hb).1
  obtain ⟨k, f, h1, h2⟩ := h.kn
  refine ⟨hq, h.blk.fr hf fun hb => ?_, h.sz.fr hf fun hb => (hT _ hb).2.1 rfl, k, f, h1.keep (hf.block mk h1.lt fun hb => (hT _ hb).2.2 rfl), fun p v hp => ?_⟩
  · rcases (hT c hb).1 with ⟨es, clk, hm⟩ | hl
    · exact h.blk.ne_map hm rfl
    · have := h.blk.lt; omega
  · obtain ⟨t, g1, g2⟩ := h2 p v hp
    exact ⟨t, g1, g2.keep hk⟩

theorem CsAt.no {w w' : World} (hL : Lead u ml own L Q) (h : CsAt u ml mz mk c L Q μ w) (hf : Fr No w w') : CsAt u ml mz mk c L Q μ w' := h.fr hf (hL.keep w w' No h.q hf fun _ h => h.elim) fun _ h => h.elim

theorem CsAt.led {w w' : World} (hL : Lead u ml own L Q) (hO : CsOk ml mz mk own μ) (h : CsAt u ml mz mk c L Q μ w) (hf : Fr (One ml) w w') (hq : Q w') : CsAt u ml mz mk c L Q μ w' :=
  h.fr hf hq fun b hb => by
    unfold One at hb
    subst hb
    exact ⟨.inl (hL.map w h.q), fun e => hO.zl e.symm, fun e => hO.kl e.symm⟩

theorem zero_set (w : World) : (zeroValue 75).run Try.prog w = .ok (.pointer none) w := by kernel_rfl

/-- what is asked of what is known -/
theorem CsAt.ask {w : World} (hL : Lead u ml own L Q) (h : CsAt u ml mz mk c L Q μ w) {p : Nat} {t : Ty} (hp : L p t) :
    ∃ v b, (Instr.lookup 132 (.map (some mk)) (Ptr p) true).run Try.prog w = .ok (.tuple #[v, .bool b]) w ∧ (b = true → SetV w μ t v) := by
  obtain ⟨k, f, h1, h2⟩ := h.kn
  have hV : ∀ p v, f p = some v → isNode w p := fun p v hv => by obtain ⟨t', g, _⟩ := h2 p v hv; exact hL.node w p t' h.q g
  refine ⟨_, _, h1.look_okV (node_key w) Try.underlying132 (zero_set w) hV p (hL.node w p t h.q hp), fun hb => ?_⟩
  obtain ⟨v, hv⟩ := Option.isSome_iff_exists.1 hb
  obtain ⟨t', g1, g2⟩ := h2 p v hv
  rw [hv, hL.uniq w p t t' h.q hp g1]
  exact g2

/-- and what is kept -/
theorem CsAt.keepIt {w : World} (hL : Lead u ml own L Q) (hO : CsOk ml mz mk own μ) (h : CsAt u ml mz mk c L Q μ w) {p : Nat} {t : Ty} {v : Value} (hp : L p t) (hv : SetV w μ t v) :
    ∃ w', (Instr.mapUpdate 132 (.map (some mk)) (Ptr p) v).run Try.prog w = .ok () w' ∧ CsAt u ml mz mk c L Q μ w' ∧ SetV w' μ t v ∧ Fr (Two ml mk) w w' := by
  obtain ⟨k, f, h1, h2⟩ := h.kn
  have hV : ∀ p v, f p = some v → isNode w p := fun p v hv => by obtain ⟨t', g, _⟩ := h2 p v hv; exact hL.node w p t' h.q g
  obtain ⟨w', hrun, r1, r2, r3⟩ := h1.updateV (node_key w) Try.underlying132 hV p v (hL.node w p t h.q hp)
  have hf : Fr (One mk) w w' := (Fr.refl (One mk) w).turned r2 (.inl rfl)
  have hk : KeepS w w' := KeepS.fr hf fun b hb => by
    unfold One at hb
    subst hb
    obtain ⟨es, clk, hm, _⟩ := h1
    exact .inl ⟨es, clk, hm⟩
  refine ⟨w', hrun, ⟨hL.keep w w' _ h.q hf fun b hb => by unfold One at hb; subst hb; exact hO.ko, h.blk.fr hf fun hb => ?_, h.sz.fr hf fun hb => hO.zk hb, _, _, r1, fun q v' hq => ?_⟩, hv.keep hk, hf.mono fun _ _ e => .inr e⟩
  · unfold One at hb
    obtain ⟨es, clk, hm, _⟩ := h1
    exact h.blk.ne_map hm hb
  · by_cases hqp : q = p
    · subst hqp
      rw [updK_same] at hq
      injection hq with hq
      subst hq
      exact ⟨t, hp, hv.keep hk⟩
    · rw [updK_other _ _ _ hqp] at hq
      obtain ⟨t', g1, g2⟩ := h2 q v' hq
      exact ⟨t', g1, g2.keep hk⟩

def OfPost (u ml mz mk c : Nat) (L : Nat → Ty → Prop) (Q : World → Prop) (μ : Nat → Option Nat) (t : Ty) (w : World) (e : Ending) (w' : World) : Prop :=
  ∃ v, e = .returned v ∧ SetV w' μ t v ∧ CsAt u ml mz mk c L Q μ w' ∧ Fr (Two ml mk) w w'

def OfSaid (u ml mz mk c : Nat) (L : Nat → Ty → Prop) (Q : World → Prop) (μ : Nat → Option Nat) (t : Ty) : Prop := ∀ w p, CsAt u ml mz mk c L Q μ w → L p t →
  Calls Try.prog 74 #[Ptr c, Ptr p] w fun e w' => OfPost u ml mz mk c L Q μ t w e w'

def NewSaid (u ml mz mk c : Nat) (L : Nat → Ty → Prop) (Q : World → Prop) (μ : Nat → Option Nat) (t : Ty) : Prop := ∀ w p, CsAt u ml mz mk c L Q μ w → Nd w L p t →
  Calls Try.prog 91 #[Ptr c, Ptr p] w fun e w' => OfPost u ml mz mk c L Q μ t w e w'

set_option maxRecDepth 100000 in
set_option maxHeartbeats 1000000 in
theorem of_any (hL : Lead u ml own L Q) (hO : CsOk ml mz mk own μ) (t : Ty) (hN : NewSaid u ml mz mk c L Q μ t) : OfSaid u ml mz mk c L Q μ t := by
  intro w p hC hp
  have c0 : w.cell? ⟨c, 0, none⟩ = some (Ptr u) := (hC.blk.cell 0).trans rfl
  have CALL : Hid (Calls Try.prog 87 #[Ptr u, Ptr p] w fun e w' => ∃ p', e = .returned (Ptr p') ∧ CsAt u ml mz mk c L Q μ w' ∧ L p' t ∧ Fr (Two ml mk) w w' ∧ Nd w' L p' t) :=
    (hL.call w p t hC.q hp).mono fun e w' ⟨p', h1, h2, h3, h4, h5⟩ => ⟨p', h1, hC.led hL hO h4 h2, h3, h4.mono fun _ _ e => .inl e, h5⟩
  have HL := Lib.hid hL
  have HO := Lib.hid hO
  have HN := Lib.hid hN
  clear hC hp hL hO hN
  go_enter Try.func74, Try.ntmps74
  go_wp2_with fail
  refine CALL.out.mono ?_
  rintro e w1 ⟨p', rfl, hC1, hp', hf1, hn1⟩
  obtain ⟨v, b, hask, hv⟩ := hC1.ask HL.out hp'
  have c2 : w1.cell? ⟨c, 2, none⟩ = some (.map (some mk)) := (hC1.blk.cell 2).trans rfl
  have HC1 := Lib.hid hC1
  have HP := Lib.hid hp'
  have HF1 := Lib.hid hf1
  have HN1 := Lib.hid hn1
  have HV := Lib.hid hv
  clear hC1 hp' hf1 hn1 hv
  cases b
  · go_wp2_with fail
    refine (HN.out w1 p' HC1.out HN1.out).mono ?_
    rintro e w2 ⟨v2, rfl, hv2, hC2, hf2⟩
    obtain ⟨w3, hrun, hC3, hv3, hf3⟩ := hC2.keepIt HL.out HO.out HP.out hv2
    have e2 : w2.cell? ⟨c, 2, none⟩ = some (.map (some mk)) := (hC2.blk.cell 2).trans rfl
    have HC3 := Lib.hid hC3
    have HV3 := Lib.hid hv3
    have HF3 := Lib.hid ((HF1.out.trans hf2).trans hf3)
    clear hC3 hv3 hf3 hC2 hv2 hf2
    go_wp2_with fail
    go_ret
    exact ⟨v2, rfl, HV3.out, HC3.out, HF3.out⟩
  · go_wp2_with fail
    go_ret
    exact ⟨v, rfl, HV.out (by trivial), HC1.out, HF1.out⟩

theorem Two.tail {w w' : World} {T : Nat → Prop} (hf : Fr No w w') : Fr T w w' := hf.mono fun _ _ h => h.elim

set_option maxRecDepth 100000 in
set_option maxHeartbeats 1000000 in
theorem new_n (hL : Lead u ml own L Q) (hO : CsOk ml mz mk own μ) (f : Bool) (l r : Ty) (hl : OfSaid u ml mz mk c L Q μ l) (hr : OfSaid u ml mz mk c L Q μ r) : NewSaid u ml mz mk c L Q μ (.n f l r) := by
  rintro w p hC ⟨nu, x, y, sz, pl, hb, kl, kr, rfl, rfl, hkl, hkr⟩
  have HB := Lib.hid hb
  have CELLS : Hid (∀ w', Fr (Two ml mk) w w' → w'.cell? ⟨p, 0, none⟩ = some (S [Ty.sign f]) ∧ w'.cell? ⟨p, 2, none⟩ = some (Ptr kl) ∧ w'.cell? ⟨p, 3, none⟩ = some (Ptr kr)) := by
    intro w' hf
    have hb' := hb.fr hf fun h => by obtain ⟨es, clk, hm⟩ := hC.maps hL p h; exact hb.ne_map hm rfl
    exact ⟨(hb'.cell 0).trans rfl, (hb'.cell 2).trans rfl, (hb'.cell 3).trans rfl⟩
  have IL : Hid (∀ w', w' = w.drew → Calls Try.prog 74 #[Ptr c, Ptr kl] w' fun e w2 => ∃ v, e = .returned v ∧ SetV w2 μ l v ∧ CsAt u ml mz mk c L Q μ w2 ∧ Fr (Two ml mk) w w2) := by
    rintro w' rfl
    refine (hl w.drew kl (hC.no hL (Fr.refl No w).drew) hkl).mono ?_
    rintro e w2 ⟨v, h1, h2, h3, h4⟩
    exact ⟨v, h1, h2, h3, ((Fr.refl _ w).drew).trans h4⟩
  have IR : Hid (∀ w1 v1, CsAt u ml mz mk c L Q μ w1 → SetV w1 μ l v1 → Fr (Two ml mk) w w1 → Calls Try.prog 74 #[Ptr c, Ptr kr] w1 fun e w2 => ∃ v, e = .returned v ∧ SetV w2 μ l v1 ∧ SetV w2 μ r v ∧ CsAt u ml mz mk c L Q μ w2 ∧ Fr (Two ml mk) w w2) := by
    intro w1 v1 h1 h2 h3
    refine (hr w1 kr h1 hkr).mono ?_
    rintro e w2 ⟨v, g1, g2, g3, g4⟩
    exact ⟨v, g1, h2.keep (KeepS.fr g4 fun b hb => .inl (h1.maps hL b hb)), g2, g3, h3.trans g4⟩
  have CB : Hid (∀ w2 v1 v2, CsAt u ml mz mk c L Q μ w2 → SetV w2 μ l v1 → SetV w2 μ r v2 → Fr (Two ml mk) w w2 → Calls Try.prog 97 #[S [Ty.sign f], v1, v2] w2 fun e w3 => ∃ v, e = .returned v ∧ Fr (Two ml mk) w w3 ∧ OfPost u ml mz mk c L Q μ (.n f l r) w (.returned v) w3) := by
    intro w2 v1 v2 h1 h2 h3 h4
    refine (combined_any w2 μ hO.sizes f l r v1 v2 h2 h3).mono ?_
    rintro e w3 ⟨v, g1, g2, g3⟩
    have hf3 := h4.trans (Two.tail g3)
    exact ⟨v, g1, hf3, v, rfl, g2, h1.no hL g3, hf3⟩
  clear hb hC hl hr hL hO hkl hkr
  obtain ⟨b0, b2, b3⟩ := CELLS.out w (Fr.refl _ _)
  go_enter Try.func91, Try.ntmps91
  go_wp2_with fail
  refine (compound_yes _ _ _ _ _ _ _ _ HB.out).mono ?_
  rintro e w' ⟨rfl, rfl⟩
  go_wp2_with fail
  go_region_held3 (fun w' => w'.cell? ⟨p, 0, none⟩ = some (S [Ty.sign f]) ∧ w'.cell? ⟨p, 2, none⟩ = some (Ptr kl) ∧ w'.cell? ⟨p, 3, none⟩ = some (Ptr kr)) (go_keep)
    (first | (go_at_call 74; ((with_reducible refine (IL.out _ rfl).mono ?_); rintro e1 w1 ⟨v1, rfl, hv1, hC1, hf1⟩; have HC1 := Lib.hid hC1; have HV1 := Lib.hid hv1; have HF1 := Lib.hid hf1; obtain ⟨d0, d2, d3⟩ := CELLS.out w1 hf1; clear hC1 hv1 hf1)) | (go_at_call 74; ((with_reducible refine (IR.out _ _ HC1.out HV1.out HF1.out).mono ?_); rintro e2 w2 ⟨v2, rfl, hv1', hv2, hC2, hf2⟩; have HC2 := Lib.hid hC2; have HV1' := Lib.hid hv1'; have HV2 := Lib.hid hv2; have HF2 := Lib.hid hf2; obtain ⟨e0, e2, e3⟩ := CELLS.out w2 hf2; clear hC2 hv1' hv2 hf2)) | (go_at_call 97; ((with_reducible refine (CB.out _ _ _ HC2.out HV1'.out HV2.out HF2.out).mono ?_); rintro e3 w3 ⟨v3, rfl, hf3, hfin⟩; have HFIN := Lib.hid hfin; obtain ⟨g0, g2, g3⟩ := CELLS.out w3 hf3; clear hfin hf3)))
  go_wp2_with fail
  go_ret
  exact HFIN.out

set_option maxRecDepth 100000 in
set_option maxHeartbeats 1000000 in
theorem new_o (hL : Lead u ml own L Q) : NewSaid u ml mz mk c L Q μ .o := by
  rintro w p hC ⟨nu, x, y, sz, pl, hb, rfl, rfl⟩
  have HB := Lib.hid hb
  have c0 : w.cell? ⟨p, 0, none⟩ = some (S [111]) := (hb.cell 0).trans rfl
  have FIN : Hid (OfPost u ml mz mk c L Q μ .o w (.returned (Ptr w.heap.size)) (w.alloc (.cells #[S [111], .int .i64 1, .int .i64 2, .pointer none, .pointer none] 78))) :=
    ⟨_, rfl, ⟨_, rfl, Blk.new _ _ _⟩, hC.no hL ((Fr.refl No w).alloc _), (Fr.refl _ w).alloc _⟩
  clear hb hC hL
  go_enter Try.func91, Try.ntmps91
  go_wp2_with fail
  refine (compound_no _ _ _ _ _ _ _ HB.out).mono ?_
  rintro e w' ⟨rfl, rfl⟩
  go_wp2_with fail
  go_ret
  exact FIN.out

set_option maxRecDepth 100000 in
set_option maxHeartbeats 1000000 in
theorem new_v (hL : Lead u ml own L Q) (hO : CsOk ml mz mk own μ) (i : Nat) : NewSaid u ml mz mk c L Q μ (.v i) := by
  rintro w p hC ⟨nu, x, y, sz, pl, hb, hnu, rfl, rfl⟩
  subst hnu
  have HB := Lib.hid hb
  have c0 : w.cell? ⟨p, 0, none⟩ = some (S []) := (hb.cell 0).trans rfl
  have c1 : w.cell? ⟨p, 1, none⟩ = some (.int .i64 i) := (hb.cell 1).trans rfl
  have k1 : w.cell? ⟨c, 1, none⟩ = some (.map (some mz)) := (hC.blk.cell 1).trans rfl
  have h1 := (hC.no hL ((Fr.refl No w).drew)).sz.look i
  have h2 := (hC.no hL (((Fr.refl No w).drew).drew)).sz.look i
  have lp := hb.lt
  have lc := hC.blk.lt
  have HC := Lib.hid hC
  have HL := Lib.hid hL
  have hsz := hO.sizes i
  clear hb hC hL hO
  rcases hm : μ i with _ | d
  · have HK : Hid ((Ty.v i).kn μ = none) := by show _ = _; simp [Ty.kn, Ty.size, Ty.cnt, hm]
    rw [hm] at h1
    simp only [Option.getD_none] at h1
    clear h2 hm hsz
    go_enter Try.func91, Try.ntmps91
    go_wp2_with fail
    refine (compound_no _ _ _ _ _ _ _ HB.out).mono ?_
    rintro e w' ⟨rfl, rfl⟩
    go_wp2_with fail
    refine wp_region_still_lit (by kernel_rfl) (by kernel_rfl) ?_
    change wpStill _ _ (World.drew _) (fun a' => _) _ _
    repeat still_step
    refine wpStill_nil ?_
    go_wp2_with fail
    go_ret
    exact ⟨_, rfl, .inr ⟨HK.out, rfl⟩, HC.out.no HL.out ((Fr.refl No w).drew), (Fr.refl _ w).drew⟩
  · have HK : Hid ((Ty.v i).kn μ = some d) := by show _ = _; simp [Ty.kn, Ty.size, Ty.cnt, hm]
    have hd := hsz d hm
    have hd0 : (0 : Int) < (d : Int) := by omega
    rw [hm] at h1 h2
    simp only [Option.getD_some] at h1 h2
    clear hm hsz
    go_enter Try.func91, Try.ntmps91
    go_wp2_with fail
    refine (compound_no _ _ _ _ _ _ _ HB.out).mono ?_
    rintro e w' ⟨rfl, rfl⟩
    go_wp2_with fail
    refine wp_region_still_lit (by kernel_rfl) (by kernel_rfl) ?_
    change wpStill _ _ (World.drew _) (fun a' => _) _ _
    repeat still_step
    refine wpStill_nil ?_
    go_wp2_with fail
    refine wp_region_still_tail 14 (by kernel_rfl) (by kernel_rfl) ?_
    change wpStill _ _ (World.drew _) (fun a' => wpList _ _ _ _ a' (World.drew _)) _ _
    simp only [List.take_succ_cons, List.take_zero, List.drop_succ_cons, List.drop_zero]
    repeat still_step
    refine wpStill_nil ?_
    go_wp2_with fail
    go_ret
    exact ⟨_, rfl, .inl ⟨d, _, HK.out, rfl, ((Blk.new w 78 #[S [], .int .i64 1, .int .i64 d, .pointer none, .pointer none]).drew).drew⟩, HC.out.no HL.out ((((Fr.refl No w).alloc _).drew).drew), (((Fr.refl _ w).alloc _).drew).drew⟩

/-- the set of a type -/
theorem ofs_any (hL : Lead u ml own L Q) (hO : CsOk ml mz mk own μ) (t : Ty) : OfSaid u ml mz mk c L Q μ t := by
  induction t with
  | v i => exact of_any hL hO _ (new_v hL hO i)
  | o => exact of_any hL hO _ (new_o hL)
  | n f l r hl hr => exact of_any hL hO _ (new_n hL hO f l r hl hr)
end

/-! A union that has joined nothing. -/
set_option maxRecDepth 100000 in
set_option maxHeartbeats 1000000 in
theorem lead_none (w : World) (u ml ms q : Nat) (p : Nat) (cs : Array Value) (pl : Int) (hu : Blk w u 129 #[Ptr q, .map (some ml), .map (some ms)]) (hm : MapAt w encI ml 0 (fun _ => none)) (hp : Blk w p 61 cs) (hpl : cs[5]? = some (.int .i64 pl)) :
    Calls Try.prog 87 #[Ptr u, Ptr p] w fun e w' => e = .returned (Ptr p) ∧ ∃ n, w' = w.drewN n := by
  have c1 : w.cell? ⟨u, 1, none⟩ = some (.map (some ml)) := (hu.cell 1).trans rfl
  have c5 : w.cell? ⟨p, 5, none⟩ = some (.int .i64 pl) := (hp.cell 5).trans hpl
  have h1 := (hm.keep (w' := w.drew) rfl).lookup (int_kind Try.underlying3) Try.underlying58 (zero_node w.drew) pl
  have lp := hp.lt
  have lu := hu.lt
  simp only [Option.getD_none] at h1
  clear hu hm hp hpl
  go_enter Try.func87, Try.ntmps87
  go_wp2_with fail
  refine wp_region_still_lit (by kernel_rfl) (by kernel_rfl) ?_
  change wpStill _ _ (World.drew _) (fun a' => _) _ _
  repeat still_step
  refine wpStill_nil ?_
  go_wp2_with fail
  go_ret
  exact ⟨rfl, 1, rfl⟩
end Go.Proofs.Ytmpadnnpmbgdcaa
