/- Related elements, as plain data: back, and in pairs. -/
import Derived.Test.YtloecimlimoanaaDoorRpu
import Derived.Test.YtloecimlimoanaaDoorStc
namespace Go.Proofs.YtloecimlimoanaaDoor

/-- related by one relation -/
structure RelD (s : List UInt8) (ns : List (List UInt8)) (L R : Int) (ps : List Int) (x y : Int) (t : Ty) (i l r c c' xn yn : Nat) : Prop where
  ty : Ty.Is s t
  el : L = l
  er : R = r
  ok : RelOk (l : Int) (r : Int) ps
  sp : SpIs ns [((l : Int), (r : Int), ps)] [(i, l)] [(i, r)]
  kl : t.kn (szs [(i, l)]) = some c
  kr : t.kn (szs [(i, r)]) = some c'
  ex : x = xn
  ey : y = yn
  hx : xn < c
  hy : yn < c'
  rel : relT (szs [(i, l)]) (szs [(i, r)]) (rhoL [(i, r)] [ps]) t xn yn = true

theorem RelatedIs.data1 {s : List UInt8} {ns : List (List UInt8)} {L R : Int} {ps : List Int} {x y : Int} (h : RelatedIs s ns [(L, R, ps)] x y) : ∃ t i l r c c' xn yn, RelD s ns L R ps x y t i l r c c' xn yn := by
  obtain ⟨t, ml, mr, c, c', xn, yn, h1, h2, h3, h4, h5, h6, h7, h8, h9⟩ := h
  have hok := h2.ok (L, R, ps) (by simp)
  have s1 : [L] = ml.map fun p => (p.2 : Int) := h2.ol.sizes
  have s2 : [R] = mr.map fun p => (p.2 : Int) := h2.or.sizes
  match ml, mr, s1, s2, h2 with
  | [(i, l)], [(i', r)], s1, s2, h2 =>
    have e4 : L = l := by simpa using s1
    have e5 : R = r := by simpa using s2
    have n1 : ns = [[Ty.letter i]] := h2.ol.names
    have n2 : ns = [[Ty.letter i']] := h2.or.names
    have hi : i = i' := by
      rw [n1] at n2
      have e : Ty.letter i = Ty.letter i' := by simpa using n2
      exact Ty.letter_inj (h2.ol.ok (i, l) (by simp)).1 (h2.or.ok (i', r) (by simp)).1 e
    subst hi
    subst e4 e5
    exact ⟨t, i, l, r, c, c', xn, yn, h1, rfl, rfl, hok, h2, h3, h4, h5, h6, h7, h8, h9⟩
  | [], _, s1, _, _ => simp at s1
  | _ :: _ :: _, _, s1, _, _ => simp at s1
  | [_], [], _, s2, _ => simp at s2
  | [_], _ :: _ :: _, _, s2, _ => simp at s2

variable {s : List UInt8} {ns : List (List UInt8)} {L R : Int} {ps : List Int} {x y : Int} {t : Ty} {i l r c c' xn yn : Nat}

theorem rho_o (i r : Nat) (ps : List Int) : rhoL [(i, r)] [ps] i = memR r ps := by
  funext x y
  simp [rhoL]

theorem szs_o {i l j m : Nat} (h : szs [(i, l)] j = some m) : j = i ∧ m = l := by
  unfold szs szs at h
  split at h
  · rename_i e
    injection h with h
    exact ⟨e.symm, h.symm⟩
  · cases h

theorem RelD.back (h : RelD s ns L R ps x y t i l r c c' xn yn) : RelatedIs s ns [((r : Int), (l : Int), bk l r ps)] y x := by
  have hb := bk_ok h.ok
  have hsp : SpIs ns [((r : Int), (l : Int), bk l r ps)] [(i, r)] [(i, l)] := ⟨h.sp.or, h.sp.ol, fun q hq => by
    simp at hq
    subst hq
    exact hb⟩
  refine ⟨t, [(i, r)], [(i, l)], c', c, yn, xn, h.ty, hsp, h.kr, h.kl, h.ey, h.ex, h.hy, h.hx, ?_⟩
  have e := relT_swap h.sp.ol.sz h.sp.or.sz (ρ := rhoL [(i, r)] [ps]) (ρ' := rhoL [(i, l)] [bk l r ps]) (fun j m n h1 h2 x y hx hy => by
    obtain ⟨rfl, rfl⟩ := szs_o h1
    obtain ⟨_, rfl⟩ := szs_o h2
    rw [rho_o, rho_o]
    exact bk_mem (by omega) hx hy) t c c' (kn_cnt h.kl) (kn_cnt h.kr) xn yn h.hx h.hy
  exact e.trans h.rel

theorem RelD.count (h : RelD s ns L R ps x y t i l r c c' xn yn) {q : Int} (hq : StcR s ns [(l : Int)] q) : q = c := by
  rcases hq with ⟨t', ms', h1, h2, rfl⟩ | ⟨h1, _⟩
  · have e := h1.unique h.ty
    subst e
    have e := h2.unique h.sp.ol
    subst e
    exact cntI_some (kn_cnt h.kl)
  · exact (h1 _ _ h.ty h.sp.ol).elim

theorem RelD.count' (h : RelD s ns L R ps x y t i l r c c' xn yn) {q : Int} (hq : StcR s ns [(r : Int)] q) : q = c' := by
  rcases hq with ⟨t', ms', h1, h2, rfl⟩ | ⟨h1, _⟩
  · have e := h1.unique h.ty
    subst e
    have e := h2.unique h.sp.or
    subst e
    exact cntI_some (kn_cnt h.kr)
  · exact (h1 _ _ h.ty h.sp.or).elim

/-- the text of a type with itself -/
def twoS (s : List UInt8) : List UInt8 := 40 :: 42 :: 32 :: (s ++ 32 :: (s ++ [41]))

theorem RelD.pair (h : RelD s ns L R ps x y t i l r c c' xn yn) {q q' : Int} (hq : StcR (twoS s) ns [(l : Int)] q) (hq' : StcR (twoS s) ns [(r : Int)] q') (h0 : 0 < q) (h0' : 0 < q') :
    c * c ≤ 4096 ∧ c' * c' ≤ 4096 ∧ RelatedIs (twoS s) ns [((l : Int), (r : Int), ps)] ((xn * c + xn : Nat) : Int) ((yn * c' + yn : Nat) : Int) := by
  rcases hq with ⟨t2, ms, h1, h2, rfl⟩ | ⟨_, rfl⟩
  · rcases hq' with ⟨t3, ms', h3, h4, rfl⟩ | ⟨_, rfl⟩
    · have e := h3.unique h1
      subst e
      have e : t3 = .n false t t := Ty.text_inj h1.2.1 ⟨h.ty.2.1, h.ty.2.1⟩ (by
        rw [← h1.1]
        show twoS s = _
        unfold twoS
        rw [h.ty.1]
        simp [Ty.text, Ty.sign])
      subst e
      have e := h2.unique h.sp.ol
      subst e
      have e := h4.unique h.sp.or
      subst e
      have kk : ∀ μ, (Ty.n false t t).kn μ = (Ty.n false t t).cnt μ := fun μ => by have := h1.2.2; unfold Ty.kn; rw [if_pos (by omega)]
      cases k1 : (Ty.n false t t).cnt (szs [(i, l)]) with
      | none => rw [cntI_none k1] at h0; omega
      | some d =>
        cases k2 : (Ty.n false t t).cnt (szs [(i, r)]) with
        | none => rw [cntI_none k2] at h0'; omega
        | some d' =>
          obtain ⟨a, b, ha, hb, hd, hd2⟩ := Ty.cnt_n k1
          obtain ⟨a', b', ha', hb', hd', hd2'⟩ := Ty.cnt_n k2
          have ec := kn_cnt h.kl
          have ec' := kn_cnt h.kr
          rw [ec] at ha hb
          rw [ec'] at ha' hb'
          injection ha with ha
          injection hb with hb
          injection ha' with ha'
          injection hb' with hb'
          subst ha hb ha' hb'
          simp only [Bool.false_eq_true, if_false] at hd hd'
          subst hd hd'
          have lt : ∀ {z q : Nat}, z < q → z * q + z < q * q := fun {z q} hz => by
            have h := Nat.mul_le_mul (show z + 1 ≤ q by omega) (Nat.le_refl q)
            rw [Nat.add_one_mul] at h
            omega
          exact ⟨hd2, hd2', _, [(i, l)], [(i, r)], c * c, c' * c', xn * c + xn, yn * c' + yn, h1, h.sp, by rw [kk]; exact k1, by rw [kk]; exact k2, rfl, rfl, lt h.hx, lt h.hy, relT_pair ec ec' h.hx h.hy h.rel⟩
    · omega
  · omega
end Go.Proofs.YtloecimlimoanaaDoor
