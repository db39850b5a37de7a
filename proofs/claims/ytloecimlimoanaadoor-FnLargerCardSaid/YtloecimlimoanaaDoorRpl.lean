/- Lifted relations of one variable, as plain data: back; related numbers. -/
import Derived.Test.YtloecimlimoanaaDoorRpu
import Derived.Test.YtloecimlimoanaaDoorSlt
namespace Go.Proofs.YtloecimlimoanaaDoor

/-- lifts of one relation -/
structure LiftD (s : List UInt8) (ns : List (List UInt8)) (L R : Int) (ps : List Int) (Lo Ro : Int) (Po : List Int) (t : Ty) (i l r c c' : Nat) : Prop where
  ty : Ty.Is s t
  el : L = l
  er : R = r
  ok : RelOk (l : Int) (r : Int) ps
  sp : SpIs ns [((l : Int), (r : Int), ps)] [(i, l)] [(i, r)]
  kl : t.kn (szs [(i, l)]) = some c
  kr : t.kn (szs [(i, r)]) = some c'
  c1 : 1 ≤ c ∧ c ≤ 128
  c2 : 1 ≤ c' ∧ c' ≤ 128
  lo : Lo = c
  ro : Ro = c'
  po : Po = (pairsOf c c' (relT (szs [(i, l)]) (szs [(i, r)]) (rhoL [(i, r)] [ps]) t)).map Int.ofNat

theorem LiftR.data {s : List UInt8} {ns : List (List UInt8)} {L R : Int} {ps : List Int} {Lo Ro : Int} {Po : List Int} (h : LiftR s ns [(L, R, ps)] (some (Lo, Ro, Po))) : ∃ t i l r c c', LiftD s ns L R ps Lo Ro Po t i l r c c' := by
  rcases h with ⟨t, ml, mr, c, c', h1, h2, h3, h4, h5, h6, h7⟩ | ⟨_, h⟩
  · injection h7 with h7
    injection h7 with e1 h7
    injection h7 with e2 e3
    have hok := h2.ok (L, R, ps) (by simp)
    have s1 : [L] = ml.map fun p => (p.2 : Int) := h2.ol.sizes
    have s2 : [R] = mr.map fun p => (p.2 : Int) := h2.or.sizes
    match ml, mr, s1, s2, h2 with
    | [(i, l)], [(i', r)], s1, s2, h2 =>
      have e4 : L = l := by simpa using s1
      have e5 : R = r := by simpa using s2
      have n1 : ns = [[Ty.letter i]] := h2.ol.names
      have n2 : ns = [[Ty.letter i']] := h2.or.names
      have hi : i = i' := by
        rw [n1] at n2
        have e : Ty.letter i = Ty.letter i' := by simpa using n2
        exact Ty.letter_inj (h2.ol.ok (i, l) (by simp)).1 (h2.or.ok (i', r) (by simp)).1 e
      subst hi
      subst e4 e5
      have b1 := t.cnt_bounds h2.ol.sz c (kn_cnt h3)
      have b2 := t.cnt_bounds h2.or.sz c' (kn_cnt h4)
      exact ⟨t, i, l, r, c, c', h1, rfl, rfl, hok, h2, h3, h4, ⟨b1.1, h5⟩, ⟨b2.1, h6⟩, e1, e2, e3⟩
    | [], _, s1, _, _ => simp at s1
    | _ :: _ :: _, _, s1, _, _ => simp at s1
    | [_], [], _, s2, _ => simp at s2
    | [_], _ :: _ :: _, _, s2, _ => simp at s2
  · cases h

variable {s : List UInt8} {ns : List (List UInt8)} {L R : Int} {ps : List Int} {Lo Ro : Int} {Po : List Int} {t : Ty} {i l r c c' : Nat}

theorem relOk_side {l r : Nat} {ps : List Int} (h : RelOk (l : Int) (r : Int) ps) : 1 ≤ l ∧ l ≤ 128 := by
  have := h.left
  omega

theorem rho_one (i r : Nat) (ps : List Int) : rhoL [(i, r)] [ps] i = memR r ps := by
  funext x y
  simp [rhoL]

theorem szs_one {i l j m : Nat} (h : szs [(i, l)] j = some m) : j = i ∧ m = l := by
  unfold szs szs at h
  split at h
  · rename_i e
    injection h with h
    exact ⟨e.symm, h.symm⟩
  · cases h

theorem LiftD.back (h : LiftD s ns L R ps Lo Ro Po t i l r c c') : RelOk (r : Int) (l : Int) (bk l r ps) ∧ LiftR s ns [((r : Int), (l : Int), bk l r ps)] (some ((c' : Int), (c : Int), bk c c' Po)) ∧ RelOk (c : Int) (c' : Int) Po := by
  have hb := bk_ok h.ok
  have hpo : RelOk (c : Int) (c' : Int) Po := by
    rw [h.po]
    exact pairs_ok h.c1.1 h.c1.2 h.c2.1 h.c2.2
  have hsp : SpIs ns [((r : Int), (l : Int), bk l r ps)] [(i, r)] [(i, l)] := ⟨h.sp.or, h.sp.ol, fun q hq => by
    simp at hq
    subst hq
    exact hb⟩
  refine ⟨hb, ?_, hpo⟩
  obtain ⟨o, ho⟩ := LiftR.ex s ns [((r : Int), (l : Int), bk l r ps)]
  have e := ho.yes h.ty hsp h.kr h.kl h.c2.2 h.c1.2
  rw [e] at ho
  have e2 : (pairsOf c' c (relT (szs [(i, r)]) (szs [(i, l)]) (rhoL [(i, l)] (pss [((r : Int), (l : Int), bk l r ps)])) t)).map Int.ofNat = bk c c' Po := by
    unfold bk
    congr 1
    refine pairsOf_congr (fun y hy x hx => ?_)
    have hrel : memR c' Po x y = relT (szs [(i, l)]) (szs [(i, r)]) (rhoL [(i, r)] [ps]) t x y := by
      rw [h.po]
      exact mem_pairs (by have := h.c2.1; omega) hx hy
    rw [hrel]
    refine relT_swap h.sp.ol.sz h.sp.or.sz (fun j m n h1 h2 x y hx hy => ?_) t c c' (kn_cnt h.kl) (kn_cnt h.kr) x y hx hy
    obtain ⟨rfl, rfl⟩ := szs_one h1
    obtain ⟨_, rfl⟩ := szs_one h2
    show rhoL [(j, m)] [bk m n ps] j y x = rhoL [(j, n)] [ps] j x y
    rw [rho_one, rho_one]
    exact bk_mem (by omega) hx hy
  rw [e2] at ho
  exact ho

/-- equal numbers lifted -/
theorem LiftD.same (h : LiftD s ns L R ps Lo Ro Po t i l r c c') : RelOk (l : Int) (l : Int) (smL l) ∧ LiftR s ns [((l : Int), (l : Int), smL l)] (some ((c : Int), (c : Int), smL c)) := by
  have hl := relOk_side h.ok
  have hb := sm_ok hl.1 hl.2
  have hsp : SpIs ns [((l : Int), (l : Int), smL l)] [(i, l)] [(i, l)] := ⟨h.sp.ol, h.sp.ol, fun q hq => by
    simp at hq
    subst hq
    exact hb⟩
  refine ⟨hb, ?_⟩
  obtain ⟨o, ho⟩ := LiftR.ex s ns [((l : Int), (l : Int), smL l)]
  have e := ho.yes h.ty hsp h.kl h.kl h.c1.2 h.c1.2
  rw [e] at ho
  have e2 : (pairsOf c c (relT (szs [(i, l)]) (szs [(i, l)]) (rhoL [(i, l)] (pss [((l : Int), (l : Int), smL l)])) t)).map Int.ofNat = smL c := by
    unfold smL
    congr 1
    refine pairsOf_congr (fun x hx y hy => ?_)
    have hh := relT_same h.sp.ol.sz (ρ := rhoL [(i, l)] [smL l]) (fun j m h1 x y hx hy => by
      obtain ⟨rfl, rfl⟩ := szs_one h1
      rw [rho_one, sm_mem (by omega) hx hy, decide_eq_true_iff]
      exact eq_comm) t c (kn_cnt h.kl) x y hx hy
    apply Bool.eq_iff_iff.2
    rw [decide_eq_true_iff]
    exact hh.trans eq_comm
  rw [e2] at ho
  exact ho

/-- which elements are related -/
theorem LiftD.has (h : LiftD s ns L R ps Lo Ro Po t i l r c c') {x y : Nat} (hx : x < c) (hy : y < c') : RelatedIs s ns [((l : Int), (r : Int), ps)] x y ↔ memR c' Po x y = true := by
  rw [relatedIs_iff h.ty h.sp h.kl h.kr, h.po, mem_pairs (by have := h.c2.1; omega) hx hy]
  constructor
  · rintro ⟨xn, yn, q1, q2, q3, q4, q5⟩
    have q1 : x = xn := by omega
    have q2 : y = yn := by omega
    subst q1 q2
    exact q5
  · intro hq
    exact ⟨x, y, rfl, rfl, hx, hy, hq⟩
end Go.Proofs.YtloecimlimoanaaDoor
