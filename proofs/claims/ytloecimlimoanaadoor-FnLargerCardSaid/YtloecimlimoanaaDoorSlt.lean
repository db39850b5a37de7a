/- RelLift, on the side of the program. · RelLift, on the side of the model. · RelLift of the model, the whole. -/
import Derived.Test.YtloecimlimoanaaDoorRdl
import Derived.Test.YtloecimlimoanaaDoorL6s
/- RelLift, on the side of the program. -/
namespace Go.Proofs.YtloecimlimoanaaDoor
open Go.RowKit Go.ChangeMaps Go.Shelf

/-- what RelLift is to answer -/
def LiftR (s : List UInt8) (ns : List (List UInt8)) (rs : List (Int × Int × List Int)) (o : Option (Int × Int × List Int)) : Prop :=
  (∃ (t : Ty) (ml mr : List (Nat × Nat)) (c c' : Nat), Ty.Is s t ∧ SpIs ns rs ml mr ∧ t.kn (szs ml) = some c ∧ t.kn (szs mr) = some c' ∧ c ≤ 128 ∧ c' ≤ 128 ∧ o = some ((c : Int), (c' : Int), (pairsOf c c' (relT (szs ml) (szs mr) (rhoL mr (pss rs)) t)).map Int.ofNat)) ∨
  ((∀ (t : Ty) (ml mr : List (Nat × Nat)) (c c' : Nat), Ty.Is s t → SpIs ns rs ml mr → t.kn (szs ml) = some c → t.kn (szs mr) = some c' → c ≤ 128 → c' ≤ 128 → False) ∧ o = none)

theorem LiftR.ex (s : List UInt8) (ns : List (List UInt8)) (rs : List (Int × Int × List Int)) : ∃ o, LiftR s ns rs o := by
  by_cases h : ∃ (t : Ty) (ml mr : List (Nat × Nat)) (c c' : Nat), Ty.Is s t ∧ SpIs ns rs ml mr ∧ t.kn (szs ml) = some c ∧ t.kn (szs mr) = some c' ∧ c ≤ 128 ∧ c' ≤ 128
  · obtain ⟨t, ml, mr, c, c', h1, h2, h3, h4, h5, h6⟩ := h
    exact ⟨_, .inl ⟨t, ml, mr, c, c', h1, h2, h3, h4, h5, h6, rfl⟩⟩
  · exact ⟨none, .inr ⟨fun t ml mr c c' h1 h2 h3 h4 h5 h6 => h ⟨t, ml, mr, c, c', h1, h2, h3, h4, h5, h6⟩, rfl⟩⟩

theorem LiftR.yes {s : List UInt8} {ns : List (List UInt8)} {rs : List (Int × Int × List Int)} {o : Option (Int × Int × List Int)} (h : LiftR s ns rs o) {t : Ty} {ml mr : List (Nat × Nat)} {c c' : Nat} (h1 : Ty.Is s t) (h2 : SpIs ns rs ml mr) (h3 : t.kn (szs ml) = some c) (h4 : t.kn (szs mr) = some c') (h5 : c ≤ 128) (h6 : c' ≤ 128) :
    o = some ((c : Int), (c' : Int), (pairsOf c c' (relT (szs ml) (szs mr) (rhoL mr (pss rs)) t)).map Int.ofNat) := by
  rcases h with ⟨t', ml', mr', d, d', g1, g2, g3, g4, _, _, rfl⟩ | ⟨hno, _⟩
  · have e := g1.unique h1
    subst e
    have e := g2.ol.unique h2.ol
    subst e
    have e := g2.or.unique h2.or
    subst e
    rw [h3] at g3
    rw [h4] at g4
    injection g3 with g3
    injection g4 with g4
    subst g3 g4
    rfl
  · exact (hno t ml mr c c' h1 h2 h3 h4 h5 h6).elim

theorem LiftR.no {s : List UInt8} {ns : List (List UInt8)} {rs : List (Int × Int × List Int)} {o : Option (Int × Int × List Int)} (h : LiftR s ns rs o) (hno : ∀ (t : Ty) (ml mr : List (Nat × Nat)) (c c' : Nat), Ty.Is s t → SpIs ns rs ml mr → t.kn (szs ml) = some c → t.kn (szs mr) = some c' → c ≤ 128 → c' ≤ 128 → False) : o = none := by
  rcases h with ⟨t, ml, mr, c, c', g1, g2, g3, g4, g5, g6, _⟩ | ⟨_, h⟩
  · exact (hno t ml mr c c' g1 g2 g3 g4 g5 g6).elim
  · exact h

theorem LiftR.one {s : List UInt8} {ns : List (List UInt8)} {rs : List (Int × Int × List Int)} {o o' : Option (Int × Int × List Int)} (h : LiftR s ns rs o) (h' : LiftR s ns rs o') : o = o' := by
  rcases h with ⟨t, ml, mr, c, c', g1, g2, g3, g4, g5, g6, rfl⟩ | ⟨hno, rfl⟩
  · exact (h'.yes g1 g2 g3 g4 g5 g6).symm
  · exact (h'.no hno).symm

theorem LiftR.len {s : List UInt8} {ns : List (List UInt8)} {rs : List (Int × Int × List Int)} {o : Option (Int × Int × List Int)} (h : LiftR s ns rs o) : (o.getD (0, 0, [])).2.2.length ≤ 100000 := by
  rcases h with ⟨t, ml, mr, c, c', g1, g2, g3, g4, g5, g6, rfl⟩ | ⟨_, rfl⟩
  · simp only [Option.getD_some, List.length_map]
    have h1 := pairsOf_len c c' (relT (szs ml) (szs mr) (rhoL mr (pss rs)) t)
    have h2 := Nat.mul_le_mul g5 g6
    omega
  · simp

theorem ret_fct {W : World} {k : Nat} (h : Blk W k 30 #[.int .i64 0, .int .i64 0, .slice none 0 0]) : (W.cell? ⟨k, 0, none⟩ = some (.int .i64 0) ∧ W.cell? ⟨k, 1, none⟩ = some (.int .i64 0) ∧ W.cell? ⟨k, 2, none⟩ = some (.slice none 0 0)) ∧ W.frozen? ⟨k, 0, none⟩ = false ∧ W.frozen? ⟨k, 1, none⟩ = false ∧ W.frozen? ⟨k, 2, none⟩ = false :=
  ⟨⟨(h.cell 0).trans rfl, (h.cell 1).trans rfl, (h.cell 2).trans rfl⟩, h.frozen 0, h.frozen 1, h.frozen 2⟩

theorem info_bsr : (Tryd.prog.info? 78).map (fun i => (i.zero, i.size, i.bytes)) = some (some (.slice none 0 0), 1, 24) := by kernel_rfl

section
variable {μ ν : Nat → Option Nat} {ρ : Nat → Nat → Nat → Bool}

/-- what is kept stays by what leaves kept rows and sets of numbers alone -/
theorem LC.own {F : Cach} {Z T : Nat → Prop} {w w' : World} (h : LC μ ν ρ F Z w) (hf : Fr T w w') (hF : ∀ g, InF F g → ¬ T g) (hU : ∀ g cs, Blk w g 127 cs → ¬ T g) (hz : ¬ T 0) : LC μ ν ρ F Z w' := by
  refine ⟨fun g t hg => ?_, h.tz.fr hf hz, h.tzF⟩
  obtain ⟨c, c', cs, h1, h2, h3, h4, h5⟩ := h.kept g t hg
  refine ⟨c, c', cs, h1, h2, h3.fr hf (hF g ⟨t, hg⟩), h4, fun i v hv => ?_⟩
  rcases h5 i v hv with h | ⟨q, ws, e, hb, hw, hq⟩
  · exact .inl h
  · exact .inr ⟨q, ws, e, hb.fr hf (hU q _ hb), hw, hq⟩

theorem RowZ.own {Z T : Nat → Prop} {w w' : World} {n : Nat} {P : Nat → Bool} {v : Value} (h : RowZ Z w n P v) (hf : Fr T w w') (hU : ∀ g cs, Blk w g 127 cs → ¬ T g) : RowZ Z w' n P v := by
  obtain ⟨q, ws, e, hb, hw, hq⟩ := h
  exact ⟨q, ws, e, hb.fr hf (hU q _ hb), hw, hq⟩

/-- rows that were asked so far, in a row of their own, while one more is asked: w1 is the world in which the lifted type was read; q the new row's set, b where it lies to be appended -/
structure RS (μ ν : Nat → Option Nat) (ρ : Nat → Nat → Nat → Bool) (F : Cach) (t : Ty) (c' : Nat) (w1 : World) (lb k : Nat) (A : Option Addr) (n cc : Nat) (vs : List Value) (V : World) (q b : Option Nat) : Prop where
  fr : Fr (InF F) w1 V
  lc : LC μ ν ρ F No V
  lbl : w1.heap.size ≤ lb
  tab : 0 < w1.heap.size
  bx : Blk V lb 97 #[.int .i64 c', .slice A n cc]
  len : vs.length = k ∧ n = k
  own : V.ownsRow w1.heap.size 78 1 (.slice A n cc) n vs
  row : ∀ i v, vs[i]? = some v → RowZ No V c' (relT μ ν ρ t i) v
  got : ∀ g, q = some g → RowZ No V c' (relT μ ν ρ t k) (.slice (some ⟨g, 0, none⟩) (nw c') (nw c'))
  blt : ∀ d, b = some d → ∃ g, q = some g ∧ w1.heap.size ≤ d ∧ Blk V d 78 #[.slice (some ⟨g, 0, none⟩) (nw c') (nw c')]

variable {F : Cach} {t : Ty} {c' : Nat} {w1 V : World} {lb k n cc : Nat} {A : Option Addr} {vs : List Value} {q b : Option Nat}

theorem RS.base (h : RS μ ν ρ F t c' w1 lb k A n cc vs V q b) : w1.heap.size ≤ V.heap.size := h.fr.size
theorem RS.rows (h : RS μ ν ρ F t c' w1 lb k A n cc vs V q b) : V.cell? ⟨lb, 1, none⟩ = some (.slice A n cc) := (h.bx.cell 1).trans rfl
theorem RS.froz (h : RS μ ν ρ F t c' w1 lb k A n cc vs V q b) : V.frozen? ⟨lb, 1, none⟩ = false := h.bx.frozen 1

theorem ownsRow_blk {W : World} {B : Nat} {e : TypeId} {n : Nat} {xs : List Value} {A : Option Addr} {c : Nat} (h : W.ownsRow B e 1 (.slice A n c) n xs) {g : Nat} (hg : Own A g) : B ≤ g ∧ ∃ cs, Blk W g e cs := by
  obtain ⟨a, rfl, rfl⟩ := hg
  rcases h.2 with ⟨hv, _⟩ | ⟨g, cap, cur, hv, h2, h3, _⟩
  · cases hv
  · injection hv with e1 e2 e3
    injection e1 with e1
    subst e1
    exact ⟨h2, cur, h3⟩

theorem ownsRow_fr {W W' : World} {B : Nat} {e : TypeId} {n : Nat} {xs : List Value} {A : Option Addr} {c : Nat} {T : Nat → Prop} (h : W.ownsRow B e 1 (.slice A n c) n xs) (hf : Fr T W W') (hT : ∀ g, Own A g → ¬ T g) : W'.ownsRow B e 1 (.slice A n c) n xs := by
  refine ⟨h.1, ?_⟩
  rcases h.2 with h | ⟨g, cap, cur, hv, h2, h3, h4⟩
  · exact .inl h
  · right
    injection hv with e1 e2 e3
    subst e1
    have hl := (Array.getElem?_eq_some_iff.1 h3).1
    exact ⟨g, cap, cur, by rw [e3], h2, (hf.block g hl (hT g ⟨_, rfl, rfl⟩)).trans h3, h4⟩

/-- kept by what changes neither what was there nor the set's rows -/
theorem RS.keep {T : Nat → Prop} {V' : World} (h : RS μ ν ρ F t c' w1 lb k A n cc vs V q b) (hlc : LC μ ν ρ F No V') (hf : Fr T V V') (hF : ∀ g, g < w1.heap.size → T g → InF F g) (hb : ∀ g, w1.heap.size ≤ g → ¬ T g) (hU : ∀ g cs, Blk V g 127 cs → ¬ T g) : RS μ ν ρ F t c' w1 lb k A n cc vs V' q b := by
  refine ⟨h.fr.then_ hf hF, hlc, h.lbl, h.tab, h.bx.fr hf (hb _ h.lbl), h.len, ownsRow_fr h.own hf (fun g hg => hb g (ownsRow_blk h.own hg).1), fun i v hv => (h.row i v hv).own hf hU, fun g hg => (h.got g hg).own hf hU, fun d hd => ?_⟩
  obtain ⟨g, e, h1, h2⟩ := h.blt d hd
  exact ⟨g, e, h1, h2.fr hf (hb d h1)⟩

theorem RS.no {V' : World} (h : RS μ ν ρ F t c' w1 lb k A n cc vs V q b) (hf : Fr No V V') : RS μ ν ρ F t c' w1 lb k A n cc vs V' q b :=
  h.keep (h.lc.no hf) hf (fun _ _ h => h.elim) (fun _ _ h => h) (fun _ _ _ h => h)

/-- one row more is asked -/
theorem RS.ask (h : RS μ ν ρ F t c' w1 lb k A n cc vs V none none) (hμ : Sizes μ) (hν : Sizes ν) {P c : Nat} (hlt : LtAt μ ν ρ F No w1 t P ∧ Far F No (InF F) w1) (hc : t.cnt μ = some c) (hc' : t.cnt ν = some c') (hk : k < c) (hin : ∀ g, InF F g → g < w1.heap.size) :
    Calls Tryd.prog 55 #[Ptr P, .int .i64 k] V fun e w' => ∃ g, e = .returned (.slice (some ⟨g, 0, none⟩) (nw c') (nw c')) ∧ RS μ ν ρ F t c' w1 lb k A n cc vs w' (some g) none := by
  refine (row_any hμ hν F t No V P k c c' (fun g h => h.elim) h.lc (LtAt.fr h.fr hlt.2 hlt.1) hc hc' hk).mono ?_
  rintro e w' ⟨v, rfl, hrow, hlc, hf⟩
  obtain ⟨g, ws, rfl, hr⟩ := hrow
  have hfar := h.lc.far
  have h1 := h.keep hlc hf (fun g _ hg => hg) (fun g hg hi => by have := hin g hi; omega) (fun g cs hb => hfar g _ _ hb (.inl (by decide)) (fun _ h => h))
  exact ⟨g, rfl, h1.fr, h1.lc, h1.lbl, h1.tab, h1.bx, h1.len, h1.own, h1.row, fun g' e => by injection e with e; subst e; exact ⟨_, ws, rfl, hr⟩, fun d hd => by cases hd⟩

/-- .. and laid down -/
theorem RS.build {g : Nat} (h : RS μ ν ρ F t c' w1 lb k A n cc vs V (some g) none) : RS μ ν ρ F t c' w1 lb k A n cc vs (V.alloc (.cells #[.slice (some ⟨g, 0, none⟩) (nw c') (nw c')] 78)) (some g) (some V.heap.size) := by
  have h1 := h.no ((Fr.refl No V).alloc (.cells #[.slice (some ⟨g, 0, none⟩) (nw c') (nw c')] 78))
  exact ⟨h1.fr, h1.lc, h1.lbl, h1.tab, h1.bx, h1.len, h1.own, h1.row, h1.got, fun d hd => by
    injection hd with hd
    subst hd
    exact ⟨g, rfl, h.base, Blk.new _ _ _⟩⟩

theorem RS.news {g d : Nat} (h : RS μ ν ρ F t c' w1 lb k A n cc vs V (some g) (some d)) : ∀ j u, [Value.slice (some ⟨g, 0, none⟩) (nw c') (nw c')][j]? = some u → V.cell? ((⟨d, 0, none⟩ : Addr).add j) = some u := fun j u hj => by
  obtain ⟨g', e, _, hb⟩ := h.blt d rfl
  injection e with e
  subst e
  rw [addr_add, hb.cell (0 + j)]
  cases j with
  | zero => simpa using hj
  | succ j => simp at hj

/-- behind the append: the row is longer, the box still tells the old one -/
structure RA1 (μ ν : Nat → Option Nat) (ρ : Nat → Nat → Nat → Bool) (F : Cach) (t : Ty) (c' : Nat) (w1 : World) (lb k : Nat) (A : Option Addr) (n cc : Nat) (A' : Option Addr) (n' cc' : Nat) (V : World) : Prop where
  fr : Fr (InF F) w1 V
  lc : LC μ ν ρ F No V
  lbl : w1.heap.size ≤ lb
  tab : 0 < w1.heap.size
  bx : Blk V lb 97 #[.int .i64 c', .slice A n cc]
  own : ∃ vs, (vs.length = k + 1 ∧ n' = k + 1) ∧ V.ownsRow w1.heap.size 78 1 (.slice A' n' cc') n' vs ∧ ∀ i v, vs[i]? = some v → RowZ No V c' (relT μ ν ρ t i) v

theorem RS.more {g d g' cp' : Nat} {wa : World} (h : RS μ ν ρ F t c' w1 lb k A n cc vs V (some g) (some d)) (hin : ∀ g, InF F g → g < w1.heap.size)
    (ho : wa.ownsRow w1.heap.size 78 1 (.slice (some ⟨g', 0, none⟩) (n + 1) cp') (n + 1) (vs ++ [.slice (some ⟨g, 0, none⟩) (nw c') (nw c')])) (hg : V.grownBy wa (Value.slice A n cc).ownBlock) :
    RA1 μ ν ρ F t c' w1 lb k A n cc (some ⟨g', 0, none⟩) (n + 1) cp' wa := by
  have hf : Fr (Own A) V wa := (Fr.refl _ V).grown hg (fun k hk => .inl (by
    unfold Value.ownBlock at hk
    cases A with
    | none => cases hk
    | some a => exact ⟨a, rfl, by injection hk⟩))
  have hbs : ∀ g, Own A g → ∃ cs, Blk V g 78 cs := fun g hg => (ownsRow_blk h.own hg).2
  have hlow : ∀ g, Own A g → w1.heap.size ≤ g := fun g hg => (ownsRow_blk h.own hg).1
  have hU : ∀ g cs, Blk V g 127 cs → ¬ Own A g := fun g cs hb ho => by
    obtain ⟨cs', hb'⟩ := hbs g ho
    exact absurd (hb.eq hb').1 (by decide)
  have hF : ∀ g, InF F g → ¬ Own A g := fun g hi ho => by have := hin g hi; have := hlow g ho; omega
  have htab : ¬ Own A 0 := fun ho => by have := hlow _ ho; have := h.tab; omega
  refine ⟨h.fr.then_ hf (fun g hg ho => by have := hlow g ho; omega), h.lc.own hf hF hU htab, h.lbl, h.tab, h.bx.fr hf (fun ho => ?_), vs ++ [_], ⟨by simp [h.len.1], by have := h.len.2; omega⟩, ho, fun i v hv => ?_⟩
  · obtain ⟨cs, hb⟩ := hbs _ ho
    exact absurd (h.bx.eq hb).1 (by decide)
  · rw [List.getElem?_append] at hv
    split at hv
    · exact (h.row i v hv).own hf hU
    · rename_i hi
      have hik : i = k := by
        have h1 := (List.getElem?_eq_some_iff.1 hv).1
        have h2 := h.len.1
        simp at h1
        omega
      subst hik
      have e : i - vs.length = 0 := by have := h.len.1; omega
      rw [e] at hv
      have hv : Value.slice (some ⟨g, 0, none⟩) (nw c') (nw c') = v := by simpa using hv
      rw [← hv]
      exact (h.got g rfl).own hf hU

theorem RA1.rows {A' : Option Addr} {n' cc' : Nat} (h : RA1 μ ν ρ F t c' w1 lb k A n cc A' n' cc' V) : V.cell? ⟨lb, 1, none⟩ = some (.slice A n cc) := (h.bx.cell 1).trans rfl
theorem RA1.froz {A' : Option Addr} {n' cc' : Nat} (h : RA1 μ ν ρ F t c' w1 lb k A n cc A' n' cc' V) : V.frozen? ⟨lb, 1, none⟩ = false := h.bx.frozen 1
theorem RA1.blt {A' : Option Addr} {n' cc' : Nat} (h : RA1 μ ν ρ F t c' w1 lb k A n cc A' n' cc' V) : lb < V.heap.size := h.bx.lt

/-- stored -/
theorem RA1.next {A' : Option Addr} {n' cc' : Nat} (h : RA1 μ ν ρ F t c' w1 lb k A n cc A' n' cc' V) (hin : ∀ g, InF F g → g < w1.heap.size) : ∃ vs, RS μ ν ρ F t c' w1 lb (k + 1) A' n' cc' vs (V.setCell ⟨lb, 1, none⟩ (.slice A' n' cc')) none none := by
  obtain ⟨vs, hl, ho, hr⟩ := h.own
  have hf : Fr (One lb) V (V.setCell ⟨lb, 1, none⟩ (.slice A' n' cc')) := (Fr.refl (One lb) V).setCell (p := ⟨lb, 1, none⟩) (.inl rfl) _
  have hU : ∀ g cs, Blk V g 127 cs → ¬ One lb g := fun g cs hb e => by
    have e : g = lb := e
    subst e
    exact absurd (hb.eq h.bx).1 (by decide)
  have hF : ∀ g, InF F g → ¬ One lb g := fun g hi e => by have e : g = lb := e; have := hin g hi; have := h.lbl; omega
  refine ⟨vs, h.fr.then_ hf (fun g hg e => by have e : g = lb := e; have := h.lbl; omega), h.lc.own hf hF hU (fun e => by have e : _ = lb := e; have := h.lbl; have := h.tab; omega), h.lbl, h.tab, h.bx.set_ 1 _, hl, ownsRow_fr ho hf (fun g hg e => ?_), fun i v hv => (hr i v hv).own hf hU, fun g hg => (by cases hg), fun d hd => (by cases hd)⟩
  have e : g = lb := e
  subst e
  obtain ⟨_, cs, hb⟩ := ownsRow_blk ho hg
  exact absurd (h.bx.eq hb).1 (by decide)

/-- all rows together -/
theorem RS.wrel {l : Nat} (h : RS μ ν ρ F t c' w1 lb l A n cc vs V none none) (hl : 0 < l) : WRel V lb l c' (relT μ ν ρ t) := by
  obtain ⟨h1, h2⟩ := h.len
  subst h2
  rcases h.own.2 with ⟨_, hn⟩ | ⟨g, cap, cur, hv, h3, h4, h5, h6, h7, h8⟩
  · omega
  · injection hv with e1 e2 e3
    subst e1 e3
    obtain ⟨gs, hgs⟩ := Go.Deep.choose_lt (α := Nat) (n := n) (p := fun i q => vs[i]? = some (.slice (some ⟨q, 0, none⟩) (nw c') (nw c')) ∧ ∃ ws, Blk V q 127 (WV ws) ∧ BitsIs ws c' (relT μ ν ρ t i)) (fun i hi => by
      obtain ⟨v, hv⟩ : ∃ v, vs[i]? = some v := ⟨_, List.getElem?_eq_getElem (by omega)⟩
      obtain ⟨q, ws, rfl, hb, hw, _⟩ := h.row i v hv
      exact ⟨q, hv, ws, hb, hw⟩)
    refine ⟨g, cc, gs, cur, h.bx, h4, fun i hi => ⟨?_, (hgs i hi).2⟩⟩
    have hc := h.own.cells (g := g) rfl i _ (hgs i hi).1
    rw [addr_add, Nat.zero_add] at hc
    have hb : Blk V g 78 cur := h4
    rw [hb.cell] at hc
    exact hc
end

set_option maxRecDepth 100000 in
set_option maxHeartbeats 8000000 in
theorem implRelLift (w : World) (s : List UInt8) (N A0 : Option Addr) (nc rc : Nat) (ns : List (List UInt8)) (rs : List (Int × Int × List Int)) (o : Option (Int × Int × List Int)) (ho : LiftR s ns rs o) (hs : s.length ≤ maxLen) (hN : SSl w N ns) (hA : Rels w A0 rs) (hl : ns.length ≤ 1048576) (hl' : rs.length ≤ 1048576) (hnl : ∀ x ∈ ns, x.length ≤ maxLen) (hT : TZt w) :
    Calls Tryd.prog 18 #[S s, .slice N ns.length nc, .slice A0 rs.length rc] w fun e w' => AnsR o w e w' := by
  obtain ⟨W0, hW0, hf0, hb0⟩ : ∃ W, W = w.alloc (.cells #[.int .i64 0, .int .i64 0, .slice none 0 0] 30) ∧ Fr No w W ∧ Blk W w.heap.size 30 #[.int .i64 0, .int .i64 0, .slice none 0 0] := ⟨_, rfl, (Fr.refl No w).alloc _, Blk.new _ _ _⟩
  have hz0 : w.heap.size < W0.heap.size := hb0.lt
  have RL := Lib.hid (readLifted_any W0 s N A0 nc rc ns rs hs (hN.keep hf0 (fun _ h => h.elim)) (hA.no hf0) hl hl' hnl (hT.fr hf0 (fun h => h)))
  have SV : Hid (∀ (W : World) (n : Int), Calls Tryd.prog 68 #[.int .i64 n] W fun e w' => e = .returned (.bool (decide (1 ≤ n ∧ n ≤ 128))) ∧ W = w') := fun W n => sideValid_any W n
  have HO := Lib.hid ho
  have HF0 := Lib.hid hf0
  have HB0 := Lib.hid hb0
  have HW0 := Lib.hid hW0
  have HZ0 := Lib.hid hz0
  clear hs hN hA hl hl' hnl hT ho hf0 hb0 hW0 hz0
  obtain ⟨i0, hi0, hz0, hz1, hz2⟩ := info_parts info_bsr
  go_enter Tryd.func18, Tryd.ntmps18
  go_wp2_with fail
  rw [← HW0.out]
  refine RL.out.mono ?_
  rintro e w1 ⟨hf1, hor⟩
  have HF1 := Lib.hid (HF0.out.trans hf1)
  have HB1 := Lib.hid (HB0.out.fr hf1 (fun h => h))
  have FAIL : Hid (o = none → ∀ W, Fr No w W → AnsR o w (.returned (.tuple #[RV 0 0 none 0 0, .bool false])) (((W.setCell ⟨w.heap.size, 0, none⟩ (.int .i64 0)).setCell ⟨w.heap.size, 1, none⟩ (.int .i64 0)).setCell ⟨w.heap.size, 2, none⟩ (.slice none 0 0))) := fun h W hf => by
    rw [h]
    exact AnsR.none_ (((hf.setCell (p := ⟨w.heap.size, 0, none⟩) (.inr (Nat.le_refl _)) _).setCell (p := ⟨w.heap.size, 1, none⟩) (.inr (Nat.le_refl _)) _).setCell (p := ⟨w.heap.size, 2, none⟩) (.inr (Nat.le_refl _)) _)
  obtain ⟨⟨a0, a1, a2⟩, f0, f1, f2⟩ := ret_fct HB1.out
  rcases hor with ⟨t, ml, mr, c, c', P, F, hi, hsp, hk1, hk2, rfl, hlt, hlc, hF⟩ | ⟨hno, rfl⟩
  · obtain ⟨gl, gr, d, d', vx, vy, vz, e1, e2, hP, ⟨s1, z1, p1, q1, hsl⟩, ⟨s2, z2, p2, q2, hsr⟩⟩ := hlt.sets
    have hcn := kn_cnt hk1
    have hcn' := kn_cnt hk2
    rw [hcn] at e1
    rw [hcn'] at e2
    injection e1 with e1
    injection e2 with e2
    subst e1 e2
    have l0 : w1.cell? ⟨P, 0, none⟩ = some (Ptr gl) := (hP.cell 0).trans rfl
    have l1 : w1.cell? ⟨P, 1, none⟩ = some (Ptr gr) := (hP.cell 1).trans rfl
    have l2 : w1.cell? ⟨gl, 2, none⟩ = some (.int .i64 c) := (hsl.cell 2).trans rfl
    have l3 : w1.cell? ⟨gr, 2, none⟩ = some (.int .i64 c') := (hsr.cell 2).trans rfl
    have cb := t.cnt_bounds hsp.ol.sz c hcn
    have cb' := t.cnt_bounds hsp.or.sz c' hcn'
    by_cases hc : c ≤ 128
    · have hd1 : decide (1 ≤ (c : Int) ∧ (c : Int) ≤ 128) = true := by simp; omega
      have HD1 := Lib.hid hd1
      by_cases hc' : c' ≤ 128
      · have hd2 : decide (1 ≤ (c' : Int) ∧ (c' : Int) ≤ 128) = true := by simp; omega
        have HD2 := Lib.hid hd2
        have HIN : Hid (∀ g, InF F g → g < w1.heap.size) := fun g ⟨t', h⟩ => by
          obtain ⟨_, _, _, _, _, hb, _⟩ := hlc.kept g t' h
          exact hb.lt
        have HOS := Lib.hid (HO.out.yes hi hsp hk1 hk2 hc hc')
        have hMU : Hid (Sizes (szs ml)) := hsp.ol.sz
        have hNU : Hid (Sizes (szs mr)) := hsp.or.sz
        have HC : Hid (t.cnt (szs ml) = some c ∧ t.cnt (szs mr) = some c') := ⟨hcn, hcn'⟩
        have HLT : Hid (LtAt (szs ml) (szs mr) (rhoL mr (pss rs)) F No w1 t P ∧ Far F No (InF F) w1) := ⟨hlt, hlc.far⟩
        have HFL : Hid (∀ g, InF F g → w.heap.size < g) := fun g hg => by have := hF g hg; have := HZ0.out; omega
        have hcI : (c : Int) ≤ 128 := by omega
        obtain ⟨W2, hW2, hf2, hb2⟩ : ∃ W, W = w1.alloc (.cells #[.int .i64 c', .slice none 0 0] 97) ∧ Fr No w1 W ∧ Blk W w1.heap.size 97 #[.int .i64 c', .slice none 0 0] := ⟨_, rfl, (Fr.refl No w1).alloc _, Blk.new _ _ _⟩
        have R0 : Hid (RS (szs ml) (szs mr) (rhoL mr (pss rs)) F t c' w1 w1.heap.size 0 none 0 0 [] W2 none none) := ⟨hf2.mono (fun _ _ h => h.elim), hlc.no hf2, Nat.le_refl _, hlc.tz.1, hb2, ⟨rfl, rfl⟩, ⟨rfl, .inl ⟨rfl, rfl⟩⟩, fun i v hv => (by simp at hv), fun g hg => (by cases hg), fun d hd => (by cases hd)⟩
        have HW2 := Lib.hid hW2
        have m0 : W2.cell? ⟨P, 0, none⟩ = some (Ptr gl) := ((hP.fr hf2 (fun h => h)).cell 0).trans rfl
        have m2 : W2.cell? ⟨gl, 2, none⟩ = some (.int .i64 c) := ((hsl.fr hf2 (fun h => h)).cell 2).trans rfl
        rw [hW2] at m0 m2
        clear hd1 hd2 hlt hlc hF hi hsp hk1 hk2 hcn hcn' hP hsl hsr RL hf1 hf2 hb2 hW2
        go_wp2_with fail
        refine (SV.out _ _).mono ?_
        rintro e W ⟨rfl, rfl⟩
        rw [HD1.out]
        go_wp2_with fail
        refine (SV.out _ _).mono ?_
        rintro e W ⟨rfl, rfl⟩
        rw [HD2.out]
        go_wp2_with fail
        rw [← HW2.out]
        go_loopw [56] (fun u wr => ∃ (k n cc : Nat) (A : Option Addr) (vs : List Value), k ≤ c ∧ u = .int .i64 k ∧ RS (szs ml) (szs mr) (rhoL mr (pss rs)) F t c' w1 w1.heap.size k A n cc vs wr none none) (fun u _ => c - (intOf u).toNat)
        case atStart => exact ⟨0, 0, 0, none, [], Nat.zero_le _, rfl, R0.out⟩
        case round =>
          obtain ⟨k, n, cc, A, vs, hk, rfl, hrs⟩ := hrel
          by_cases hlt : k < c
          · have hkI : (k : Int) < (c : Int) := by omega
            have HKC := Lib.hid hlt
            have hn : n ≤ 128 := by have := hrs.len.2; omega
            have HRr := Lib.hid (hrs.no ((Fr.refl No wr).drew))
            clear hrs
            go_wp2_with fail
            refine wp_region_held_drew (S := fun _ => True) (by kernel_rfl) trivial (fun _ => ?_)
            refine wpAnyH_take (i := 0) (v := ?vz1) (by simp only [List.getElem?_toArray, List.getElem?_cons_zero]; rfl) (by kernel_rfl) (by kernel_rfl) (by kernel_rfl) (by exact fun _ _ _ h => h) (Or.inl ⟨by rfl, ?hyz1⟩) (by assumption) ?restz1
            case hyz1 => (intro w hSw; (try dsimp only at hSw); go_simp; try with_reducible rfl)
            ((try simp only [Act.put]); (try simp only [List.setIfInBounds_toArray]); (try simp only [List.set_cons_succ]); (try simp only [List.set_cons_zero]))
            refine wpAnyH_take (i := 1) (v := ?vz2) (by simp only [List.getElem?_toArray, List.getElem?_cons_succ, List.getElem?_cons_zero]; rfl) (by kernel_rfl) (by kernel_rfl) (by kernel_rfl) (by exact fun _ _ _ h => h) (Or.inl ⟨by rfl, ?hyz2⟩) (by assumption) ?restz2
            case hyz2 => (intro w hSw; (try dsimp only at hSw); go_simp; try with_reducible rfl)
            ((try simp only [Act.put]); (try simp only [List.setIfInBounds_toArray]); (try simp only [List.set_cons_succ]); (try simp only [List.set_cons_zero]))
            refine wpAnyH_take (i := 2) (v := ?vz3) (by simp only [List.getElem?_toArray, List.getElem?_cons_succ, List.getElem?_cons_zero]; rfl) (by kernel_rfl) (by kernel_rfl) (by kernel_rfl) (by exact fun _ _ _ h => h) (Or.inl ⟨by rfl, ?hyz3⟩) (by assumption) ?restz3
            case hyz3 => (intro w hSw; (try dsimp only at hSw); go_simp; try with_reducible rfl)
            ((try simp only [Act.put]); (try simp only [List.setIfInBounds_toArray]); (try simp only [List.set_cons_succ]); (try simp only [List.set_cons_zero]))
            refine wpAnyH_take (i := 3) (v := ?vz4) (by simp only [List.getElem?_toArray, List.getElem?_cons_succ, List.getElem?_cons_zero]; rfl) (by kernel_rfl) (by kernel_rfl) (by kernel_rfl) (by exact fun _ _ _ h => h) (Or.inl ⟨by rfl, ?hyz4⟩) (by assumption) ?restz4
            case hyz4 => (intro w hSw; (try dsimp only at hSw); go_simp; try with_reducible rfl)
            ((try simp only [Act.put]); (try simp only [List.setIfInBounds_toArray]); (try simp only [List.set_cons_succ]); (try simp only [List.set_cons_zero]))
            refine wpAnyH_take (i := 5) (v := ?vz5) (by simp only [List.getElem?_toArray, List.getElem?_cons_succ, List.getElem?_cons_zero]; rfl) (by kernel_rfl) (by kernel_rfl) (by kernel_rfl) (by exact fun _ _ _ h => h) (Or.inl ⟨by rfl, ?hyz5⟩) (by assumption) ?restz5
            case hyz5 => (intro w hSw; (try dsimp only at hSw); go_simp; try with_reducible rfl)
            ((try simp only [Act.put]); (try simp only [List.setIfInBounds_toArray]); (try simp only [List.set_cons_succ]); (try simp only [List.set_cons_zero]))
            refine wpAnyH_take (i := 6) (v := ?vz6) (by simp only [List.getElem?_toArray, List.getElem?_cons_succ, List.getElem?_cons_zero]; rfl) (by kernel_rfl) (by kernel_rfl) (by kernel_rfl) (by exact fun _ _ _ h => h) (Or.inl ⟨by rfl, ?hyz6⟩) (by assumption) ?restz6
            case hyz6 => (intro w hSw; (try dsimp only at hSw); go_simp; try with_reducible rfl)
            ((try simp only [Act.put]); (try simp only [List.setIfInBounds_toArray]); (try simp only [List.set_cons_succ]); (try simp only [List.set_cons_zero]))
            refine wpAnyH_ready (rs := [4, 7]) (by kernel_rfl) (by simp) ?_
            refine AllReadyH.cons rfl (fun K hK => ?_) (AllReadyH.cons rfl (fun K hK => ?_) AllReadyH.nil)
            · have cl := HRr.out.rows
              go_simp
              clear cl
              have HRr_4 := HRr
              refine hK.out _ _ trivial (fun _ => ?_)
              clear hK K
              ((try simp only [Act.put]); (try simp only [List.setIfInBounds_toArray]); (try simp only [List.set_cons_succ]); (try simp only [List.set_cons_zero]))
              refine wpAnyH_ready (rs := [7]) (by kernel_rfl) (by simp) ?_
              refine AllReadyH.cons rfl (fun K hK => ?_) AllReadyH.nil
              go_simp
              refine (HRr_4.out.ask hMU.out hNU.out HLT.out HC.out.1 HC.out.2 HKC.out HIN.out).mono ?_
              rintro e wv ⟨q, rfl, hq⟩
              have HRr_4_7 := Lib.hid hq
              clear hq
              refine hK.out _ _ trivial (fun _ => ?_)
              clear hK K
              ((try simp only [Act.put]); (try simp only [List.setIfInBounds_toArray]); (try simp only [List.set_cons_succ]); (try simp only [List.set_cons_zero]))
              refine wpAnyH_ready (rs := [8]) (by kernel_rfl) (by simp) ?_
              refine AllReadyH.cons rfl (fun K hK => ?_) AllReadyH.nil
              go_simp
              have HRr_4_7_8 := Lib.hid HRr_4_7.out.build
              refine hK.out _ _ trivial (fun _ => ?_)
              clear hK K
              ((try simp only [Act.put]); (try simp only [List.setIfInBounds_toArray]); (try simp only [List.set_cons_succ]); (try simp only [List.set_cons_zero]))
              refine wpAnyH_ready (rs := [9]) (by kernel_rfl) (by simp) ?_
              refine AllReadyH.cons rfl (fun K hK => ?_) AllReadyH.nil
              refine step_append_lies _ (by rfl) _ _ _ (by rfl) w1.heap.size 78 i0 (.slice none 0 0) 1 24 Tryd.underlying73 hi0 hz0 hz1 hz2 (by rfl) (by decide) (.slice A n cc) n vs (by rfl) HRr_4_7_8.out.own ⟨_, 0, none⟩ 1 1 [.slice (some ⟨q, 0, none⟩) (nw c') (nw c')] (by first | rfl | (go_simp; done) | (simp; done)) (by rfl) HRr_4_7_8.out.news (by simp [Value.oneCell']) (by decide) (by unfold maxLen; omega) (by omega) HRr_4_7_8.out.base _ rfl ?_
              intro g' cp' wa hown hgrow hat _
              have HRr_4_7_8_9 := Lib.hid (HRr_4_7_8.out.more HIN.out hown hgrow)
              clear hown hgrow hat
              refine hK.out _ _ trivial (fun _ => ?_)
              clear hK K
              ((try simp only [Act.put, List.getElem_toArray, List.getElem_cons_succ, List.getElem_cons_zero]); (try simp only [List.setIfInBounds_toArray]); (try simp only [List.set_cons_succ]); (try simp only [List.set_cons_zero]))
              refine wpAnyH_take (i := 10) (v := ?vz7) (by simp only [List.getElem?_toArray, List.getElem?_cons_succ, List.getElem?_cons_zero]; rfl) (by kernel_rfl) (by kernel_rfl) (by kernel_rfl) (by exact fun _ _ _ h => h) (Or.inl ⟨by rfl, ?hyz7⟩) (by assumption) ?restz7
              case hyz7 => (intro w hSw; (try dsimp only at hSw); go_simp; try with_reducible rfl)
              ((try simp only [Act.put]); (try simp only [List.setIfInBounds_toArray]); (try simp only [List.set_cons_succ]); (try simp only [List.set_cons_zero]))
              refine wpAnyH_take (i := 11) (v := ?vz8) (by simp only [List.getElem?_toArray, List.getElem?_cons_succ, List.getElem?_cons_zero]; rfl) (by kernel_rfl) (by kernel_rfl) (by kernel_rfl) (by exact fun _ _ _ h => h) (Or.inl ⟨by rfl, ?hyz8⟩) (by assumption) ?restz8
              case hyz8 => (intro w hSw; (try dsimp only at hSw); go_simp; try with_reducible rfl)
              ((try simp only [Act.put]); (try simp only [List.setIfInBounds_toArray]); (try simp only [List.set_cons_succ]); (try simp only [List.set_cons_zero]))
              refine wpAnyH_ready (rs := [12]) (by kernel_rfl) (by simp) ?_
              refine AllReadyH.cons rfl (fun K hK => ?_) AllReadyH.nil
              have cl := HRr_4_7_8_9.out.rows
              have cz := HRr_4_7_8_9.out.froz
              have cb := HRr_4_7_8_9.out.blt
              go_simp
              have HN := Lib.hid (HRr_4_7_8_9.out.next HIN.out)
              clear cl cz cb
              refine hK.out _ _ trivial (fun _ => ?_)
              clear hK K
              ((try simp only [Act.put]); (try simp only [List.setIfInBounds_toArray]); (try simp only [List.set_cons_succ]); (try simp only [List.set_cons_zero]))
              refine wpAnyH_done (by kernel_rfl) ?_ _
              go_wp2_with fail
              go_roundw
              case rel => exact ⟨k + 1, _, _, _, _, HKC.out, by go_num, HN.out.choose_spec⟩
              case measure => simp [intOf]; omega
            · go_simp
              refine (HRr.out.ask hMU.out hNU.out HLT.out HC.out.1 HC.out.2 HKC.out HIN.out).mono ?_
              rintro e wv ⟨q, rfl, hq⟩
              have HRr_7 := Lib.hid hq
              clear hq
              refine hK.out _ _ trivial (fun _ => ?_)
              clear hK K
              ((try simp only [Act.put]); (try simp only [List.setIfInBounds_toArray]); (try simp only [List.set_cons_succ]); (try simp only [List.set_cons_zero]))
              refine wpAnyH_ready (rs := [4, 8]) (by kernel_rfl) (by simp) ?_
              refine AllReadyH.cons rfl (fun K hK => ?_) (AllReadyH.cons rfl (fun K hK => ?_) AllReadyH.nil)
              · have cl := HRr_7.out.rows
                go_simp
                clear cl
                have HRr_7_4 := HRr_7
                refine hK.out _ _ trivial (fun _ => ?_)
                clear hK K
                ((try simp only [Act.put]); (try simp only [List.setIfInBounds_toArray]); (try simp only [List.set_cons_succ]); (try simp only [List.set_cons_zero]))
                refine wpAnyH_ready (rs := [8]) (by kernel_rfl) (by simp) ?_
                refine AllReadyH.cons rfl (fun K hK => ?_) AllReadyH.nil
                go_simp
                have HRr_7_4_8 := Lib.hid HRr_7_4.out.build
                refine hK.out _ _ trivial (fun _ => ?_)
                clear hK K
                ((try simp only [Act.put]); (try simp only [List.setIfInBounds_toArray]); (try simp only [List.set_cons_succ]); (try simp only [List.set_cons_zero]))
                refine wpAnyH_ready (rs := [9]) (by kernel_rfl) (by simp) ?_
                refine AllReadyH.cons rfl (fun K hK => ?_) AllReadyH.nil
                refine step_append_lies _ (by rfl) _ _ _ (by rfl) w1.heap.size 78 i0 (.slice none 0 0) 1 24 Tryd.underlying73 hi0 hz0 hz1 hz2 (by rfl) (by decide) (.slice A n cc) n vs (by rfl) HRr_7_4_8.out.own ⟨_, 0, none⟩ 1 1 [.slice (some ⟨q, 0, none⟩) (nw c') (nw c')] (by first | rfl | (go_simp; done) | (simp; done)) (by rfl) HRr_7_4_8.out.news (by simp [Value.oneCell']) (by decide) (by unfold maxLen; omega) (by omega) HRr_7_4_8.out.base _ rfl ?_
                intro g' cp' wa hown hgrow hat _
                have HRr_7_4_8_9 := Lib.hid (HRr_7_4_8.out.more HIN.out hown hgrow)
                clear hown hgrow hat
                refine hK.out _ _ trivial (fun _ => ?_)
                clear hK K
                ((try simp only [Act.put, List.getElem_toArray, List.getElem_cons_succ, List.getElem_cons_zero]); (try simp only [List.setIfInBounds_toArray]); (try simp only [List.set_cons_succ]); (try simp only [List.set_cons_zero]))
                refine wpAnyH_take (i := 10) (v := ?vz9) (by simp only [List.getElem?_toArray, List.getElem?_cons_succ, List.getElem?_cons_zero]; rfl) (by kernel_rfl) (by kernel_rfl) (by kernel_rfl) (by exact fun _ _ _ h => h) (Or.inl ⟨by rfl, ?hyz9⟩) (by assumption) ?restz9
                case hyz9 => (intro w hSw; (try dsimp only at hSw); go_simp; try with_reducible rfl)
                ((try simp only [Act.put]); (try simp only [List.setIfInBounds_toArray]); (try simp only [List.set_cons_succ]); (try simp only [List.set_cons_zero]))
                refine wpAnyH_take (i := 11) (v := ?vz10) (by simp only [List.getElem?_toArray, List.getElem?_cons_succ, List.getElem?_cons_zero]; rfl) (by kernel_rfl) (by kernel_rfl) (by kernel_rfl) (by exact fun _ _ _ h => h) (Or.inl ⟨by rfl, ?hyz10⟩) (by assumption) ?restz10
                case hyz10 => (intro w hSw; (try dsimp only at hSw); go_simp; try with_reducible rfl)
                ((try simp only [Act.put]); (try simp only [List.setIfInBounds_toArray]); (try simp only [List.set_cons_succ]); (try simp only [List.set_cons_zero]))
                refine wpAnyH_ready (rs := [12]) (by kernel_rfl) (by simp) ?_
                refine AllReadyH.cons rfl (fun K hK => ?_) AllReadyH.nil
                have cl := HRr_7_4_8_9.out.rows
                have cz := HRr_7_4_8_9.out.froz
                have cb := HRr_7_4_8_9.out.blt
                go_simp
                have HN := Lib.hid (HRr_7_4_8_9.out.next HIN.out)
                clear cl cz cb
                refine hK.out _ _ trivial (fun _ => ?_)
                clear hK K
                ((try simp only [Act.put]); (try simp only [List.setIfInBounds_toArray]); (try simp only [List.set_cons_succ]); (try simp only [List.set_cons_zero]))
                refine wpAnyH_done (by kernel_rfl) ?_ _
                go_wp2_with fail
                go_roundw
                case rel => exact ⟨k + 1, _, _, _, _, HKC.out, by go_num, HN.out.choose_spec⟩
                case measure => simp [intOf]; omega
              · go_simp
                have HRr_7_8 := Lib.hid HRr_7.out.build
                refine hK.out _ _ trivial (fun _ => ?_)
                clear hK K
                ((try simp only [Act.put]); (try simp only [List.setIfInBounds_toArray]); (try simp only [List.set_cons_succ]); (try simp only [List.set_cons_zero]))
                refine wpAnyH_ready (rs := [4]) (by kernel_rfl) (by simp) ?_
                refine AllReadyH.cons rfl (fun K hK => ?_) AllReadyH.nil
                have cl := HRr_7_8.out.rows
                go_simp
                clear cl
                have HRr_7_8_4 := HRr_7_8
                refine hK.out _ _ trivial (fun _ => ?_)
                clear hK K
                ((try simp only [Act.put]); (try simp only [List.setIfInBounds_toArray]); (try simp only [List.set_cons_succ]); (try simp only [List.set_cons_zero]))
                refine wpAnyH_ready (rs := [9]) (by kernel_rfl) (by simp) ?_
                refine AllReadyH.cons rfl (fun K hK => ?_) AllReadyH.nil
                refine step_append_lies _ (by rfl) _ _ _ (by rfl) w1.heap.size 78 i0 (.slice none 0 0) 1 24 Tryd.underlying73 hi0 hz0 hz1 hz2 (by rfl) (by decide) (.slice A n cc) n vs (by rfl) HRr_7_8_4.out.own ⟨_, 0, none⟩ 1 1 [.slice (some ⟨q, 0, none⟩) (nw c') (nw c')] (by first | rfl | (go_simp; done) | (simp; done)) (by rfl) HRr_7_8_4.out.news (by simp [Value.oneCell']) (by decide) (by unfold maxLen; omega) (by omega) HRr_7_8_4.out.base _ rfl ?_
                intro g' cp' wa hown hgrow hat _
                have HRr_7_8_4_9 := Lib.hid (HRr_7_8_4.out.more HIN.out hown hgrow)
                clear hown hgrow hat
                refine hK.out _ _ trivial (fun _ => ?_)
                clear hK K
                ((try simp only [Act.put, List.getElem_toArray, List.getElem_cons_succ, List.getElem_cons_zero]); (try simp only [List.setIfInBounds_toArray]); (try simp only [List.set_cons_succ]); (try simp only [List.set_cons_zero]))
                refine wpAnyH_take (i := 10) (v := ?vz11) (by simp only [List.getElem?_toArray, List.getElem?_cons_succ, List.getElem?_cons_zero]; rfl) (by kernel_rfl) (by kernel_rfl) (by kernel_rfl) (by exact fun _ _ _ h => h) (Or.inl ⟨by rfl, ?hyz11⟩) (by assumption) ?restz11
                case hyz11 => (intro w hSw; (try dsimp only at hSw); go_simp; try with_reducible rfl)
                ((try simp only [Act.put]); (try simp only [List.setIfInBounds_toArray]); (try simp only [List.set_cons_succ]); (try simp only [List.set_cons_zero]))
                refine wpAnyH_take (i := 11) (v := ?vz12) (by simp only [List.getElem?_toArray, List.getElem?_cons_succ, List.getElem?_cons_zero]; rfl) (by kernel_rfl) (by kernel_rfl) (by kernel_rfl) (by exact fun _ _ _ h => h) (Or.inl ⟨by rfl, ?hyz12⟩) (by assumption) ?restz12
                case hyz12 => (intro w hSw; (try dsimp only at hSw); go_simp; try with_reducible rfl)
                ((try simp only [Act.put]); (try simp only [List.setIfInBounds_toArray]); (try simp only [List.set_cons_succ]); (try simp only [List.set_cons_zero]))
                refine wpAnyH_ready (rs := [12]) (by kernel_rfl) (by simp) ?_
                refine AllReadyH.cons rfl (fun K hK => ?_) AllReadyH.nil
                have cl := HRr_7_8_4_9.out.rows
                have cz := HRr_7_8_4_9.out.froz
                have cb := HRr_7_8_4_9.out.blt
                go_simp
                have HN := Lib.hid (HRr_7_8_4_9.out.next HIN.out)
                clear cl cz cb
                refine hK.out _ _ trivial (fun _ => ?_)
                clear hK K
                ((try simp only [Act.put]); (try simp only [List.setIfInBounds_toArray]); (try simp only [List.set_cons_succ]); (try simp only [List.set_cons_zero]))
                refine wpAnyH_done (by kernel_rfl) ?_ _
                go_wp2_with fail
                go_roundw
                case rel => exact ⟨k + 1, _, _, _, _, HKC.out, by go_num, HN.out.choose_spec⟩
                case measure => simp [intOf]; omega
          · have hkc : k = c := by omega
            subst hkc
            have hkI : ¬ (k : Int) < (k : Int) := by omega
            have HFR : Hid (Fr No w wr) := HF1.out.then_ hrs.fr (fun g hg hin => by have := HFL.out g hin; omega)
            have HRS : Hid (Blk wr w.heap.size 30 #[.int .i64 0, .int .i64 0, .slice none 0 0]) := HB1.out.fr hrs.fr (fun hin => by have := HFL.out _ hin; omega)
            have WR := Lib.hid (written_w wr w1.heap.size k c' _ hc cb'.1 hc' (hrs.wrel cb.1) hrs.lc.tz)
            clear hrs
            go_wp2_with fail
            refine WR.out.mono ?_
            rintro e w4 ⟨A1, m1, c1, rfl, hf4, hor⟩
            obtain ⟨⟨b0, b1, b2⟩, g0, g1, g2⟩ := ret_fct (HRS.out.fr hf4 (fun h => h))
            have FIN := Lib.hid (fun v0 v1 v2 => ans_store (Nat.le_refl w.heap.size) (HFR.out.trans hf4) (HRS.out.fr hf4 (fun h => h)) hor HFR.out.size v0 v1 v2)
            clear hf4 hor WR
            go_wp2_with fail
            refine bodyPost_ret (v := .tuple #[RV k c' A1 m1 c1, .bool true]) (by simp [results, Tryd.results18, go_sem, b0, b1, b2]) rfl ?_
            rw [HOS.out]
            exact ⟨A1, m1, c1, rfl, (FIN.out _ _ _).1, (FIN.out _ _ _).2⟩
      · have hd2 : decide (1 ≤ (c' : Int) ∧ (c' : Int) ≤ 128) = false := by simp; omega
        have HD2 := Lib.hid hd2
        have HE := Lib.hid (FAIL.out (HO.out.no (fun t2 ml2 mr2 c2 c2' h1 h2 h3 h4 _ h6 => by
          have e := h1.unique hi
          subst e
          have e := h2.or.unique hsp.or
          subst e
          rw [hk2] at h4
          injection h4 with h4
          omega)) w1 HF1.out)
        clear hd1 hd2 hlt hlc hF hi hsp hk1 hk2 hcn hcn' hP hsl hsr RL hf1 cb cb' hc' hc
        go_wp2_with fail
        refine (SV.out _ _).mono ?_
        rintro e W ⟨rfl, rfl⟩
        rw [HD1.out]
        go_wp2_with fail
        refine (SV.out _ _).mono ?_
        rintro e W ⟨rfl, rfl⟩
        rw [HD2.out]
        go_wp2_with fail
        refine bodyPost_ret (v := .tuple #[RV 0 0 none 0 0, .bool false]) (by simp [results, Tryd.results18, go_sem, a0, a1, a2]) rfl ?_
        exact HE.out
    · have hd1 : decide (1 ≤ (c : Int) ∧ (c : Int) ≤ 128) = false := by simp; omega
      have HD1 := Lib.hid hd1
      have HE := Lib.hid (FAIL.out (HO.out.no (fun t2 ml2 mr2 c2 c2' h1 h2 h3 h4 h5 _ => by
          have e := h1.unique hi
          subst e
          have e := h2.ol.unique hsp.ol
          subst e
          rw [hk1] at h3
          injection h3 with h3
          omega)) w1 HF1.out)
      clear hd1 hlt hlc hF hi hsp hk1 hk2 hcn hcn' hP hsl hsr RL hf1 cb cb' hc
      go_wp2_with fail
      refine (SV.out _ _).mono ?_
      rintro e W ⟨rfl, rfl⟩
      rw [HD1.out]
      go_wp2_with fail
      refine bodyPost_ret (v := .tuple #[RV 0 0 none 0 0, .bool false]) (by simp [results, Tryd.results18, go_sem, a0, a1, a2]) rfl ?_
      exact HE.out
  · have HE := Lib.hid (FAIL.out (HO.out.no (fun t ml mr c c' h1 h2 h3 h4 _ _ => hno t ml mr c c' h1 h2 h3 h4)) w1 HF1.out)
    clear hf1 hno RL
    go_wp2_with fail
    refine bodyPost_ret (v := .tuple #[RV 0 0 none 0 0, .bool false]) (by simp [results, Tryd.results18, go_sem, a0, a1, a2]) rfl ?_
    exact HE.out
end Go.Proofs.YtloecimlimoanaaDoor

/- RelLift, on the side of the model. -/
namespace Go.Proofs.YtloecimlimoanaaDoor
open Go.RowKit Go.ChangeMaps Go.Shelf

/-- a box and an empty row that are being made -/
structure L7 (W V : World) (bx rw : Option Nat) : Prop where
  fr : Fr No W V
  bx : ∀ k, bx = some k → W.heap.size ≤ k ∧ Blk V k 30 #[.int .i64 0, .int .i64 0, .slice none 0 0]
  rw : ∀ g, rw = some g → OR V W.heap.size (some ⟨g, 0, none⟩) 0 0 []

theorem L7.start (W : World) : L7 W W none none := ⟨Fr.refl _ _, fun k h => (by cases h), fun g h => (by cases h)⟩
theorem L7.no {W V V' : World} {bx rw : Option Nat} (h : L7 W V bx rw) (hf : Fr No V V') : L7 W V' bx rw := ⟨h.fr.trans hf, fun k e => ⟨(h.bx k e).1, (h.bx k e).2.fr hf (fun h => h)⟩, fun g e => (h.rw g e).no hf⟩
theorem L7.drew {W V : World} {bx rw : Option Nat} (h : L7 W V bx rw) : L7 W V.drew bx rw := h.no ((Fr.refl No V).drew)
theorem L7.mkrow {W V : World} {bx : Option Nat} (h : L7 W V bx none) : L7 W (V.alloc (.cells #[] 3)) bx (some V.heap.size) := by
  have h1 := h.no ((Fr.refl No V).alloc (.cells #[] 3))
  exact ⟨h1.fr, h1.bx, fun g e => by injection e with e; subst e; exact (or_new V).low h.fr.size⟩
theorem L7.mkbox {W V : World} {rw : Option Nat} (h : L7 W V none rw) : L7 W (V.alloc (.cells #[.int .i64 0, .int .i64 0, .slice none 0 0] 30)) (some V.heap.size) rw := by
  have h1 := h.no ((Fr.refl No V).alloc (.cells #[.int .i64 0, .int .i64 0, .slice none 0 0] 30))
  exact ⟨h1.fr, fun k e => by injection e with e; subst e; exact ⟨h.fr.size, Blk.new _ _ _⟩, h1.rw⟩
theorem L7.store {W V : World} {k g : Nat} (h : L7 W V (some k) (some g)) (x y : Int) : Fr No W (((V.setCell ⟨k, 0, none⟩ (.int .i64 x)).setCell ⟨k, 1, none⟩ (.int .i64 y)).setCell ⟨k, 2, none⟩ (.slice (some ⟨g, 0, none⟩) 0 0)) ∧ W.heap.size ≤ k ∧ Blk (((V.setCell ⟨k, 0, none⟩ (.int .i64 x)).setCell ⟨k, 1, none⟩ (.int .i64 y)).setCell ⟨k, 2, none⟩ (.slice (some ⟨g, 0, none⟩) 0 0)) k 30 #[.int .i64 x, .int .i64 y, .slice (some ⟨g, 0, none⟩) 0 0] ∧
    OR (((V.setCell ⟨k, 0, none⟩ (.int .i64 x)).setCell ⟨k, 1, none⟩ (.int .i64 y)).setCell ⟨k, 2, none⟩ (.slice (some ⟨g, 0, none⟩) 0 0)) W.heap.size (some ⟨g, 0, none⟩) 0 0 [] := by
  obtain ⟨h1, h2⟩ := h.bx k rfl
  have h3 := h.rw g rfl
  have fs : Fr (One k) V (((V.setCell ⟨k, 0, none⟩ (.int .i64 x)).setCell ⟨k, 1, none⟩ (.int .i64 y)).setCell ⟨k, 2, none⟩ (.slice (some ⟨g, 0, none⟩) 0 0)) := (((Fr.refl (One k) V).setCell (p := ⟨k, 0, none⟩) (.inl rfl) _).setCell (p := ⟨k, 1, none⟩) (.inl rfl) _).setCell (p := ⟨k, 2, none⟩) (.inl rfl) _
  exact ⟨h.fr.then_ fs (fun j hj h => by have h : j = k := h; omega), h1, ((h2.set_ 0 _).set_ 1 _).set_ 2 _, h3.fr fs (fun b hb h => by have h : b = k := h; subst h; exact h3.other h2 (by decide) hb)⟩

/-- what is there while pairs come in -/
structure LI (w : World) (kb B0 c c' : Nat) (a0 a1 : Value) (qs : List Nat) (wr : World) : Prop where
  fr : Fr No w wr
  tb : Blk wr w.heap.size 82 #[a0, a1]
  rt : Blk wr (w.heap.size + 1) 30 #[.int .i64 0, .int .i64 0, .slice none 0 0]
  bx : ∃ A m cc, Blk wr kb 30 #[.int .i64 (c : Int), .int .i64 (c' : Int), .slice A m cc] ∧ OR wr B0 A m cc (qs.map Int.ofNat)
  lo : w.heap.size + 2 ≤ B0
  klo : B0 ≤ kb

theorem LI.step {w wr wr' : World} {kb B0 c c' : Nat} {a0 a1 : Value} {qs : List Nat} (h : LI w kb B0 c c' a0 a1 qs wr) (hf : Fr No wr wr') : LI w kb B0 c c' a0 a1 qs wr' := by
  obtain ⟨A, m, cc, h1, h2⟩ := h.bx
  exact ⟨h.fr.trans hf, h.tb.fr hf (fun h => h), h.rt.fr hf (fun h => h), ⟨A, m, cc, h1.fr hf (fun h => h), h2.no hf⟩, h.lo, h.klo⟩

/-- a relation in memory of its own -/
def AnsV (Lo Ro : Int) (Po : List Int) (w : World) (e : Ending) (w' : World) : Prop := ∃ A n c, e = .returned (RV Lo Ro A n c) ∧ Fr No w w' ∧ OR w' w.heap.size A n c Po

set_option maxRecDepth 100000 in
set_option maxHeartbeats 8000000 in
theorem l6rLift_any (w : World) (Q tc : Nat) (TA : Option Addr) (t : Ty) (d : SpD) (ρ : Nat → Nat → Nat → Bool) (hρ : RhoOk d ρ) (hlets : t.lets) (hsp : SpAt d w Q) (hsl : Sl w (fun b => b < w.heap.size) TA t.kids) (c c' : Nat) (hc : t.cnt (szs d.ml) = some c) (hc' : t.cnt (szs d.mr) = some c') (hc1 : c ≤ 128) (hc1' : c' ≤ 128) :
    Calls Tryd.prog 69 #[Ptr Q, .agg #[S t.atom, .slice TA t.kids.len tc]] w fun e w' => AnsV c c' ((pairsOf c c' (relT (szs d.ml) (szs d.mr) ρ t)).map Int.ofNat) w e w' := by
  obtain ⟨i0, hi0, hz0, hz1, hz2⟩ := info_parts info_int
  obtain ⟨W2, hW2, hf2, hb2, hr2⟩ : ∃ W, W = (w.alloc (.cells #[S t.atom, .slice TA t.kids.len tc] 82)).alloc (.cells #[.int .i64 0, .int .i64 0, .slice none 0 0] 30) ∧ Fr No w W ∧ Blk W w.heap.size 82 #[S t.atom, .slice TA t.kids.len tc] ∧ Blk W (w.heap.size + 1) 30 #[.int .i64 0, .int .i64 0, .slice none 0 0] :=
    ⟨_, rfl, ((Fr.refl No w).alloc _).alloc _, (Blk.new _ _ _).alloc _, Blk.new_at _ _ _ (by simp)⟩
  have hz2' : W2.heap.size = w.heap.size + 2 := by rw [hW2]; simp
  have HSl : Hid (∀ W', Fr No w W' → Sl W' (fun b => b < W'.heap.size) TA t.kids) := fun W' hf => (hsl.fr (fun b hb => hb) hf).mono (fun b hb => Nat.lt_of_lt_of_le hb hf.size) (fun _ _ => rfl)
  have HSP : Hid (∀ W', Fr No w W' → SpAt d W' Q) := fun W' hf => hsp.fr hf
  have CTL : Hid (∀ W', Fr No W2 W' → Calls Tryd.prog 60 #[.agg #[S t.atom, .slice TA t.kids.len tc], .slice d.N d.ns.length d.nc, .slice d.L d.zl.length d.lc] W' fun e w' => e = .returned (.int .i64 c) ∧ Fr No W' w') := fun W' hf => by
    have h := ct_any d.ns d.zl d.ml hsp.ol t hlets W' (fun b => b < W'.heap.size) TA tc d.N d.L d.nc d.lc (fun b hb => hb) (HSl.out W' (hf2.trans hf)) (HSP.out W' (hf2.trans hf)).nam (HSP.out W' (hf2.trans hf)).lef
    rwa [cntI_some hc] at h
  have CTR : Hid (∀ W', Fr No W2 W' → Calls Tryd.prog 60 #[.agg #[S t.atom, .slice TA t.kids.len tc], .slice d.N d.ns.length d.nc, .slice d.Z d.zr.length d.zc] W' fun e w' => e = .returned (.int .i64 c') ∧ Fr No W' w') := fun W' hf => by
    have h := ct_any d.ns d.zr d.mr hsp.or t hlets W' (fun b => b < W'.heap.size) TA tc d.N d.Z d.nc d.zc (fun b hb => hb) (HSl.out W' (hf2.trans hf)) (HSP.out W' (hf2.trans hf)).nam (HSP.out W' (hf2.trans hf)).rig
    rwa [cntI_some hc'] at h
  have RE : Hid (∀ W' (x y : Nat), Fr No w W' → x < c → y < c' → Calls Tryd.prog 61 #[Ptr Q, .agg #[S t.atom, .slice TA t.kids.len tc], .int .i64 x, .int .i64 y] W' fun e w' => e = .returned (.bool (relT (szs d.ml) (szs d.mr) ρ t x y)) ∧ Fr No W' w') := fun W' x y hf hx hy => re_any d ρ hρ t hlets W' Q TA tc x y c c' (HSP.out W' hf) (HSl.out W' hf) hc hc' hx hy
  have SS : Hid (∀ V, Fr No W2 V → V.cell? ⟨w.heap.size, 0, none⟩ = some (S t.atom) ∧ V.cell? ⟨w.heap.size, 1, none⟩ = some (.slice TA t.kids.len tc) ∧ V.cell? ⟨Q, 0, none⟩ = some (.slice d.N d.ns.length d.nc) ∧ V.cell? ⟨Q, 2, none⟩ = some (.slice d.L d.zl.length d.lc) ∧ V.cell? ⟨Q, 3, none⟩ = some (.slice d.Z d.zr.length d.zc)) := fun V hf => by
    have h1 := hb2.fr hf (fun h => h)
    have h2 := (hsp.fr (hf2.trans hf)).blk
    exact ⟨(h1.cell 0).trans rfl, (h1.cell 1).trans rfl, (h2.cell 0).trans rfl, (h2.cell 2).trans rfl, (h2.cell 3).trans rfl⟩
  have HF2 := Lib.hid hf2
  have HB2 := Lib.hid hb2
  have HR2 := Lib.hid hr2
  have HW2 := Lib.hid hW2
  have HZ2 := Lib.hid hz2'
  obtain ⟨R, hR⟩ : ∃ R, R = relT (szs d.ml) (szs d.mr) ρ t := ⟨_, rfl⟩
  rw [← hR] at RE ⊢
  clear hsp hsl hf2 hb2 hr2 hW2 hz2' hc hc' hR hρ hlets
  go_enter Tryd.func69, Tryd.ntmps69
  go_wp2_with fail
  rw [← HW2.out]
  rename_i Ks hKs
  suffices REST : Hid (∀ (kb g0 : Nat) (V : World), (Fr No W2 V ∧ W2.heap.size ≤ kb ∧ Blk V kb 30 #[.int .i64 (c : Int), .int .i64 (c' : Int), .slice (some ⟨g0, 0, none⟩) 0 0] ∧ OR V W2.heap.size (some ⟨g0, 0, none⟩) 0 0 []) → Ks { tmps := #[Ptr Q, Value.agg #[S t.atom, Value.slice TA t.kids.len tc], undef, Value.pointer (some { block := w.heap.size, off := 0 }), Value.pointer (some { block := w.heap.size + 1, off := 0 }), Value.pointer (some { block := kb, off := 0 }), undef, undef, Value.agg #[S t.atom, Value.slice TA t.kids.len tc], Ptr Q, Value.pointer (some { block := Q, off := 0 }), Value.pointer (some { block := Q, off := 0 }), Value.slice d.N d.ns.length d.nc, Ptr Q, Value.pointer (some { block := Q, off := 0 }), Value.pointer (some { block := Q, off := 2 }), Value.slice d.L d.zl.length d.lc, Value.int IntKind.i64 ↑c, Value.agg #[S t.atom, Value.slice TA t.kids.len tc], Ptr Q, Value.pointer (some { block := Q, off := 0 }), Value.pointer (some { block := Q, off := 0 }), Value.slice d.N d.ns.length d.nc, Ptr Q, Value.pointer (some { block := Q, off := 0 }), Value.pointer (some { block := Q, off := 3 }), Value.slice d.Z d.zr.length d.zc, Value.int IntKind.i64 ↑c', Value.slice (some { block := g0, off := 0 }) 0 0, Value.agg #[Value.int IntKind.i64 ↑c, Value.int IntKind.i64 ↑c', Value.slice (some { block := g0, off := 0 }) 0 0], undef, undef, undef, undef, undef, undef, undef, undef, undef, undef, undef, undef, undef, undef, undef, undef, undef, undef, undef, undef, undef, undef, undef, undef, undef, undef, undef, undef, undef], defers := [] } V) by
    clear hKs
    refine wp_region_held_drew (S := fun w' => w'.cell? ⟨w.heap.size, 0, none⟩ = some (S t.atom) ∧ w'.cell? ⟨w.heap.size, 1, none⟩ = some (.slice TA t.kids.len tc) ∧ w'.cell? ⟨Q, 0, none⟩ = some (.slice d.N d.ns.length d.nc) ∧ w'.cell? ⟨Q, 2, none⟩ = some (.slice d.L d.zl.length d.lc) ∧ w'.cell? ⟨Q, 3, none⟩ = some (.slice d.Z d.zr.length d.zc)) (by kernel_rfl) ?hS (fun _ => ?_)
    case hS => exact SS.out _ ((Fr.refl No W2).drew)
    have HLr := Lib.hid (L7.start W2).drew
    generalize W2.drew = vd at *
    refine wpAnyH_take (i := 0) (v := ?vz1) (by simp only [List.getElem?_toArray, List.getElem?_cons_zero]; rfl) (by kernel_rfl) (by kernel_rfl) (by kernel_rfl) (by exact fun _ _ _ h => h) (Or.inl ⟨by rfl, ?hyz1⟩) (by assumption) ?restz1
    case hyz1 => (intro w hSw; (try dsimp only at hSw); go_simp; try with_reducible rfl)
    ((try simp only [Act.put]); (try simp only [List.setIfInBounds_toArray]); (try simp only [List.set_cons_succ]); (try simp only [List.set_cons_zero]))
    refine wpAnyH_take (i := 1) (v := ?vz2) (by simp only [List.getElem?_toArray, List.getElem?_cons_succ, List.getElem?_cons_zero]; rfl) (by kernel_rfl) (by kernel_rfl) (by kernel_rfl) (by exact fun _ _ _ h => h) (Or.inl ⟨by rfl, ?hyz2⟩) (by assumption) ?restz2
    case hyz2 => (intro w hSw; (try dsimp only at hSw); go_simp; try with_reducible rfl)
    ((try simp only [Act.put]); (try simp only [List.setIfInBounds_toArray]); (try simp only [List.set_cons_succ]); (try simp only [List.set_cons_zero]))
    refine wpAnyH_take (i := 2) (v := ?vz3) (by simp only [List.getElem?_toArray, List.getElem?_cons_succ, List.getElem?_cons_zero]; rfl) (by kernel_rfl) (by kernel_rfl) (by kernel_rfl) (by exact fun _ _ _ h => h) (Or.inl ⟨by rfl, ?hyz3⟩) (by assumption) ?restz3
    case hyz3 => (intro w hSw; (try dsimp only at hSw); go_simp; try with_reducible rfl)
    ((try simp only [Act.put]); (try simp only [List.setIfInBounds_toArray]); (try simp only [List.set_cons_succ]); (try simp only [List.set_cons_zero]))
    refine wpAnyH_take (i := 3) (v := ?vz4) (by simp only [List.getElem?_toArray, List.getElem?_cons_succ, List.getElem?_cons_zero]; rfl) (by kernel_rfl) (by kernel_rfl) (by kernel_rfl) (by exact fun _ _ _ h => h) (Or.inl ⟨by rfl, ?hyz4⟩) (by assumption) ?restz4
    case hyz4 => (intro w hSw; (try dsimp only at hSw); go_simp; try with_reducible rfl)
    ((try simp only [Act.put]); (try simp only [List.setIfInBounds_toArray]); (try simp only [List.set_cons_succ]); (try simp only [List.set_cons_zero]))
    refine wpAnyH_take (i := 4) (v := ?vz5) (by simp only [List.getElem?_toArray, List.getElem?_cons_succ, List.getElem?_cons_zero]; rfl) (by kernel_rfl) (by kernel_rfl) (by kernel_rfl) (by exact fun _ _ _ h => h) (Or.inl ⟨by rfl, ?hyz5⟩) (by assumption) ?restz5
    case hyz5 => (intro w hSw; (try dsimp only at hSw); go_simp; try with_reducible rfl)
    ((try simp only [Act.put]); (try simp only [List.setIfInBounds_toArray]); (try simp only [List.set_cons_succ]); (try simp only [List.set_cons_zero]))
    refine wpAnyH_take (i := 5) (v := ?vz6) (by simp only [List.getElem?_toArray, List.getElem?_cons_succ, List.getElem?_cons_zero]; rfl) (by kernel_rfl) (by kernel_rfl) (by kernel_rfl) (by exact fun _ _ _ h => h) (Or.inl ⟨by rfl, ?hyz6⟩) (by assumption) ?restz6
    case hyz6 => (intro w hSw; (try dsimp only at hSw); go_simp; try with_reducible rfl)
    ((try simp only [Act.put]); (try simp only [List.setIfInBounds_toArray]); (try simp only [List.set_cons_succ]); (try simp only [List.set_cons_zero]))
    refine wpAnyH_take (i := 6) (v := ?vz7) (by simp only [List.getElem?_toArray, List.getElem?_cons_succ, List.getElem?_cons_zero]; rfl) (by kernel_rfl) (by kernel_rfl) (by kernel_rfl) (by exact fun _ _ _ h => h) (Or.inl ⟨by rfl, ?hyz7⟩) (by assumption) ?restz7
    case hyz7 => (intro w hSw; (try dsimp only at hSw); go_simp; try with_reducible rfl)
    ((try simp only [Act.put]); (try simp only [List.setIfInBounds_toArray]); (try simp only [List.set_cons_succ]); (try simp only [List.set_cons_zero]))
    refine wpAnyH_take (i := 7) (v := ?vz8) (by simp only [List.getElem?_toArray, List.getElem?_cons_succ, List.getElem?_cons_zero]; rfl) (by kernel_rfl) (by kernel_rfl) (by kernel_rfl) (by exact fun _ _ _ h => h) (Or.inl ⟨by rfl, ?hyz8⟩) (by assumption) ?restz8
    case hyz8 => (intro w hSw; (try dsimp only at hSw); go_simp; try with_reducible rfl)
    ((try simp only [Act.put]); (try simp only [List.setIfInBounds_toArray]); (try simp only [List.set_cons_succ]); (try simp only [List.set_cons_zero]))
    refine wpAnyH_take (i := 8) (v := ?vz9) (by simp only [List.getElem?_toArray, List.getElem?_cons_succ, List.getElem?_cons_zero]; rfl) (by kernel_rfl) (by kernel_rfl) (by kernel_rfl) (by exact fun _ _ _ h => h) (Or.inl ⟨by rfl, ?hyz9⟩) (by assumption) ?restz9
    case hyz9 => (intro w hSw; (try dsimp only at hSw); go_simp; try with_reducible rfl)
    ((try simp only [Act.put]); (try simp only [List.setIfInBounds_toArray]); (try simp only [List.set_cons_succ]); (try simp only [List.set_cons_zero]))
    refine wpAnyH_take (i := 10) (v := ?vz10) (by simp only [List.getElem?_toArray, List.getElem?_cons_succ, List.getElem?_cons_zero]; rfl) (by kernel_rfl) (by kernel_rfl) (by kernel_rfl) (by exact fun _ _ _ h => h) (Or.inl ⟨by rfl, ?hyz10⟩) (by assumption) ?restz10
    case hyz10 => (intro w hSw; (try dsimp only at hSw); go_simp; try with_reducible rfl)
    ((try simp only [Act.put]); (try simp only [List.setIfInBounds_toArray]); (try simp only [List.set_cons_succ]); (try simp only [List.set_cons_zero]))
    refine wpAnyH_take (i := 11) (v := ?vz11) (by simp only [List.getElem?_toArray, List.getElem?_cons_succ, List.getElem?_cons_zero]; rfl) (by kernel_rfl) (by kernel_rfl) (by kernel_rfl) (by exact fun _ _ _ h => h) (Or.inl ⟨by rfl, ?hyz11⟩) (by assumption) ?restz11
    case hyz11 => (intro w hSw; (try dsimp only at hSw); go_simp; try with_reducible rfl)
    ((try simp only [Act.put]); (try simp only [List.setIfInBounds_toArray]); (try simp only [List.set_cons_succ]); (try simp only [List.set_cons_zero]))
    refine wpAnyH_take (i := 12) (v := ?vz12) (by simp only [List.getElem?_toArray, List.getElem?_cons_succ, List.getElem?_cons_zero]; rfl) (by kernel_rfl) (by kernel_rfl) (by kernel_rfl) (by exact fun _ _ _ h => h) (Or.inl ⟨by rfl, ?hyz12⟩) (by assumption) ?restz12
    case hyz12 => (intro w hSw; (try dsimp only at hSw); go_simp; try with_reducible rfl)
    ((try simp only [Act.put]); (try simp only [List.setIfInBounds_toArray]); (try simp only [List.set_cons_succ]); (try simp only [List.set_cons_zero]))
    refine wpAnyH_take (i := 13) (v := ?vz13) (by simp only [List.getElem?_toArray, List.getElem?_cons_succ, List.getElem?_cons_zero]; rfl) (by kernel_rfl) (by kernel_rfl) (by kernel_rfl) (by exact fun _ _ _ h => h) (Or.inl ⟨by rfl, ?hyz13⟩) (by assumption) ?restz13
    case hyz13 => (intro w hSw; (try dsimp only at hSw); go_simp; try with_reducible rfl)
    ((try simp only [Act.put]); (try simp only [List.setIfInBounds_toArray]); (try simp only [List.set_cons_succ]); (try simp only [List.set_cons_zero]))
    refine wpAnyH_take (i := 14) (v := ?vz14) (by simp only [List.getElem?_toArray, List.getElem?_cons_succ, List.getElem?_cons_zero]; rfl) (by kernel_rfl) (by kernel_rfl) (by kernel_rfl) (by exact fun _ _ _ h => h) (Or.inl ⟨by rfl, ?hyz14⟩) (by assumption) ?restz14
    case hyz14 => (intro w hSw; (try dsimp only at hSw); go_simp; try with_reducible rfl)
    ((try simp only [Act.put]); (try simp only [List.setIfInBounds_toArray]); (try simp only [List.set_cons_succ]); (try simp only [List.set_cons_zero]))
    refine wpAnyH_take (i := 15) (v := ?vz15) (by simp only [List.getElem?_toArray, List.getElem?_cons_succ, List.getElem?_cons_zero]; rfl) (by kernel_rfl) (by kernel_rfl) (by kernel_rfl) (by exact fun _ _ _ h => h) (Or.inl ⟨by rfl, ?hyz15⟩) (by assumption) ?restz15
    case hyz15 => (intro w hSw; (try dsimp only at hSw); go_simp; try with_reducible rfl)
    ((try simp only [Act.put]); (try simp only [List.setIfInBounds_toArray]); (try simp only [List.set_cons_succ]); (try simp only [List.set_cons_zero]))
    refine wpAnyH_take (i := 16) (v := ?vz16) (by simp only [List.getElem?_toArray, List.getElem?_cons_succ, List.getElem?_cons_zero]; rfl) (by kernel_rfl) (by kernel_rfl) (by kernel_rfl) (by exact fun _ _ _ h => h) (Or.inl ⟨by rfl, ?hyz16⟩) (by assumption) ?restz16
    case hyz16 => (intro w hSw; (try dsimp only at hSw); go_simp; try with_reducible rfl)
    ((try simp only [Act.put]); (try simp only [List.setIfInBounds_toArray]); (try simp only [List.set_cons_succ]); (try simp only [List.set_cons_zero]))
    refine wpAnyH_take (i := 17) (v := ?vz17) (by simp only [List.getElem?_toArray, List.getElem?_cons_succ, List.getElem?_cons_zero]; rfl) (by kernel_rfl) (by kernel_rfl) (by kernel_rfl) (by exact fun _ _ _ h => h) (Or.inl ⟨by rfl, ?hyz17⟩) (by assumption) ?restz17
    case hyz17 => (intro w hSw; (try dsimp only at hSw); go_simp; try with_reducible rfl)
    ((try simp only [Act.put]); (try simp only [List.setIfInBounds_toArray]); (try simp only [List.set_cons_succ]); (try simp only [List.set_cons_zero]))
    refine wpAnyH_take (i := 18) (v := ?vz18) (by simp only [List.getElem?_toArray, List.getElem?_cons_succ, List.getElem?_cons_zero]; rfl) (by kernel_rfl) (by kernel_rfl) (by kernel_rfl) (by exact fun _ _ _ h => h) (Or.inl ⟨by rfl, ?hyz18⟩) (by assumption) ?restz18
    case hyz18 => (intro w hSw; (try dsimp only at hSw); go_simp; try with_reducible rfl)
    ((try simp only [Act.put]); (try simp only [List.setIfInBounds_toArray]); (try simp only [List.set_cons_succ]); (try simp only [List.set_cons_zero]))
    refine wpAnyH_ready (rs := [9, 20, 22]) (by kernel_rfl) (by simp) ?_
    refine AllReadyH.cons rfl (fun K hK => ?_) (AllReadyH.cons rfl (fun K hK => ?_) (AllReadyH.cons rfl (fun K hK => ?_) AllReadyH.nil))
    · go_simp
      refine (CTL.out _ HLr.out.fr).mono ?_
      rintro e wv9 ⟨rfl, hq⟩
      have HLr_9 := Lib.hid (HLr.out.no hq)
      clear hq
      refine hK.out _ _ (SS.out _ HLr_9.out.fr) (fun _ => ?_)
      clear hK K
      ((try simp only [Act.put]); (try simp only [List.setIfInBounds_toArray]); (try simp only [List.set_cons_succ]); (try simp only [List.set_cons_zero]))
      refine wpAnyH_ready (rs := [19, 20, 22]) (by kernel_rfl) (by simp) ?_
      refine AllReadyH.cons rfl (fun K hK => ?_) (AllReadyH.cons rfl (fun K hK => ?_) (AllReadyH.cons rfl (fun K hK => ?_) AllReadyH.nil))
      · go_simp
        refine (CTR.out _ HLr_9.out.fr).mono ?_
        rintro e wv19 ⟨rfl, hq⟩
        have HLr_9_19 := Lib.hid (HLr_9.out.no hq)
        clear hq
        refine hK.out _ _ (SS.out _ HLr_9_19.out.fr) (fun _ => ?_)
        clear hK K
        ((try simp only [Act.put]); (try simp only [List.setIfInBounds_toArray]); (try simp only [List.set_cons_succ]); (try simp only [List.set_cons_zero]))
        refine wpAnyH_ready (rs := [20, 22]) (by kernel_rfl) (by simp) ?_
        refine AllReadyH.cons rfl (fun K hK => ?_) (AllReadyH.cons rfl (fun K hK => ?_) AllReadyH.nil)
        · go_simp
          have HLr_9_19_20 := Lib.hid HLr_9_19.out.mkrow
          refine hK.out _ _ (SS.out _ HLr_9_19_20.out.fr) (fun _ => ?_)
          clear hK K
          ((try simp only [Act.put]); (try simp only [List.setIfInBounds_toArray]); (try simp only [List.set_cons_succ]); (try simp only [List.set_cons_zero]))
          generalize wv19.alloc (.cells #[] 3) = va20 at *
          refine wpAnyH_take (i := 21) (v := ?vz19) (by simp only [List.getElem?_toArray, List.getElem?_cons_succ, List.getElem?_cons_zero]; rfl) (by kernel_rfl) (by kernel_rfl) (by kernel_rfl) (by exact fun _ _ _ h => h) (Or.inl ⟨by rfl, ?hyz19⟩) (by assumption) ?restz19
          case hyz19 => (intro w hSw; (try dsimp only at hSw); go_simp; try with_reducible rfl)
          ((try simp only [Act.put]); (try simp only [List.setIfInBounds_toArray]); (try simp only [List.set_cons_succ]); (try simp only [List.set_cons_zero]))
          refine wpAnyH_ready (rs := [22]) (by kernel_rfl) (by simp) ?_
          refine AllReadyH.cons rfl (fun K hK => ?_) AllReadyH.nil
          go_simp
          have HLr_9_19_20_22 := Lib.hid HLr_9_19_20.out.mkbox
          refine hK.out _ _ (SS.out _ HLr_9_19_20_22.out.fr) (fun _ => ?_)
          clear hK K
          ((try simp only [Act.put]); (try simp only [List.setIfInBounds_toArray]); (try simp only [List.set_cons_succ]); (try simp only [List.set_cons_zero]))
          generalize va20.alloc (.cells #[.int .i64 0, .int .i64 0, .slice none 0 0] 30) = va22 at *
          refine wpAnyH_ready (rs := [23]) (by kernel_rfl) (by simp) ?_
          refine AllReadyH.cons rfl (fun K hK => ?_) AllReadyH.nil
          have hb := HLr_9_19_20_22.out.bx _ rfl
          have g0 := hb.2.frozen 0
          have g1 := hb.2.frozen 1
          have g2 := hb.2.frozen 2
          have g3 := hb.2.lt
          have g4 : World.cell? _ ⟨_, 0, none⟩ = some (.int .i64 0) := (hb.2.cell 0).trans rfl
          have g5 : World.cell? _ ⟨_, 1, none⟩ = some (.int .i64 0) := (hb.2.cell 1).trans rfl
          have g6 : World.cell? _ ⟨_, 2, none⟩ = some (.slice none 0 0) := (hb.2.cell 2).trans rfl
          go_simp
          have HN := Lib.hid (HLr_9_19_20_22.out.store (c : Int) (c' : Int))
          clear hb g0 g1 g2 g3 g4 g5 g6
          refine hK.out _ _ (SS.out _ HN.out.1) (fun _ => ?_)
          clear hK K
          ((try simp only [Act.put]); (try simp only [List.setIfInBounds_toArray]); (try simp only [List.set_cons_succ]); (try simp only [List.set_cons_zero]))
          refine wpAnyH_done (by kernel_rfl) ?_ _
          exact REST.out _ _ _ HN.out
        · go_simp
          have HLr_9_19_22 := Lib.hid HLr_9_19.out.mkbox
          refine hK.out _ _ (SS.out _ HLr_9_19_22.out.fr) (fun _ => ?_)
          clear hK K
          ((try simp only [Act.put]); (try simp only [List.setIfInBounds_toArray]); (try simp only [List.set_cons_succ]); (try simp only [List.set_cons_zero]))
          generalize wv19.alloc (.cells #[.int .i64 0, .int .i64 0, .slice none 0 0] 30) = va22 at *
          refine wpAnyH_ready (rs := [20]) (by kernel_rfl) (by simp) ?_
          refine AllReadyH.cons rfl (fun K hK => ?_) AllReadyH.nil
          go_simp
          have HLr_9_19_22_20 := Lib.hid HLr_9_19_22.out.mkrow
          refine hK.out _ _ (SS.out _ HLr_9_19_22_20.out.fr) (fun _ => ?_)
          clear hK K
          ((try simp only [Act.put]); (try simp only [List.setIfInBounds_toArray]); (try simp only [List.set_cons_succ]); (try simp only [List.set_cons_zero]))
          generalize va22.alloc (.cells #[] 3) = va20 at *
          refine wpAnyH_take (i := 21) (v := ?vz20) (by simp only [List.getElem?_toArray, List.getElem?_cons_succ, List.getElem?_cons_zero]; rfl) (by kernel_rfl) (by kernel_rfl) (by kernel_rfl) (by exact fun _ _ _ h => h) (Or.inl ⟨by rfl, ?hyz20⟩) (by assumption) ?restz20
          case hyz20 => (intro w hSw; (try dsimp only at hSw); go_simp; try with_reducible rfl)
          ((try simp only [Act.put]); (try simp only [List.setIfInBounds_toArray]); (try simp only [List.set_cons_succ]); (try simp only [List.set_cons_zero]))
          refine wpAnyH_ready (rs := [23]) (by kernel_rfl) (by simp) ?_
          refine AllReadyH.cons rfl (fun K hK => ?_) AllReadyH.nil
          have hb := HLr_9_19_22_20.out.bx _ rfl
          have g0 := hb.2.frozen 0
          have g1 := hb.2.frozen 1
          have g2 := hb.2.frozen 2
          have g3 := hb.2.lt
          have g4 : World.cell? _ ⟨_, 0, none⟩ = some (.int .i64 0) := (hb.2.cell 0).trans rfl
          have g5 : World.cell? _ ⟨_, 1, none⟩ = some (.int .i64 0) := (hb.2.cell 1).trans rfl
          have g6 : World.cell? _ ⟨_, 2, none⟩ = some (.slice none 0 0) := (hb.2.cell 2).trans rfl
          go_simp
          have HN := Lib.hid (HLr_9_19_22_20.out.store (c : Int) (c' : Int))
          clear hb g0 g1 g2 g3 g4 g5 g6
          refine hK.out _ _ (SS.out _ HN.out.1) (fun _ => ?_)
          clear hK K
          ((try simp only [Act.put]); (try simp only [List.setIfInBounds_toArray]); (try simp only [List.set_cons_succ]); (try simp only [List.set_cons_zero]))
          refine wpAnyH_done (by kernel_rfl) ?_ _
          exact REST.out _ _ _ HN.out
      · go_simp
        have HLr_9_20 := Lib.hid HLr_9.out.mkrow
        refine hK.out _ _ (SS.out _ HLr_9_20.out.fr) (fun _ => ?_)
        clear hK K
        ((try simp only [Act.put]); (try simp only [List.setIfInBounds_toArray]); (try simp only [List.set_cons_succ]); (try simp only [List.set_cons_zero]))
        generalize wv9.alloc (.cells #[] 3) = va20 at *
        refine wpAnyH_ready (rs := [19, 22]) (by kernel_rfl) (by simp) ?_
        refine AllReadyH.cons rfl (fun K hK => ?_) (AllReadyH.cons rfl (fun K hK => ?_) AllReadyH.nil)
        · go_simp
          refine (CTR.out _ HLr_9_20.out.fr).mono ?_
          rintro e wv19 ⟨rfl, hq⟩
          have HLr_9_20_19 := Lib.hid (HLr_9_20.out.no hq)
          clear hq
          refine hK.out _ _ (SS.out _ HLr_9_20_19.out.fr) (fun _ => ?_)
          clear hK K
          ((try simp only [Act.put]); (try simp only [List.setIfInBounds_toArray]); (try simp only [List.set_cons_succ]); (try simp only [List.set_cons_zero]))
          refine wpAnyH_take (i := 21) (v := ?vz21) (by simp only [List.getElem?_toArray, List.getElem?_cons_succ, List.getElem?_cons_zero]; rfl) (by kernel_rfl) (by kernel_rfl) (by kernel_rfl) (by exact fun _ _ _ h => h) (Or.inl ⟨by rfl, ?hyz21⟩) (by assumption) ?restz21
          case hyz21 => (intro w hSw; (try dsimp only at hSw); go_simp; try with_reducible rfl)
          ((try simp only [Act.put]); (try simp only [List.setIfInBounds_toArray]); (try simp only [List.set_cons_succ]); (try simp only [List.set_cons_zero]))
          refine wpAnyH_ready (rs := [22]) (by kernel_rfl) (by simp) ?_
          refine AllReadyH.cons rfl (fun K hK => ?_) AllReadyH.nil
          go_simp
          have HLr_9_20_19_22 := Lib.hid HLr_9_20_19.out.mkbox
          refine hK.out _ _ (SS.out _ HLr_9_20_19_22.out.fr) (fun _ => ?_)
          clear hK K
          ((try simp only [Act.put]); (try simp only [List.setIfInBounds_toArray]); (try simp only [List.set_cons_succ]); (try simp only [List.set_cons_zero]))
          generalize wv19.alloc (.cells #[.int .i64 0, .int .i64 0, .slice none 0 0] 30) = va22 at *
          refine wpAnyH_ready (rs := [23]) (by kernel_rfl) (by simp) ?_
          refine AllReadyH.cons rfl (fun K hK => ?_) AllReadyH.nil
          have hb := HLr_9_20_19_22.out.bx _ rfl
          have g0 := hb.2.frozen 0
          have g1 := hb.2.frozen 1
          have g2 := hb.2.frozen 2
          have g3 := hb.2.lt
          have g4 : World.cell? _ ⟨_, 0, none⟩ = some (.int .i64 0) := (hb.2.cell 0).trans rfl
          have g5 : World.cell? _ ⟨_, 1, none⟩ = some (.int .i64 0) := (hb.2.cell 1).trans rfl
          have g6 : World.cell? _ ⟨_, 2, none⟩ = some (.slice none 0 0) := (hb.2.cell 2).trans rfl
          go_simp
          have HN := Lib.hid (HLr_9_20_19_22.out.store (c : Int) (c' : Int))
          clear hb g0 g1 g2 g3 g4 g5 g6
          refine hK.out _ _ (SS.out _ HN.out.1) (fun _ => ?_)
          clear hK K
          ((try simp only [Act.put]); (try simp only [List.setIfInBounds_toArray]); (try simp only [List.set_cons_succ]); (try simp only [List.set_cons_zero]))
          refine wpAnyH_done (by kernel_rfl) ?_ _
          exact REST.out _ _ _ HN.out
        · go_simp
          have HLr_9_20_22 := Lib.hid HLr_9_20.out.mkbox
          refine hK.out _ _ (SS.out _ HLr_9_20_22.out.fr) (fun _ => ?_)
          clear hK K
          ((try simp only [Act.put]); (try simp only [List.setIfInBounds_toArray]); (try simp only [List.set_cons_succ]); (try simp only [List.set_cons_zero]))
          generalize va20.alloc (.cells #[.int .i64 0, .int .i64 0, .slice none 0 0] 30) = va22 at *
          refine wpAnyH_ready (rs := [19]) (by kernel_rfl) (by simp) ?_
          refine AllReadyH.cons rfl (fun K hK => ?_) AllReadyH.nil
          go_simp
          refine (CTR.out _ HLr_9_20_22.out.fr).mono ?_
          rintro e wv19 ⟨rfl, hq⟩
          have HLr_9_20_22_19 := Lib.hid (HLr_9_20_22.out.no hq)
          clear hq
          refine hK.out _ _ (SS.out _ HLr_9_20_22_19.out.fr) (fun _ => ?_)
          clear hK K
          ((try simp only [Act.put]); (try simp only [List.setIfInBounds_toArray]); (try simp only [List.set_cons_succ]); (try simp only [List.set_cons_zero]))
          refine wpAnyH_take (i := 21) (v := ?vz22) (by simp only [List.getElem?_toArray, List.getElem?_cons_succ, List.getElem?_cons_zero]; rfl) (by kernel_rfl) (by kernel_rfl) (by kernel_rfl) (by exact fun _ _ _ h => h) (Or.inl ⟨by rfl, ?hyz22⟩) (by assumption) ?restz22
          case hyz22 => (intro w hSw; (try dsimp only at hSw); go_simp; try with_reducible rfl)
          ((try simp only [Act.put]); (try simp only [List.setIfInBounds_toArray]); (try simp only [List.set_cons_succ]); (try simp only [List.set_cons_zero]))
          refine wpAnyH_ready (rs := [23]) (by kernel_rfl) (by simp) ?_
          refine AllReadyH.cons rfl (fun K hK => ?_) AllReadyH.nil
          have hb := HLr_9_20_22_19.out.bx _ rfl
          have g0 := hb.2.frozen 0
          have g1 := hb.2.frozen 1
          have g2 := hb.2.frozen 2
          have g3 := hb.2.lt
          have g4 : World.cell? _ ⟨_, 0, none⟩ = some (.int .i64 0) := (hb.2.cell 0).trans rfl
          have g5 : World.cell? _ ⟨_, 1, none⟩ = some (.int .i64 0) := (hb.2.cell 1).trans rfl
          have g6 : World.cell? _ ⟨_, 2, none⟩ = some (.slice none 0 0) := (hb.2.cell 2).trans rfl
          go_simp
          have HN := Lib.hid (HLr_9_20_22_19.out.store (c : Int) (c' : Int))
          clear hb g0 g1 g2 g3 g4 g5 g6
          refine hK.out _ _ (SS.out _ HN.out.1) (fun _ => ?_)
          clear hK K
          ((try simp only [Act.put]); (try simp only [List.setIfInBounds_toArray]); (try simp only [List.set_cons_succ]); (try simp only [List.set_cons_zero]))
          refine wpAnyH_done (by kernel_rfl) ?_ _
          exact REST.out _ _ _ HN.out
      · go_simp
        have HLr_9_22 := Lib.hid HLr_9.out.mkbox
        refine hK.out _ _ (SS.out _ HLr_9_22.out.fr) (fun _ => ?_)
        clear hK K
        ((try simp only [Act.put]); (try simp only [List.setIfInBounds_toArray]); (try simp only [List.set_cons_succ]); (try simp only [List.set_cons_zero]))
        generalize wv9.alloc (.cells #[.int .i64 0, .int .i64 0, .slice none 0 0] 30) = va22 at *
        refine wpAnyH_ready (rs := [19, 20]) (by kernel_rfl) (by simp) ?_
        refine AllReadyH.cons rfl (fun K hK => ?_) (AllReadyH.cons rfl (fun K hK => ?_) AllReadyH.nil)
        · go_simp
          refine (CTR.out _ HLr_9_22.out.fr).mono ?_
          rintro e wv19 ⟨rfl, hq⟩
          have HLr_9_22_19 := Lib.hid (HLr_9_22.out.no hq)
          clear hq
          refine hK.out _ _ (SS.out _ HLr_9_22_19.out.fr) (fun _ => ?_)
          clear hK K
          ((try simp only [Act.put]); (try simp only [List.setIfInBounds_toArray]); (try simp only [List.set_cons_succ]); (try simp only [List.set_cons_zero]))
          refine wpAnyH_ready (rs := [20]) (by kernel_rfl) (by simp) ?_
          refine AllReadyH.cons rfl (fun K hK => ?_) AllReadyH.nil
          go_simp
          have HLr_9_22_19_20 := Lib.hid HLr_9_22_19.out.mkrow
          refine hK.out _ _ (SS.out _ HLr_9_22_19_20.out.fr) (fun _ => ?_)
          clear hK K
          ((try simp only [Act.put]); (try simp only [List.setIfInBounds_toArray]); (try simp only [List.set_cons_succ]); (try simp only [List.set_cons_zero]))
          generalize wv19.alloc (.cells #[] 3) = va20 at *
          refine wpAnyH_take (i := 21) (v := ?vz23) (by simp only [List.getElem?_toArray, List.getElem?_cons_succ, List.getElem?_cons_zero]; rfl) (by kernel_rfl) (by kernel_rfl) (by kernel_rfl) (by exact fun _ _ _ h => h) (Or.inl ⟨by rfl, ?hyz23⟩) (by assumption) ?restz23
          case hyz23 => (intro w hSw; (try dsimp only at hSw); go_simp; try with_reducible rfl)
          ((try simp only [Act.put]); (try simp only [List.setIfInBounds_toArray]); (try simp only [List.set_cons_succ]); (try simp only [List.set_cons_zero]))
          refine wpAnyH_ready (rs := [23]) (by kernel_rfl) (by simp) ?_
          refine AllReadyH.cons rfl (fun K hK => ?_) AllReadyH.nil
          have hb := HLr_9_22_19_20.out.bx _ rfl
          have g0 := hb.2.frozen 0
          have g1 := hb.2.frozen 1
          have g2 := hb.2.frozen 2
          have g3 := hb.2.lt
          have g4 : World.cell? _ ⟨_, 0, none⟩ = some (.int .i64 0) := (hb.2.cell 0).trans rfl
          have g5 : World.cell? _ ⟨_, 1, none⟩ = some (.int .i64 0) := (hb.2.cell 1).trans rfl
          have g6 : World.cell? _ ⟨_, 2, none⟩ = some (.slice none 0 0) := (hb.2.cell 2).trans rfl
          go_simp
          have HN := Lib.hid (HLr_9_22_19_20.out.store (c : Int) (c' : Int))
          clear hb g0 g1 g2 g3 g4 g5 g6
          refine hK.out _ _ (SS.out _ HN.out.1) (fun _ => ?_)
          clear hK K
          ((try simp only [Act.put]); (try simp only [List.setIfInBounds_toArray]); (try simp only [List.set_cons_succ]); (try simp only [List.set_cons_zero]))
          refine wpAnyH_done (by kernel_rfl) ?_ _
          exact REST.out _ _ _ HN.out
        · go_simp
          have HLr_9_22_20 := Lib.hid HLr_9_22.out.mkrow
          refine hK.out _ _ (SS.out _ HLr_9_22_20.out.fr) (fun _ => ?_)
          clear hK K
          ((try simp only [Act.put]); (try simp only [List.setIfInBounds_toArray]); (try simp only [List.set_cons_succ]); (try simp only [List.set_cons_zero]))
          generalize va22.alloc (.cells #[] 3) = va20 at *
          refine wpAnyH_ready (rs := [19]) (by kernel_rfl) (by simp) ?_
          refine AllReadyH.cons rfl (fun K hK => ?_) AllReadyH.nil
          go_simp
          refine (CTR.out _ HLr_9_22_20.out.fr).mono ?_
          rintro e wv19 ⟨rfl, hq⟩
          have HLr_9_22_20_19 := Lib.hid (HLr_9_22_20.out.no hq)
          clear hq
          refine hK.out _ _ (SS.out _ HLr_9_22_20_19.out.fr) (fun _ => ?_)
          clear hK K
          ((try simp only [Act.put]); (try simp only [List.setIfInBounds_toArray]); (try simp only [List.set_cons_succ]); (try simp only [List.set_cons_zero]))
          refine wpAnyH_take (i := 21) (v := ?vz24) (by simp only [List.getElem?_toArray, List.getElem?_cons_succ, List.getElem?_cons_zero]; rfl) (by kernel_rfl) (by kernel_rfl) (by kernel_rfl) (by exact fun _ _ _ h => h) (Or.inl ⟨by rfl, ?hyz24⟩) (by assumption) ?restz24
          case hyz24 => (intro w hSw; (try dsimp only at hSw); go_simp; try with_reducible rfl)
          ((try simp only [Act.put]); (try simp only [List.setIfInBounds_toArray]); (try simp only [List.set_cons_succ]); (try simp only [List.set_cons_zero]))
          refine wpAnyH_ready (rs := [23]) (by kernel_rfl) (by simp) ?_
          refine AllReadyH.cons rfl (fun K hK => ?_) AllReadyH.nil
          have hb := HLr_9_22_20_19.out.bx _ rfl
          have g0 := hb.2.frozen 0
          have g1 := hb.2.frozen 1
          have g2 := hb.2.frozen 2
          have g3 := hb.2.lt
          have g4 : World.cell? _ ⟨_, 0, none⟩ = some (.int .i64 0) := (hb.2.cell 0).trans rfl
          have g5 : World.cell? _ ⟨_, 1, none⟩ = some (.int .i64 0) := (hb.2.cell 1).trans rfl
          have g6 : World.cell? _ ⟨_, 2, none⟩ = some (.slice none 0 0) := (hb.2.cell 2).trans rfl
          go_simp
          have HN := Lib.hid (HLr_9_22_20_19.out.store (c : Int) (c' : Int))
          clear hb g0 g1 g2 g3 g4 g5 g6
          refine hK.out _ _ (SS.out _ HN.out.1) (fun _ => ?_)
          clear hK K
          ((try simp only [Act.put]); (try simp only [List.setIfInBounds_toArray]); (try simp only [List.set_cons_succ]); (try simp only [List.set_cons_zero]))
          refine wpAnyH_done (by kernel_rfl) ?_ _
          exact REST.out _ _ _ HN.out
    · go_simp
      have HLr_20 := Lib.hid HLr.out.mkrow
      refine hK.out _ _ (SS.out _ HLr_20.out.fr) (fun _ => ?_)
      clear hK K
      ((try simp only [Act.put]); (try simp only [List.setIfInBounds_toArray]); (try simp only [List.set_cons_succ]); (try simp only [List.set_cons_zero]))
      generalize vd.alloc (.cells #[] 3) = va20 at *
      refine wpAnyH_ready (rs := [9, 22]) (by kernel_rfl) (by simp) ?_
      refine AllReadyH.cons rfl (fun K hK => ?_) (AllReadyH.cons rfl (fun K hK => ?_) AllReadyH.nil)
      · go_simp
        refine (CTL.out _ HLr_20.out.fr).mono ?_
        rintro e wv9 ⟨rfl, hq⟩
        have HLr_20_9 := Lib.hid (HLr_20.out.no hq)
        clear hq
        refine hK.out _ _ (SS.out _ HLr_20_9.out.fr) (fun _ => ?_)
        clear hK K
        ((try simp only [Act.put]); (try simp only [List.setIfInBounds_toArray]); (try simp only [List.set_cons_succ]); (try simp only [List.set_cons_zero]))
        refine wpAnyH_ready (rs := [19, 22]) (by kernel_rfl) (by simp) ?_
        refine AllReadyH.cons rfl (fun K hK => ?_) (AllReadyH.cons rfl (fun K hK => ?_) AllReadyH.nil)
        · go_simp
          refine (CTR.out _ HLr_20_9.out.fr).mono ?_
          rintro e wv19 ⟨rfl, hq⟩
          have HLr_20_9_19 := Lib.hid (HLr_20_9.out.no hq)
          clear hq
          refine hK.out _ _ (SS.out _ HLr_20_9_19.out.fr) (fun _ => ?_)
          clear hK K
          ((try simp only [Act.put]); (try simp only [List.setIfInBounds_toArray]); (try simp only [List.set_cons_succ]); (try simp only [List.set_cons_zero]))
          refine wpAnyH_take (i := 21) (v := ?vz25) (by simp only [List.getElem?_toArray, List.getElem?_cons_succ, List.getElem?_cons_zero]; rfl) (by kernel_rfl) (by kernel_rfl) (by kernel_rfl) (by exact fun _ _ _ h => h) (Or.inl ⟨by rfl, ?hyz25⟩) (by assumption) ?restz25
          case hyz25 => (intro w hSw; (try dsimp only at hSw); go_simp; try with_reducible rfl)
          ((try simp only [Act.put]); (try simp only [List.setIfInBounds_toArray]); (try simp only [List.set_cons_succ]); (try simp only [List.set_cons_zero]))
          refine wpAnyH_ready (rs := [22]) (by kernel_rfl) (by simp) ?_
          refine AllReadyH.cons rfl (fun K hK => ?_) AllReadyH.nil
          go_simp
          have HLr_20_9_19_22 := Lib.hid HLr_20_9_19.out.mkbox
          refine hK.out _ _ (SS.out _ HLr_20_9_19_22.out.fr) (fun _ => ?_)
          clear hK K
          ((try simp only [Act.put]); (try simp only [List.setIfInBounds_toArray]); (try simp only [List.set_cons_succ]); (try simp only [List.set_cons_zero]))
          generalize wv19.alloc (.cells #[.int .i64 0, .int .i64 0, .slice none 0 0] 30) = va22 at *
          refine wpAnyH_ready (rs := [23]) (by kernel_rfl) (by simp) ?_
          refine AllReadyH.cons rfl (fun K hK => ?_) AllReadyH.nil
          have hb := HLr_20_9_19_22.out.bx _ rfl
          have g0 := hb.2.frozen 0
          have g1 := hb.2.frozen 1
          have g2 := hb.2.frozen 2
          have g3 := hb.2.lt
          have g4 : World.cell? _ ⟨_, 0, none⟩ = some (.int .i64 0) := (hb.2.cell 0).trans rfl
          have g5 : World.cell? _ ⟨_, 1, none⟩ = some (.int .i64 0) := (hb.2.cell 1).trans rfl
          have g6 : World.cell? _ ⟨_, 2, none⟩ = some (.slice none 0 0) := (hb.2.cell 2).trans rfl
          go_simp
          have HN := Lib.hid (HLr_20_9_19_22.out.store (c : Int) (c' : Int))
          clear hb g0 g1 g2 g3 g4 g5 g6
          refine hK.out _ _ (SS.out _ HN.out.1) (fun _ => ?_)
          clear hK K
          ((try simp only [Act.put]); (try simp only [List.setIfInBounds_toArray]); (try simp only [List.set_cons_succ]); (try simp only [List.set_cons_zero]))
          refine wpAnyH_done (by kernel_rfl) ?_ _
          exact REST.out _ _ _ HN.out
        · go_simp
          have HLr_20_9_22 := Lib.hid HLr_20_9.out.mkbox
          refine hK.out _ _ (SS.out _ HLr_20_9_22.out.fr) (fun _ => ?_)
          clear hK K
          ((try simp only [Act.put]); (try simp only [List.setIfInBounds_toArray]); (try simp only [List.set_cons_succ]); (try simp only [List.set_cons_zero]))
          generalize wv9.alloc (.cells #[.int .i64 0, .int .i64 0, .slice none 0 0] 30) = va22 at *
          refine wpAnyH_ready (rs := [19]) (by kernel_rfl) (by simp) ?_
          refine AllReadyH.cons rfl (fun K hK => ?_) AllReadyH.nil
          go_simp
          refine (CTR.out _ HLr_20_9_22.out.fr).mono ?_
          rintro e wv19 ⟨rfl, hq⟩
          have HLr_20_9_22_19 := Lib.hid (HLr_20_9_22.out.no hq)
          clear hq
          refine hK.out _ _ (SS.out _ HLr_20_9_22_19.out.fr) (fun _ => ?_)
          clear hK K
          ((try simp only [Act.put]); (try simp only [List.setIfInBounds_toArray]); (try simp only [List.set_cons_succ]); (try simp only [List.set_cons_zero]))
          refine wpAnyH_take (i := 21) (v := ?vz26) (by simp only [List.getElem?_toArray, List.getElem?_cons_succ, List.getElem?_cons_zero]; rfl) (by kernel_rfl) (by kernel_rfl) (by kernel_rfl) (by exact fun _ _ _ h => h) (Or.inl ⟨by rfl, ?hyz26⟩) (by assumption) ?restz26
          case hyz26 => (intro w hSw; (try dsimp only at hSw); go_simp; try with_reducible rfl)
          ((try simp only [Act.put]); (try simp only [List.setIfInBounds_toArray]); (try simp only [List.set_cons_succ]); (try simp only [List.set_cons_zero]))
          refine wpAnyH_ready (rs := [23]) (by kernel_rfl) (by simp) ?_
          refine AllReadyH.cons rfl (fun K hK => ?_) AllReadyH.nil
          have hb := HLr_20_9_22_19.out.bx _ rfl
          have g0 := hb.2.frozen 0
          have g1 := hb.2.frozen 1
          have g2 := hb.2.frozen 2
          have g3 := hb.2.lt
          have g4 : World.cell? _ ⟨_, 0, none⟩ = some (.int .i64 0) := (hb.2.cell 0).trans rfl
          have g5 : World.cell? _ ⟨_, 1, none⟩ = some (.int .i64 0) := (hb.2.cell 1).trans rfl
          have g6 : World.cell? _ ⟨_, 2, none⟩ = some (.slice none 0 0) := (hb.2.cell 2).trans rfl
          go_simp
          have HN := Lib.hid (HLr_20_9_22_19.out.store (c : Int) (c' : Int))
          clear hb g0 g1 g2 g3 g4 g5 g6
          refine hK.out _ _ (SS.out _ HN.out.1) (fun _ => ?_)
          clear hK K
          ((try simp only [Act.put]); (try simp only [List.setIfInBounds_toArray]); (try simp only [List.set_cons_succ]); (try simp only [List.set_cons_zero]))
          refine wpAnyH_done (by kernel_rfl) ?_ _
          exact REST.out _ _ _ HN.out
      · go_simp
        have HLr_20_22 := Lib.hid HLr_20.out.mkbox
        refine hK.out _ _ (SS.out _ HLr_20_22.out.fr) (fun _ => ?_)
        clear hK K
        ((try simp only [Act.put]); (try simp only [List.setIfInBounds_toArray]); (try simp only [List.set_cons_succ]); (try simp only [List.set_cons_zero]))
        generalize va20.alloc (.cells #[.int .i64 0, .int .i64 0, .slice none 0 0] 30) = va22 at *
        refine wpAnyH_ready (rs := [9]) (by kernel_rfl) (by simp) ?_
        refine AllReadyH.cons rfl (fun K hK => ?_) AllReadyH.nil
        go_simp
        refine (CTL.out _ HLr_20_22.out.fr).mono ?_
        rintro e wv9 ⟨rfl, hq⟩
        have HLr_20_22_9 := Lib.hid (HLr_20_22.out.no hq)
        clear hq
        refine hK.out _ _ (SS.out _ HLr_20_22_9.out.fr) (fun _ => ?_)
        clear hK K
        ((try simp only [Act.put]); (try simp only [List.setIfInBounds_toArray]); (try simp only [List.set_cons_succ]); (try simp only [List.set_cons_zero]))
        refine wpAnyH_ready (rs := [19]) (by kernel_rfl) (by simp) ?_
        refine AllReadyH.cons rfl (fun K hK => ?_) AllReadyH.nil
        go_simp
        refine (CTR.out _ HLr_20_22_9.out.fr).mono ?_
        rintro e wv19 ⟨rfl, hq⟩
        have HLr_20_22_9_19 := Lib.hid (HLr_20_22_9.out.no hq)
        clear hq
        refine hK.out _ _ (SS.out _ HLr_20_22_9_19.out.fr) (fun _ => ?_)
        clear hK K
        ((try simp only [Act.put]); (try simp only [List.setIfInBounds_toArray]); (try simp only [List.set_cons_succ]); (try simp only [List.set_cons_zero]))
        refine wpAnyH_take (i := 21) (v := ?vz27) (by simp only [List.getElem?_toArray, List.getElem?_cons_succ, List.getElem?_cons_zero]; rfl) (by kernel_rfl) (by kernel_rfl) (by kernel_rfl) (by exact fun _ _ _ h => h) (Or.inl ⟨by rfl, ?hyz27⟩) (by assumption) ?restz27
        case hyz27 => (intro w hSw; (try dsimp only at hSw); go_simp; try with_reducible rfl)
        ((try simp only [Act.put]); (try simp only [List.setIfInBounds_toArray]); (try simp only [List.set_cons_succ]); (try simp only [List.set_cons_zero]))
        refine wpAnyH_ready (rs := [23]) (by kernel_rfl) (by simp) ?_
        refine AllReadyH.cons rfl (fun K hK => ?_) AllReadyH.nil
        have hb := HLr_20_22_9_19.out.bx _ rfl
        have g0 := hb.2.frozen 0
        have g1 := hb.2.frozen 1
        have g2 := hb.2.frozen 2
        have g3 := hb.2.lt
        have g4 : World.cell? _ ⟨_, 0, none⟩ = some (.int .i64 0) := (hb.2.cell 0).trans rfl
        have g5 : World.cell? _ ⟨_, 1, none⟩ = some (.int .i64 0) := (hb.2.cell 1).trans rfl
        have g6 : World.cell? _ ⟨_, 2, none⟩ = some (.slice none 0 0) := (hb.2.cell 2).trans rfl
        go_simp
        have HN := Lib.hid (HLr_20_22_9_19.out.store (c : Int) (c' : Int))
        clear hb g0 g1 g2 g3 g4 g5 g6
        refine hK.out _ _ (SS.out _ HN.out.1) (fun _ => ?_)
        clear hK K
        ((try simp only [Act.put]); (try simp only [List.setIfInBounds_toArray]); (try simp only [List.set_cons_succ]); (try simp only [List.set_cons_zero]))
        refine wpAnyH_done (by kernel_rfl) ?_ _
        exact REST.out _ _ _ HN.out
    · go_simp
      have HLr_22 := Lib.hid HLr.out.mkbox
      refine hK.out _ _ (SS.out _ HLr_22.out.fr) (fun _ => ?_)
      clear hK K
      ((try simp only [Act.put]); (try simp only [List.setIfInBounds_toArray]); (try simp only [List.set_cons_succ]); (try simp only [List.set_cons_zero]))
      generalize vd.alloc (.cells #[.int .i64 0, .int .i64 0, .slice none 0 0] 30) = va22 at *
      refine wpAnyH_ready (rs := [9, 20]) (by kernel_rfl) (by simp) ?_
      refine AllReadyH.cons rfl (fun K hK => ?_) (AllReadyH.cons rfl (fun K hK => ?_) AllReadyH.nil)
      · go_simp
        refine (CTL.out _ HLr_22.out.fr).mono ?_
        rintro e wv9 ⟨rfl, hq⟩
        have HLr_22_9 := Lib.hid (HLr_22.out.no hq)
        clear hq
        refine hK.out _ _ (SS.out _ HLr_22_9.out.fr) (fun _ => ?_)
        clear hK K
        ((try simp only [Act.put]); (try simp only [List.setIfInBounds_toArray]); (try simp only [List.set_cons_succ]); (try simp only [List.set_cons_zero]))
        refine wpAnyH_ready (rs := [19, 20]) (by kernel_rfl) (by simp) ?_
        refine AllReadyH.cons rfl (fun K hK => ?_) (AllReadyH.cons rfl (fun K hK => ?_) AllReadyH.nil)
        · go_simp
          refine (CTR.out _ HLr_22_9.out.fr).mono ?_
          rintro e wv19 ⟨rfl, hq⟩
          have HLr_22_9_19 := Lib.hid (HLr_22_9.out.no hq)
          clear hq
          refine hK.out _ _ (SS.out _ HLr_22_9_19.out.fr) (fun _ => ?_)
          clear hK K
          ((try simp only [Act.put]); (try simp only [List.setIfInBounds_toArray]); (try simp only [List.set_cons_succ]); (try simp only [List.set_cons_zero]))
          refine wpAnyH_ready (rs := [20]) (by kernel_rfl) (by simp) ?_
          refine AllReadyH.cons rfl (fun K hK => ?_) AllReadyH.nil
          go_simp
          have HLr_22_9_19_20 := Lib.hid HLr_22_9_19.out.mkrow
          refine hK.out _ _ (SS.out _ HLr_22_9_19_20.out.fr) (fun _ => ?_)
          clear hK K
          ((try simp only [Act.put]); (try simp only [List.setIfInBounds_toArray]); (try simp only [List.set_cons_succ]); (try simp only [List.set_cons_zero]))
          generalize wv19.alloc (.cells #[] 3) = va20 at *
          refine wpAnyH_take (i := 21) (v := ?vz28) (by simp only [List.getElem?_toArray, List.getElem?_cons_succ, List.getElem?_cons_zero]; rfl) (by kernel_rfl) (by kernel_rfl) (by kernel_rfl) (by exact fun _ _ _ h => h) (Or.inl ⟨by rfl, ?hyz28⟩) (by assumption) ?restz28
          case hyz28 => (intro w hSw; (try dsimp only at hSw); go_simp; try with_reducible rfl)
          ((try simp only [Act.put]); (try simp only [List.setIfInBounds_toArray]); (try simp only [List.set_cons_succ]); (try simp only [List.set_cons_zero]))
          refine wpAnyH_ready (rs := [23]) (by kernel_rfl) (by simp) ?_
          refine AllReadyH.cons rfl (fun K hK => ?_) AllReadyH.nil
          have hb := HLr_22_9_19_20.out.bx _ rfl
          have g0 := hb.2.frozen 0
          have g1 := hb.2.frozen 1
          have g2 := hb.2.frozen 2
          have g3 := hb.2.lt
          have g4 : World.cell? _ ⟨_, 0, none⟩ = some (.int .i64 0) := (hb.2.cell 0).trans rfl
          have g5 : World.cell? _ ⟨_, 1, none⟩ = some (.int .i64 0) := (hb.2.cell 1).trans rfl
          have g6 : World.cell? _ ⟨_, 2, none⟩ = some (.slice none 0 0) := (hb.2.cell 2).trans rfl
          go_simp
          have HN := Lib.hid (HLr_22_9_19_20.out.store (c : Int) (c' : Int))
          clear hb g0 g1 g2 g3 g4 g5 g6
          refine hK.out _ _ (SS.out _ HN.out.1) (fun _ => ?_)
          clear hK K
          ((try simp only [Act.put]); (try simp only [List.setIfInBounds_toArray]); (try simp only [List.set_cons_succ]); (try simp only [List.set_cons_zero]))
          refine wpAnyH_done (by kernel_rfl) ?_ _
          exact REST.out _ _ _ HN.out
        · go_simp
          have HLr_22_9_20 := Lib.hid HLr_22_9.out.mkrow
          refine hK.out _ _ (SS.out _ HLr_22_9_20.out.fr) (fun _ => ?_)
          clear hK K
          ((try simp only [Act.put]); (try simp only [List.setIfInBounds_toArray]); (try simp only [List.set_cons_succ]); (try simp only [List.set_cons_zero]))
          generalize wv9.alloc (.cells #[] 3) = va20 at *
          refine wpAnyH_ready (rs := [19]) (by kernel_rfl) (by simp) ?_
          refine AllReadyH.cons rfl (fun K hK => ?_) AllReadyH.nil
          go_simp
          refine (CTR.out _ HLr_22_9_20.out.fr).mono ?_
          rintro e wv19 ⟨rfl, hq⟩
          have HLr_22_9_20_19 := Lib.hid (HLr_22_9_20.out.no hq)
          clear hq
          refine hK.out _ _ (SS.out _ HLr_22_9_20_19.out.fr) (fun _ => ?_)
          clear hK K
          ((try simp only [Act.put]); (try simp only [List.setIfInBounds_toArray]); (try simp only [List.set_cons_succ]); (try simp only [List.set_cons_zero]))
          refine wpAnyH_take (i := 21) (v := ?vz29) (by simp only [List.getElem?_toArray, List.getElem?_cons_succ, List.getElem?_cons_zero]; rfl) (by kernel_rfl) (by kernel_rfl) (by kernel_rfl) (by exact fun _ _ _ h => h) (Or.inl ⟨by rfl, ?hyz29⟩) (by assumption) ?restz29
          case hyz29 => (intro w hSw; (try dsimp only at hSw); go_simp; try with_reducible rfl)
          ((try simp only [Act.put]); (try simp only [List.setIfInBounds_toArray]); (try simp only [List.set_cons_succ]); (try simp only [List.set_cons_zero]))
          refine wpAnyH_ready (rs := [23]) (by kernel_rfl) (by simp) ?_
          refine AllReadyH.cons rfl (fun K hK => ?_) AllReadyH.nil
          have hb := HLr_22_9_20_19.out.bx _ rfl
          have g0 := hb.2.frozen 0
          have g1 := hb.2.frozen 1
          have g2 := hb.2.frozen 2
          have g3 := hb.2.lt
          have g4 : World.cell? _ ⟨_, 0, none⟩ = some (.int .i64 0) := (hb.2.cell 0).trans rfl
          have g5 : World.cell? _ ⟨_, 1, none⟩ = some (.int .i64 0) := (hb.2.cell 1).trans rfl
          have g6 : World.cell? _ ⟨_, 2, none⟩ = some (.slice none 0 0) := (hb.2.cell 2).trans rfl
          go_simp
          have HN := Lib.hid (HLr_22_9_20_19.out.store (c : Int) (c' : Int))
          clear hb g0 g1 g2 g3 g4 g5 g6
          refine hK.out _ _ (SS.out _ HN.out.1) (fun _ => ?_)
          clear hK K
          ((try simp only [Act.put]); (try simp only [List.setIfInBounds_toArray]); (try simp only [List.set_cons_succ]); (try simp only [List.set_cons_zero]))
          refine wpAnyH_done (by kernel_rfl) ?_ _
          exact REST.out _ _ _ HN.out
      · go_simp
        have HLr_22_20 := Lib.hid HLr_22.out.mkrow
        refine hK.out _ _ (SS.out _ HLr_22_20.out.fr) (fun _ => ?_)
        clear hK K
        ((try simp only [Act.put]); (try simp only [List.setIfInBounds_toArray]); (try simp only [List.set_cons_succ]); (try simp only [List.set_cons_zero]))
        generalize va22.alloc (.cells #[] 3) = va20 at *
        refine wpAnyH_ready (rs := [9]) (by kernel_rfl) (by simp) ?_
        refine AllReadyH.cons rfl (fun K hK => ?_) AllReadyH.nil
        go_simp
        refine (CTL.out _ HLr_22_20.out.fr).mono ?_
        rintro e wv9 ⟨rfl, hq⟩
        have HLr_22_20_9 := Lib.hid (HLr_22_20.out.no hq)
        clear hq
        refine hK.out _ _ (SS.out _ HLr_22_20_9.out.fr) (fun _ => ?_)
        clear hK K
        ((try simp only [Act.put]); (try simp only [List.setIfInBounds_toArray]); (try simp only [List.set_cons_succ]); (try simp only [List.set_cons_zero]))
        refine wpAnyH_ready (rs := [19]) (by kernel_rfl) (by simp) ?_
        refine AllReadyH.cons rfl (fun K hK => ?_) AllReadyH.nil
        go_simp
        refine (CTR.out _ HLr_22_20_9.out.fr).mono ?_
        rintro e wv19 ⟨rfl, hq⟩
        have HLr_22_20_9_19 := Lib.hid (HLr_22_20_9.out.no hq)
        clear hq
        refine hK.out _ _ (SS.out _ HLr_22_20_9_19.out.fr) (fun _ => ?_)
        clear hK K
        ((try simp only [Act.put]); (try simp only [List.setIfInBounds_toArray]); (try simp only [List.set_cons_succ]); (try simp only [List.set_cons_zero]))
        refine wpAnyH_take (i := 21) (v := ?vz30) (by simp only [List.getElem?_toArray, List.getElem?_cons_succ, List.getElem?_cons_zero]; rfl) (by kernel_rfl) (by kernel_rfl) (by kernel_rfl) (by exact fun _ _ _ h => h) (Or.inl ⟨by rfl, ?hyz30⟩) (by assumption) ?restz30
        case hyz30 => (intro w hSw; (try dsimp only at hSw); go_simp; try with_reducible rfl)
        ((try simp only [Act.put]); (try simp only [List.setIfInBounds_toArray]); (try simp only [List.set_cons_succ]); (try simp only [List.set_cons_zero]))
        refine wpAnyH_ready (rs := [23]) (by kernel_rfl) (by simp) ?_
        refine AllReadyH.cons rfl (fun K hK => ?_) AllReadyH.nil
        have hb := HLr_22_20_9_19.out.bx _ rfl
        have g0 := hb.2.frozen 0
        have g1 := hb.2.frozen 1
        have g2 := hb.2.frozen 2
        have g3 := hb.2.lt
        have g4 : World.cell? _ ⟨_, 0, none⟩ = some (.int .i64 0) := (hb.2.cell 0).trans rfl
        have g5 : World.cell? _ ⟨_, 1, none⟩ = some (.int .i64 0) := (hb.2.cell 1).trans rfl
        have g6 : World.cell? _ ⟨_, 2, none⟩ = some (.slice none 0 0) := (hb.2.cell 2).trans rfl
        go_simp
        have HN := Lib.hid (HLr_22_20_9_19.out.store (c : Int) (c' : Int))
        clear hb g0 g1 g2 g3 g4 g5 g6
        refine hK.out _ _ (SS.out _ HN.out.1) (fun _ => ?_)
        clear hK K
        ((try simp only [Act.put]); (try simp only [List.setIfInBounds_toArray]); (try simp only [List.set_cons_succ]); (try simp only [List.set_cons_zero]))
        refine wpAnyH_done (by kernel_rfl) ?_ _
        exact REST.out _ _ _ HN.out
  intro kb g0 V hV
  refine hKs _ _ ?_

  have B0E : Hid (LI w kb W2.heap.size c c' (S t.atom) (.slice TA t.kids.len tc) [] V) := ⟨HF2.out.trans hV.1, HB2.out.fr hV.1 (fun h => h), HR2.out.fr hV.1 (fun h => h), ⟨_, 0, 0, hV.2.2.1, hV.2.2.2⟩, by have := HZ2.out; omega, hV.2.1⟩
  have e0 : V.cell? ⟨kb, 0, none⟩ = some (.int .i64 c) := (hV.2.2.1.cell 0).trans rfl
  clear hV hKs HF2 HB2 HR2 SS CTL CTR
  have HB0 : Hid (W2.heap.size = w.heap.size + 2) := HZ2.out
  generalize W2.heap.size = B0 at B0E HB0 ⊢
  clear HZ2
  go_wp2_with fail
  go_loopw [6] (fun u wr => ∃ (x : Nat), x ≤ c ∧ u = .int .i64 x ∧ LI w kb B0 c c' (S t.atom) (.slice TA t.kids.len tc) (pairsOf x c' R) wr) (fun u _ => c - (intOf u).toNat)
  case atStart => exact ⟨0, Nat.zero_le _, rfl, B0E.out⟩
  case round =>
    obtain ⟨x, hx, rfl, hli⟩ := hrel
    have HLI := Lib.hid hli
    obtain ⟨A, m, cc, hbx, hor⟩ := hli.bx
    have e0 : wr.cell? ⟨kb, 0, none⟩ = some (.int .i64 c) := (hbx.cell 0).trans rfl
    have HBX := Lib.hid hbx
    have HOR := Lib.hid hor
    clear hli B0E hbx hor
    by_cases hlt : x < c
    · have hxI : (x : Int) < (c : Int) := by omega
      have START : Hid (LI w kb B0 c c' (S t.atom) (.slice TA t.kids.len tc) (pairsOf x c' R ++ (elems 0 (R x)).map (x * c' + ·)) wr) := by
        have h := HLI.out
        show LI _ _ _ _ _ _ _ _ _
        simpa [elems] using h
      go_wp2_with fail
      clear e0 HLI HBX HOR
      go_loopw [7] (fun u w3 => ∃ (y : Nat), y ≤ c' ∧ u = .int .i64 y ∧ LI w kb B0 c c' (S t.atom) (.slice TA t.kids.len tc) (pairsOf x c' R ++ (elems y (R x)).map (x * c' + ·)) w3) (fun u _ => c' - (intOf u).toNat)
      case atStart => exact ⟨0, Nat.zero_le _, rfl, START.out⟩
      case round =>
        obtain ⟨y, hy, rfl, hli⟩ := hrel
        have HLI := Lib.hid hli
        obtain ⟨A, m, cc, hbx, hor⟩ := hli.bx
        have e1 : wr.cell? ⟨kb, 1, none⟩ = some (.int .i64 c') := (hbx.cell 1).trans rfl
        have b0 : wr.cell? ⟨w.heap.size, 0, none⟩ = some (S t.atom) := (hli.tb.cell 0).trans rfl
        have b1 : wr.cell? ⟨w.heap.size, 1, none⟩ = some (.slice TA t.kids.len tc) := (hli.tb.cell 1).trans rfl
        clear hli START hbx hor
        by_cases hlt2 : y < c'
        · have hyI : (y : Int) < (c' : Int) := by omega
          have CALL := Lib.hid (RE.out wr x y HLI.out.fr hlt hlt2)
          go_wp2_with fail
          refine CALL.out.mono ?_
          rintro e w4 ⟨rfl, hf4⟩
          have HB4 := Lib.hid (HLI.out.step hf4)
          clear hf4 CALL HLI e1 b0 b1
          cases hm : R x y with
          | false =>
            have HN : Hid (LI w kb B0 c c' (S t.atom) (.slice TA t.kids.len tc) (pairsOf x c' R ++ (elems (y + 1) (R x)).map (x * c' + ·)) w4) := by
              have h := HB4.out
              show LI _ _ _ _ _ _ _ _ _
              rw [elems_more, hm]
              simpa using h
            clear hm HB4
            go_wp2_with fail
            go_roundw
            case rel => exact ⟨y + 1, by omega, by go_num, HN.out⟩
            case measure => simp [intOf]; omega
          | true =>
            obtain ⟨A, m, cc, hbx, hor⟩ := HB4.out.bx
            have e1 : w4.cell? ⟨kb, 1, none⟩ = some (.int .i64 c') := (hbx.cell 1).trans rfl
            have c2 : w4.cell? ⟨kb, 2, none⟩ = some (.slice A m cc) := (hbx.cell 2).trans rfl
            have hfz : w4.frozen? ⟨kb, 2, none⟩ = false := hbx.frozen 2
            have hlb := hbx.lt
            have HM := Lib.hid hm
            have hown := hor.2
            have hml : m + 1 ≤ 100000 := by
              have h1 := hor.1
              have h2 := pairsOf_len x c' R
              have h3 : x * c' ≤ 128 * 128 := Nat.mul_le_mul (by omega) hc1'
              have h4 := elems_len y (R x)
              simp at h1
              omega
            have hp0 : 0 ≤ (x : Int) * (c' : Int) := by rw [← Int.natCast_mul]; omega
            have hp1 : (x : Int) * (c' : Int) ≤ 16384 := by
              have h := Nat.mul_le_mul (show x ≤ 128 by omega) hc1'
              rw [← Int.natCast_mul]; omega
            have hw1 : IntKind.i64.wrap ((x : Int) * (c' : Int)) = (x : Int) * (c' : Int) := IntWalk.i64_in _ (by omega)
            have hw2 : IntKind.i64.wrap ((x : Int) * (c' : Int) + (y : Int)) = (x : Int) * (c' : Int) + (y : Int) := IntWalk.i64_in _ (by omega)
            have ARM : Hid (∀ (v' : Value) (w1 : World), w1.ownsRow B0 3 1 v' (m + 1) ((((pairsOf x c' R ++ (elems y (R x)).map (x * c' + ·)).map Int.ofNat).map (Value.int .i64)) ++ [.int .i64 ((x : Int) * (c' : Int) + (y : Int))]) → (w4.alloc (.cells #[.int .i64 ((x : Int) * (c' : Int) + (y : Int))] 3)).grownBy w1 (Value.slice A m cc).ownBlock →
                ∃ g' cap', v' = .slice (some ⟨g', 0, none⟩) (m + 1) cap' ∧ w1.cell? ⟨kb, 2, none⟩ = some (.slice A m cc) ∧ w1.frozen? ⟨kb, 2, none⟩ = false ∧ kb < w1.heap.size ∧
                Hid (LI w kb B0 c c' (S t.atom) (.slice TA t.kids.len tc) (pairsOf x c' R ++ (elems (y + 1) (R x)).map (x * c' + ·)) (w1.setCell ⟨kb, 2, none⟩ (.slice (some ⟨g', 0, none⟩) (m + 1) cap')))) := by
              intro v' w1 ho hg
              obtain ⟨g', cap', rfl⟩ := ownsRow_succ ho
              obtain ⟨h1, h2, h3, h4⟩ := app_fin hbx hor ((Fr.refl No w4).alloc _) ho hg
              have hlo := HB4.out.lo
              have hkl := HB4.out.klo
              have hB : ∀ b, Own A b ∨ b = kb → B0 ≤ b := fun b hb => by
                rcases hb with hb | hb
                · exact (hor.bounds hb).1
                · omega
              refine ⟨g', cap', rfl, (h1.cell 2).trans rfl, h1.frozen 2, h1.lt, HB4.out.fr.then_ h2 (fun b hb h => by have := hB b h; omega), HB4.out.tb.fr h2 (fun h => by have := hB _ h; omega), HB4.out.rt.fr h2 (fun h => by have := hB _ h; omega), ⟨_, _, _, h3, ?_⟩, hlo, hkl⟩
              rw [elems_more, HM.out]
              simpa using h4
            have hsz : B0 ≤ w4.heap.size := by have := HB4.out.klo; omega
            clear hm HM HB4 hbx hor
            go_wp2_with (at_builtin; refine wpList_append_own _ rfl _ _ 28 rfl B0 3 i0 (.int .i64 0) 1 8 Tryd.underlying28 hi0 hz0 hz1 hz2 rfl (by decide) _ _ _ rfl (hown.alloc _) ⟨w4.heap.size, 0, none⟩ 1 1 [.int .i64 ((x : Int) * (c' : Int) + (y : Int))] rfl rfl (cell_one_new _ _ _) (by simp [Value.oneCell']) (by unfold maxLen; omega) (by omega) (by simp; omega) ?_; intro v' w1 hown' hgrow _; obtain ⟨g', cap', rfl, n1, n2, n3, n4⟩ := ARM.out v' w1 hown' hgrow; clear hown' hgrow)
            clear hown ARM
            go_wp2_with fail
            go_roundw
            case rel => exact ⟨y + 1, by omega, by go_num, n4.out⟩
            case measure => simp [intOf]; omega
        · have hyc : y = c' := by omega
          have hnlt : ¬ (y : Int) < (c' : Int) := by omega
          have HN : Hid (LI w kb B0 c c' (S t.atom) (.slice TA t.kids.len tc) (pairsOf (x + 1) c' R) wr) := by
            have h := HLI.out
            show LI _ _ _ _ _ _ _ _ _
            rw [pairsOf_succ, ← hyc]
            rwa [← hyc] at h
          clear hyc HLI
          go_wp2_with fail
          go_roundw
          case rel => exact ⟨x + 1, by omega, by go_num, HN.out⟩
          case measure => simp [intOf]; omega
    · have hxc : x = c := by omega
      have hnlt : ¬ (x : Int) < (c : Int) := by omega
      have e1 : wr.cell? ⟨kb, 1, none⟩ = some (.int .i64 c') := (HBX.out.cell 1).trans rfl
      have e2 : wr.cell? ⟨kb, 2, none⟩ = some (.slice A m cc) := (HBX.out.cell 2).trans rfl
      obtain ⟨⟨a0, a1, a2⟩, f0, f1, f2⟩ := ret_fct HLI.out.rt
      have FIN := Lib.hid (fun v0 v1 v2 => ans_store (w := w) (k := w.heap.size + 1) (Nat.le_succ _) HLI.out.fr HLI.out.rt HOR.out (by have := HLI.out.lo; omega) v0 v1 v2)
      have HXC := Lib.hid hxc
      clear hxc HBX HOR HLI
      go_wp2_with fail
      refine bodyPost_ret (v := RV c c' A m cc) (by simp [results, Tryd.results69, go_sem, a0, a1, a2]) rfl ?_
      have h := (FIN.out (.int .i64 c) (.int .i64 c') (.slice A m cc)).2
      rw [HXC.out] at h
      exact ⟨A, m, cc, rfl, (FIN.out _ _ _).1, h⟩
end Go.Proofs.YtloecimlimoanaaDoor

/- RelLift of the model, the whole. -/
namespace Go.Proofs.YtloecimlimoanaaDoor
open Go.RowKit Go.ChangeMaps Go.Shelf

set_option maxRecDepth 100000 in
set_option maxHeartbeats 8000000 in
theorem specRelLift (w : World) (s : List UInt8) (N A : Option Addr) (nc rc : Nat) (ns : List (List UInt8)) (rs : List (Int × Int × List Int)) (o : Option (Int × Int × List Int)) (ho : LiftR s ns rs o) (hs : s.length ≤ maxLen) (hnc : ns.length ≤ nc) (hN : SSl w N ns) (hA : Rels w A rs) (hl : ns.length ≤ 1048576) (hl' : rs.length ≤ 1048576) (hnl : ∀ x ∈ ns, x.length ≤ maxLen) :
    Calls Tryd.prog 19 #[S s, .slice N ns.length nc, .slice A rs.length rc] w fun e w' => AnsR o w e w' := by
  obtain ⟨W0, hW0, hf0, hb0⟩ : ∃ W, W = w.alloc (.cells #[.int .i64 0, .int .i64 0, .slice none 0 0] 30) ∧ Fr No w W ∧ Blk W w.heap.size 30 #[.int .i64 0, .int .i64 0, .slice none 0 0] := ⟨_, rfl, (Fr.refl No w).alloc _, Blk.new _ _ _⟩
  have TY := Lib.hid (type_any s W0 hs)
  have LS : Hid (∀ W, Fr No w W → Calls Tryd.prog 58 #[.slice N ns.length nc, .slice A rs.length rc] W fun e w' => L6P N A nc rc ns rs W e w') := fun W hf => l6sets_any W N A nc rc ns rs hnc (hN.keep hf (fun _ h => h.elim)) (hA.no hf) hl hl' hnl
  have FAIL : Hid (o = none → ∀ W, Fr No w W → AnsR o w (.returned (.tuple #[RV 0 0 none 0 0, .bool false])) (((W.setCell ⟨w.heap.size, 0, none⟩ (.int .i64 0)).setCell ⟨w.heap.size, 1, none⟩ (.int .i64 0)).setCell ⟨w.heap.size, 2, none⟩ (.slice none 0 0))) := fun h W hf => by
    rw [h]
    exact AnsR.none_ (((hf.setCell (p := ⟨w.heap.size, 0, none⟩) (.inr (Nat.le_refl _)) _).setCell (p := ⟨w.heap.size, 1, none⟩) (.inr (Nat.le_refl _)) _).setCell (p := ⟨w.heap.size, 2, none⟩) (.inr (Nat.le_refl _)) _)
  have HN := Lib.hid hN
  have HA := Lib.hid hA
  have HO := Lib.hid ho
  have HF0 := Lib.hid hf0
  have HB0 := Lib.hid hb0
  have HW0 := Lib.hid hW0
  clear hs hN hA hl hl' hnl hnc ho hf0 hb0 hW0
  go_enter Tryd.func19, Tryd.ntmps19
  go_wp2_with fail
  rw [← HW0.out]
  refine TY.out.mono ?_
  rintro e w1 ⟨hf1, ⟨t, TA, tc, hi, rfl, hsl⟩ | ⟨a, TA, m, c, hno, rfl⟩⟩
  · have HI := Lib.hid hi
    have HF1 := Lib.hid (HF0.out.trans hf1)
    have hfa : Fr No w1 (w1.alloc (.cells #[S t.atom, .slice TA t.kids.len tc] 82)) := (Fr.refl _ _).alloc _
    have hbt := Blk.new w1 82 #[S t.atom, .slice TA t.kids.len tc]
    have HB1 := Lib.hid (HB0.out.fr hf1 (fun h => h))
    have HFA := Lib.hid hfa
    have HBT := Lib.hid hbt
    have HSL := Lib.hid hsl
    clear hf1 hfa hbt hsl hi TY
    go_wp2_with fail
    refine (LS.out _ (HF1.out.trans HFA.out)).mono ?_
    generalize hW : w1.alloc (.cells #[S t.atom, .slice TA t.kids.len tc] 82) = W at *
    rintro e w2 ⟨hf2, Q, b, rfl, hb1, hb0⟩
    have HFW := Lib.hid ((HF1.out.trans HFA.out).trans hf2)
    have HB2 := Lib.hid (HB1.out.fr (HFA.out.trans hf2) (fun h => h))
    have RET : Hid (∀ V, Fr No w2 V → (V.cell? ⟨w.heap.size, 0, none⟩ = some (.int .i64 0) ∧ V.cell? ⟨w.heap.size, 1, none⟩ = some (.int .i64 0) ∧ V.cell? ⟨w.heap.size, 2, none⟩ = some (.slice none 0 0)) ∧ V.frozen? ⟨w.heap.size, 0, none⟩ = false ∧ V.frozen? ⟨w.heap.size, 1, none⟩ = false ∧ V.frozen? ⟨w.heap.size, 2, none⟩ = false) := fun V hf => ret_fct (HB2.out.fr hf (fun h => h))
    cases b with
    | false =>
      have HE := Lib.hid (FAIL.out (HO.out.no (fun _ ml mr _ _ _ h _ _ _ _ => hb0 rfl ml mr h)))
      clear hf2 hb1 hb0
      obtain ⟨⟨a0, a1, a2⟩, f0, f1, f2⟩ := RET.out w2.drew ((Fr.refl _ _).drew)
      have HD := Lib.hid (HFW.out.drew)
      go_wp2_with fail
      refine wp_region_held_drew (S := (fun _ => True)) (by kernel_rfl) ?hSb (fun hHeldb => ?_)
      case hSb => (first | exact trivial | (dsimp only; exact trivial))
      refine wpAnyH_take (i := 0) (v := ?vb0) (by simp only [List.getElem?_toArray, List.getElem?_cons_zero]; rfl) (by kernel_rfl) (by kernel_rfl) (by kernel_rfl) (by exact fun _ _ _ h => h) (Or.inl ⟨by rfl, ?hyb0⟩) (by assumption) ?restb0
      case hyb0 => (intro w hSw; (try dsimp only at hSw); go_simp; try with_reducible rfl)
      try simp only [Act.put, List.setIfInBounds_toArray, List.set_cons_zero, List.set_cons_succ]
      refine wpAnyH_take (i := 1) (v := ?vb1) (by simp only [List.getElem?_toArray, List.getElem?_cons_succ, List.getElem?_cons_zero]; rfl) (by kernel_rfl) (by kernel_rfl) (by kernel_rfl) (by exact fun _ _ _ h => h) (Or.inl ⟨by rfl, ?hyb1⟩) (by assumption) ?restb1
      case hyb1 => (intro w hSw; (try dsimp only at hSw); go_simp; try with_reducible rfl)
      try simp only [Act.put, List.setIfInBounds_toArray, List.set_cons_zero, List.set_cons_succ]
      refine wpAnyH_take (i := 2) (v := ?vb2) (by simp only [List.getElem?_toArray, List.getElem?_cons_succ, List.getElem?_cons_zero]; rfl) (by kernel_rfl) (by kernel_rfl) (by kernel_rfl) (by exact fun _ _ _ h => h) (Or.inl ⟨by rfl, ?hyb2⟩) (by assumption) ?restb2
      case hyb2 => (intro w hSw; (try dsimp only at hSw); go_simp; try with_reducible rfl)
      try simp only [Act.put, List.setIfInBounds_toArray, List.set_cons_zero, List.set_cons_succ]
      refine wpAnyH_take (i := 3) (v := ?vb3) (by simp only [List.getElem?_toArray, List.getElem?_cons_succ, List.getElem?_cons_zero]; rfl) (by kernel_rfl) (by kernel_rfl) (by kernel_rfl) (by exact fun _ _ _ h => h) (Or.inl ⟨by rfl, ?hyb3⟩) (by assumption) ?restb3
      case hyb3 => (intro w hSw; (try dsimp only at hSw); go_simp; try with_reducible rfl)
      try simp only [Act.put, List.setIfInBounds_toArray, List.set_cons_zero, List.set_cons_succ]
      refine wpAnyH_take (i := 4) (v := ?vb4) (by simp only [List.getElem?_toArray, List.getElem?_cons_succ, List.getElem?_cons_zero]; rfl) (by kernel_rfl) (by kernel_rfl) (by kernel_rfl) (by exact fun _ _ _ h => h) (Or.inl ⟨by rfl, ?hyb4⟩) (by assumption) ?restb4
      case hyb4 => (intro w hSw; (try dsimp only at hSw); go_simp; try with_reducible rfl)
      try simp only [Act.put, List.setIfInBounds_toArray, List.set_cons_zero, List.set_cons_succ]
      refine wpAnyH_take (i := 5) (v := ?vb5) (by simp only [List.getElem?_toArray, List.getElem?_cons_succ, List.getElem?_cons_zero]; rfl) (by kernel_rfl) (by kernel_rfl) (by kernel_rfl) (by exact fun _ _ _ h => h) (Or.inl ⟨by rfl, ?hyb5⟩) (by assumption) ?restb5
      case hyb5 => (intro w hSw; (try dsimp only at hSw); go_simp; try with_reducible rfl)
      try simp only [Act.put, List.setIfInBounds_toArray, List.set_cons_zero, List.set_cons_succ]
      refine wpAnyH_take (i := 6) (v := ?vb6) (by simp only [List.getElem?_toArray, List.getElem?_cons_succ, List.getElem?_cons_zero]; rfl) (by kernel_rfl) (by kernel_rfl) (by kernel_rfl) (by exact fun _ _ _ h => h) (Or.inl ⟨by rfl, ?hyb6⟩) (by assumption) ?restb6
      case hyb6 => (intro w hSw; (try dsimp only at hSw); go_simp; try with_reducible rfl)
      try simp only [Act.put, List.setIfInBounds_toArray, List.set_cons_zero, List.set_cons_succ]
      refine wpAnyH_take (i := 7) (v := undef) (by simp only [List.getElem?_toArray, List.getElem?_cons_succ, List.getElem?_cons_zero]; rfl) (by kernel_rfl) (by kernel_rfl) (by kernel_rfl) (by exact fun _ _ _ h => h) (Or.inr ⟨by rfl, rfl⟩) (by assumption) ?_
      try simp only [Act.put, List.setIfInBounds_toArray, List.set_cons_zero, List.set_cons_succ]
      refine wpAnyH_take (i := 8) (v := undef) (by simp only [List.getElem?_toArray, List.getElem?_cons_succ, List.getElem?_cons_zero]; rfl) (by kernel_rfl) (by kernel_rfl) (by kernel_rfl) (by exact fun _ _ _ h => h) (Or.inr ⟨by rfl, rfl⟩) (by assumption) ?_
      try simp only [Act.put, List.setIfInBounds_toArray, List.set_cons_zero, List.set_cons_succ]
      refine wpAnyH_take (i := 9) (v := undef) (by simp only [List.getElem?_toArray, List.getElem?_cons_succ, List.getElem?_cons_zero]; rfl) (by kernel_rfl) (by kernel_rfl) (by kernel_rfl) (by exact fun _ _ _ h => h) (Or.inr ⟨by rfl, rfl⟩) (by assumption) ?_
      try simp only [Act.put, List.setIfInBounds_toArray, List.set_cons_zero, List.set_cons_succ]
      refine wpAnyH_take (i := 10) (v := undef) (by simp only [List.getElem?_toArray, List.getElem?_cons_succ, List.getElem?_cons_zero]; rfl) (by kernel_rfl) (by kernel_rfl) (by kernel_rfl) (by exact fun _ _ _ h => h) (Or.inr ⟨by rfl, rfl⟩) (by assumption) ?_
      try simp only [Act.put, List.setIfInBounds_toArray, List.set_cons_zero, List.set_cons_succ]
      refine wpAnyH_take (i := 11) (v := undef) (by simp only [List.getElem?_toArray, List.getElem?_cons_succ, List.getElem?_cons_zero]; rfl) (by kernel_rfl) (by kernel_rfl) (by kernel_rfl) (by exact fun _ _ _ h => h) (Or.inr ⟨by rfl, rfl⟩) (by assumption) ?_
      try simp only [Act.put, List.setIfInBounds_toArray, List.set_cons_zero, List.set_cons_succ]
      refine wpAnyH_take (i := 12) (v := undef) (by simp only [List.getElem?_toArray, List.getElem?_cons_succ, List.getElem?_cons_zero]; rfl) (by kernel_rfl) (by kernel_rfl) (by kernel_rfl) (by exact fun _ _ _ h => h) (Or.inr ⟨by rfl, rfl⟩) (by assumption) ?_
      try simp only [Act.put, List.setIfInBounds_toArray, List.set_cons_zero, List.set_cons_succ]
      refine wpAnyH_take (i := 13) (v := undef) (by simp only [List.getElem?_toArray, List.getElem?_cons_succ, List.getElem?_cons_zero]; rfl) (by kernel_rfl) (by kernel_rfl) (by kernel_rfl) (by exact fun _ _ _ h => h) (Or.inr ⟨by rfl, rfl⟩) (by assumption) ?_
      try simp only [Act.put, List.setIfInBounds_toArray, List.set_cons_zero, List.set_cons_succ]
      refine wpAnyH_take (i := 14) (v := undef) (by simp only [List.getElem?_toArray, List.getElem?_cons_succ, List.getElem?_cons_zero]; rfl) (by kernel_rfl) (by kernel_rfl) (by kernel_rfl) (by exact fun _ _ _ h => h) (Or.inr ⟨by rfl, rfl⟩) (by assumption) ?_
      try simp only [Act.put, List.setIfInBounds_toArray, List.set_cons_zero, List.set_cons_succ]
      refine wpAnyH_take (i := 15) (v := undef) (by simp only [List.getElem?_toArray, List.getElem?_cons_succ, List.getElem?_cons_zero]; rfl) (by kernel_rfl) (by kernel_rfl) (by kernel_rfl) (by exact fun _ _ _ h => h) (Or.inr ⟨by rfl, rfl⟩) (by assumption) ?_
      try simp only [Act.put, List.setIfInBounds_toArray, List.set_cons_zero, List.set_cons_succ]
      refine wpAnyH_take (i := 16) (v := ?vb16) (by simp only [List.getElem?_toArray, List.getElem?_cons_succ, List.getElem?_cons_zero]; rfl) (by kernel_rfl) (by kernel_rfl) (by kernel_rfl) (by exact fun _ _ _ h => h) (Or.inl ⟨by rfl, ?hyb16⟩) (by assumption) ?restb16
      case hyb16 => (intro w hSw; (try dsimp only at hSw); go_simp; try with_reducible rfl)
      try simp only [Act.put, List.setIfInBounds_toArray, List.set_cons_zero, List.set_cons_succ]
      refine wpAnyH_take (i := 17) (v := ?vb17) (by simp only [List.getElem?_toArray, List.getElem?_cons_succ, List.getElem?_cons_zero]; rfl) (by kernel_rfl) (by kernel_rfl) (by kernel_rfl) (by exact fun _ _ _ h => h) (Or.inl ⟨by rfl, ?hyb17⟩) (by assumption) ?restb17
      case hyb17 => (intro w hSw; (try dsimp only at hSw); go_simp; try with_reducible rfl)
      try simp only [Act.put, List.setIfInBounds_toArray, List.set_cons_zero, List.set_cons_succ]
      refine wpAnyH_take (i := 18) (v := undef) (by simp only [List.getElem?_toArray, List.getElem?_cons_succ, List.getElem?_cons_zero]; rfl) (by kernel_rfl) (by kernel_rfl) (by kernel_rfl) (by exact fun _ _ _ h => h) (Or.inr ⟨by rfl, rfl⟩) (by assumption) ?_
      try simp only [Act.put, List.setIfInBounds_toArray, List.set_cons_zero, List.set_cons_succ]
      refine wpAnyH_take (i := 19) (v := undef) (by simp only [List.getElem?_toArray, List.getElem?_cons_succ, List.getElem?_cons_zero]; rfl) (by kernel_rfl) (by kernel_rfl) (by kernel_rfl) (by exact fun _ _ _ h => h) (Or.inr ⟨by rfl, rfl⟩) (by assumption) ?_
      try simp only [Act.put, List.setIfInBounds_toArray, List.set_cons_zero, List.set_cons_succ]
      refine wpAnyH_take (i := 20) (v := undef) (by simp only [List.getElem?_toArray, List.getElem?_cons_succ, List.getElem?_cons_zero]; rfl) (by kernel_rfl) (by kernel_rfl) (by kernel_rfl) (by exact fun _ _ _ h => h) (Or.inr ⟨by rfl, rfl⟩) (by assumption) ?_
      try simp only [Act.put, List.setIfInBounds_toArray, List.set_cons_zero, List.set_cons_succ]
      refine wpAnyH_take (i := 21) (v := undef) (by simp only [List.getElem?_toArray, List.getElem?_cons_succ, List.getElem?_cons_zero]; rfl) (by kernel_rfl) (by kernel_rfl) (by kernel_rfl) (by exact fun _ _ _ h => h) (Or.inr ⟨by rfl, rfl⟩) (by assumption) ?_
      try simp only [Act.put, List.setIfInBounds_toArray, List.set_cons_zero, List.set_cons_succ]
      refine wpAnyH_take (i := 22) (v := undef) (by simp only [List.getElem?_toArray, List.getElem?_cons_succ, List.getElem?_cons_zero]; rfl) (by kernel_rfl) (by kernel_rfl) (by kernel_rfl) (by exact fun _ _ _ h => h) (Or.inr ⟨by rfl, rfl⟩) (by assumption) ?_
      try simp only [Act.put, List.setIfInBounds_toArray, List.set_cons_zero, List.set_cons_succ]
      refine wpAnyH_take (i := 23) (v := undef) (by simp only [List.getElem?_toArray, List.getElem?_cons_succ, List.getElem?_cons_zero]; rfl) (by kernel_rfl) (by kernel_rfl) (by kernel_rfl) (by exact fun _ _ _ h => h) (Or.inr ⟨by rfl, rfl⟩) (by assumption) ?_
      try simp only [Act.put, List.setIfInBounds_toArray, List.set_cons_zero, List.set_cons_succ]
      refine wpAnyH_take (i := 24) (v := undef) (by simp only [List.getElem?_toArray, List.getElem?_cons_succ, List.getElem?_cons_zero]; rfl) (by kernel_rfl) (by kernel_rfl) (by kernel_rfl) (by exact fun _ _ _ h => h) (Or.inr ⟨by rfl, rfl⟩) (by assumption) ?_
      try simp only [Act.put, List.setIfInBounds_toArray, List.set_cons_zero, List.set_cons_succ]
      refine wpAnyH_take (i := 25) (v := undef) (by simp only [List.getElem?_toArray, List.getElem?_cons_succ, List.getElem?_cons_zero]; rfl) (by kernel_rfl) (by kernel_rfl) (by kernel_rfl) (by exact fun _ _ _ h => h) (Or.inr ⟨by rfl, rfl⟩) (by assumption) ?_
      try simp only [Act.put, List.setIfInBounds_toArray, List.set_cons_zero, List.set_cons_succ]
      refine wpAnyH_take (i := 26) (v := undef) (by simp only [List.getElem?_toArray, List.getElem?_cons_succ, List.getElem?_cons_zero]; rfl) (by kernel_rfl) (by kernel_rfl) (by kernel_rfl) (by exact fun _ _ _ h => h) (Or.inr ⟨by rfl, rfl⟩) (by assumption) ?_
      try simp only [Act.put, List.setIfInBounds_toArray, List.set_cons_zero, List.set_cons_succ]
      refine wpAnyH_take (i := 27) (v := ?vb27) (by simp only [List.getElem?_toArray, List.getElem?_cons_succ, List.getElem?_cons_zero]; rfl) (by kernel_rfl) (by kernel_rfl) (by kernel_rfl) (by exact fun _ _ _ h => h) (Or.inl ⟨by rfl, ?hyb27⟩) (by assumption) ?restb27
      case hyb27 => (intro w hSw; (try dsimp only at hSw); go_simp; try with_reducible rfl)
      try simp only [Act.put, List.setIfInBounds_toArray, List.set_cons_zero, List.set_cons_succ]
      refine wpAnyH_done (by kernel_rfl) ?_ _
      generalize w2.drew = wd at *
      go_wp2_with fail
      refine bodyPost_ret (v := .tuple #[RV 0 0 none 0 0, .bool false]) (by simp [results, Tryd.results19, go_sem, a0, a1, a2]) rfl ?_
      exact HE.out _ HD.out
    | true =>
      obtain ⟨A8, A9, c8, c9, hI, rfl, ml, mr, hsp⟩ := hb1 rfl
      clear hb1 hb0
      have HFW0 := Lib.hid (HF1.out.trans HFA.out)
      have hSP := spAt_of hI hsp (HN.out.keep HFW0.out (fun _ h => h.elim)) (HA.out.no HFW0.out)
      have hlets : t.lets := HI.out.2.1
      have hkn : ∀ μ, t.kn μ = t.cnt μ := fun μ => by have := HI.out.2.2; unfold Ty.kn; rw [if_pos (by omega)]
      have HSl : Hid (∀ W', Fr No w2 W' → Sl W' (fun b => b < W'.heap.size) TA t.kids) := fun W' hf => by
        have hft := (HFA.out.trans hf2).trans hf
        exact (HSL.out.fr (fun b hb => hb.2) hft).mono (fun b hb => Nat.lt_of_lt_of_le hb.2 hft.size) (fun _ _ => rfl)
      obtain ⟨cl, hcl⟩ : ∃ z, z = cntI (szs ml) t := ⟨_, rfl⟩
      obtain ⟨cr, hcr⟩ : ∃ z, z = cntI (szs mr) t := ⟨_, rfl⟩
      have CTL : Hid (∀ W', Fr No w2 W' → Calls Tryd.prog 60 #[.agg #[S t.atom, .slice TA t.kids.len tc], .slice N ns.length nc, .slice A8 (ls rs).length c8] W' fun e w' => e = .returned (.int .i64 cl) ∧ Fr No W' w') := fun W' hf => by
        have h := ct_any ns (ls rs) ml hsp.ol t hlets W' (fun b => b < W'.heap.size) TA tc N A8 nc c8 (fun b hb => hb) (HSl.out W' hf) (hSP.fr hf).nam (hSP.fr hf).lef
        rwa [← hcl] at h
      have CTR : Hid (∀ W', Fr No w2 W' → Calls Tryd.prog 60 #[.agg #[S t.atom, .slice TA t.kids.len tc], .slice N ns.length nc, .slice A9 (rt rs).length c9] W' fun e w' => e = .returned (.int .i64 cr) ∧ Fr No W' w') := fun W' hf => by
        have h := ct_any ns (rt rs) mr hsp.or t hlets W' (fun b => b < W'.heap.size) TA tc N A9 nc c9 (fun b hb => hb) (HSl.out W' hf) (hSP.fr hf).nam (hSP.fr hf).rig
        rwa [← hcr] at h
      obtain ⟨TB, hTB⟩ : ∃ TB, TB = w1.heap.size := ⟨_, rfl⟩
      obtain ⟨QQ, hQQ⟩ : ∃ QQ, QQ = W.heap.size := ⟨_, rfl⟩
      rw [← hTB] at HBT
      rw [← hQQ] at hSP ⊢
      rw [← hTB]
      clear hTB hQQ
      have PP : Hid (∀ W', Fr No w2 W' → W'.cell? ⟨TB, 0, none⟩ = some (S t.atom) ∧ W'.cell? ⟨TB, 1, none⟩ = some (.slice TA t.kids.len tc) ∧ W'.cell? ⟨QQ, 2, none⟩ = some (.slice A8 (ls rs).length c8) ∧ W'.cell? ⟨QQ, 3, none⟩ = some (.slice A9 (rt rs).length c9) ∧ QQ < W'.heap.size ∧ TB < W'.heap.size) := fun W' hf => by
        have h1 := (HBT.out.fr hf2 (fun h => h)).fr hf (fun h => h)
        have h2 := (hSP.fr hf).blk
        exact ⟨(h1.cell 0).trans rfl, (h1.cell 1).trans rfl, (h2.cell 2).trans rfl, (h2.cell 3).trans rfl, h2.lt, h1.lt⟩
      have IN1 : Hid (¬ (1 ≤ cl ∧ cl ≤ 128) → o = none) := fun h => HO.out.no (fun t' ml' mr' d d' g1 g2 g3 g4 g5 g6 => by
        have e := g1.unique HI.out
        subst e
        have e := g2.ol.unique hsp.ol
        subst e
        rw [hkn] at g3
        rw [cntI_some g3] at hcl
        have := t'.cnt_bounds hsp.ol.sz d g3
        omega)
      have IN2 : Hid (¬ (1 ≤ cr ∧ cr ≤ 128) → o = none) := fun h => HO.out.no (fun t' ml' mr' d d' g1 g2 g3 g4 g5 g6 => by
        have e := g1.unique HI.out
        subst e
        have e := g2.or.unique hsp.or
        subst e
        rw [hkn] at g4
        rw [cntI_some g4] at hcr
        have := t'.cnt_bounds hsp.or.sz d' g4
        omega)
      have hfd : Fr No w2 w2.drew := (Fr.refl _ _).drew
      obtain ⟨b0, b1, p2, p3, lQ, lT⟩ := PP.out w2 (Fr.refl _ _)
      have HSP := Lib.hid hSP
      have HSS := Lib.hid hsp
      have HKN := Lib.hid hkn
      have HCL := Lib.hid (And.intro hcl hcr)
      have HLT := Lib.hid hlets
      clear hSP hsp hkn hcl hcr hlets hI hf2
      by_cases hx : 1 ≤ cl ∧ cl ≤ 128
      · have INX : Hid (∀ V, Calls Tryd.prog 59 #[.int .i64 cl, .int .i64 1, .int .i64 128] V fun e w' => e = .returned (.bool true) ∧ V = w') := fun V => by
          have h := in_any V cl 1 128
          rwa [decide_eq_true hx] at h
        by_cases hy : 1 ≤ cr ∧ cr ≤ 128
        · have INY : Hid (∀ V, Calls Tryd.prog 59 #[.int .i64 cr, .int .i64 1, .int .i64 128] V fun e w' => e = .returned (.bool true) ∧ V = w') := fun V => by
            have h := in_any V cr 1 128
            rwa [decide_eq_true hy] at h
          obtain ⟨c, hc⟩ : ∃ c, t.cnt (szs ml) = some c := by
            cases h : t.cnt (szs ml) with
            | none => have := HCL.out.1; rw [cntI_none h] at this; omega
            | some c => exact ⟨c, rfl⟩
          obtain ⟨c', hc'⟩ : ∃ c', t.cnt (szs mr) = some c' := by
            cases h : t.cnt (szs mr) with
            | none => have := HCL.out.2; rw [cntI_none h] at this; omega
            | some c => exact ⟨c, rfl⟩
          have ecl := HCL.out.1
          have ecr := HCL.out.2
          rw [cntI_some hc] at ecl
          rw [cntI_some hc'] at ecr
          have hc1 : c ≤ 128 := by omega
          have hc1' : c' ≤ 128 := by omega
          have LI : Hid (∀ W', Fr No w2 W' → Calls Tryd.prog 69 #[Ptr QQ, .agg #[S t.atom, .slice TA t.kids.len tc]] W' fun e w' => AnsV c c' ((pairsOf c c' (relT (szs ml) (szs mr) (rhoL mr (pss rs)) t)).map Int.ofNat) W' e w') := fun W' hf =>
            l6rLift_any W' QQ tc TA t ⟨ns, ls rs, rt rs, ml, mr, pss rs, N, A, A8, A9, nc, rc, c8, c9⟩ (rhoL mr (pss rs)) (fun j i l r ps h1 h2 h3 x y => by rw [rhoL_at HSS.out.or.nodup h2 h3]) HLT.out (HSP.out.fr hf) (HSl.out W' hf) c c' hc hc' hc1 hc1'
          have HOS := Lib.hid (HO.out.yes HI.out HSS.out (by rw [HKN.out]; exact hc) (by rw [HKN.out]; exact hc') hc1 hc1')
          clear hc hc' ecl ecr hc1 hc1' hx hy
          go_wp2_with fail
          go_region_held3 (fun w' => w'.cell? ⟨TB, 0, none⟩ = some (S t.atom) ∧ w'.cell? ⟨TB, 1, none⟩ = some (.slice TA t.kids.len tc) ∧ w'.cell? ⟨QQ, 2, none⟩ = some (.slice A8 (ls rs).length c8) ∧ w'.cell? ⟨QQ, 3, none⟩ = some (.slice A9 (rt rs).length c9)) (go_keep)
            (first | (go_at_call 60; first | (((with_reducible refine (CTL.out _ hfd).mono ?_); rintro e w4 ⟨rfl, hf4⟩; have HF4 := Lib.hid (hfd.trans hf4); have hf4' := hfd.trans hf4; obtain ⟨b0, b1, p2, p3, lQ, lT⟩ := PP.out w4 hf4'; clear hf4)) | (((with_reducible refine (CTR.out _ hf4').mono ?_); rintro e w5 ⟨rfl, hf5⟩; have hf5' := hf4'.trans hf5; have HF5 := Lib.hid hf5'; obtain ⟨b0, b1, p2, p3, lQ, lT⟩ := PP.out w5 hf5'; clear hf5))) | (go_at_call 59; first | ((with_reducible refine (INX.out _).mono ?_); rintro e wx ⟨rfl, rfl⟩) | ((with_reducible refine (INY.out _).mono ?_); rintro e wx ⟨rfl, rfl⟩)))
          all_goals (
            go_wp2_with fail
            refine (LI.out _ HF5.out).mono ?_
            rintro e w6 ⟨A1, m1, c1, rfl, hf6, hor⟩
            obtain ⟨⟨a0, a1, a2⟩, f0, f1, f2⟩ := RET.out w6 (HF5.out.trans hf6)
            have FIN := Lib.hid (fun v0 v1 v2 => ans_store (Nat.le_refl w.heap.size) ((HFW.out.trans HF5.out).trans hf6) (HB2.out.fr (HF5.out.trans hf6) (fun h => h)) hor (HFW.out.trans HF5.out).size v0 v1 v2)
            clear hf6 hor
            go_wp2_with fail
            refine bodyPost_ret (v := .tuple #[RV c c' A1 m1 c1, .bool true]) (by simp [results, Tryd.results19, go_sem, a0, a1, a2]) rfl ?_
            rw [HOS.out]
            exact ⟨A1, m1, c1, rfl, (FIN.out _ _ _).1, (FIN.out _ _ _).2⟩)
        · have INY : Hid (∀ V, Calls Tryd.prog 59 #[.int .i64 cr, .int .i64 1, .int .i64 128] V fun e w' => e = .returned (.bool false) ∧ V = w') := fun V => by
            have h := in_any V cr 1 128
            rwa [decide_eq_false hy] at h
          have HE := Lib.hid (FAIL.out (IN2.out hy))
          clear hx hy
          go_wp2_with fail
          go_region_held3 (fun w' => w'.cell? ⟨TB, 0, none⟩ = some (S t.atom) ∧ w'.cell? ⟨TB, 1, none⟩ = some (.slice TA t.kids.len tc) ∧ w'.cell? ⟨QQ, 2, none⟩ = some (.slice A8 (ls rs).length c8) ∧ w'.cell? ⟨QQ, 3, none⟩ = some (.slice A9 (rt rs).length c9)) (go_keep)
            (first | (go_at_call 60; first | (((with_reducible refine (CTL.out _ hfd).mono ?_); rintro e w4 ⟨rfl, hf4⟩; have HF4 := Lib.hid (hfd.trans hf4); have hf4' := hfd.trans hf4; obtain ⟨b0, b1, p2, p3, lQ, lT⟩ := PP.out w4 hf4'; clear hf4)) | (((with_reducible refine (CTR.out _ hf4').mono ?_); rintro e w5 ⟨rfl, hf5⟩; have hf5' := hf4'.trans hf5; have HF5 := Lib.hid hf5'; obtain ⟨b0, b1, p2, p3, lQ, lT⟩ := PP.out w5 hf5'; clear hf5))) | (go_at_call 59; first | ((with_reducible refine (INX.out _).mono ?_); rintro e wx ⟨rfl, rfl⟩) | ((with_reducible refine (INY.out _).mono ?_); rintro e wx ⟨rfl, rfl⟩)))
          all_goals (
            obtain ⟨⟨a0, a1, a2⟩, f0, f1, f2⟩ := RET.out w5 HF5.out
            have HD := Lib.hid (HFW.out.trans HF5.out)
            go_wp2_with fail
            refine bodyPost_ret (v := .tuple #[RV 0 0 none 0 0, .bool false]) (by simp [results, Tryd.results19, go_sem, a0, a1, a2]) rfl ?_
            exact HE.out _ HD.out)
      · have INX : Hid (∀ V, Calls Tryd.prog 59 #[.int .i64 cl, .int .i64 1, .int .i64 128] V fun e w' => e = .returned (.bool false) ∧ V = w') := fun V => by
          have h := in_any V cl 1 128
          rwa [decide_eq_false hx] at h
        have HE := Lib.hid (FAIL.out (IN1.out hx))
        clear hx
        go_wp2_with fail
        refine wp_region_held_drew (S := (fun w' => w'.cell? ⟨TB, 0, none⟩ = some (S t.atom) ∧ w'.cell? ⟨TB, 1, none⟩ = some (.slice TA t.kids.len tc) ∧ w'.cell? ⟨QQ, 2, none⟩ = some (.slice A8 (ls rs).length c8) ∧ w'.cell? ⟨QQ, 3, none⟩ = some (.slice A9 (rt rs).length c9))) (by kernel_rfl) ?hSc (fun hHeldc => ?_)
        case hSc => (first | exact (PP.out _ hfd).2 |> fun h => ⟨(PP.out _ hfd).1, h.1, h.2.1, h.2.2.1⟩ | (dsimp only; exact (PP.out _ hfd).2 |> fun h => ⟨(PP.out _ hfd).1, h.1, h.2.1, h.2.2.1⟩))
        refine wpAnyH_take (i := 0) (v := ?vc0) (by simp only [List.getElem?_toArray, List.getElem?_cons_zero]; rfl) (by kernel_rfl) (by kernel_rfl) (by kernel_rfl) (by exact fun _ _ _ h => h) (Or.inl ⟨by rfl, ?hyc0⟩) (by assumption) ?restc0
        case hyc0 => (intro w hSw; (try dsimp only at hSw); go_simp; try with_reducible rfl)
        try simp only [Act.put, List.setIfInBounds_toArray, List.set_cons_zero, List.set_cons_succ]
        refine wpAnyH_take (i := 1) (v := ?vc1) (by simp only [List.getElem?_toArray, List.getElem?_cons_succ, List.getElem?_cons_zero]; rfl) (by kernel_rfl) (by kernel_rfl) (by kernel_rfl) (by exact fun _ _ _ h => h) (Or.inl ⟨by rfl, ?hyc1⟩) (by assumption) ?restc1
        case hyc1 => (intro w hSw; (try dsimp only at hSw); go_simp; try with_reducible rfl)
        try simp only [Act.put, List.setIfInBounds_toArray, List.set_cons_zero, List.set_cons_succ]
        refine wpAnyH_take (i := 2) (v := ?vc2) (by simp only [List.getElem?_toArray, List.getElem?_cons_succ, List.getElem?_cons_zero]; rfl) (by kernel_rfl) (by kernel_rfl) (by kernel_rfl) (by exact fun _ _ _ h => h) (Or.inl ⟨by rfl, ?hyc2⟩) (by assumption) ?restc2
        case hyc2 => (intro w hSw; (try dsimp only at hSw); go_simp; try with_reducible rfl)
        try simp only [Act.put, List.setIfInBounds_toArray, List.set_cons_zero, List.set_cons_succ]
        refine wpAnyH_take (i := 3) (v := ?vc3) (by simp only [List.getElem?_toArray, List.getElem?_cons_succ, List.getElem?_cons_zero]; rfl) (by kernel_rfl) (by kernel_rfl) (by kernel_rfl) (by exact fun _ _ _ h => h) (Or.inl ⟨by rfl, ?hyc3⟩) (by assumption) ?restc3
        case hyc3 => (intro w hSw; (try dsimp only at hSw); go_simp; try with_reducible rfl)
        try simp only [Act.put, List.setIfInBounds_toArray, List.set_cons_zero, List.set_cons_succ]
        refine wpAnyH_take (i := 4) (v := ?vc4) (by simp only [List.getElem?_toArray, List.getElem?_cons_succ, List.getElem?_cons_zero]; rfl) (by kernel_rfl) (by kernel_rfl) (by kernel_rfl) (by exact fun _ _ _ h => h) (Or.inl ⟨by rfl, ?hyc4⟩) (by assumption) ?restc4
        case hyc4 => (intro w hSw; (try dsimp only at hSw); go_simp; try with_reducible rfl)
        try simp only [Act.put, List.setIfInBounds_toArray, List.set_cons_zero, List.set_cons_succ]
        refine wpAnyH_take (i := 5) (v := ?vc5) (by simp only [List.getElem?_toArray, List.getElem?_cons_succ, List.getElem?_cons_zero]; rfl) (by kernel_rfl) (by kernel_rfl) (by kernel_rfl) (by exact fun _ _ _ h => h) (Or.inl ⟨by rfl, ?hyc5⟩) (by assumption) ?restc5
        case hyc5 => (intro w hSw; (try dsimp only at hSw); go_simp; try with_reducible rfl)
        try simp only [Act.put, List.setIfInBounds_toArray, List.set_cons_zero, List.set_cons_succ]
        refine wpAnyH_take (i := 6) (v := ?vc6) (by simp only [List.getElem?_toArray, List.getElem?_cons_succ, List.getElem?_cons_zero]; rfl) (by kernel_rfl) (by kernel_rfl) (by kernel_rfl) (by exact fun _ _ _ h => h) (Or.inl ⟨by rfl, ?hyc6⟩) (by assumption) ?restc6
        case hyc6 => (intro w hSw; (try dsimp only at hSw); go_simp; try with_reducible rfl)
        try simp only [Act.put, List.setIfInBounds_toArray, List.set_cons_zero, List.set_cons_succ]
        refine wpAnyH_take (i := 7) (v := ?vc7) (by simp only [List.getElem?_toArray, List.getElem?_cons_succ, List.getElem?_cons_zero]; rfl) (by kernel_rfl) (by kernel_rfl) (by kernel_rfl) (by exact fun _ _ _ h => h) (Or.inl ⟨by rfl, ?hyc7⟩) (by assumption) ?restc7
        case hyc7 => (intro w hSw; (try dsimp only at hSw); go_simp; try with_reducible rfl)
        try simp only [Act.put, List.setIfInBounds_toArray, List.set_cons_zero, List.set_cons_succ]
        refine wpAnyH_take (i := 8) (v := ?vc8) (by simp only [List.getElem?_toArray, List.getElem?_cons_succ, List.getElem?_cons_zero]; rfl) (by kernel_rfl) (by kernel_rfl) (by kernel_rfl) (by exact fun _ _ _ h => h) (Or.inl ⟨by rfl, ?hyc8⟩) (by assumption) ?restc8
        case hyc8 => (intro w hSw; (try dsimp only at hSw); go_simp; try with_reducible rfl)
        try simp only [Act.put, List.setIfInBounds_toArray, List.set_cons_zero, List.set_cons_succ]
        refine wpAnyH_take (i := 9) (v := ?vc9) (by simp only [List.getElem?_toArray, List.getElem?_cons_succ, List.getElem?_cons_zero]; rfl) (by kernel_rfl) (by kernel_rfl) (by kernel_rfl) (by exact fun _ _ _ h => h) (Or.inl ⟨by rfl, ?hyc9⟩) (by assumption) ?restc9
        case hyc9 => (intro w hSw; (try dsimp only at hSw); go_simp; try with_reducible rfl)
        try simp only [Act.put, List.setIfInBounds_toArray, List.set_cons_zero, List.set_cons_succ]
        refine wpAnyH_take (i := 10) (v := ?vc10) (by simp only [List.getElem?_toArray, List.getElem?_cons_succ, List.getElem?_cons_zero]; rfl) (by kernel_rfl) (by kernel_rfl) (by kernel_rfl) (by exact fun _ _ _ h => h) (Or.inl ⟨by rfl, ?hyc10⟩) (by assumption) ?restc10
        case hyc10 => (intro w hSw; (try dsimp only at hSw); go_simp; try with_reducible rfl)
        try simp only [Act.put, List.setIfInBounds_toArray, List.set_cons_zero, List.set_cons_succ]
        refine wpAnyH_take (i := 11) (v := ?vc11) (by simp only [List.getElem?_toArray, List.getElem?_cons_succ, List.getElem?_cons_zero]; rfl) (by kernel_rfl) (by kernel_rfl) (by kernel_rfl) (by exact fun _ _ _ h => h) (Or.inl ⟨by rfl, ?hyc11⟩) (by assumption) ?restc11
        case hyc11 => (intro w hSw; (try dsimp only at hSw); go_simp; try with_reducible rfl)
        try simp only [Act.put, List.setIfInBounds_toArray, List.set_cons_zero, List.set_cons_succ]
        refine wpAnyH_take (i := 12) (v := ?vc12) (by simp only [List.getElem?_toArray, List.getElem?_cons_succ, List.getElem?_cons_zero]; rfl) (by kernel_rfl) (by kernel_rfl) (by kernel_rfl) (by exact fun _ _ _ h => h) (Or.inl ⟨by rfl, ?hyc12⟩) (by assumption) ?restc12
        case hyc12 => (intro w hSw; (try dsimp only at hSw); go_simp; try with_reducible rfl)
        try simp only [Act.put, List.setIfInBounds_toArray, List.set_cons_zero, List.set_cons_succ]
        refine wpAnyH_ready (rs := [13]) (by kernel_rfl) (by simp) ?_
        refine AllReadyH.cons rfl (fun K hK => ?_) AllReadyH.nil
        go_simp
        (with_reducible refine (CTL.out _ hfd).mono ?_); rintro e w4 ⟨rfl, hf4⟩; have HF4 := Lib.hid (hfd.trans hf4); have hf4' := hfd.trans hf4; obtain ⟨b0, b1, p2, p3, lQ, lT⟩ := PP.out w4 hf4'; clear hf4
        refine hK.out _ _ ?hSc_1 (fun hHeldc_1 => ?_)
        case hSc_1 => exact ⟨b0, b1, p2, p3⟩
        clear hK K hHeldc
        try simp only [Act.put, List.setIfInBounds_toArray, List.set_cons_zero, List.set_cons_succ]
        refine wpAnyH_ready (rs := [14]) (by kernel_rfl) (by simp) ?_
        refine AllReadyH.cons rfl (fun K hK => ?_) AllReadyH.nil
        go_simp
        (with_reducible refine (INX.out _).mono ?_); rintro e wx ⟨rfl, rfl⟩
        refine hK.out _ _ ?hSc_2 (fun hHeldc_2 => ?_)
        case hSc_2 => exact ⟨b0, b1, p2, p3⟩
        clear hK K hHeldc_1
        try simp only [Act.put, List.setIfInBounds_toArray, List.set_cons_zero, List.set_cons_succ]
        refine wpAnyH_take (i := 15) (v := ?vc15) (by simp only [List.getElem?_toArray, List.getElem?_cons_succ, List.getElem?_cons_zero]; rfl) (by kernel_rfl) (by kernel_rfl) (by kernel_rfl) (by exact fun _ _ _ h => h) (Or.inl ⟨by rfl, ?hyc15⟩) (by assumption) ?restc15
        case hyc15 => (intro w hSw; (try dsimp only at hSw); go_simp; try with_reducible rfl)
        try simp only [Act.put, List.setIfInBounds_toArray, List.set_cons_zero, List.set_cons_succ]
        refine wpAnyH_take (i := 16) (v := ?vc16) (by simp only [List.getElem?_toArray, List.getElem?_cons_succ, List.getElem?_cons_zero]; rfl) (by kernel_rfl) (by kernel_rfl) (by kernel_rfl) (by exact fun _ _ _ h => h) (Or.inl ⟨by rfl, ?hyc16⟩) (by assumption) ?restc16
        case hyc16 => (intro w hSw; (try dsimp only at hSw); go_simp; try with_reducible rfl)
        try simp only [Act.put, List.setIfInBounds_toArray, List.set_cons_zero, List.set_cons_succ]
        refine wpAnyH_take (i := 17) (v := ?vc17) (by simp only [List.getElem?_toArray, List.getElem?_cons_succ, List.getElem?_cons_zero]; rfl) (by kernel_rfl) (by kernel_rfl) (by kernel_rfl) (by exact fun _ _ _ h => h) (Or.inl ⟨by rfl, ?hyc17⟩) (by assumption) ?restc17
        case hyc17 => (intro w hSw; (try dsimp only at hSw); go_simp; try with_reducible rfl)
        try simp only [Act.put, List.setIfInBounds_toArray, List.set_cons_zero, List.set_cons_succ]
        refine wpAnyH_take (i := 18) (v := undef) (by simp only [List.getElem?_toArray, List.getElem?_cons_succ, List.getElem?_cons_zero]; rfl) (by kernel_rfl) (by kernel_rfl) (by kernel_rfl) (by exact fun _ _ _ h => h) (Or.inr ⟨by rfl, rfl⟩) (by assumption) ?_
        try simp only [Act.put, List.setIfInBounds_toArray, List.set_cons_zero, List.set_cons_succ]
        refine wpAnyH_take (i := 19) (v := undef) (by simp only [List.getElem?_toArray, List.getElem?_cons_succ, List.getElem?_cons_zero]; rfl) (by kernel_rfl) (by kernel_rfl) (by kernel_rfl) (by exact fun _ _ _ h => h) (Or.inr ⟨by rfl, rfl⟩) (by assumption) ?_
        try simp only [Act.put, List.setIfInBounds_toArray, List.set_cons_zero, List.set_cons_succ]
        refine wpAnyH_take (i := 20) (v := undef) (by simp only [List.getElem?_toArray, List.getElem?_cons_succ, List.getElem?_cons_zero]; rfl) (by kernel_rfl) (by kernel_rfl) (by kernel_rfl) (by exact fun _ _ _ h => h) (Or.inr ⟨by rfl, rfl⟩) (by assumption) ?_
        try simp only [Act.put, List.setIfInBounds_toArray, List.set_cons_zero, List.set_cons_succ]
        refine wpAnyH_take (i := 21) (v := undef) (by simp only [List.getElem?_toArray, List.getElem?_cons_succ, List.getElem?_cons_zero]; rfl) (by kernel_rfl) (by kernel_rfl) (by kernel_rfl) (by exact fun _ _ _ h => h) (Or.inr ⟨by rfl, rfl⟩) (by assumption) ?_
        try simp only [Act.put, List.setIfInBounds_toArray, List.set_cons_zero, List.set_cons_succ]
        refine wpAnyH_take (i := 22) (v := undef) (by simp only [List.getElem?_toArray, List.getElem?_cons_succ, List.getElem?_cons_zero]; rfl) (by kernel_rfl) (by kernel_rfl) (by kernel_rfl) (by exact fun _ _ _ h => h) (Or.inr ⟨by rfl, rfl⟩) (by assumption) ?_
        try simp only [Act.put, List.setIfInBounds_toArray, List.set_cons_zero, List.set_cons_succ]
        refine wpAnyH_take (i := 23) (v := undef) (by simp only [List.getElem?_toArray, List.getElem?_cons_succ, List.getElem?_cons_zero]; rfl) (by kernel_rfl) (by kernel_rfl) (by kernel_rfl) (by exact fun _ _ _ h => h) (Or.inr ⟨by rfl, rfl⟩) (by assumption) ?_
        try simp only [Act.put, List.setIfInBounds_toArray, List.set_cons_zero, List.set_cons_succ]
        refine wpAnyH_take (i := 24) (v := undef) (by simp only [List.getElem?_toArray, List.getElem?_cons_succ, List.getElem?_cons_zero]; rfl) (by kernel_rfl) (by kernel_rfl) (by kernel_rfl) (by exact fun _ _ _ h => h) (Or.inr ⟨by rfl, rfl⟩) (by assumption) ?_
        try simp only [Act.put, List.setIfInBounds_toArray, List.set_cons_zero, List.set_cons_succ]
        refine wpAnyH_take (i := 25) (v := undef) (by simp only [List.getElem?_toArray, List.getElem?_cons_succ, List.getElem?_cons_zero]; rfl) (by kernel_rfl) (by kernel_rfl) (by kernel_rfl) (by exact fun _ _ _ h => h) (Or.inr ⟨by rfl, rfl⟩) (by assumption) ?_
        try simp only [Act.put, List.setIfInBounds_toArray, List.set_cons_zero, List.set_cons_succ]
        refine wpAnyH_take (i := 26) (v := undef) (by simp only [List.getElem?_toArray, List.getElem?_cons_succ, List.getElem?_cons_zero]; rfl) (by kernel_rfl) (by kernel_rfl) (by kernel_rfl) (by exact fun _ _ _ h => h) (Or.inr ⟨by rfl, rfl⟩) (by assumption) ?_
        try simp only [Act.put, List.setIfInBounds_toArray, List.set_cons_zero, List.set_cons_succ]
        refine wpAnyH_take (i := 27) (v := ?vc27) (by simp only [List.getElem?_toArray, List.getElem?_cons_succ, List.getElem?_cons_zero]; rfl) (by kernel_rfl) (by kernel_rfl) (by kernel_rfl) (by exact fun _ _ _ h => h) (Or.inl ⟨by rfl, ?hyc27⟩) (by assumption) ?restc27
        case hyc27 => (intro w hSw; (try dsimp only at hSw); go_simp; try with_reducible rfl)
        try simp only [Act.put, List.setIfInBounds_toArray, List.set_cons_zero, List.set_cons_succ]
        refine wpAnyH_done (by kernel_rfl) ?_ _
        obtain ⟨⟨a0, a1, a2⟩, f0, f1, f2⟩ := RET.out w4 HF4.out
        have HD := Lib.hid (HFW.out.trans HF4.out)
        go_wp2_with fail
        refine bodyPost_ret (v := .tuple #[RV 0 0 none 0 0, .bool false]) (by simp [results, Tryd.results19, go_sem, a0, a1, a2]) rfl ?_
        exact HE.out _ HD.out
  · have hfa : Fr No w1 (w1.alloc (.cells #[S a, .slice TA m c] 82)) := (Fr.refl _ _).alloc _
    have HE := Lib.hid (FAIL.out (HO.out.no (fun t _ _ _ _ h _ _ _ _ _ => hno t h)))
    have HF1 := Lib.hid (HF0.out.trans hf1)
    have HB1 := Lib.hid (HB0.out.fr hf1 (fun h => h))
    have HFA := Lib.hid hfa
    clear hno hf1 hfa TY
    go_wp2_with fail
    refine (LS.out _ (HF1.out.trans HFA.out)).mono ?_
    generalize hW : w1.alloc (.cells #[S a, .slice TA m c] 82) = W at *
    rintro e w2 ⟨hf2, Q, b, rfl, hb1, hb0⟩
    have HFW := Lib.hid ((HF1.out.trans HFA.out).trans hf2)
    obtain ⟨⟨a0, a1, a2⟩, f0, f1, f2⟩ := ret_fct (HB1.out.fr ((HFA.out.trans hf2).drew) (fun h => h))
    have HD := Lib.hid (HFW.out.drew)
    clear hf2 hb1 hb0
    go_wp2_with fail
    refine wp_region_held_drew (S := (fun _ => True)) (by kernel_rfl) ?hSa (fun hHelda => ?_)
    case hSa => (first | exact trivial | (dsimp only; exact trivial))
    refine wpAnyH_take (i := 0) (v := ?va0) (by simp only [List.getElem?_toArray, List.getElem?_cons_zero]; rfl) (by kernel_rfl) (by kernel_rfl) (by kernel_rfl) (by exact fun _ _ _ h => h) (Or.inl ⟨by rfl, ?hya0⟩) (by assumption) ?resta0
    case hya0 => (intro w hSw; (try dsimp only at hSw); go_simp; try with_reducible rfl)
    try simp only [Act.put, List.setIfInBounds_toArray, List.set_cons_zero, List.set_cons_succ]
    refine wpAnyH_take (i := 1) (v := ?va1) (by simp only [List.getElem?_toArray, List.getElem?_cons_succ, List.getElem?_cons_zero]; rfl) (by kernel_rfl) (by kernel_rfl) (by kernel_rfl) (by exact fun _ _ _ h => h) (Or.inl ⟨by rfl, ?hya1⟩) (by assumption) ?resta1
    case hya1 => (intro w hSw; (try dsimp only at hSw); go_simp; try with_reducible rfl)
    try simp only [Act.put, List.setIfInBounds_toArray, List.set_cons_zero, List.set_cons_succ]
    refine wpAnyH_take (i := 2) (v := ?va2) (by simp only [List.getElem?_toArray, List.getElem?_cons_succ, List.getElem?_cons_zero]; rfl) (by kernel_rfl) (by kernel_rfl) (by kernel_rfl) (by exact fun _ _ _ h => h) (Or.inl ⟨by rfl, ?hya2⟩) (by assumption) ?resta2
    case hya2 => (intro w hSw; (try dsimp only at hSw); go_simp; try with_reducible rfl)
    try simp only [Act.put, List.setIfInBounds_toArray, List.set_cons_zero, List.set_cons_succ]
    refine wpAnyH_take (i := 3) (v := undef) (by simp only [List.getElem?_toArray, List.getElem?_cons_succ, List.getElem?_cons_zero]; rfl) (by kernel_rfl) (by kernel_rfl) (by kernel_rfl) (by exact fun _ _ _ h => h) (Or.inr ⟨by rfl, rfl⟩) (by assumption) ?_
    try simp only [Act.put, List.setIfInBounds_toArray, List.set_cons_zero, List.set_cons_succ]
    refine wpAnyH_take (i := 4) (v := undef) (by simp only [List.getElem?_toArray, List.getElem?_cons_succ, List.getElem?_cons_zero]; rfl) (by kernel_rfl) (by kernel_rfl) (by kernel_rfl) (by exact fun _ _ _ h => h) (Or.inr ⟨by rfl, rfl⟩) (by assumption) ?_
    try simp only [Act.put, List.setIfInBounds_toArray, List.set_cons_zero, List.set_cons_succ]
    refine wpAnyH_take (i := 5) (v := ?va5) (by simp only [List.getElem?_toArray, List.getElem?_cons_succ, List.getElem?_cons_zero]; rfl) (by kernel_rfl) (by kernel_rfl) (by kernel_rfl) (by exact fun _ _ _ h => h) (Or.inl ⟨by rfl, ?hya5⟩) (by assumption) ?resta5
    case hya5 => (intro w hSw; (try dsimp only at hSw); go_simp; try with_reducible rfl)
    try simp only [Act.put, List.setIfInBounds_toArray, List.set_cons_zero, List.set_cons_succ]
    refine wpAnyH_take (i := 6) (v := ?va6) (by simp only [List.getElem?_toArray, List.getElem?_cons_succ, List.getElem?_cons_zero]; rfl) (by kernel_rfl) (by kernel_rfl) (by kernel_rfl) (by exact fun _ _ _ h => h) (Or.inl ⟨by rfl, ?hya6⟩) (by assumption) ?resta6
    case hya6 => (intro w hSw; (try dsimp only at hSw); go_simp; try with_reducible rfl)
    try simp only [Act.put, List.setIfInBounds_toArray, List.set_cons_zero, List.set_cons_succ]
    refine wpAnyH_take (i := 7) (v := undef) (by simp only [List.getElem?_toArray, List.getElem?_cons_succ, List.getElem?_cons_zero]; rfl) (by kernel_rfl) (by kernel_rfl) (by kernel_rfl) (by exact fun _ _ _ h => h) (Or.inr ⟨by rfl, rfl⟩) (by assumption) ?_
    try simp only [Act.put, List.setIfInBounds_toArray, List.set_cons_zero, List.set_cons_succ]
    refine wpAnyH_take (i := 8) (v := undef) (by simp only [List.getElem?_toArray, List.getElem?_cons_succ, List.getElem?_cons_zero]; rfl) (by kernel_rfl) (by kernel_rfl) (by kernel_rfl) (by exact fun _ _ _ h => h) (Or.inr ⟨by rfl, rfl⟩) (by assumption) ?_
    try simp only [Act.put, List.setIfInBounds_toArray, List.set_cons_zero, List.set_cons_succ]
    refine wpAnyH_take (i := 9) (v := undef) (by simp only [List.getElem?_toArray, List.getElem?_cons_succ, List.getElem?_cons_zero]; rfl) (by kernel_rfl) (by kernel_rfl) (by kernel_rfl) (by exact fun _ _ _ h => h) (Or.inr ⟨by rfl, rfl⟩) (by assumption) ?_
    try simp only [Act.put, List.setIfInBounds_toArray, List.set_cons_zero, List.set_cons_succ]
    refine wpAnyH_take (i := 10) (v := undef) (by simp only [List.getElem?_toArray, List.getElem?_cons_succ, List.getElem?_cons_zero]; rfl) (by kernel_rfl) (by kernel_rfl) (by kernel_rfl) (by exact fun _ _ _ h => h) (Or.inr ⟨by rfl, rfl⟩) (by assumption) ?_
    try simp only [Act.put, List.setIfInBounds_toArray, List.set_cons_zero, List.set_cons_succ]
    refine wpAnyH_take (i := 11) (v := undef) (by simp only [List.getElem?_toArray, List.getElem?_cons_succ, List.getElem?_cons_zero]; rfl) (by kernel_rfl) (by kernel_rfl) (by kernel_rfl) (by exact fun _ _ _ h => h) (Or.inr ⟨by rfl, rfl⟩) (by assumption) ?_
    try simp only [Act.put, List.setIfInBounds_toArray, List.set_cons_zero, List.set_cons_succ]
    refine wpAnyH_take (i := 12) (v := undef) (by simp only [List.getElem?_toArray, List.getElem?_cons_succ, List.getElem?_cons_zero]; rfl) (by kernel_rfl) (by kernel_rfl) (by kernel_rfl) (by exact fun _ _ _ h => h) (Or.inr ⟨by rfl, rfl⟩) (by assumption) ?_
    try simp only [Act.put, List.setIfInBounds_toArray, List.set_cons_zero, List.set_cons_succ]
    refine wpAnyH_take (i := 13) (v := undef) (by simp only [List.getElem?_toArray, List.getElem?_cons_succ, List.getElem?_cons_zero]; rfl) (by kernel_rfl) (by kernel_rfl) (by kernel_rfl) (by exact fun _ _ _ h => h) (Or.inr ⟨by rfl, rfl⟩) (by assumption) ?_
    try simp only [Act.put, List.setIfInBounds_toArray, List.set_cons_zero, List.set_cons_succ]
    refine wpAnyH_take (i := 14) (v := undef) (by simp only [List.getElem?_toArray, List.getElem?_cons_succ, List.getElem?_cons_zero]; rfl) (by kernel_rfl) (by kernel_rfl) (by kernel_rfl) (by exact fun _ _ _ h => h) (Or.inr ⟨by rfl, rfl⟩) (by assumption) ?_
    try simp only [Act.put, List.setIfInBounds_toArray, List.set_cons_zero, List.set_cons_succ]
    refine wpAnyH_take (i := 15) (v := undef) (by simp only [List.getElem?_toArray, List.getElem?_cons_succ, List.getElem?_cons_zero]; rfl) (by kernel_rfl) (by kernel_rfl) (by kernel_rfl) (by exact fun _ _ _ h => h) (Or.inr ⟨by rfl, rfl⟩) (by assumption) ?_
    try simp only [Act.put, List.setIfInBounds_toArray, List.set_cons_zero, List.set_cons_succ]
    refine wpAnyH_take (i := 16) (v := ?va16) (by simp only [List.getElem?_toArray, List.getElem?_cons_succ, List.getElem?_cons_zero]; rfl) (by kernel_rfl) (by kernel_rfl) (by kernel_rfl) (by exact fun _ _ _ h => h) (Or.inl ⟨by rfl, ?hya16⟩) (by assumption) ?resta16
    case hya16 => (intro w hSw; (try dsimp only at hSw); go_simp; try with_reducible rfl)
    try simp only [Act.put, List.setIfInBounds_toArray, List.set_cons_zero, List.set_cons_succ]
    refine wpAnyH_take (i := 17) (v := ?va17) (by simp only [List.getElem?_toArray, List.getElem?_cons_succ, List.getElem?_cons_zero]; rfl) (by kernel_rfl) (by kernel_rfl) (by kernel_rfl) (by exact fun _ _ _ h => h) (Or.inl ⟨by rfl, ?hya17⟩) (by assumption) ?resta17
    case hya17 => (intro w hSw; (try dsimp only at hSw); go_simp; try with_reducible rfl)
    try simp only [Act.put, List.setIfInBounds_toArray, List.set_cons_zero, List.set_cons_succ]
    refine wpAnyH_take (i := 18) (v := undef) (by simp only [List.getElem?_toArray, List.getElem?_cons_succ, List.getElem?_cons_zero]; rfl) (by kernel_rfl) (by kernel_rfl) (by kernel_rfl) (by exact fun _ _ _ h => h) (Or.inr ⟨by rfl, rfl⟩) (by assumption) ?_
    try simp only [Act.put, List.setIfInBounds_toArray, List.set_cons_zero, List.set_cons_succ]
    refine wpAnyH_take (i := 19) (v := undef) (by simp only [List.getElem?_toArray, List.getElem?_cons_succ, List.getElem?_cons_zero]; rfl) (by kernel_rfl) (by kernel_rfl) (by kernel_rfl) (by exact fun _ _ _ h => h) (Or.inr ⟨by rfl, rfl⟩) (by assumption) ?_
    try simp only [Act.put, List.setIfInBounds_toArray, List.set_cons_zero, List.set_cons_succ]
    refine wpAnyH_take (i := 20) (v := undef) (by simp only [List.getElem?_toArray, List.getElem?_cons_succ, List.getElem?_cons_zero]; rfl) (by kernel_rfl) (by kernel_rfl) (by kernel_rfl) (by exact fun _ _ _ h => h) (Or.inr ⟨by rfl, rfl⟩) (by assumption) ?_
    try simp only [Act.put, List.setIfInBounds_toArray, List.set_cons_zero, List.set_cons_succ]
    refine wpAnyH_take (i := 21) (v := undef) (by simp only [List.getElem?_toArray, List.getElem?_cons_succ, List.getElem?_cons_zero]; rfl) (by kernel_rfl) (by kernel_rfl) (by kernel_rfl) (by exact fun _ _ _ h => h) (Or.inr ⟨by rfl, rfl⟩) (by assumption) ?_
    try simp only [Act.put, List.setIfInBounds_toArray, List.set_cons_zero, List.set_cons_succ]
    refine wpAnyH_take (i := 22) (v := undef) (by simp only [List.getElem?_toArray, List.getElem?_cons_succ, List.getElem?_cons_zero]; rfl) (by kernel_rfl) (by kernel_rfl) (by kernel_rfl) (by exact fun _ _ _ h => h) (Or.inr ⟨by rfl, rfl⟩) (by assumption) ?_
    try simp only [Act.put, List.setIfInBounds_toArray, List.set_cons_zero, List.set_cons_succ]
    refine wpAnyH_take (i := 23) (v := undef) (by simp only [List.getElem?_toArray, List.getElem?_cons_succ, List.getElem?_cons_zero]; rfl) (by kernel_rfl) (by kernel_rfl) (by kernel_rfl) (by exact fun _ _ _ h => h) (Or.inr ⟨by rfl, rfl⟩) (by assumption) ?_
    try simp only [Act.put, List.setIfInBounds_toArray, List.set_cons_zero, List.set_cons_succ]
    refine wpAnyH_take (i := 24) (v := undef) (by simp only [List.getElem?_toArray, List.getElem?_cons_succ, List.getElem?_cons_zero]; rfl) (by kernel_rfl) (by kernel_rfl) (by kernel_rfl) (by exact fun _ _ _ h => h) (Or.inr ⟨by rfl, rfl⟩) (by assumption) ?_
    try simp only [Act.put, List.setIfInBounds_toArray, List.set_cons_zero, List.set_cons_succ]
    refine wpAnyH_take (i := 25) (v := undef) (by simp only [List.getElem?_toArray, List.getElem?_cons_succ, List.getElem?_cons_zero]; rfl) (by kernel_rfl) (by kernel_rfl) (by kernel_rfl) (by exact fun _ _ _ h => h) (Or.inr ⟨by rfl, rfl⟩) (by assumption) ?_
    try simp only [Act.put, List.setIfInBounds_toArray, List.set_cons_zero, List.set_cons_succ]
    refine wpAnyH_take (i := 26) (v := undef) (by simp only [List.getElem?_toArray, List.getElem?_cons_succ, List.getElem?_cons_zero]; rfl) (by kernel_rfl) (by kernel_rfl) (by kernel_rfl) (by exact fun _ _ _ h => h) (Or.inr ⟨by rfl, rfl⟩) (by assumption) ?_
    try simp only [Act.put, List.setIfInBounds_toArray, List.set_cons_zero, List.set_cons_succ]
    refine wpAnyH_take (i := 27) (v := ?va27) (by simp only [List.getElem?_toArray, List.getElem?_cons_succ, List.getElem?_cons_zero]; rfl) (by kernel_rfl) (by kernel_rfl) (by kernel_rfl) (by exact fun _ _ _ h => h) (Or.inl ⟨by rfl, ?hya27⟩) (by assumption) ?resta27
    case hya27 => (intro w hSw; (try dsimp only at hSw); go_simp; try with_reducible rfl)
    try simp only [Act.put, List.setIfInBounds_toArray, List.set_cons_zero, List.set_cons_succ]
    refine wpAnyH_done (by kernel_rfl) ?_ _
    generalize w2.drew = wd at *
    go_wp2_with fail
    refine bodyPost_ret (v := .tuple #[RV 0 0 none 0 0, .bool false]) (by simp [results, Tryd.results19, go_sem, a0, a1, a2]) rfl ?_
    exact HE.out _ HD.out
end Go.Proofs.YtloecimlimoanaaDoor
