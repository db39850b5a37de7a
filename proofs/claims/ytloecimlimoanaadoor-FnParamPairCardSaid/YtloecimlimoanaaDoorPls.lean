/- ParamList of the model. -/
import Derived.Test.YtloecimlimoanaaDoorLrm
import Derived.Test.YtloecimlimoanaaDoorLawPp
import Derived.Lib.SliceRun
namespace Go.Proofs.YtloecimlimoanaaDoor
open Go.RowKit Go.ChangeMaps Go.Shelf

/-- a row of integers in its block -/
def RowI (w : World) (g c : Nat) (xs : List Int) : Prop := ∃ cs : Array Value, Blk w g 3 cs ∧ cs.size = c ∧ c ≤ maxLen ∧ xs.length ≤ c ∧ ∀ (j : Nat) (x : Int), xs[j]? = some x → cs[j]? = some (.int .i64 x)

theorem RowI.or {w : World} {g c B : Nat} {xs : List Int} (h : RowI w g c xs) (hB : B ≤ g) : OR w B (some ⟨g, 0, none⟩) xs.length c xs := by
  obtain ⟨cs, h1, h2, h3, h4, h5⟩ := h
  refine ⟨rfl, by simp, .inr ⟨g, c, cs, rfl, hB, h1, h4, h3, by simpa using h2, ?_⟩⟩
  apply List.ext_getElem?
  intro j
  rw [List.getElem?_take]
  by_cases hj : j < xs.length
  · rw [if_pos (by simpa using hj), List.getElem?_map, Array.getElem?_toList, h5 j xs[j] (List.getElem?_eq_getElem hj), List.getElem?_eq_getElem hj]
    rfl
  · rw [if_neg (by simpa using hj), List.getElem?_eq_none (by simpa using hj)]

theorem RowI.of_or {w : World} {g c B n : Nat} {xs : List Int} (h : OR w B (some ⟨g, 0, none⟩) n c xs) : RowI w g c xs ∧ B ≤ g ∧ n = xs.length := by
  obtain ⟨rfl, h⟩ := h
  have h1 := h.1
  rcases h.2 with ⟨hv, _⟩ | ⟨g', cap, cur, hv, h2, h3, h4, h5, h6, h7⟩
  · cases hv
  · injection hv with e1 e2 e3
    injection e1 with e1
    injection e1 with e1
    subst e1 e3
    refine ⟨⟨cur, h3, by simpa using h6, h5, h4, fun j x hj => ?_⟩, h2, rfl⟩
    have hl := (List.getElem?_eq_some_iff.1 hj).1
    have := congrArg (·[j]?) h7
    simp only [List.getElem?_take, List.getElem?_map, hj, Array.getElem?_toList] at this
    rw [if_pos (by simpa using hl)] at this
    exact this

theorem RowI.fr {w w' : World} {g c : Nat} {xs : List Int} {T : Nat → Prop} (h : RowI w g c xs) (hf : Fr T w w') (hT : ¬ T g) : RowI w' g c xs := by
  obtain ⟨cs, h1, h2⟩ := h
  exact ⟨cs, h1.fr hf hT, h2⟩


theorem no_one {T : Nat → Prop} {w w' : World} (h : Fr No w w') : Fr T w w' := h.mono (fun _ _ h => h.elim)

/-- the elements that the first k relations relate to themselves -/
def plK (t : Ty) (n c k : Nat) : List Nat := (List.range c).filter fun x => (List.range k).all fun k' => relT (sz1 n) (sz1 n) (numR n n k') t x x
def plL (t : Ty) (n c k : Nat) : List Int := (plK t n c k).map Int.ofNat

theorem plL_zero (t : Ty) (n c : Nat) : plL t n c 0 = (List.range c).map Int.ofNat := by
  unfold plL plK
  rw [List.filter_eq_self.2 (fun x _ => by simp)]

theorem plL_len (t : Ty) (n c k : Nat) : (plL t n c k).length ≤ c := by
  unfold plL plK
  rw [List.length_map]
  exact Nat.le_trans (List.length_filter_le _ _) (by simp)

theorem plL_mem {t : Ty} {n c k : Nat} {z : Int} (h : z ∈ plL t n c k) : ∃ x : Nat, z = x ∧ x < c := by
  unfold plL plK at h
  obtain ⟨x, hx, rfl⟩ := List.mem_map.1 h
  exact ⟨x, rfl, List.mem_range.1 (List.mem_filter.1 hx).1⟩

/-- an element is not related to itself -/
def plP (t : Ty) (n k : Nat) (z : Int) : Bool := !relT (sz1 n) (sz1 n) (numR n n k) t z.toNat z.toNat

theorem plL_more (t : Ty) (n c k : Nat) : ((plL t n c k).filter fun z => !plP t n k z) = plL t n c (k + 1) := by
  unfold plL plK
  rw [List.filter_map, List.filter_filter]
  congr 1
  apply List.filter_congr
  intro x _
  rw [List.range_succ, List.all_append]
  simp [plP, Bool.and_comm]

/-- what ParamList answers -/
def PlO (s : List UInt8) (n : Int) (Po : List Int) (bo : Bool) : Prop :=
  (∃ (t : Ty) (nN c : Nat), Ty.Is s t ∧ OnlyA t ∧ n = nN ∧ 1 ≤ nN ∧ nN ≤ 3 ∧ t.kn (sz1 nN) = some c ∧ c ≤ 300 ∧ Po = plL t nN c (nrel t nN nN) ∧ bo = true) ∨
    ((∀ (t : Ty) (nN c : Nat), Ty.Is s t → OnlyA t → n = nN → 1 ≤ nN → nN ≤ 3 → t.kn (sz1 nN) = some c → c ≤ 300 → False) ∧ Po = [] ∧ bo = false)

def AnsPl (s : List UInt8) (n : Int) (w : World) (e : Ending) (w' : World) : Prop := ∃ Po bo A q c, PlO s n Po bo ∧ e = .returned (.tuple #[.slice A q c, .bool bo]) ∧ Fr No w w' ∧ OR w' w.heap.size A q c Po

theorem PlO.unique {s : List UInt8} {n : Int} {P P' : List Int} {b b' : Bool} (h : PlO s n P b) (h' : PlO s n P' b') : P = P' ∧ b = b' := by
  rcases h with ⟨t, m, c, h1, h2, h3, h4, h5, h6, h7, h8, h9⟩ | ⟨h1, h2, h3⟩
  · rcases h' with ⟨t', m', c', g1, g2, g3, g4, g5, g6, g7, g8, g9⟩ | ⟨g1, _, _⟩
    · have e := g1.unique h1
      subst e
      have e : m' = m := by omega
      subst e
      rw [h6] at g6
      injection g6 with g6
      subst g6
      exact ⟨h8.trans g8.symm, h9.trans g9.symm⟩
    · exact (g1 t m c h1 h2 h3 h4 h5 h6 h7).elim
  · rcases h' with ⟨t', m', c', g1, g2, g3, g4, g5, g6, g7, g8, g9⟩ | ⟨_, g2, g3⟩
    · exact (h1 t' m' c' g1 g2 g3 g4 g5 g6 g7).elim
    · exact ⟨h2.trans g2.symm, h3.trans g3.symm⟩

theorem PlO.ex (s : List UInt8) (n : Int) : ∃ P b, PlO s n P b := by
  by_cases h : ∃ (t : Ty) (nN c : Nat), Ty.Is s t ∧ OnlyA t ∧ n = nN ∧ 1 ≤ nN ∧ nN ≤ 3 ∧ t.kn (sz1 nN) = some c ∧ c ≤ 300
  · obtain ⟨t, m, c, h1, h2, h3, h4, h5, h6, h7⟩ := h
    exact ⟨_, true, .inl ⟨t, m, c, h1, h2, h3, h4, h5, h6, h7, rfl, rfl⟩⟩
  · exact ⟨[], false, .inr ⟨fun t m c h1 h2 h3 h4 h5 h6 h7 => h ⟨t, m, c, h1, h2, h3, h4, h5, h6, h7⟩, rfl, rfl⟩⟩

theorem PlO.len {s : List UInt8} {n : Int} {P : List Int} {b : Bool} (h : PlO s n P b) : P.length ≤ 300 := by
  rcases h with ⟨t, m, c, h1, h2, h3, h4, h5, h6, h7, h8, h9⟩ | ⟨h1, h2, h3⟩
  · rw [h8]
    exact Nat.le_trans (plL_len _ _ _ _) h7
  · rw [h2]; simp


theorem plL_nrel (t : Ty) (n c : Nat) : plL t n c (nrel t n n) = plL t n c (2 ^ (n * n)) := rfl

theorem plL_next (t : Ty) (n c k : Nat) : plL t n (c + 1) k = plL t n c k ++ (if (List.range k).all fun k' => relT (sz1 n) (sz1 n) (numR n n k') t c c then [(c : Int)] else []) := by
  unfold plL plK
  rw [List.range_succ, List.filter_append, List.map_append]
  congr 1
  cases h : (List.range k).all fun k' => relT (sz1 n) (sz1 n) (numR n n k') t c c <;> simp [h]

theorem ct1k_any (W : World) (t : Ty) (hl : t.lets) (A : Option Addr) (c m : Nat) (h1 : 1 ≤ m) (h3 : m ≤ 3) (hA : Sl W (fun b => b < W.heap.size) A t.kids) : Hid (Calls Tryd.prog 60 #[.agg #[S t.atom, .slice A t.kids.len c], .slice (some ⟨W.heap.size, 0, none⟩) 1 1, .slice (some ⟨W.heap.size + 1, 0, none⟩) 1 1] ((W.alloc (.cells #[S [97]] 9)).alloc (.cells #[.int .i64 (m : Int)] 3)) fun e w2 => e = .returned (.int .i64 (cntI (sz1 m) t)) ∧ Fr No W w2) := ct1_any W t hl A c m h1 h3 hA

set_option maxRecDepth 100000 in
set_option maxHeartbeats 4000000 in
theorem specParamList (w : World) (s : List UInt8) (n : Int) (hs : s.length ≤ maxLen) :
    Calls Tryd.prog 77 #[S s, .int .i64 n] w fun e w' => AnsPl s n w e w' := by
  have IN : Hid (∀ (w' : World) (a b c : Int), Calls Tryd.prog 59 #[.int .i64 a, .int .i64 b, .int .i64 c] w' fun e w2 => e = .returned (.bool (decide (b ≤ a ∧ a ≤ c))) ∧ w' = w2) := in_any
  obtain ⟨i0, hi0, hz0, hz1, hz2⟩ := info_parts info_int
  obtain ⟨W0, hW0, hf0, hr0, hz⟩ : ∃ W, W = (w.alloc (.cells #[] 3)) ∧ Fr No w W ∧ RowI W w.heap.size 0 [] ∧ W.heap.size = w.heap.size + 1 :=
    ⟨_, rfl, (Fr.refl No w).alloc _, ⟨#[], Blk.new _ _ _, rfl, by decide, Nat.le_refl _, fun j x h => by simp at h⟩, by simp⟩
  have TY := Lib.hid (type7_any W0 s hs)
  have HF0 := Lib.hid hf0
  have HR0 := Lib.hid hr0
  have HZ := Lib.hid hz
  clear hf0 hr0 hz
  go_enter Tryd.func77, Tryd.ntmps77
  go_wp2_with fail
  rw [← hW0]
  clear hW0
  refine TY.out.mono ?_
  rintro e w1 ⟨hf1, ⟨t, A, c, hi, ho, rfl, hsl⟩ | ⟨a0, A, mt, ct, hno, rfl⟩⟩
  · have HI := Lib.hid hi
    have HO := Lib.hid ho
    have HF1 := Lib.hid (HF0.out.trans hf1)
    have HR1 := Lib.hid (HR0.out.fr hf1 (fun h => h))
    have HSL := Lib.hid hsl
    have hfa : Fr No w1 (w1.alloc (.cells #[S t.atom, .slice A t.kids.len c] 82)) := (Fr.refl _ _).alloc _
    have HFA := Lib.hid hfa
    have hb0 := Blk.new w1 82 #[S t.atom, .slice A t.kids.len c]
    have hlow : W0.heap.size = w.heap.size + 1 := HZ.out
    have hw01 : W0.heap.size ≤ w1.heap.size := hf1.size
    have HB : Hid (∀ w', Fr (One w.heap.size) (w1.alloc (.cells #[S t.atom, .slice A t.kids.len c] 82)) w' → w'.cell? ⟨w1.heap.size, 0, none⟩ = some (S t.atom) ∧ w'.cell? ⟨w1.heap.size, 1, none⟩ = some (.slice A t.kids.len c) ∧ w1.heap.size < w'.heap.size) := fun w' hf => by
      have hb := hb0.fr hf (fun h => by have h : w1.heap.size = w.heap.size := h; omega)
      exact ⟨(hb.cell 0).trans rfl, (hb.cell 1).trans rfl, hb.lt⟩
    have HSW : Hid (∀ w', Fr (One w.heap.size) (w1.alloc (.cells #[S t.atom, .slice A t.kids.len c] 82)) w' → Sl w' (fun b => b < w'.heap.size) A t.kids) := fun w' hf => by
      have hfw : Fr (One w.heap.size) w1 w' := (no_one HFA.out).trans hf
      exact HSL.out.mono (fun b hb => Nat.lt_of_lt_of_le hb.2 hfw.size) (fun b hb => hfw.block b hb.2 (fun h => by have h : b = w.heap.size := h; omega))
    have HLW : Hid (w.heap.size < w1.heap.size) := by show _ < _; omega
    clear hi ho hf1 hsl hfa hb0 TY HF0 HR0 hlow hw01
    by_cases h1 : 1 ≤ n ∧ n ≤ 3
    · have d1 : Hid (decide (1 ≤ n ∧ n ≤ 3) = true) := decide_eq_true h1
      obtain ⟨nN, rfl⟩ : ∃ nN : Nat, n = nN := ⟨n.toNat, by omega⟩
      have HN : Hid (1 ≤ nN ∧ nN ≤ 3) := ⟨by omega, by omega⟩
      clear h1
      go_wp2_with fail
      refine (IN.out _ _ _ _).mono ?_
      rintro e w2 ⟨rfl, rfl⟩
      rw [d1.out]
      obtain ⟨x0, x1, x2⟩ := HB.out _ (Fr.refl _ _)
      generalize w1.alloc (.cells #[S t.atom, .slice A t.kids.len c] 82) = W at *
      go_wp2_with fail
      have HLT : t.lets := HI.out.2.1
      with_reducible refine (ct1_any W t HLT A c nN HN.out.1 HN.out.2 (HSW.out W (Fr.refl _ _))).mono ?_
      rintro e w3 ⟨rfl, hf3⟩
      have HF3 := Lib.hid hf3
      clear hf3 x0 x1 x2
      have hca : -1 ≤ cntI (sz1 nN) t ∧ cntI (sz1 nN) t ≤ 4096 := by
        rcases hc : t.cnt (sz1 nN) with _ | d
        · rw [cntI_none hc]; omega
        · have := t.cnt_bounds (sz1_sizes HN.out.1 HN.out.2) d hc
          rw [cntI_some hc]; omega
      obtain ⟨ca, eca⟩ : ∃ z, z = cntI (sz1 nN) t := ⟨_, rfl⟩
      rw [← eca] at hca ⊢
      obtain ⟨hca1, hca2⟩ := hca
      have ECA : Hid (∀ a, t.cnt (sz1 nN) = some a → ca = a) := fun a h => by rw [eca, cntI_some h]
      have ECA0 : Hid (t.cnt (sz1 nN) = none → ca = -1) := fun h => by rw [eca, cntI_none h]
      have HW3 := Lib.hid (HF1.out.trans (HFA.out.trans HF3.out))
      have HR3 := Lib.hid ((HR1.out.fr HFA.out (fun h => h)).fr HF3.out (fun h => h))
      have hkn : t.kn (sz1 nN) = t.cnt (sz1 nN) := by unfold Ty.kn; rw [if_pos (by have := HI.out.2.2; omega)]
      have HKN := Lib.hid hkn
      clear eca hkn HR1
      by_cases h2 : 1 ≤ ca ∧ ca ≤ 300
      · have d2 : Hid (decide (1 ≤ ca ∧ ca ≤ 300) = true) := decide_eq_true h2
        obtain ⟨cN, hcN⟩ : ∃ a, t.cnt (sz1 nN) = some a := by
          rcases hc : t.cnt (sz1 nN) with _ | d
          · have := ECA0.out hc; omega
          · exact ⟨d, rfl⟩
        have e := ECA.out cN hcN
        subst e
        have HCN := Lib.hid hcN
        have hc3 : (cN : Int) ≤ 300 := h2.2
        have HC3 : Hid (cN ≤ 300) := by show _ ≤ _; omega
        have HQ : Hid (2 ^ (nN * nN) = 2 ^ (nN * nN)) := rfl
        clear h2 hcN
        go_wp2_with fail
        refine (IN.out _ _ _ _).mono ?_
        rintro e w5 ⟨rfl, rfl⟩
        rw [d2.out]
        go_wp2_with fail
        go_loopw [6, 10] (fun v u wr => ∃ (x q cp : Nat) (B : Option Addr), x ≤ cN ∧ u = .int .i64 x ∧ v = .slice B q cp ∧ Fr (One w.heap.size) w3 wr ∧ OR wr w.heap.size B q cp (plL t nN x (2 ^ (nN * nN))) ∧ ∀ b, Own B b → b = w.heap.size ∨ w3.heap.size ≤ b) (fun _ u _ => cN - (intOf u).toNat)
        case atStart => exact ⟨0, 0, 0, some ⟨w.heap.size, 0, none⟩, Nat.zero_le _, rfl, rfl, Fr.refl _ _, HR3.out.or (Nat.le_refl _), fun b ⟨a, ha, hb⟩ => by injection ha with ha; subst ha; exact .inl hb.symm⟩
        case round =>
          obtain ⟨x, q, cp, B, hx, rfl, rfl, hfr, hor, how⟩ := hrel
          have HOW := Lib.hid how
          have HFR := Lib.hid hfr
          have HOR := Lib.hid hor
          have hql : q ≤ 300 := by have := hor.1; have := plL_len t nN x (2 ^ (nN * nN)); have := HC3.out; omega
          clear hfr hor how
          by_cases hlt : x < cN
          · have hxI : (x : Int) < (cN : Int) := by omega
            obtain ⟨x0, x1, x2⟩ := HB.out wr ((no_one HF3.out).trans HFR.out)
            have L7 := Lib.hid (l7pair_any wr t A c nN nN x x cN cN HI.out.2.1 HN.out.1 HN.out.2 HN.out.1 HN.out.2 (HSW.out wr ((no_one HF3.out).trans HFR.out)) HCN.out HCN.out hlt hlt)
            go_wp2_with fail
            refine L7.out.mono ?_
            rintro e w5 ⟨⟨b, rfl, hb⟩, hf5⟩
            have hown := (HOR.out.no hf5).2
            have HF5 := Lib.hid (HFR.out.trans (no_one hf5))
            have h35 : w3.heap.size ≤ w5.heap.size := HF5.out.size
            have h05 : w.heap.size ≤ w5.heap.size := Nat.le_trans HW3.out.size h35
            have HOR5 := Lib.hid (HOR.out.no hf5)
            clear hf5 x0 x1 x2 L7
            cases b with
            | true =>
              have HNX : Hid (plL t nN (x + 1) (2 ^ (nN * nN)) = plL t nN x (2 ^ (nN * nN)) ++ [(x : Int)]) := by
                show _ = _
                rw [plL_next, if_pos]
                rw [List.all_eq_true]
                intro k hk
                exact hb.1 rfl k (List.mem_range.1 hk)
              have ARM : Hid (∀ (v' : Value) (w6 : World), w6.ownsRow w.heap.size 3 1 v' (q + 1) ((plL t nN x (2 ^ (nN * nN))).map (Value.int .i64) ++ [.int .i64 (x : Int)]) → (w5.alloc (.cells #[.int .i64 (x : Int)] 3)).grownBy w6 (Value.slice B q cp).ownBlock → (v'.ownBlock = (Value.slice B q cp).ownBlock ∨ v'.ownBlock = some (w5.alloc (.cells #[.int .i64 (x : Int)] 3)).heap.size) → ∃ g' cap', v' = .slice (some ⟨g', 0, none⟩) (q + 1) cap' ∧ Hid (Fr (One w.heap.size) w3 w6 ∧ OR w6 w.heap.size (some ⟨g', 0, none⟩) (q + 1) cap' (plL t nN (x + 1) (2 ^ (nN * nN))) ∧ ∀ b, Own (some (⟨g', 0, none⟩ : Addr)) b → b = w.heap.size ∨ w3.heap.size ≤ b)) := by
                intro v' w6 ho hg hv
                obtain ⟨g', cap', rfl⟩ := ownsRow_succ ho
                have hown : ∀ k, (Value.slice B q cp).ownBlock = some k → k = w.heap.size ∨ w3.heap.size ≤ k := fun k hk => by
                  cases B with
                  | none => cases hk
                  | some a => exact HOW.out k ⟨a, rfl, by injection hk⟩
                refine ⟨g', cap', rfl, ?_, ?_, ?_⟩
                · exact (HF5.out.alloc _).grown hg (fun k hk => (hown k hk).elim .inl .inr)
                · rw [HNX.out]
                  exact ⟨by rw [List.length_append, ← HOR.out.1]; rfl, by simpa using ho⟩
                · rintro b ⟨a, ha, rfl⟩
                  injection ha with ha
                  subst ha
                  rcases hv with hv | hk
                  · exact hown _ hv.symm
                  · injection hk with hk
                    have hk : g' = (w5.alloc (.cells #[.int .i64 (x : Int)] 3)).heap.size := hk
                    right
                    have : (w5.alloc (.cells #[.int .i64 (x : Int)] 3)).heap.size = w5.heap.size + 1 := by simp
                    show w3.heap.size ≤ g'
                    omega
              clear hb h35
              go_wp2_with (at_builtin; refine wpList_append_own_at _ rfl _ _ 28 rfl w.heap.size 3 i0 (.int .i64 0) 1 8 Tryd.underlying28 hi0 hz0 hz1 hz2 rfl (by decide) _ _ _ rfl (hown.alloc _) ⟨w5.heap.size, 0, none⟩ 1 1 [.int .i64 (x : Int)] rfl rfl (cell_one_new _ _ _) (by simp [Value.oneCell']) (by unfold maxLen; omega) (by omega) (by simp; omega) ?_; intro v' w6 hown' hgrow _ hvv; obtain ⟨g', cap', rfl, HNEW⟩ := ARM.out v' w6 hown' hgrow hvv; clear hown' hgrow hvv)
              go_roundw
              case rel => exact ⟨x + 1, q + 1, cap', some ⟨g', 0, none⟩, by omega, by go_num, rfl, HNEW.out.1, HNEW.out.2.1, HNEW.out.2.2⟩
              case measure => simp [intOf]; omega
            | false =>
              have HNX : Hid (plL t nN (x + 1) (2 ^ (nN * nN)) = plL t nN x (2 ^ (nN * nN))) := by
                show _ = _
                rw [plL_next, if_neg, List.append_nil]
                intro h
                rw [List.all_eq_true] at h
                have := hb.2 (fun k hk => h k (List.mem_range.2 hk))
                cases this
              clear hb hown h35 h05
              go_wp2_with fail
              go_roundw
              case rel => exact ⟨x + 1, q, cp, B, by omega, by go_num, rfl, HF5.out, by rw [HNX.out]; exact HOR5.out, HOW.out⟩
              case measure => simp [intOf]; omega
          · have hxc : x = cN := by omega
            have HE : Hid (AnsPl s nN w (.returned (.tuple #[.slice B q cp, .bool true])) wr) := ⟨_, true, B, q, cp, .inl ⟨t, nN, cN, HI.out, HO.out, rfl, HN.out.1, HN.out.2, by rw [HKN.out]; exact HCN.out, HC3.out, rfl, rfl⟩, rfl, HW3.out.then_ HFR.out (fun b hb h => by have h : b = w.heap.size := h; omega), by
              rw [plL_nrel, ← hxc]
              exact HOR.out⟩
            have hxI : ¬ (x : Int) < (cN : Int) := by omega
            clear hxc
            go_wp2_with fail
            go_ret2
            exact HE.out
      · have d2 : Hid (decide (1 ≤ ca ∧ ca ≤ 300) = false) := decide_eq_false h2
        have HE : Hid (AnsPl s nN w (.returned (.tuple #[.slice (some ⟨w.heap.size, 0, none⟩) 0 0, .bool false])) w3) := ⟨[], false, _, 0, 0, .inr ⟨fun t' n' c' g1 g2 g3 g4 g5 g6 g7 => by
          have e := g1.unique HI.out
          subst e
          have e : n' = nN := by omega
          subst e
          rw [HKN.out] at g6
          have := ECA.out c' g6
          have := (t'.cnt_bounds (sz1_sizes g4 g5) c' g6).1
          exact h2 ⟨by omega, by omega⟩, rfl, rfl⟩, rfl, HW3.out, HR3.out.or (Nat.le_refl _)⟩
        clear h2
        go_wp2_with fail
        refine (IN.out _ _ _ _).mono ?_
        rintro e w5 ⟨rfl, rfl⟩
        rw [d2.out]
        go_wp2_with fail
        go_ret2
        exact HE.out
    · have d1 : Hid (decide (1 ≤ n ∧ n ≤ 3) = false) := decide_eq_false h1
      have HE : Hid (AnsPl s n w (.returned (.tuple #[.slice (some ⟨w.heap.size, 0, none⟩) 0 0, .bool false])) (w1.alloc (.cells #[S t.atom, .slice A t.kids.len c] 82))) := ⟨[], false, _, 0, 0, .inr ⟨fun t' n' c' g1 g2 g3 g4 g5 g6 g7 => h1 ⟨by omega, by omega⟩, rfl, rfl⟩, rfl, HF1.out.trans HFA.out, (HR1.out.fr HFA.out (fun h => h)).or (Nat.le_refl _)⟩
      clear h1
      go_wp2_with fail
      refine (IN.out _ _ _ _).mono ?_
      rintro e w2 ⟨rfl, rfl⟩
      rw [d1.out]
      go_wp2_with fail
      go_ret2
      exact HE.out
  · have HE : Hid (AnsPl s n w (.returned (.tuple #[.slice (some ⟨w.heap.size, 0, none⟩) 0 0, .bool false])) (w1.alloc (.cells #[S a0, .slice A mt ct] 82))) := ⟨[], false, _, 0, 0, .inr ⟨fun t' n' c' g1 g2 g3 g4 g5 g6 g7 => hno t' g1 g2, rfl, rfl⟩, rfl, (HF0.out.trans hf1).alloc _, ((HR0.out.fr hf1 (fun h => h)).fr ((Fr.refl No _).alloc _) (fun h => h)).or (Nat.le_refl _)⟩
    clear hf1 hno
    go_wp2_with fail
    go_ret2
    exact HE.out
end Go.Proofs.YtloecimlimoanaaDoor
