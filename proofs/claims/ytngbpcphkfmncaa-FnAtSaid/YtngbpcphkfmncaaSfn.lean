/- SetFun of the model. -/
import Derived.Test.YtngbpcphkfmncaaSpa
namespace Go.Proofs.Ytngbpcphkfmncaa
open Go.RowKit Go.ChangeMaps

/-- a list of elements, one for each of a -/
def LstOk (lst : List Int) (a b : Nat) : Prop := lst.length = a ∧ ∀ z ∈ lst, 0 ≤ z ∧ z < (b : Int)

/-- what a list of digits makes -/
def undI (b : Nat) (lst : List Int) : Nat := undig b (lst.map Int.toNat)

theorem undI_at {b : Nat} {lst : List Int} (hok : ∀ z ∈ lst, 0 ≤ z ∧ z < (b : Int)) {j : Nat} {z : Int} (h : lst[j]? = some z) : ((undI b (lst.drop (j + 1)) : Nat) : Int) * (b : Int) + z = ((undI b (lst.drop j) : Nat) : Int) := by
  have hz := hok z (List.mem_of_getElem? h)
  have := undig_drop (n := b) (ds := lst.map Int.toNat) (i := j) (d := z.toNat) (by rw [List.getElem?_map, h]; rfl)
  unfold undI
  rw [List.map_drop, List.map_drop, this]
  have : (z.toNat : Int) = z := Int.toNat_of_nonneg hz.1
  rw [Int.natCast_add, Int.natCast_mul, this]

theorem undI_lt {b : Nat} {lst : List Int} (hok : ∀ z ∈ lst, 0 ≤ z ∧ z < (b : Int)) (hb : 1 ≤ b) (hbig : b ^ lst.length ≤ 4096) (j : Nat) : undI b (lst.drop j) ≤ 4096 := by
  have h := undig_lt (n := b) (ds := (lst.drop j).map Int.toNat) (fun d hd => by
    obtain ⟨z, hz, rfl⟩ := List.mem_map.1 hd
    have := hok z (List.mem_of_mem_drop hz)
    omega)
  have h2 : b ^ ((lst.drop j).map Int.toNat).length ≤ b ^ lst.length := Nat.pow_le_pow_right hb (by simp)
  unfold undI
  omega

theorem undI_end (b : Nat) (lst : List Int) : undI b (lst.drop lst.length) = 0 := by simp [undI, undig]

set_option maxRecDepth 100000 in
set_option maxHeartbeats 1000000 in
theorem l5Fun_any (w : World) (A : Option Addr) (lst : List Int) (c b : Nat) (hl : ISl w A lst) (hb : 1 ≤ b) (hb2 : b ≤ 4096) (hok : ∀ z ∈ lst, 0 ≤ z ∧ z < (b : Int)) (hbig : b ^ lst.length ≤ 4096) (hn : lst.length ≤ 4096) :
    Calls Try.prog 60 #[.slice A lst.length c, .int .i64 b] w fun e w' => e = .returned (.int .i64 ((undI b lst : Nat) : Int)) ∧ w = w' := by
  have HL := Lib.hid hl
  have HOK := Lib.hid hok
  have LT := Lib.hid (undI_lt hok hb hbig)
  have hbI : (1 : Int) ≤ (b : Int) := by omega
  have hbI2 : (b : Int) ≤ 4096 := by omega
  have hnI : (lst.length : Int) ≤ 4096 := by omega
  clear hl hok hbig
  go_enter Try.func60, Try.ntmps60
  go_wp2_with fail
  go_loop [5, 6] (fun v u => ∃ j : Nat, j ≤ lst.length ∧ v = .int .i64 ((undI b (lst.drop j) : Nat) : Int) ∧ ((∃ i : Nat, j = i + 1 ∧ u = .int .i64 i) ∨ (j = 0 ∧ u = .int .i64 (-1)))) (fun _ u => (intOf u + 1).toNat)
  case atStart =>
    refine ⟨lst.length, Nat.le_refl _, by rw [undI_end]; rfl, ?_⟩
    rcases hlen : lst.length with _ | i
    · exact .inr ⟨rfl, rfl⟩
    · exact .inl ⟨i, rfl, congrArg (Value.int .i64) (by omega)⟩
  case round =>
    obtain ⟨j, hj, rfl, ⟨i, rfl, rfl⟩ | ⟨rfl, rfl⟩⟩ := hrel
    · obtain ⟨z, hz⟩ : ∃ z, lst[i]? = some z := ⟨_, List.getElem?_eq_getElem (by omega)⟩
      obtain ⟨g, o, rfl, hc⟩ := HL.out i z hz
      have hzz := HOK.out z (List.mem_of_getElem? hz)
      have HAT : Hid (((undI b (lst.drop (i + 1)) : Nat) : Int) * (b : Int) + z = ((undI b (lst.drop i) : Nat) : Int)) := undI_at HOK.out hz
      have h1 := LT.out i
      have h2 := LT.out (i + 1)
      have hs : ((undI b (lst.drop (i + 1)) : Nat) : Int) * (b : Int) + z ≤ 4096 := by rw [HAT.out]; omega
      have hp0 : 0 ≤ ((undI b (lst.drop (i + 1)) : Nat) : Int) * (b : Int) := Int.mul_nonneg (by omega) (by omega)
      have hz0 := hzz.1
      have hilt : (i : Int) < (lst.length : Int) := by omega
      clear hz hzz h1
      rcases i with _ | i
      · rw [Nat.add_zero] at hc
        generalize hq : undI b (lst.drop 0) = q at *
        have HQ := Lib.hid hq
        clear hq
        generalize undI b (lst.drop (0 + 1)) = p at *
        go_wp2_with fail
        go_round
        case rel => exact ⟨0, Nat.zero_le _, by rw [HAT.out, HQ.out], .inr ⟨rfl, by go_num⟩⟩
        case measure => simp [intOf]
      · generalize hq : undI b (lst.drop (i + 1)) = q at *
        have HQ := Lib.hid hq
        clear hq
        generalize undI b (lst.drop (i + 1 + 1)) = p at *
        go_wp2_with fail
        go_round
        case rel => exact ⟨i + 1, by omega, by rw [HAT.out, HQ.out], .inl ⟨i, rfl, congrArg (Value.int .i64) (by omega)⟩⟩
        case measure => simp [intOf]; omega
    · go_wp2_with fail
      go_ret
      exact ⟨by simp, rfl⟩

/-- what SetFun answers -/
def FunR (s : List UInt8) (ns : List (List UInt8)) (zs lst : List Int) (x : Int) (ok : Bool) : Prop :=
  (∃ l r ms a b d, SfIs s true ns zs l r ms a b d ∧ LstOk lst a b ∧ x = ((undI b lst : Nat) : Int) ∧ ok = true) ∨ ((∀ l r ms a b d, SfIs s true ns zs l r ms a b d → ¬ LstOk lst a b) ∧ x = 0 ∧ ok = false)

theorem FunR.one {s : List UInt8} {ns : List (List UInt8)} {zs lst : List Int} {x x' : Int} {b b' : Bool} (h : FunR s ns zs lst x b) (h' : FunR s ns zs lst x' b') : x' = x ∧ b' = b := by
  rcases h with ⟨l, r, ms, a, c, d, h1, k1, rfl, rfl⟩ | ⟨n1, rfl, rfl⟩ <;> rcases h' with ⟨l', r', ms', a', c', d', h2, k2, rfl, rfl⟩ | ⟨n2, rfl, rfl⟩
  · obtain ⟨_, e, _⟩ := h1.unique h2
    subst e
    exact ⟨rfl, rfl⟩
  · exact (n2 _ _ _ _ _ _ h1 k1).elim
  · exact (n1 _ _ _ _ _ _ h2 k2).elim
  · exact ⟨rfl, rfl⟩

def AnsFun (s : List UInt8) (ns : List (List UInt8)) (zs lst : List Int) (w : World) (e : Ending) (w' : World) : Prop := ∃ x ok, e = .returned (.tuple #[.int .i64 x, .bool ok]) ∧ FunR s ns zs lst x ok ∧ Fr No w w'

set_option maxRecDepth 100000 in
set_option maxHeartbeats 2000000 in
theorem specFun (w : World) (s : List UInt8) (A A' L : Option Addr) (ns : List (List UInt8)) (zs lst : List Int) (c c' lc : Nat) (hc : ns.length ≤ c) (hss : s.length ≤ maxLen) (hN : SSl w A ns) (hZ : ISl w A' zs) (hL : ISl w L lst) (hl : ns.length ≤ 1048576) (hl' : zs.length ≤ 1048576) (hll : lst.length ≤ 1048576) (hs : ∀ x ∈ ns, x.length ≤ maxLen) :
    Calls Try.prog 29 #[S s, .slice A ns.length c, .slice A' zs.length c', .slice L lst.length lc] w fun e w' => AnsFun s ns zs lst w e w' := by
  have CALL := Lib.hid (el_any w s true A A' ns zs c c' 0 hc hss hN hZ hl hl' hs)
  have HN := Lib.hid hN
  have HZ := Lib.hid hZ
  have HL := Lib.hid hL
  have hlI : (lst.length : Int) ≤ 1048576 := by omega
  clear hN hZ hs hL
  go_enter Try.func29, Try.ntmps29
  go_wp2_with fail
  refine CALL.out.mono ?_
  rintro e w1 ⟨hf, ⟨l, r, ms, d, X, xc, hel, rfl, hsl⟩ | ⟨a0, X, m, xc, hno, rfl⟩⟩
  · obtain ⟨g, o, A1, c1, A2, c2, rfl, hparts⟩ := parts_at hsl
    have HP := Lib.hid hparts
    obtain ⟨a, b, hsf⟩ := hel.sf
    have HSF := Lib.hid hsf
    have hfa : Fr No w1 (w1.alloc (.cells #[S [], .slice (some ⟨g, o, none⟩) 3 xc] 68)) := (Fr.refl _ _).alloc _
    have HB : Hid (∀ w', Fr No (w1.alloc (.cells #[S [], .slice (some ⟨g, o, none⟩) 3 xc] 68)) w' → w'.cell? ⟨w1.heap.size, 1, none⟩ = some (.slice (some ⟨g, o, none⟩) 3 xc)) := fun w' hf => ((Blk.fr (Blk.new w1 68 #[S [], .slice (some ⟨g, o, none⟩) 3 xc]) hf (fun h => h)).cell 1).trans rfl
    have HFW := Lib.hid hfa
    have HF0 := Lib.hid hf
    clear hsl hparts hel hsf hfa hf
    have CL : Hid (∀ w', Fr No w1 w' → Calls Try.prog 49 #[.agg #[S l.atom, .slice A1 l.kids.len c1], .slice A ns.length c, .slice A' zs.length c'] w' fun e w2 => e = .returned (.int .i64 a) ∧ Fr No w' w2) := by
      intro w' hf
      obtain ⟨_, _, _, _, _, sl1, _⟩ := HP.out w' hf
      have := ct_any ns zs ms HSF.out.2.1 l HSF.out.1.2.1.1 w' _ A1 c1 A A' c c' (fun b hb => hb) sl1 (HN.out.keep (HF0.out.trans hf) (fun _ h => h.elim)) (HZ.out.keep (HF0.out.trans hf) (fun _ h => h.elim))
      rw [cntI_some HSF.out.2.2.1] at this
      exact this
    have CR : Hid (∀ w', Fr No w1 w' → Calls Try.prog 49 #[.agg #[S r.atom, .slice A2 r.kids.len c2], .slice A ns.length c, .slice A' zs.length c'] w' fun e w2 => e = .returned (.int .i64 b) ∧ Fr No w' w2) := by
      intro w' hf
      obtain ⟨_, _, _, _, _, _, sl2⟩ := HP.out w' hf
      have := ct_any ns zs ms HSF.out.2.1 r HSF.out.1.2.1.2 w' _ A2 c2 A A' c c' (fun b hb => hb) sl2 (HN.out.keep (HF0.out.trans hf) (fun _ h => h.elim)) (HZ.out.keep (HF0.out.trans hf) (fun _ h => h.elim))
      rw [cntI_some HSF.out.2.2.2.1] at this
      exact this
    have hbnd := HSF.out.2.2.2.2.2
    have HBND := Lib.hid hbnd
    have hb1 : (1 : Int) ≤ (b : Int) := by have := hbnd.2.2.2.1; omega
    have hb2 : (b : Int) ≤ 4096 := by have := hbnd.2.2.2.2.1; omega
    have ha4 := hbnd.2.2.1
    have IN : Hid (∀ w' z, Calls Try.prog 47 #[.int .i64 z, .int .i64 0, .int .i64 ((b : Int) - 1)] w' fun e w2 => e = .returned (.bool (decide (0 ≤ z ∧ z < (b : Int)))) ∧ w' = w2) := fun w' z => by
      have h := in_any w' z 0 ((b : Int) - 1)
      have e : decide (0 ≤ z ∧ z ≤ (b : Int) - 1) = decide (0 ≤ z ∧ z < (b : Int)) := by
        apply decide_eq_decide.2
        omega
      rw [e] at h
      exact h
    clear hbnd
    obtain ⟨y2, y3, y4, y5, y6, _, _⟩ := HP.out _ HFW.out
    have x1 := HB.out _ (Fr.refl _ _)
    go_wp2_with fail
    generalize w1.alloc (.cells #[S [], .slice (some ⟨g, o, none⟩) 3 xc] 68) = W at *
    refine (CL.out W HFW.out).mono ?_
    rintro e w2 ⟨rfl, hf2⟩
    have HF2 := Lib.hid hf2
    clear hf2 y2 y3 y4 y5 y6 x1
    obtain ⟨y2, y3, y4, y5, y6, _, _⟩ := HP.out w2 (HFW.out.trans HF2.out)
    have x1 := HB.out w2 HF2.out
    by_cases hla : lst.length = a
    · have hd : ((lst.length : Int) == (a : Int)) = true := by simp [hla]
      have HLA := Lib.hid hla
      rw [← hla]
      clear hla hd
      go_wp2_with fail
      refine (CR.out w2 (HFW.out.trans HF2.out)).mono ?_
      rintro e w3 ⟨rfl, hf3⟩
      have HF3 := Lib.hid hf3
      have HF03 := Lib.hid (((HF0.out.trans HFW.out).trans HF2.out).trans hf3)
      clear hf3 y2 y3 y4 y5 y6 x1
      go_wp2_with fail
      go_loop [13] (fun u => ∃ j : Nat, j ≤ lst.length ∧ u = .int .i64 j ∧ ∀ z ∈ lst.take j, 0 ≤ z ∧ z < (b : Int)) (fun u => lst.length - (intOf u).toNat)
      case atStart => exact ⟨0, Nat.zero_le _, rfl, by simp⟩
      case round =>
        obtain ⟨j, hj, rfl, hok⟩ := hrel
        have HOK := Lib.hid hok
        clear hok
        by_cases hlt : j < lst.length
        · obtain ⟨z, hz⟩ : ∃ z, lst[j]? = some z := ⟨_, List.getElem?_eq_getElem hlt⟩
          obtain ⟨g3, o3, rfl, hc0⟩ := HL.out j z hz
          have hcz := (HF03.out.cell (p := ⟨g3, o3 + j, none⟩) (block_lt hc0) (fun h => h)).trans hc0
          have HZJ := Lib.hid hz
          clear hz hc0
          go_wp2_with fail
          refine (IN.out _ z).mono ?_
          rintro e w4 ⟨rfl, rfl⟩
          by_cases hin : 0 ≤ z ∧ z < (b : Int)
          · rw [decide_eq_true hin]
            have HOK1 : Hid (∀ z ∈ lst.take (j + 1), 0 ≤ z ∧ z < (b : Int)) := by
              intro y hy
              rw [List.take_add_one, HZJ.out] at hy
              rcases List.mem_append.1 hy with hy | hy
              · exact HOK.out y hy
              · simp at hy; rw [hy]; exact hin
            clear hin
            go_wp2_with fail
            go_round
            case rel => exact ⟨j + 1, by omega, by go_num, HOK1.out⟩
            case measure => simp [intOf]; omega
          · rw [decide_eq_false hin]
            have HNO : Hid (∀ l r ms a b d, SfIs s true ns zs l r ms a b d → ¬ LstOk lst a b) := fun l r ms a' b' d' h hlk => by
              have e := (h.unique HSF.out).2.1
              subst e
              exact hin (hlk.2 z (List.mem_of_getElem? HZJ.out))
            clear hin
            go_wp2_with fail
            go_ret2
            exact ⟨_, _, rfl, .inr ⟨HNO.out, rfl, rfl⟩, HF03.out⟩
        · have hjl : j = lst.length := by omega
          have hok : ∀ z ∈ lst, 0 ≤ z ∧ z < (b : Int) := by
            have h := HOK.out
            rw [hjl, List.take_length] at h
            exact h
          have HLK : Hid (LstOk lst a b) := ⟨HLA.out, hok⟩
          have hbn := HBND.out
          have CF : Hid (Calls Try.prog 60 #[.slice L lst.length lc, .int .i64 b] w3 fun e w' => e = .returned (.int .i64 ((undI b lst : Nat) : Int)) ∧ w3 = w') :=
            l5Fun_any w3 L lst lc b (HL.out.keep HF03.out (fun _ h => h.elim)) hbn.2.2.2.1 hbn.2.2.2.2.1 hok (by rw [HLA.out]; have h1 := hbn.1; simp only [if_true] at h1; have h2 := hbn.2.2.2.2.2; omega) (by rw [HLA.out]; exact ha4)
          clear hjl hok hbn
          go_wp2_with fail
          refine CF.out.mono ?_
          rintro e w4 ⟨rfl, rfl⟩
          go_wp2_with fail
          go_ret2
          exact ⟨_, _, rfl, .inl ⟨l, r, ms, a, b, d, HSF.out, HLK.out, rfl, rfl⟩, HF03.out⟩
    · have hd : ((lst.length : Int) == (a : Int)) = false := beq_eq_false_iff_ne.2 (by omega)
      have HNO : Hid (∀ l r ms a b d, SfIs s true ns zs l r ms a b d → ¬ LstOk lst a b) := fun l r ms a' b' d' h hlk => hla (by rw [hlk.1]; exact (h.unique HSF.out).1)
      clear hla
      go_wp2_with fail
      go_ret2
      exact ⟨_, _, rfl, .inr ⟨HNO.out, rfl, rfl⟩, (HF0.out.trans HFW.out).trans HF2.out⟩
  · have HNO : Hid (∀ l r ms a b d, SfIs s true ns zs l r ms a b d → ¬ LstOk lst a b) := fun l r ms a b d h _ => by
      have h1 := (Ty.n true l r).cnt_bounds h.2.1.sz d h.2.2.2.2.1
      exact hno _ _ _ _ (h.el (k := 0) (by omega) (by omega))
    have HFA := Lib.hid (hf.alloc (.cells #[S a0, .slice X m xc] 68))
    clear hno
    go_wp2_with fail
    go_ret2
    exact ⟨_, _, rfl, .inr ⟨HNO.out, rfl, rfl⟩, HFA.out⟩
end Go.Proofs.Ytngbpcphkfmncaa
