/- The law FnRelFun: a function is the graph of its list. -/
import Derived.Test.YtbdmlogkedpbdaaDoorDrr
import Derived.Test.YtbdmlogkedpbdaaDoorSam
import Derived.Test.YtbdmlogkedpbdaaDoorGra4
import Derived.Test.YtbdmlogkedpbdaaDoorRfun2
namespace Go.Proofs.YtbdmlogkedpbdaaDoor
open Go.RowKit Go.ChangeMaps Go.Shelf

theorem funO_some {L R : Int} {ps lst : List Int} (h : funO L R ps = some lst) : FunOk L R ps ∧ lst = ps.map (· % R) := by
  unfold funO at h
  split at h
  · rename_i hok
    injection h with h
    exact ⟨hok, h.symm⟩
  · cases h

theorem funO_len {L R : Int} {ps : List Int} : ((funO L R ps).getD []).length ≤ ps.length := by
  unfold funO
  split
  · simp
  · simp

/-- the graph of the list of a function is the function -/
theorem graph_fun {L R : Int} {ps lst : List Int} (h : funO L R ps = some lst) : graphO lst R = some (L, R, ps) := by
  obtain ⟨⟨hok, hlen, hdiv⟩, rfl⟩ := funO_some h
  have hR : 0 < R := by have := hok.right; omega
  have hl : (ps.map (· % R)).length = ps.length := by simp
  rw [graphO_yes ⟨by rw [hl]; have := hok.left; omega, hok.right, fun z hz => by
    obtain ⟨p, _, rfl⟩ := List.mem_map.1 hz
    exact ⟨Int.emod_nonneg _ (by omega), Int.emod_lt_of_pos _ hR⟩⟩, hl, hlen]
  congr 3
  unfold graphL
  apply List.ext_getElem?
  intro i
  rw [List.getElem?_map]
  by_cases hi : i < ps.length
  · rw [List.getElem?_range hi, Option.map_some, List.getElem?_eq_getElem hi]
    have h1 := hdiv i ps[i] (List.getElem?_eq_getElem hi)
    have h2 := Int.mul_ediv_add_emod ps[i] R
    rw [h1] at h2
    rw [List.getD_eq_getElem?_getD, List.getElem?_map, List.getElem?_eq_getElem hi]
    simp only [Option.map_some, Option.getD_some]
    congr 1
    rw [Int.mul_comm]
    omega
  · rw [List.getElem?_eq_none (by simpa using hi), List.getElem?_eq_none (by omega)]
    rfl

set_option maxRecDepth 100000 in
set_option maxHeartbeats 4000000 in
theorem lawRelFunP (w : World) (hT : TZt w) (A : Option Addr) (n c : Nat) (hn : n ≤ maxLen) (hnc : n ≤ c) (hb : Byt w A n) :
    Calls Tryd.prog 4 #[.slice A n c] w fun e w' => Yes w e w' := by
  have hn' := hn
  unfold maxLen at hn'
  by_cases hbig : 1048576 < n
  · have hd : decide ((1048576 : Int) < (n : Int)) = true := by simp; omega
    go_enter Tryd.func4, Tryd.ntmps4
    go_wp2_with fail
    go_ret
    exact ⟨rfl, Fr.refl _ _⟩
  have hd : decide ((1048576 : Int) < (n : Int)) = false := by simp; omega
  have DR := Lib.hid (drawRelFun w A n c hn hnc hb)
  have HT := Lib.hid hT
  clear hb hbig hT
  go_enter Tryd.func4, Tryd.ntmps4
  go_wp2_with fail
  refine DR.out.mono ?_
  rintro e w1 ⟨L, R, ps, B, cp, rfl, ho1, hl1, hf1⟩
  obtain ⟨W2, hW2, hf2, hb2⟩ : ∃ W, W = w1.alloc (.cells #[.int .i64 L, .int .i64 R, .slice B ps.length cp] 27) ∧ Fr No w1 W ∧ Blk W w1.heap.size 27 #[.int .i64 L, .int .i64 R, .slice B ps.length cp] := ⟨_, rfl, (Fr.refl _ _).alloc _, Blk.new _ _ _⟩
  have HF2 := Lib.hid (hf1.trans hf2)
  have HO2 := Lib.hid (ho1.no hf2)
  have HB2 : Hid (∀ W, Fr No W2 W → W.cell? ⟨w1.heap.size, 0, none⟩ = some (.int .i64 L) ∧ W.cell? ⟨w1.heap.size, 1, none⟩ = some (.int .i64 R) ∧ W.cell? ⟨w1.heap.size, 2, none⟩ = some (.slice B ps.length cp) ∧ w1.heap.size < W.heap.size) := fun W hf => by
    have hb := hb2.fr hf (fun h => h)
    exact ⟨(hb.cell 0).trans rfl, (hb.cell 1).trans rfl, (hb.cell 2).trans rfl, hb.lt⟩
  have HL1 := Lib.hid hl1
  have FI : Hid (∀ W, Fr No W2 W → Calls Tryd.prog 15 #[RV L R B ps.length cp] W fun e w' => AnsI (funO L R ps) W e w') := fun W hf => implRelFun W L R B cp ps (OR.isl (HO2.out.no hf)) (by omega) (HT.out.fr (HF2.out.trans hf) (fun h => h))
  have FS : Hid (∀ W, Fr No W2 W → Calls Tryd.prog 19 #[RV L R B ps.length cp] W fun e w' => AnsI (funO L R ps) W e w') := fun W hf => specRelFun W L R B cp ps (OR.isl (HO2.out.no hf)) (by omega)
  obtain ⟨c0, c1, c2, ll⟩ := HB2.out W2 (Fr.refl _ _)
  clear hf1 hf2 hb2 ho1 hl1 DR
  go_wp2_with fail
  rw [← hW2]
  clear hW2
  go_wp2_with fail
  refine (FI.out _ (Fr.refl _ _)).mono ?_
  rintro e w3 ⟨Ag, ng, cg, rfl, hf3, ho3⟩
  have HF3 := Lib.hid hf3
  have HO3 := Lib.hid ho3
  clear c0 c1 c2 ll
  obtain ⟨c0, c1, c2, ll⟩ := HB2.out w3 hf3
  clear hf3 ho3
  go_wp2_with fail
  refine (FS.out _ HF3.out).mono ?_
  rintro e w4 ⟨As, ns, cs, rfl, hf4, ho4⟩
  have HF4 := Lib.hid (HF3.out.trans hf4)
  have HG4 := Lib.hid (HO3.out.no hf4)
  have HO4 := Lib.hid ho4
  clear c0 c1 c2 ll
  obtain ⟨c0, c1, c2, ll⟩ := HB2.out w4 HF4.out
  clear hf4 ho4 HO3 FS FI
  have hfl : ((funO L R ps).getD []).length ≤ 1000 := Nat.le_trans funO_len HL1.out
  have hSI : ∀ W, Fr No w4 W → Calls Tryd.prog 17 #[.slice Ag ng cg, .slice As ns cs] W fun e w' => e = .returned (.bool true) ∧ Fr No w4 w' := fun W hf => by
    have h := samei_any W Ag As _ _ cg cs (OR.isl (HG4.out.no hf)) (OR.isl (HO4.out.no hf)) (by omega) (by omega)
    rw [← HG4.out.1] at h
    have e : ns = ng := HO4.out.1.trans HG4.out.1.symm
    rw [e]
    refine h.mono ?_
    rintro e w' ⟨b, rfl, hb, n, rfl⟩
    obtain rfl : b = true := hb.2 rfl
    exact ⟨rfl, hf.drewN n⟩
  have HSI := Lib.hid hSI
  have HFL := Lib.hid hfl
  clear hSI hfl
  cases ho : funO L R ps with
  | none =>
    rw [ho] at HG4 HO4 HFL
    clear ho
    simp only [Option.isSome_none]
    go_wp2_with fail
    refine (HSI.out _ (Fr.refl _ _)).mono ?_
    rintro e w5 ⟨rfl, hf5⟩
    have HF5 := Lib.hid hf5
    clear hf5
    go_wp2_with fail
    refine (HSI.out _ HF5.out).mono ?_
    rintro e w6 ⟨rfl, hf6⟩
    have HF6 := Lib.hid (HF2.out.trans (HF4.out.trans hf6))
    clear hf6
    go_wp2_with fail
    go_ret
    exact ⟨rfl, HF6.out⟩
  | some lst =>
    have HGR := Lib.hid (graph_fun ho)
    rw [ho] at HG4 HO4 HFL
    clear ho
    simp only [Option.isSome_some]
    have hlst : lst.length ≤ 1000 := HFL.out
    go_wp2_with fail
    refine (HSI.out _ (Fr.refl _ _)).mono ?_
    rintro e w5 ⟨rfl, hf5⟩
    have HF5 := Lib.hid (HF4.out.trans hf5)
    have HG5 : Hid (OR w5 W2.heap.size Ag ng cg lst) := HG4.out.no hf5
    clear c0 c1 c2 ll
    obtain ⟨c0, c1, c2, ll⟩ := HB2.out w5 HF5.out
    have hng : ng = lst.length := HG4.out.1
    subst hng
    have GI := Lib.hid (implRelGraph w5 Ag lst cg R (OR.isl HG5.out) (by omega) (HT.out.fr (HF2.out.trans HF5.out) (fun h => h)))
    clear hf5
    go_wp2_with fail
    refine GI.out.mono ?_
    rintro e w6 ⟨A6, n6, k6, rfl, hf6, ho6⟩
    rw [HGR.out] at ho6 ⊢
    simp only [Option.isSome_some, Option.getD_some] at ho6 ⊢
    have hb6 : Blk (w6.alloc (.cells #[.int .i64 L, .int .i64 R, .slice A6 n6 k6] 27)) w6.heap.size 27 #[.int .i64 L, .int .i64 R, .slice A6 n6 k6] := Blk.new _ _ _
    have hf7 : Fr No w6 (w6.alloc (.cells #[.int .i64 L, .int .i64 R, .slice A6 n6 k6] 27)) := (Fr.refl _ _).alloc _
    have HF7 := Lib.hid (HF5.out.trans (hf6.trans hf7))
    have HO7 := Lib.hid (ho6.no hf7)
    clear c0 c1 c2 ll
    obtain ⟨c0, c1, c2, ll⟩ := HB2.out _ HF7.out
    have hn6 : n6 = ps.length := ho6.1
    subst hn6
    have hpl : ps.length ≤ 1000 := HL1.out
    have SR := Lib.hid (samer_any (w6.alloc (.cells #[.int .i64 L, .int .i64 R, .slice A6 ps.length k6] 27)) L R A6 k6 ps L R B cp ps (OR.isl HO7.out) (OR.isl (HO2.out.no HF7.out)) (by omega) (by omega))
    clear hf6 hf7 ho6 hb6
    go_wp2_with fail
    refine SR.out.mono ?_
    rintro e w8 ⟨b, rfl, hb, hf8⟩
    obtain rfl : b = true := hb.2 ⟨rfl, rfl, rfl⟩
    have HF8 := Lib.hid (HF2.out.trans (HF7.out.trans hf8))
    clear hf8 hb
    go_wp2_with fail
    go_ret
    exact ⟨rfl, HF8.out⟩
end Go.Proofs.YtbdmlogkedpbdaaDoor
