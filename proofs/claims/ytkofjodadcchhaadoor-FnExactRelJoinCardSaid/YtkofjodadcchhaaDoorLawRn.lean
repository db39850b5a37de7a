/- The law RelNumber. -/
import Derived.Test.YtkofjodadcchhaaDoorRnum3
namespace Go.Proofs.YtkofjodadcchhaaDoor
open Go.RowKit Go.ChangeMaps Go.Shelf

/-- a relation, and whether there is one, is returned: part by part -/
def AnsC (Lo Ro : Int) (Po : List Int) (bo : Bool) (w : World) (e : Ending) (w' : World) : Prop := ∃ A n c, e = .returned (.tuple #[RV Lo Ro A n c, .bool bo]) ∧ Fr No w w' ∧ OR w' w.heap.size A n c Po

theorem relNum_len (l r n : Int) : ((relNumO l r n).getD (0, 0, [])).2.2.length ≤ 100000 := by
  unfold relNumO
  split
  · rename_i h
    simp only [Option.getD_some, List.length_map]
    have h1 := elems_len (l * r).toNat n.toNat.testBit
    have h2 := h.2.2.1
    omega
  · simp

set_option maxRecDepth 100000 in
set_option maxHeartbeats 8000000 in
theorem lawRelNumber (w : World) (HTAB : TZt w) (l : Int) (_ : -9223372036854775808 ≤ l ∧ l ≤ 9223372036854775807) (r : Int) (_ : -9223372036854775808 ≤ r ∧ r ≤ 9223372036854775807) (n : Int) (_ : -9223372036854775808 ≤ n ∧ n ≤ 9223372036854775807) :
    Calls Tryd.prog 10 #[.int .i64 l, .int .i64 r, .int .i64 n] w fun e w' => Yes w e w' := by
  obtain ⟨Lo, Ro, Po, bo, HLEN, SP, IM⟩ : ∃ (Lo Ro : Int) (Po : List Int) (bo : Bool), Hid (Po.length ≤ 100000) ∧ Hid (∀ W, Calls Tryd.prog 36 #[.int .i64 l, .int .i64 r, .int .i64 n] W fun e w' => AnsC Lo Ro Po bo W e w') ∧ Hid (∀ W, Fr No w W → Calls Tryd.prog 37 #[.int .i64 l, .int .i64 r, .int .i64 n] W fun e w' => AnsC Lo Ro Po bo W e w') :=
    ⟨((relNumO l r n).getD (0, 0, [])).1, ((relNumO l r n).getD (0, 0, [])).2.1, ((relNumO l r n).getD (0, 0, [])).2.2, (relNumO l r n).isSome, relNum_len l r n, fun W => specRelNumber W l r n, fun W hf => implRelNumber W l r n (HTAB.fr hf (fun h => h))⟩
  clear HTAB
  have F0 : Hid (Fr No w w) := Fr.refl _ _
  go_enter Tryd.func10, Tryd.ntmps10
  go_wp2_with fail
  refine (SP.out _).mono ?_
  rintro e w1 ⟨As, ns, cs, rfl, hf, hor⟩
  have m1 := Lib.hid hf.size
  have F2 := Lib.hid (F0.out.trans hf)
  have R3 := Lib.hid hor
  have bd4 : Hid (∀ b, Own As b → w.heap.size ≤ b ∧ b < (w1).heap.size) := fun b hb => OR.bounds hor hb
  clear hf hor
  have ha5 : Fr No w1 (w1.alloc (.cells #[.int .i64 Lo, .int .i64 Ro, .slice As ns cs] 27)) := (Fr.refl No w1).alloc _
  have m6 := Lib.hid ha5.size
  have R7 := Lib.hid (R3.out.fr ha5 (fun _ _ h => h))
  have F8 := Lib.hid (F2.out.trans ha5)
  have B9 : Hid (Blk (w1.alloc (.cells #[.int .i64 Lo, .int .i64 Ro, .slice As ns cs] 27)) (w1.heap.size) 27 #[.int .i64 Lo, .int .i64 Ro, .slice As ns cs]) := Blk.new _ _ _
  clear ha5 R3 F2
  go_wp2_with fail
  generalize (w1.alloc (.cells #[.int .i64 Lo, .int .i64 Ro, .slice As ns cs] 27)) = w2 at *
  refine (IM.out _ F8.out).mono ?_
  rintro e w3 ⟨Ag, ng, cg, rfl, hf, hor⟩
  have m10 := Lib.hid hf.size
  have B11 := Lib.hid (B9.out.fr hf (fun h => h))
  have R12 := Lib.hid (R7.out.fr hf (fun _ _ h => h))
  have F13 := Lib.hid (F8.out.trans hf)
  have R14 := Lib.hid hor
  have bd15 : Hid (∀ b, Own Ag b → w2.heap.size ≤ b ∧ b < (w3).heap.size) := fun b hb => OR.bounds hor hb
  clear hf hor B9 R7 F8
  have ha16 : Fr No w3 (w3.alloc (.cells #[.int .i64 Lo, .int .i64 Ro, .slice Ag ng cg] 27)) := (Fr.refl No w3).alloc _
  have m17 := Lib.hid ha16.size
  have B18 := Lib.hid (B11.out.fr ha16 (fun h => h))
  have R19 := Lib.hid (R12.out.fr ha16 (fun _ _ h => h))
  have R20 := Lib.hid (R14.out.fr ha16 (fun _ _ h => h))
  have F21 := Lib.hid (F13.out.trans ha16)
  have B22 : Hid (Blk (w3.alloc (.cells #[.int .i64 Lo, .int .i64 Ro, .slice Ag ng cg] 27)) (w3.heap.size) 27 #[.int .i64 Lo, .int .i64 Ro, .slice Ag ng cg]) := Blk.new _ _ _
  clear ha16 B11 R12 R14 F13
  have c23 : World.cell? (w3.alloc (.cells #[.int .i64 Lo, .int .i64 Ro, .slice Ag ng cg] 27)) ⟨w1.heap.size, 0, none⟩ = some (.int .i64 Lo) := (B18.out.cell 0).trans rfl
  have c24 : World.cell? (w3.alloc (.cells #[.int .i64 Lo, .int .i64 Ro, .slice Ag ng cg] 27)) ⟨w1.heap.size, 1, none⟩ = some (.int .i64 Ro) := (B18.out.cell 1).trans rfl
  have c25 : World.cell? (w3.alloc (.cells #[.int .i64 Lo, .int .i64 Ro, .slice Ag ng cg] 27)) ⟨w1.heap.size, 2, none⟩ = some (.slice As ns cs) := (B18.out.cell 2).trans rfl
  go_wp2_with fail
  generalize (w3.alloc (.cells #[.int .i64 Lo, .int .i64 Ro, .slice Ag ng cg] 27)) = w4 at *
  have hEQ : Calls Tryd.prog 24 #[RV Lo Ro Ag ng cg, RV Lo Ro As ns cs] w4 fun e w' => e = .returned (.bool true) ∧ Fr No w4 w' := by
    rw [R20.out.1, R19.out.1]
    refine (eqRel_any w4 Lo Ro Lo Ro Ag As Po Po cg cs (OR.isl R20.out) (OR.isl R19.out) (by have := HLEN.out; omega) (by have := HLEN.out; omega)).mono ?_
    rintro e w' ⟨b, rfl, hb, hf⟩
    obtain rfl : b = true := hb.2 ⟨rfl, rfl, rfl⟩
    exact ⟨rfl, hf⟩
  have HEQ := Lib.hid hEQ
  clear hEQ
  refine (HEQ.out).mono ?_
  rintro e w5 ⟨rfl, hf⟩
  have m26 := Lib.hid hf.size
  have B27 := Lib.hid (B18.out.fr hf (fun h => h))
  have B28 := Lib.hid (B22.out.fr hf (fun h => h))
  have R29 := Lib.hid (R19.out.fr hf (fun _ _ h => h))
  have R30 := Lib.hid (R20.out.fr hf (fun _ _ h => h))
  have F31 := Lib.hid (F21.out.trans hf)
  clear hf HEQ B18 B22 R19 R20 F21 c23 c24 c25
  have c32 : World.cell? w5 ⟨w3.heap.size, 0, none⟩ = some (.int .i64 Lo) := (B28.out.cell 0).trans rfl
  have c33 : World.cell? w5 ⟨w3.heap.size, 1, none⟩ = some (.int .i64 Ro) := (B28.out.cell 1).trans rfl
  have c34 : World.cell? w5 ⟨w3.heap.size, 2, none⟩ = some (.slice Ag ng cg) := (B28.out.cell 2).trans rfl
  go_wp2_with fail
  refine (markR_any _ _ Lo Ro Ag _ _ 1 _ (by decide) (by have := HLEN.out; have := R30.out.1; omega) R30.out).mono ?_
  rintro e w6 ⟨rfl, hf, hor⟩
  have HNR : Hid (ng ≤ 1048576) := by have := HLEN.out; have := R30.out.1; show _ ≤ _; omega
  have m35 := Lib.hid hf.size
  have B36 := Lib.hid (B27.out.fr hf (R30.out.other B27.out (by decide)))
  have B37 := Lib.hid (B28.out.fr hf (R30.out.other B28.out (by decide)))
  have R38 := Lib.hid (R29.out.fr hf (fun b h1 h2 => by have e1 := bd4.out b h1; have e2 := bd15.out b h2; have := m1.out; have := m6.out; have := m10.out; have := m17.out; have := m26.out; omega))
  have F39 := Lib.hid (F31.out.then_ hf (fun b hb h => by have e1 := bd15.out b h; have := m1.out; have := m6.out; have := m10.out; have := m17.out; have := m26.out; omega))
  have R40 := Lib.hid hor
  clear hf hor B27 B28 R29 F31 R30 c32 c33 c34
  have c41 : World.cell? w6 ⟨w3.heap.size, 0, none⟩ = some (.int .i64 Lo) := (B37.out.cell 0).trans rfl
  have c42 : World.cell? w6 ⟨w3.heap.size, 1, none⟩ = some (.int .i64 Ro) := (B37.out.cell 1).trans rfl
  have c43 : World.cell? w6 ⟨w3.heap.size, 2, none⟩ = some (.slice Ag ng cg) := (B37.out.cell 2).trans rfl
  go_wp2_with fail
  refine (heldR_any _ _ Lo Ro Ag _ _ 1 (by decide) (by have := HNR.out; omega) R40.out).mono ?_
  rintro e w7 ⟨rfl, hf⟩
  have m44 := Lib.hid hf.size
  have B45 := Lib.hid (B36.out.fr hf (fun h => h))
  have B46 := Lib.hid (B37.out.fr hf (fun h => h))
  have R47 := Lib.hid (R38.out.fr hf (fun _ _ h => h))
  have R48 := Lib.hid (R40.out.fr hf (fun _ _ h => h))
  have F49 := Lib.hid (F39.out.trans hf)
  clear hf B36 B37 R38 R40 F39 c41 c42 c43
  have hq : ¬ (((1 + ng : Nat) : Int) < 0) := by omega
  go_wp2_with fail
  clear hq
  refine (IM.out _ F49.out).mono ?_
  rintro e w8 ⟨Ah, nh, ch, rfl, hf, hor⟩
  have m50 := Lib.hid hf.size
  have B51 := Lib.hid (B45.out.fr hf (fun h => h))
  have B52 := Lib.hid (B46.out.fr hf (fun h => h))
  have R53 := Lib.hid (R47.out.fr hf (fun _ _ h => h))
  have R54 := Lib.hid (R48.out.fr hf (fun _ _ h => h))
  have F55 := Lib.hid (F49.out.trans hf)
  have R56 := Lib.hid hor
  have bd57 : Hid (∀ b, Own Ah b → w7.heap.size ≤ b ∧ b < (w8).heap.size) := fun b hb => OR.bounds hor hb
  clear hf hor B45 B46 R47 R48 F49
  have ha58 : Fr No w8 (w8.alloc (.cells #[.int .i64 Lo, .int .i64 Ro, .slice Ah nh ch] 27)) := (Fr.refl No w8).alloc _
  have m59 := Lib.hid ha58.size
  have B60 := Lib.hid (B51.out.fr ha58 (fun h => h))
  have B61 := Lib.hid (B52.out.fr ha58 (fun h => h))
  have R62 := Lib.hid (R53.out.fr ha58 (fun _ _ h => h))
  have R63 := Lib.hid (R54.out.fr ha58 (fun _ _ h => h))
  have R64 := Lib.hid (R56.out.fr ha58 (fun _ _ h => h))
  have F65 := Lib.hid (F55.out.trans ha58)
  have B66 : Hid (Blk (w8.alloc (.cells #[.int .i64 Lo, .int .i64 Ro, .slice Ah nh ch] 27)) (w8.heap.size) 27 #[.int .i64 Lo, .int .i64 Ro, .slice Ah nh ch]) := Blk.new _ _ _
  clear ha58 B51 B52 R53 R54 R56 F55
  have c67 : World.cell? (w8.alloc (.cells #[.int .i64 Lo, .int .i64 Ro, .slice Ah nh ch] 27)) ⟨w1.heap.size, 0, none⟩ = some (.int .i64 Lo) := (B60.out.cell 0).trans rfl
  have c68 : World.cell? (w8.alloc (.cells #[.int .i64 Lo, .int .i64 Ro, .slice Ah nh ch] 27)) ⟨w1.heap.size, 1, none⟩ = some (.int .i64 Ro) := (B60.out.cell 1).trans rfl
  have c69 : World.cell? (w8.alloc (.cells #[.int .i64 Lo, .int .i64 Ro, .slice Ah nh ch] 27)) ⟨w1.heap.size, 2, none⟩ = some (.slice As ns cs) := (B60.out.cell 2).trans rfl
  go_wp2_with fail
  generalize (w8.alloc (.cells #[.int .i64 Lo, .int .i64 Ro, .slice Ah nh ch] 27)) = w9 at *
  have hEQ : Calls Tryd.prog 24 #[RV Lo Ro Ah nh ch, RV Lo Ro As ns cs] w9 fun e w' => e = .returned (.bool true) ∧ Fr No w9 w' := by
    rw [R64.out.1, R62.out.1]
    refine (eqRel_any w9 Lo Ro Lo Ro Ah As Po Po ch cs (OR.isl R64.out) (OR.isl R62.out) (by have := HLEN.out; omega) (by have := HLEN.out; omega)).mono ?_
    rintro e w' ⟨b, rfl, hb, hf⟩
    obtain rfl : b = true := hb.2 ⟨rfl, rfl, rfl⟩
    exact ⟨rfl, hf⟩
  have HEQ := Lib.hid hEQ
  clear hEQ
  refine (HEQ.out).mono ?_
  rintro e w10 ⟨rfl, hf⟩
  have m70 := Lib.hid hf.size
  have B71 := Lib.hid (B60.out.fr hf (fun h => h))
  have B72 := Lib.hid (B61.out.fr hf (fun h => h))
  have B73 := Lib.hid (B66.out.fr hf (fun h => h))
  have R74 := Lib.hid (R62.out.fr hf (fun _ _ h => h))
  have R75 := Lib.hid (R63.out.fr hf (fun _ _ h => h))
  have R76 := Lib.hid (R64.out.fr hf (fun _ _ h => h))
  have F77 := Lib.hid (F65.out.trans hf)
  clear hf HEQ B60 B61 B66 R62 R63 R64 F65 c67 c68 c69
  have c78 : World.cell? w10 ⟨w3.heap.size, 0, none⟩ = some (.int .i64 Lo) := (B72.out.cell 0).trans rfl
  have c79 : World.cell? w10 ⟨w3.heap.size, 1, none⟩ = some (.int .i64 Ro) := (B72.out.cell 1).trans rfl
  have c80 : World.cell? w10 ⟨w3.heap.size, 2, none⟩ = some (.slice Ag ng cg) := (B72.out.cell 2).trans rfl
  go_wp2_with fail
  refine (heldR_any _ _ Lo Ro Ag _ _ 1 (by decide) (by have := HNR.out; omega) R75.out).mono ?_
  rintro e w11 ⟨rfl, hf⟩
  have m81 := Lib.hid hf.size
  have B82 := Lib.hid (B71.out.fr hf (fun h => h))
  have B83 := Lib.hid (B72.out.fr hf (fun h => h))
  have B84 := Lib.hid (B73.out.fr hf (fun h => h))
  have R85 := Lib.hid (R74.out.fr hf (fun _ _ h => h))
  have R86 := Lib.hid (R75.out.fr hf (fun _ _ h => h))
  have R87 := Lib.hid (R76.out.fr hf (fun _ _ h => h))
  have F88 := Lib.hid (F77.out.trans hf)
  clear hf B71 B72 B73 R74 R75 R76 F77 c78 c79 c80
  have hq : ¬ (((1 + ng : Nat) : Int) < 0) := by omega
  go_wp2_with fail
  go_ret
  exact ⟨rfl, F88.out⟩
end Go.Proofs.YtkofjodadcchhaaDoor
