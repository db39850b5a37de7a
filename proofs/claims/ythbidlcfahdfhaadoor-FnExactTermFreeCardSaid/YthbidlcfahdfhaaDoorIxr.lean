import Derived.Test.YthbidlcfahdfhaaDoorPre
import Derived.Laws.RangeString
import Derived.Lib.DecodeN
import Derived.Deep.QuietTactic
import Derived.BigQuiet
import Derived.RegionTactic
import Derived.Deep.LoopGhost
namespace Go.Proofs.YthbidlcfahdfhaaDoor
open Go.RowKit Go.ChangeMaps

/-- the separators -/
abbrev sepS : Value := .string ⟨#[32, 40, 41]⟩

theorem index_none (c : UInt8) (l : List UInt8) (h : c ∉ l) : Lib.indexByte l c = -1 := by
  induction l with
  | nil => rfl
  | cons b l ih =>
    simp only [List.mem_cons, not_or] at h
    have : (b == c) = false := by simpa using fun e => h.1 e.symm
    simp [Lib.indexByte, this, ih h.2]

set_option maxRecDepth 100000 in
set_option maxHeartbeats 1000000 in
theorem ixr_two (r : Int) (a b : UInt8) (w : World) (hr : 128 ≤ r) (hr2 : r ≤ 1114111) (hne : r ≠ 65533) (hv : Lib.validRune r = true) (he : Utf8.encode r = ⟨#[a, b]⟩) (hb : 128 ≤ b.toNat) :
    Calls Tryd.prog 101 #[sepS, .int .i32 r] w fun e w' => e = .returned (.int .i64 (-1)) ∧ Fr No w w' := by
  have h1 : ¬ r < 128 := by omega
  have h2 : 0 ≤ r := by omega
  have h3 : (r == 65533) = false := beq_eq_false_iff_ne.2 hne
  have HV := Lib.hid hv
  have CALL : Hid (∀ W : World, Calls Tryd.prog 109 #[.string ((ByteArray.mk #[32, 40, 41]).extract 2 3), .int .u8 b.toNat] W fun e w'' => e = .returned (.int .i64 (-1)) ∧ w'' = W) := fun W => by
    refine (Tryd.strings_IndexByte _ _ W).mono ?_
    rintro e w' ⟨rfl, rfl⟩
    refine ⟨?_, rfl⟩
    have e1 : (((b.toNat : Nat) : Int)).toNat.toUInt8 = b := by
      rw [Int.toNat_natCast]
      show UInt8.ofNat _ = b
      rw [UInt8.ofNat_toNat]
    rw [e1]
    exact congrArg (fun z => Ending.returned (.int .i64 z)) (index_none b _ (by
      rw [show ((ByteArray.mk #[32, 40, 41]).extract 2 3).data.toList = [41] by decide]
      intro h
      have : b.toNat < 128 := by simp at h; try (subst h; decide)
      omega))
  clear hne hv
  go_enter Tryd.func101, Tryd.ntmps101
  go_wp2_with fail
  refine (Tryd.utf8_ValidRune _ _).mono ?_
  rintro e w' ⟨rfl, rfl⟩
  rw [HV.out]
  go_wp2_with fail
  go_step3
  go_wp2_with fail
  have g1 : ∀ h : 1 < (ByteArray.mk #[32, 40, 41]).size, (ByteArray.mk #[32, 40, 41])[1]'h = 40 := fun _ => rfl
  have g2 : ∀ h : 1 < (ByteArray.mk #[a, b]).size, (ByteArray.mk #[a, b])[1]'h = b := fun _ => rfl
  have e40 : ((40 : Int) != (b.toNat : Int)) = true := by rw [bne_iff_ne]; omega
  go_loopw [9] (fun v wr => v = .int .i64 1 ∧ wr = w') (fun _ _ => 0)
  case atStart => exact ⟨rfl, rfl⟩
  case round =>
    obtain ⟨rfl, rfl⟩ := hrel
    go_wp2_with fail
    go_step3
    go_wp2_with fail
    go_region
    go_wp2_with fail
    go_quiet ((go_at_call 109; ((with_reducible refine (CALL.out _).mono ?_); rintro e w'' ⟨rfl, rfl⟩; exact ⟨rfl, _, rfl⟩)))
    go_wp2_with fail
    simp +zetaDelta only [Exit.inBlock, Exit.then, Exit.noGoto]
    go_ret
    exact ⟨rfl, (Fr.refl _ _).drewN _⟩


set_option maxRecDepth 100000 in
set_option maxHeartbeats 1000000 in
theorem ixr_three (r : Int) (a x b : UInt8) (w : World) (hr : 128 ≤ r) (hr2 : r ≤ 1114111) (hne : r ≠ 65533) (hv : Lib.validRune r = true) (he : Utf8.encode r = ⟨#[a, x, b]⟩) (hb : 128 ≤ b.toNat) :
    Calls Tryd.prog 101 #[sepS, .int .i32 r] w fun e w' => e = .returned (.int .i64 (-1)) ∧ Fr No w w' := by
  have h1 : ¬ r < 128 := by omega
  have h2 : 0 ≤ r := by omega
  have h3 : (r == 65533) = false := beq_eq_false_iff_ne.2 hne
  have HV := Lib.hid hv
  have CALL : Hid (∀ W : World, Calls Tryd.prog 109 #[.string ByteArray.empty, .int .u8 b.toNat] W fun e w'' => e = .returned (.int .i64 (-1)) ∧ w'' = W) := fun W => by
    refine (Tryd.strings_IndexByte _ _ W).mono ?_
    rintro e w' ⟨rfl, rfl⟩
    refine ⟨?_, rfl⟩
    have e1 : (((b.toNat : Nat) : Int)).toNat.toUInt8 = b := by
      rw [Int.toNat_natCast]
      show UInt8.ofNat _ = b
      rw [UInt8.ofNat_toNat]
    rw [e1]
    exact congrArg (fun z => Ending.returned (.int .i64 z)) (index_none b _ (by
      rw [show (ByteArray.empty).data.toList = [] by decide]
      intro h
      have : b.toNat < 128 := by simp at h; try (subst h; decide)
      omega))
  clear hne hv
  go_enter Tryd.func101, Tryd.ntmps101
  go_wp2_with fail
  refine (Tryd.utf8_ValidRune _ _).mono ?_
  rintro e w' ⟨rfl, rfl⟩
  rw [HV.out]
  go_wp2_with fail
  go_step3
  go_wp2_with fail
  have g1 : ∀ h : 2 < (ByteArray.mk #[32, 40, 41]).size, (ByteArray.mk #[32, 40, 41])[2]'h = 41 := fun _ => rfl
  have g2 : ∀ h : 2 < (ByteArray.mk #[a, x, b]).size, (ByteArray.mk #[a, x, b])[2]'h = b := fun _ => rfl
  have hw3 : IntKind.i64.wrap 3 = 3 := by decide
  have e40 : ((41 : Int) != (b.toNat : Int)) = true := by rw [bne_iff_ne]; omega
  go_loopw [9] (fun v wr => v = .int .i64 2 ∧ wr = w') (fun _ _ => 0)
  case atStart => exact ⟨rfl, rfl⟩
  case round =>
    obtain ⟨rfl, rfl⟩ := hrel
    go_wp2_with fail
    go_step3
    go_wp2_with fail
    go_region
    go_wp2_with fail
    go_quiet ((go_at_call 109; ((with_reducible refine (CALL.out _).mono ?_); rintro e w'' ⟨rfl, rfl⟩; exact ⟨rfl, _, rfl⟩)))
    go_wp2_with fail
    simp +zetaDelta only [Exit.inBlock, Exit.then, Exit.noGoto]
    go_ret
    exact ⟨rfl, (Fr.refl _ _).drewN _⟩


set_option maxRecDepth 100000 in
set_option maxHeartbeats 1000000 in
theorem ixr_four (r : Int) (a x y b : UInt8) (w : World) (hr : 128 ≤ r) (hr2 : r ≤ 1114111) (hne : r ≠ 65533) (hv : Lib.validRune r = true) (he : Utf8.encode r = ⟨#[a, x, y, b]⟩) :
    Calls Tryd.prog 101 #[sepS, .int .i32 r] w fun e w' => e = .returned (.int .i64 (-1)) ∧ Fr No w w' := by
  have h1 : ¬ r < 128 := by omega
  have h2 : 0 ≤ r := by omega
  have h3 : (r == 65533) = false := beq_eq_false_iff_ne.2 hne
  have HV := Lib.hid hv
  clear hne hv
  go_enter Tryd.func101, Tryd.ntmps101
  go_wp2_with fail
  refine (Tryd.utf8_ValidRune _ _).mono ?_
  rintro e w' ⟨rfl, rfl⟩
  rw [HV.out]
  go_wp2_with fail
  go_step3
  go_wp2_with fail
  go_loopw [9] (fun v wr => v = .int .i64 3 ∧ wr = w') (fun _ _ => 0)
  case atStart => exact ⟨rfl, rfl⟩
  case round =>
    obtain ⟨rfl, rfl⟩ := hrel
    go_wp2_with fail
    simp +zetaDelta only [Exit.inBlock, Exit.noGoto]
    go_ret
    exact ⟨rfl, Fr.refl _ _⟩

set_option maxRecDepth 100000 in
set_option maxHeartbeats 1000000 in
theorem ixr_bad (r : Int) (w : World) (hr : 128 ≤ r) (hr2 : r ≤ 1114111) (hne : r ≠ 65533) (hv : Lib.validRune r = false) :
    Calls Tryd.prog 101 #[sepS, .int .i32 r] w fun e w' => e = .returned (.int .i64 (-1)) ∧ Fr No w w' := by
  have h1 : ¬ r < 128 := by omega
  have h2 : 0 ≤ r := by omega
  have h3 : (r == 65533) = false := beq_eq_false_iff_ne.2 hne
  have HV := Lib.hid hv
  clear hne hv
  go_enter Tryd.func101, Tryd.ntmps101
  go_wp2_with fail
  refine (Tryd.utf8_ValidRune _ _).mono ?_
  rintro e w' ⟨rfl, rfl⟩
  rw [HV.out]
  go_wp2_with fail
  go_ret
  exact ⟨rfl, Fr.refl _ _⟩

set_option maxRecDepth 100000 in
set_option maxHeartbeats 1000000 in
theorem ixr_err (r : Int) (w : World) (h1 : ¬ r < 128) (h2 : 0 ≤ r) (h3 : (r == 65533) = true) :
    Calls Tryd.prog 101 #[sepS, .int .i32 r] w fun e w' => e = .returned (.int .i64 (-1)) ∧ Fr No w w' := by
  go_enter Tryd.func101, Tryd.ntmps101
  go_wp2_with fail
  go_loopg [5, 6] 3 (fun g _ _ wx => ∃ i : Nat, i + g = 3 ∧ wx = w.iter ⟨#[32, 40, 41]⟩ i)
  case atStart => exact ⟨0, rfl, rfl⟩
  case round =>
    obtain ⟨i, hig, rfl⟩ := hrel
    cases gk with
    | zero =>
      obtain rfl : i = 3 := by omega
      have hnx := run_next_end (P := Tryd.prog) w ⟨#[32, 40, 41]⟩ 3
      go_wp2
      go_ret
      exact ⟨rfl, (Fr.refl _ _).alloc _⟩
    | succ g =>
      have hi : i < (ByteArray.mk #[32, 40, 41]).size := by show i < 3; omega
      have hx128 : ((ByteArray.mk #[32, 40, 41])[i]'hi).toNat < 128 := by
        have all : ∀ j : Fin 3, ((ByteArray.mk #[32, 40, 41])[j.val]'(j.isLt)).toNat < 128 := by decide
        exact all ⟨i, hi⟩
      have hnx := fun ty => run_next_ascii (P := Tryd.prog) w ⟨#[32, 40, 41]⟩ i ty hi hx128
      generalize ((ByteArray.mk #[32, 40, 41])[i]'hi).toNat = x at hx128 hnx
      have hne : ((x : Int) == 65533) = false := beq_eq_false_iff_ne.2 (by omega)
      go_wp2_with fail
      go_roundg g
      case measure => omega
      case rel => exact ⟨i + 1, by omega, rfl⟩

theorem enc_cases (r : Int) (h1 : 128 ≤ r) (h2 : r ≤ 1114111) (hv : Lib.validRune r = true) :
    (∃ a b : UInt8, Utf8.encode r = ⟨#[a, b]⟩ ∧ 128 ≤ b.toNat) ∨ (∃ a x b : UInt8, Utf8.encode r = ⟨#[a, x, b]⟩ ∧ 128 ≤ b.toNat) ∨ ∃ a x y b : UInt8, Utf8.encode r = ⟨#[a, x, y, b]⟩ := by
  have hval : Utf8.valid r = true := by
    unfold Lib.validRune at hv
    unfold Utf8.valid
    simp only [Bool.or_eq_true, Bool.and_eq_true, decide_eq_true_eq] at hv ⊢
    omega
  obtain ⟨n, rfl⟩ : ∃ n : Nat, r = n := ⟨r.toNat, by omega⟩
  unfold Utf8.encode
  simp only [hval, if_true, Int.toNat_natCast]
  have c1 : ¬ n < 128 := by omega
  have hb : ∀ m : Nat, 128 ≤ (UInt8.ofNat (128 + m % 64)).toNat := fun m => by rw [UInt8.toNat_ofNat']; omega
  simp only [c1, if_false]
  split
  · exact .inl ⟨_, _, rfl, hb _⟩
  · split
    · exact .inr (.inl ⟨_, _, _, rfl, hb _⟩)
    · exact .inr (.inr ⟨_, _, _, _, rfl⟩)

/-- no separator is a rune beyond ASCII -/
theorem ixr_high (r : Int) (w : World) (h1 : 128 ≤ r) (h2 : r ≤ 1114111) :
    Calls Tryd.prog 101 #[sepS, .int .i32 r] w fun e w' => e = .returned (.int .i64 (-1)) ∧ Fr No w w' := by
  by_cases hne : r = 65533
  · exact ixr_err r w (by omega) (by omega) (by rw [hne]; rfl)
  · rcases hv : Lib.validRune r with _ | _
    · exact ixr_bad r w h1 h2 hne hv
    · rcases enc_cases r h1 h2 hv with ⟨a, b, e, hb⟩ | ⟨a, x, b, e, hb⟩ | ⟨a, x, y, b, e⟩
      · exact ixr_two r a b w h1 h2 hne hv e hb
      · exact ixr_three r a x b w h1 h2 hne hv e hb
      · exact ixr_four r a x y b w h1 h2 hne hv e
end Go.Proofs.YthbidlcfahdfhaaDoor
