/- Ixr · Ixany · Word · Trd -/
import Derived.Test.YtnjgaenhjdjpfaaGreatDoorPre
import Derived.Laws.RangeString
import Derived.Lib.DecodeN
import Derived.Deep.QuietTactic
import Derived.BigQuiet
import Derived.RegionTactic
import Derived.Deep.LoopGhost
import Derived.Test.YtnjgaenhjdjpfaaGreatDoorTerm
import Derived.Lib.TrimU
import Derived.Shelf.Strings.SlTrimAscii
/- Ixr -/
namespace Go.Proofs.YtnjgaenhjdjpfaaGreatDoor
open Go.RowKit Go.ChangeMaps

/-- the separators -/
abbrev sepS : Value := .string ⟨#[32, 40, 41]⟩

theorem index_none (c : UInt8) (l : List UInt8) (h : c ∉ l) : Lib.indexByte l c = -1 := by
  induction l with
  | nil => rfl
  | cons b l ih =>
    simp only [List.mem_cons, not_or] at h
    have : (b == c) = false := by simpa using fun e => h.1 e.symm
    simp [Lib.indexByte, this, ih h.2]

set_option maxRecDepth 100000 in
set_option maxHeartbeats 1000000 in
theorem ixr_two (r : Int) (a b : UInt8) (w : World) (hr : 128 ≤ r) (hr2 : r ≤ 1114111) (hne : r ≠ 65533) (hv : Lib.validRune r = true) (he : Utf8.encode r = ⟨#[a, b]⟩) (hb : 128 ≤ b.toNat) :
    Calls Tryz.prog 98 #[sepS, .int .i32 r] w fun e w' => e = .returned (.int .i64 (-1)) ∧ Fr No w w' := by
  have h1 : ¬ r < 128 := by omega
  have h2 : 0 ≤ r := by omega
  have h3 : (r == 65533) = false := beq_eq_false_iff_ne.2 hne
  have HV := Lib.hid hv
  have CALL : Hid (∀ W : World, Calls Tryz.prog 115 #[.string ((ByteArray.mk #[32, 40, 41]).extract 2 3), .int .u8 b.toNat] W fun e w'' => e = .returned (.int .i64 (-1)) ∧ w'' = W) := fun W => by
    refine (Tryz.strings_IndexByte _ _ W).mono ?_
    rintro e w' ⟨rfl, rfl⟩
    refine ⟨?_, rfl⟩
    have e1 : (((b.toNat : Nat) : Int)).toNat.toUInt8 = b := by
      rw [Int.toNat_natCast]
      show UInt8.ofNat _ = b
      rw [UInt8.ofNat_toNat]
    rw [e1]
    exact congrArg (fun z => Ending.returned (.int .i64 z)) (index_none b _ (by
      rw [show ((ByteArray.mk #[32, 40, 41]).extract 2 3).data.toList = [41] by decide]
      intro h
      have : b.toNat < 128 := by simp at h; try (subst h; decide)
      omega))
  clear hne hv
  go_enter Tryz.func98, Tryz.ntmps98
  go_wp2_with fail
  refine (Tryz.utf8_ValidRune _ _).mono ?_
  rintro e w' ⟨rfl, rfl⟩
  rw [HV.out]
  go_wp2_with fail
  go_step3
  go_wp2_with fail
  have g1 : ∀ h : 1 < (ByteArray.mk #[32, 40, 41]).size, (ByteArray.mk #[32, 40, 41])[1]'h = 40 := fun _ => rfl
  have g2 : ∀ h : 1 < (ByteArray.mk #[a, b]).size, (ByteArray.mk #[a, b])[1]'h = b := fun _ => rfl
  have e40 : ((40 : Int) != (b.toNat : Int)) = true := by rw [bne_iff_ne]; omega
  go_loopw [9] (fun v wr => v = .int .i64 1 ∧ wr = w') (fun _ _ => 0)
  case atStart => exact ⟨rfl, rfl⟩
  case round =>
    obtain ⟨rfl, rfl⟩ := hrel
    go_wp2_with fail
    go_step3
    go_wp2_with fail
    go_region
    go_wp2_with fail
    go_quiet ((go_at_call 115; ((with_reducible refine (CALL.out _).mono ?_); rintro e w'' ⟨rfl, rfl⟩; exact ⟨rfl, _, rfl⟩)))
    go_wp2_with fail
    simp +zetaDelta only [Exit.inBlock, Exit.then, Exit.noGoto]
    go_ret
    exact ⟨rfl, (Fr.refl _ _).drewN _⟩


set_option maxRecDepth 100000 in
set_option maxHeartbeats 1000000 in
theorem ixr_three (r : Int) (a x b : UInt8) (w : World) (hr : 128 ≤ r) (hr2 : r ≤ 1114111) (hne : r ≠ 65533) (hv : Lib.validRune r = true) (he : Utf8.encode r = ⟨#[a, x, b]⟩) (hb : 128 ≤ b.toNat) :
    Calls Tryz.prog 98 #[sepS, .int .i32 r] w fun e w' => e = .returned (.int .i64 (-1)) ∧ Fr No w w' := by
  have h1 : ¬ r < 128 := by omega
  have h2 : 0 ≤ r := by omega
  have h3 : (r == 65533) = false := beq_eq_false_iff_ne.2 hne
  have HV := Lib.hid hv
  have CALL : Hid (∀ W : World, Calls Tryz.prog 115 #[.string ByteArray.empty, .int .u8 b.toNat] W fun e w'' => e = .returned (.int .i64 (-1)) ∧ w'' = W) := fun W => by
    refine (Tryz.strings_IndexByte _ _ W).mono ?_
    rintro e w' ⟨rfl, rfl⟩
    refine ⟨?_, rfl⟩
    have e1 : (((b.toNat : Nat) : Int)).toNat.toUInt8 = b := by
      rw [Int.toNat_natCast]
      show UInt8.ofNat _ = b
      rw [UInt8.ofNat_toNat]
    rw [e1]
    exact congrArg (fun z => Ending.returned (.int .i64 z)) (index_none b _ (by
      rw [show (ByteArray.empty).data.toList = [] by decide]
      intro h
      have : b.toNat < 128 := by simp at h; try (subst h; decide)
      omega))
  clear hne hv
  go_enter Tryz.func98, Tryz.ntmps98
  go_wp2_with fail
  refine (Tryz.utf8_ValidRune _ _).mono ?_
  rintro e w' ⟨rfl, rfl⟩
  rw [HV.out]
  go_wp2_with fail
  go_step3
  go_wp2_with fail
  have g1 : ∀ h : 2 < (ByteArray.mk #[32, 40, 41]).size, (ByteArray.mk #[32, 40, 41])[2]'h = 41 := fun _ => rfl
  have g2 : ∀ h : 2 < (ByteArray.mk #[a, x, b]).size, (ByteArray.mk #[a, x, b])[2]'h = b := fun _ => rfl
  have hw3 : IntKind.i64.wrap 3 = 3 := by decide
  have e40 : ((41 : Int) != (b.toNat : Int)) = true := by rw [bne_iff_ne]; omega
  go_loopw [9] (fun v wr => v = .int .i64 2 ∧ wr = w') (fun _ _ => 0)
  case atStart => exact ⟨rfl, rfl⟩
  case round =>
    obtain ⟨rfl, rfl⟩ := hrel
    go_wp2_with fail
    go_step3
    go_wp2_with fail
    go_region
    go_wp2_with fail
    go_quiet ((go_at_call 115; ((with_reducible refine (CALL.out _).mono ?_); rintro e w'' ⟨rfl, rfl⟩; exact ⟨rfl, _, rfl⟩)))
    go_wp2_with fail
    simp +zetaDelta only [Exit.inBlock, Exit.then, Exit.noGoto]
    go_ret
    exact ⟨rfl, (Fr.refl _ _).drewN _⟩


set_option maxRecDepth 100000 in
set_option maxHeartbeats 1000000 in
theorem ixr_four (r : Int) (a x y b : UInt8) (w : World) (hr : 128 ≤ r) (hr2 : r ≤ 1114111) (hne : r ≠ 65533) (hv : Lib.validRune r = true) (he : Utf8.encode r = ⟨#[a, x, y, b]⟩) :
    Calls Tryz.prog 98 #[sepS, .int .i32 r] w fun e w' => e = .returned (.int .i64 (-1)) ∧ Fr No w w' := by
  have h1 : ¬ r < 128 := by omega
  have h2 : 0 ≤ r := by omega
  have h3 : (r == 65533) = false := beq_eq_false_iff_ne.2 hne
  have HV := Lib.hid hv
  clear hne hv
  go_enter Tryz.func98, Tryz.ntmps98
  go_wp2_with fail
  refine (Tryz.utf8_ValidRune _ _).mono ?_
  rintro e w' ⟨rfl, rfl⟩
  rw [HV.out]
  go_wp2_with fail
  go_step3
  go_wp2_with fail
  go_loopw [9] (fun v wr => v = .int .i64 3 ∧ wr = w') (fun _ _ => 0)
  case atStart => exact ⟨rfl, rfl⟩
  case round =>
    obtain ⟨rfl, rfl⟩ := hrel
    go_wp2_with fail
    simp +zetaDelta only [Exit.inBlock, Exit.noGoto]
    go_ret
    exact ⟨rfl, Fr.refl _ _⟩

set_option maxRecDepth 100000 in
set_option maxHeartbeats 1000000 in
theorem ixr_bad (r : Int) (w : World) (hr : 128 ≤ r) (hr2 : r ≤ 1114111) (hne : r ≠ 65533) (hv : Lib.validRune r = false) :
    Calls Tryz.prog 98 #[sepS, .int .i32 r] w fun e w' => e = .returned (.int .i64 (-1)) ∧ Fr No w w' := by
  have h1 : ¬ r < 128 := by omega
  have h2 : 0 ≤ r := by omega
  have h3 : (r == 65533) = false := beq_eq_false_iff_ne.2 hne
  have HV := Lib.hid hv
  clear hne hv
  go_enter Tryz.func98, Tryz.ntmps98
  go_wp2_with fail
  refine (Tryz.utf8_ValidRune _ _).mono ?_
  rintro e w' ⟨rfl, rfl⟩
  rw [HV.out]
  go_wp2_with fail
  go_ret
  exact ⟨rfl, Fr.refl _ _⟩

set_option maxRecDepth 100000 in
set_option maxHeartbeats 1000000 in
theorem ixr_err (r : Int) (w : World) (h1 : ¬ r < 128) (h2 : 0 ≤ r) (h3 : (r == 65533) = true) :
    Calls Tryz.prog 98 #[sepS, .int .i32 r] w fun e w' => e = .returned (.int .i64 (-1)) ∧ Fr No w w' := by
  go_enter Tryz.func98, Tryz.ntmps98
  go_wp2_with fail
  go_loopg [5, 6] 3 (fun g _ _ wx => ∃ i : Nat, i + g = 3 ∧ wx = w.iter ⟨#[32, 40, 41]⟩ i)
  case atStart => exact ⟨0, rfl, rfl⟩
  case round =>
    obtain ⟨i, hig, rfl⟩ := hrel
    cases gk with
    | zero =>
      obtain rfl : i = 3 := by omega
      have hnx := run_next_end (P := Tryz.prog) w ⟨#[32, 40, 41]⟩ 3
      go_wp2
      go_ret
      exact ⟨rfl, (Fr.refl _ _).alloc _⟩
    | succ g =>
      have hi : i < (ByteArray.mk #[32, 40, 41]).size := by show i < 3; omega
      have hx128 : ((ByteArray.mk #[32, 40, 41])[i]'hi).toNat < 128 := by
        have all : ∀ j : Fin 3, ((ByteArray.mk #[32, 40, 41])[j.val]'(j.isLt)).toNat < 128 := by decide
        exact all ⟨i, hi⟩
      have hnx := fun ty => run_next_ascii (P := Tryz.prog) w ⟨#[32, 40, 41]⟩ i ty hi hx128
      generalize ((ByteArray.mk #[32, 40, 41])[i]'hi).toNat = x at hx128 hnx
      have hne : ((x : Int) == 65533) = false := beq_eq_false_iff_ne.2 (by omega)
      go_wp2_with fail
      go_roundg g
      case measure => omega
      case rel => exact ⟨i + 1, by omega, rfl⟩

theorem enc_cases (r : Int) (h1 : 128 ≤ r) (h2 : r ≤ 1114111) (hv : Lib.validRune r = true) :
    (∃ a b : UInt8, Utf8.encode r = ⟨#[a, b]⟩ ∧ 128 ≤ b.toNat) ∨ (∃ a x b : UInt8, Utf8.encode r = ⟨#[a, x, b]⟩ ∧ 128 ≤ b.toNat) ∨ ∃ a x y b : UInt8, Utf8.encode r = ⟨#[a, x, y, b]⟩ := by
  have hval : Utf8.valid r = true := by
    unfold Lib.validRune at hv
    unfold Utf8.valid
    simp only [Bool.or_eq_true, Bool.and_eq_true, decide_eq_true_eq] at hv ⊢
    omega
  obtain ⟨n, rfl⟩ : ∃ n : Nat, r = n := ⟨r.toNat, by omega⟩
  unfold Utf8.encode
  simp only [hval, if_true, Int.toNat_natCast]
  have c1 : ¬ n < 128 := by omega
  have hb : ∀ m : Nat, 128 ≤ (UInt8.ofNat (128 + m % 64)).toNat := fun m => by rw [UInt8.toNat_ofNat']; omega
  simp only [c1, if_false]
  split
  · exact .inl ⟨_, _, rfl, hb _⟩
  · split
    · exact .inr (.inl ⟨_, _, _, rfl, hb _⟩)
    · exact .inr (.inr ⟨_, _, _, _, rfl⟩)

/-- no separator is a rune beyond ASCII -/
theorem ixr_high (r : Int) (w : World) (h1 : 128 ≤ r) (h2 : r ≤ 1114111) :
    Calls Tryz.prog 98 #[sepS, .int .i32 r] w fun e w' => e = .returned (.int .i64 (-1)) ∧ Fr No w w' := by
  by_cases hne : r = 65533
  · exact ixr_err r w (by omega) (by omega) (by rw [hne]; rfl)
  · rcases hv : Lib.validRune r with _ | _
    · exact ixr_bad r w h1 h2 hne hv
    · rcases enc_cases r h1 h2 hv with ⟨a, b, e, hb⟩ | ⟨a, x, b, e, hb⟩ | ⟨a, x, y, b, e⟩
      · exact ixr_two r a b w h1 h2 hne hv e hb
      · exact ixr_three r a x b w h1 h2 hne hv e hb
      · exact ixr_four r a x y b w h1 h2 hne hv e
end Go.Proofs.YtnjgaenhjdjpfaaGreatDoor

/- Ixany -/
namespace Go.Proofs.YtnjgaenhjdjpfaaGreatDoor
open Go.RowKit Go.ChangeMaps

theorem run_next_rune {P : Program} (w : World) (s : ByteArray) (pos : Nat) (ty : TypeId) (h : pos < s.size) (r k : Nat) (hd : Utf8.decode s pos = (r, k)) :
    (Instr.next (.pointer (some ⟨w.heap.size, 0, none⟩)) true ty).run P (w.iter s pos) = .ok (.tuple #[.bool true, .int .i64 pos, .int .i32 r]) (w.iter s (pos + k)) := by
  simp only [Instr.next, getObj, setObj, Sem.run_bind, Sem.run, World.iter_heap, Result.andThen, h, if_true, hd, World.iter_set]
  simp [goInt]

theorem get_bang (u : List UInt8) (i : Nat) : (ByteArray.mk u.toArray).get! i = u.getD i 0 := by
  unfold ByteArray.get!
  simp [List.getD_eq_getElem?_getD]
  rcases h : u[i]? with _ | x
  · simp; rfl
  · simp

theorem decodeN_high (n b0 b1 b2 b3 : Nat) (h : 128 ≤ b0) (h0 : b0 < 256) (hn : 1 ≤ n) : ∃ r k, Lib.decodeN n b0 b1 b2 b3 = (r, k) ∧ 128 ≤ r ∧ r ≤ 1114111 ∧ 1 ≤ k ∧ k ≤ n ∧ (2 ≤ k → b1 / 64 = 2) ∧ (3 ≤ k → b2 / 64 = 2) ∧ (4 ≤ k → b3 / 64 = 2) ∧ k ≤ 4 := by
  refine ⟨(Lib.decodeN n b0 b1 b2 b3).1, (Lib.decodeN n b0 b1 b2 b3).2, rfl, ?_⟩
  have hc : ¬ b0 < 128 := by omega
  unfold Lib.decodeN
  rw [if_neg hc]
  split
  · split
    · refine ⟨?_, ?_, ?_, ?_, ?_, ?_, ?_, ?_⟩ <;> (try omega) <;> (intro h2; omega)
    · refine ⟨?_, ?_, ?_, ?_, ?_, ?_, ?_, ?_⟩ <;> (try omega) <;> (intro h2; omega)
  · split
    · split
      · refine ⟨?_, ?_, ?_, ?_, ?_, ?_, ?_, ?_⟩ <;> (try omega) <;> (intro h2; omega)
      · refine ⟨?_, ?_, ?_, ?_, ?_, ?_, ?_, ?_⟩ <;> (try omega) <;> (intro h2; omega)
    · split
      · split
        · refine ⟨?_, ?_, ?_, ?_, ?_, ?_, ?_, ?_⟩ <;> (try omega) <;> (intro h2; omega)
        · refine ⟨?_, ?_, ?_, ?_, ?_, ?_, ?_, ?_⟩ <;> (try omega) <;> (intro h2; omega)
      · refine ⟨?_, ?_, ?_, ?_, ?_, ?_, ?_, ?_⟩ <;> (try omega) <;> (intro h2; omega)

/-- no separator among the first -/
def NoSep (u : List UInt8) (i : Nat) : Prop := ∀ (j : Nat) (x : UInt8), j < i → u[j]? = some x → isSep x = false

theorem NoSep.zero (u : List UInt8) : NoSep u 0 := fun j x h => by omega

theorem sep_low {x : UInt8} (h : 128 ≤ x.toNat) : isSep x = false := by
  unfold isSep
  simp only [Bool.or_eq_false_iff, beq_eq_false_iff_ne]
  refine ⟨⟨?_, ?_⟩, ?_⟩ <;> (rintro rfl; revert h; decide)

theorem NoSep.high {u : List UInt8} {i : Nat} (h : NoSep u i) {x : UInt8} (hx : u[i]? = some x) (h128 : 128 ≤ x.toNat) :
    ∃ r k, Utf8.decode ⟨u.toArray⟩ i = (r, k) ∧ 128 ≤ r ∧ r ≤ 1114111 ∧ 1 ≤ k ∧ i + k ≤ u.length ∧ NoSep u (i + k) := by
  have hl := (List.getElem?_eq_some_iff.1 hx).1
  have hsz : (ByteArray.mk u.toArray).size = u.length := rfl
  have e0 : (ByteArray.mk u.toArray).get! i = x := by rw [get_bang, List.getD_eq_getElem?_getD, hx]; rfl
  obtain ⟨r, k, hd, h1, h2, h3, h4, h5, h6, h7, h8⟩ := decodeN_high (u.length - i) x.toNat ((ByteArray.mk u.toArray).get! (i + 1)).toNat ((ByteArray.mk u.toArray).get! (i + 2)).toNat ((ByteArray.mk u.toArray).get! (i + 3)).toNat h128 x.toNat_lt (by omega)
  refine ⟨r, k, by rw [Lib.decode_at, hsz, e0]; exact hd, h1, h2, h3, by omega, ?_⟩
  intro j y hj hy
  rcases Nat.lt_or_ge j i with hji | hji
  · exact h j y hji hy
  · have hg : ∀ m, j = i + m → ((ByteArray.mk u.toArray).get! (i + m)).toNat = y.toNat := by
      intro m e
      rw [get_bang, List.getD_eq_getElem?_getD, ← e, hy]; rfl
    apply sep_low
    have : j = i ∨ j = i + 1 ∨ j = i + 2 ∨ j = i + 3 := by omega
    rcases this with e | e | e | e
    · rw [e, hx] at hy; injection hy with hy; rw [← hy]; exact h128
    · have g := hg 1 e; rw [g] at h5; have := h5 (by omega); omega
    · have g := hg 2 e; rw [g] at h6; have := h6 (by omega); omega
    · have g := hg 3 e; rw [g] at h7; have := h7 (by omega); omega

theorem NoSep.succ {u : List UInt8} {i : Nat} (h : NoSep u i) {x : UInt8} (hx : u[i]? = some x) (hs : isSep x = false) : NoSep u (i + 1) := by
  intro j y hj hy
  rcases Nat.lt_or_ge j i with hji | hji
  · exact h j y hji hy
  · have : j = i := by omega
    subst this
    rw [hx] at hy; injection hy with hy; rw [← hy]; exact hs

theorem NoSep.take {u : List UInt8} {i : Nat} (h : NoSep u i) : (u.take i).all (fun c => !isSep c) = true := by
  rw [List.all_eq_true]
  intro x hx
  obtain ⟨j, hj⟩ := List.getElem?_of_mem hx
  rw [List.getElem?_take] at hj
  split at hj
  · rename_i hlt; simp [h j x hlt hj]
  · cases hj

/-- where the word ends -/
def WordAt (u : List UInt8) (r : Int) : Prop := (r = -1 ∧ wordOf u = u ∧ behind u = []) ∨ (0 ≤ r ∧ r ≤ u.length ∧ wordOf u = u.take r.toNat ∧ behind u = u.drop r.toNat)

theorem WordAt.none {u : List UInt8} (h : NoSep u u.length) : WordAt u (-1) := by
  have h1 := h.take
  rw [List.take_length] at h1
  have := word_of (r := []) h1 (fun x y e => by cases e)
  rw [List.append_nil] at this
  exact .inl ⟨rfl, this⟩

theorem WordAt.some {u : List UInt8} {i : Nat} {x : UInt8} (h : NoSep u i) (hx : u[i]? = some x) (hs : isSep x = true) : WordAt u i := by
  obtain ⟨hl, e⟩ := List.getElem?_eq_some_iff.1 hx
  have hst : Stop (u.drop i) := by
    intro a b ed
    rw [List.drop_eq_getElem_cons hl, e] at ed
    injection ed with ed _
    rw [← ed]; exact hs
  have := word_of h.take hst
  rw [List.take_append_drop] at this
  exact .inr ⟨by omega, by omega, by simpa using this⟩

def sepL : List UInt8 := [32, 40, 41]

theorem sep_contains (x : UInt8) : sepL.contains x = isSep x := by
  unfold sepL isSep
  simp
  cases h1 : x == 32 <;> cases h2 : x == 40 <;> cases h3 : x == 41 <;> simp <;> simp_all

def AnyPost (u : List UInt8) (w : World) (e : Ending) (w' : World) : Prop := ∃ r : Int, e = .returned (.int .i64 r) ∧ WordAt u r ∧ Fr No w w'
end Go.Proofs.YtnjgaenhjdjpfaaGreatDoor

/- Word -/
namespace Go.Proofs.YtnjgaenhjdjpfaaGreatDoor
open Go.RowKit Go.ChangeMaps

theorem sep_first (u : List UInt8) : NoSep u u.length ∨ ∃ i x, NoSep u i ∧ u[i]? = some x ∧ isSep x = true := by
  have hu := word_behind u
  have hno : NoSep u (wordOf u).length := by
    intro j x hj hx
    rw [hu, List.getElem?_append_left hj] at hx
    have := List.mem_of_getElem? hx
    have h2 : ∀ y ∈ u.takeWhile (fun c => !isSep c), (!isSep y) = true := fun y hy => by
      have := List.all_eq_true.1 (List.all_takeWhile (l := u) (p := fun c => !isSep c)) y hy
      exact this
    have := h2 x this
    simpa using this
  rcases hb : behind u with _ | ⟨x, r⟩
  · left
    rw [hb, List.append_nil] at hu
    rw [← hu] at hno
    exact hno
  · right
    refine ⟨(wordOf u).length, x, hno, ?_, stop_behind u x r hb⟩
    have h1 : (wordOf u ++ behind u)[(wordOf u).length]? = some x := by
      rw [List.getElem?_append_right (Nat.le_refl _), hb]
      simp
    rwa [← hu] at h1

theorem NoSep.any {u : List UInt8} {i : Nat} (h : NoSep u i) : Lib.NoAny u sepL i := fun j b hj hb => by rw [sep_contains]; exact h j b hj hb

theorem wordAt_index (u : List UInt8) : WordAt u (Lib.indexAny u sepL) := by
  rcases sep_first u with h | ⟨i, x, h, hx, hs⟩
  · rw [Lib.indexAny_none h.any]; exact .none h
  · rw [Lib.indexAny_hit h.any hx (by rw [sep_contains]; exact hs)]; exact .some h hx hs

theorem any_long (u : List UInt8) (w : World) (h8 : 8 < u.length) (hu : u.length ≤ 100000) :
    Calls Tryz.prog 76 #[S u, sepS] w fun e w' => AnyPost u w e w' := by
  have h := Tryz.strings_IndexAny_long (fun w => by kernel_rfl) ⟨u.toArray⟩ ⟨#[32, 40, 41]⟩ w (by decide) (by show 8 < u.length; exact h8) (by show u.length < _; omega) (by decide) (by
    intro j b hb
    have : b ∈ sepL := List.mem_of_getElem? hb
    simp [sepL] at this
    rcases this with rfl | rfl | rfl <;> decide)
  refine h.mono ?_
  rintro e w' ⟨rfl, rfl⟩
  exact ⟨_, rfl, wordAt_index u, ((Fr.refl _ _).alloc _).alloc _⟩

/-- an iterator over a text -/
def It (w : World) (b : Nat) (s : ByteArray) (pos : Nat) : Prop := w.heap[b]? = some (.stringIter s pos)

theorem It.lt {w : World} {b : Nat} {s : ByteArray} {pos : Nat} (h : It w b s pos) : b < w.heap.size := by
  rcases Nat.lt_or_ge b w.heap.size with hlt | hge
  · exact hlt
  · unfold It at h; rw [Array.getElem?_eq_none hge] at h; cases h

theorem It.set_ {w : World} {b : Nat} {s : ByteArray} {pos : Nat} (h : It w b s pos) (p' : Nat) : It (setBlock w b (.stringIter s p')) b s p' ∧ Fr (One b) w (setBlock w b (.stringIter s p')) := by
  have hl := h.lt
  refine ⟨?_, rfl, rfl, rfl, by simp [setBlock], fun k hk hs => ?_⟩
  · unfold It setBlock; simp [hl]
  · unfold One at hs
    simp only [setBlock]
    rw [Array.getElem?_setIfInBounds]
    simp [Ne.symm hs]

theorem It.next {P : Program} {w : World} {b : Nat} {s : ByteArray} {pos : Nat} (hb : It w b s pos) (ty : TypeId) (h : pos < s.size) (r k : Nat) (hd : Utf8.decode s pos = (r, k)) :
    (Instr.next (.pointer (some ⟨b, 0, none⟩)) true ty).run P w = .ok (.tuple #[.bool true, .int .i64 pos, .int .i32 r]) (setBlock w b (.stringIter s (pos + k))) := by
  unfold It at hb
  simp only [Instr.next, getObj, setObj, Sem.run_bind, Sem.run, hb, Result.andThen, h, if_true, hd]
  simp [goInt, setBlock]

theorem It.end_ {P : Program} {w : World} {b : Nat} {s : ByteArray} {pos : Nat} (hb : It w b s pos) (ty : TypeId) (h : ¬ pos < s.size) :
    (Instr.next (.pointer (some ⟨b, 0, none⟩)) true ty).run P w = .ok (.tuple #[.bool false]) w := by
  unfold It at hb
  simp [Instr.next, getObj, Sem.run, hb, h]

theorem ixr_ascii (x : UInt8) (w : World) (hx : x.toNat < 128) (b : Bool) (hb : isSep x = b) :
    Calls Tryz.prog 98 #[sepS, .int .i32 x.toNat] w fun e w' => ∃ r : Int, e = .returned (.int .i64 r) ∧ (decide (0 ≤ r) = b) ∧ Fr No w w' := by
  refine (Tryz.strings_IndexRune_ascii ⟨#[32, 40, 41]⟩ x.toNat w (by omega) (by omega)).mono ?_
  rintro e w' ⟨rfl, rfl⟩
  have hback : ((x.toNat : Int)).toNat.toUInt8 = x := by simp
  refine ⟨_, rfl, ?_, Fr.refl _ _⟩
  rw [hback]
  have := Lib.contains_iff_indexByte sepL x
  rw [sep_contains, hb] at this
  exact this.symm

set_option maxRecDepth 100000 in
set_option maxHeartbeats 2000000 in
theorem any_short (u : List UInt8) (w : World) (h8 : u.length ≤ 8) :
    Calls Tryz.prog 76 #[S u, sepS] w fun e w' => AnyPost u w e w' := by
  have h8z : decide ((8 : Int) < (u.length : Int)) = false := decide_eq_false (by omega)
  have hI : It (w.iter ⟨u.toArray⟩ 0) w.heap.size ⟨u.toArray⟩ 0 := World.iter_heap _ _ _
  have hf0 : Fr No w (w.iter ⟨u.toArray⟩ 0) := (Fr.refl _ _).alloc _
  have HI := Lib.hid hI
  clear hI
  go_enter Tryz.func76, Tryz.ntmps76
  go_wp2_with fail
  refine (Tryz.strings_shouldUseASCIISet _ _).mono ?_
  rintro e w' ⟨rfl, rfl⟩
  rw [h8z]
  go_wp2_with fail
  generalize w'.iter ⟨u.toArray⟩ 0 = w1 at HI hf0 ⊢
  go_loopg [9, 10] u.length (fun g _ _ wx => ∃ (i : Nat), i + g = u.length ∧ It wx w'.heap.size ⟨u.toArray⟩ i ∧ Fr No w' wx ∧ NoSep u i)
  case atStart => exact ⟨0, by omega, HI.out, hf0, NoSep.zero _⟩
  case round =>
    obtain ⟨i, hig, hit, hfr, hno⟩ := hrel
    have HN := Lib.hid hno
    have HT := Lib.hid hit
    clear hno hit
    by_cases hlt : i < u.length
    · obtain ⟨x, hx⟩ : ∃ x, u[i]? = some x := ⟨_, List.getElem?_eq_getElem hlt⟩
      have HX := Lib.hid hx
      clear hx
      by_cases h128 : x.toNat < 128
      · have hd : Utf8.decode ⟨u.toArray⟩ i = (x.toNat, 1) := by
          obtain ⟨hl, e⟩ := List.getElem?_eq_some_iff.1 HX.out
          have e2 : ((ByteArray.mk u.toArray)[i]'hl) = x := by rw [← e]; rfl
          rw [decode_ascii ⟨u.toArray⟩ i hl (by rw [e2]; exact h128), e2]
        have hnx := fun ty => HT.out.next (P := Tryz.prog) ty hlt _ _ hd
        obtain ⟨hit', hfs⟩ := HT.out.set_ (i + 1)
        have HT' := Lib.hid hit'
        have HF' := Lib.hid (hfr.then_ hfs (fun j hj e => by unfold One at e; omega))
        clear hit' hfs hd
        generalize setBlock wr w'.heap.size (.stringIter ⟨u.toArray⟩ (i + 1)) = w2 at hnx HT' HF'
        rcases hs : isSep x with _ | _
        · have HS := Lib.hid hs
          clear hs
          go_wp2_with fail
          refine (ixr_ascii x w2 h128 false HS.out).mono ?_
          rintro e w3 ⟨r, rfl, hr, hf3⟩
          have HT3 : Hid (It w3 w'.heap.size ⟨u.toArray⟩ (i + 1)) := (hf3.block _ HT'.out.lt (fun h => h)).trans HT'.out
          have HF3 := Lib.hid (HF'.out.trans hf3)
          clear hf3
          go_wp2_with fail
          go_roundg (u.length - (i + 1))
          case measure => omega
          case rel => exact ⟨i + 1, by omega, HT3.out, HF3.out, HN.out.succ HX.out HS.out⟩
        · have HS := Lib.hid hs
          clear hs
          go_wp2_with fail
          refine (ixr_ascii x w2 h128 true HS.out).mono ?_
          rintro e w3 ⟨r, rfl, hr, hf3⟩
          have HF3 := Lib.hid (HF'.out.trans hf3)
          clear hf3
          go_wp2_with fail
          go_ret
          exact ⟨_, rfl, WordAt.some HN.out HX.out HS.out, HF3.out⟩
      · obtain ⟨r, k, hd, h1, h2, h3, h4, h5⟩ := HN.out.high HX.out (by omega)
        have hnx := fun ty => HT.out.next (P := Tryz.prog) ty hlt _ _ hd
        obtain ⟨hit', hfs⟩ := HT.out.set_ (i + k)
        have HT' := Lib.hid hit'
        have HF' := Lib.hid (hfr.then_ hfs (fun j hj e => by unfold One at e; omega))
        have H5 := Lib.hid h5
        clear hit' hfs hd h5
        generalize setBlock wr w'.heap.size (.stringIter ⟨u.toArray⟩ (i + k)) = w2 at hnx HT' HF'
        go_wp2_with fail
        refine (ixr_high (r : Int) w2 (by omega) (by omega)).mono ?_
        rintro e w3 ⟨rfl, hf3⟩
        have HT3 : Hid (It w3 w'.heap.size ⟨u.toArray⟩ (i + k)) := (hf3.block _ HT'.out.lt (fun h => h)).trans HT'.out
        have HF3 := Lib.hid (HF'.out.trans hf3)
        clear hf3
        go_wp2_with fail
        go_roundg (u.length - (i + k))
        case measure => omega
        case rel => exact ⟨i + k, by omega, HT3.out, HF3.out, H5.out⟩
    · have hge : ¬ i < (ByteArray.mk u.toArray).size := hlt
      have hnx := fun ty => HT.out.end_ (P := Tryz.prog) ty hge
      have hiu : i = u.length := by omega
      have HN' : Hid (NoSep u u.length) := by
        have := HN.out
        rw [hiu] at this
        exact this
      clear hiu
      go_wp2_with fail
      go_ret
      exact ⟨-1, rfl, WordAt.none HN'.out, hfr⟩

theorem idx_any (u : List UInt8) (w : World) (hu : u.length ≤ 100000) : Calls Tryz.prog 76 #[S u, sepS] w fun e w' => AnyPost u w e w' := by
  rcases Nat.lt_or_ge 8 u.length with h | h
  · exact any_long u w h hu
  · exact any_short u w h
end Go.Proofs.YtnjgaenhjdjpfaaGreatDoor

/- Trd -/
namespace Go.Proofs.YtnjgaenhjdjpfaaGreatDoor
open Go.RowKit Go.ChangeMaps

/-- the reader of terms -/
def TRdr (w : World) (R : Nat) (u : List UInt8) (k : Nat) : Prop := Blk w R 50 #[S u, .int .i64 k]

theorem ba_take (u : List UInt8) (j : Nat) : (ByteArray.mk u.toArray).extract 0 j = ⟨(u.take j).toArray⟩ := by
  apply ByteArray.ext
  simp [ByteArray.data_extract]

theorem ba_drop (u : List UInt8) (j : Nat) : (ByteArray.mk u.toArray).extract j u.length = ⟨(u.drop j).toArray⟩ := by
  apply ByteArray.ext
  simp [ByteArray.data_extract]
  rw [List.take_of_length_le (by simp)]

set_option maxRecDepth 100000 in
set_option maxHeartbeats 400000 in
theorem skip_t (w : World) (R : Nat) (u p u2 : List UInt8) (k : Nat) (b : Bool) (h : TRdr w R u k) (hb : Lib.hasPrefix u p = b) (hu : Lib.trimPrefix u p = u2) :
    Calls Tryz.prog 48 #[Ptr R, S p] w fun e w' => e = .returned (.bool b) ∧ w.setCell ⟨R, 0, none⟩ (S u2) = w' := by
  have c1 : w.cell? ⟨R, 0, none⟩ = some (S u) := (h.cell 0).trans rfl
  have f1 : w.frozen? ⟨R, 0, none⟩ = false := h.frozen 0
  have HB := Lib.hid hb
  have HU := Lib.hid hu
  clear hb hu
  go_enter Tryz.func48, Tryz.ntmps48
  go_wp2_with fail
  refine (Tryz.strings_CutPrefix _ _ _).mono ?_
  rintro e w' ⟨rfl, rfl⟩
  simp only [HB.out, HU.out]
  go_wp2
  go_ret
  exact ⟨rfl, rfl⟩

def WordPost (w : World) (R : Nat) (u : List UInt8) (k : Nat) (e : Ending) (w' : World) : Prop :=
  TRdr w' R (if 300 < k + 1 then u else behind u) (k + 1) ∧ Fr (One R) w w' ∧ e = .returned (S (if 300 < k + 1 then [] else wordOf u))

set_option maxRecDepth 100000 in
set_option maxHeartbeats 1000000 in
theorem word_any (w : World) (R : Nat) (u : List UInt8) (k : Nat) (h : TRdr w R u k) (hu : u.length ≤ 6000) (hk : k ≤ 1000) :
    Calls Tryz.prog 50 #[Ptr R] w fun e w' => WordPost w R u k e w' := by
  have c0 : w.cell? ⟨R, 0, none⟩ = some (S u) := (h.cell 0).trans rfl
  have c1 : w.cell? ⟨R, 1, none⟩ = some (.int .i64 k) := (h.cell 1).trans rfl
  have f1 := h.frozen 1
  have hlt := h.lt
  have b0 : (0 : Int) ≤ k := by omega
  have b2 : (k : Int) ≤ 1000 := by omega
  have hR1 : TRdr (w.setCell ⟨R, 1, none⟩ (.int .i64 ((k : Int) + 1))) R u (k + 1) := Blk.set_ h 1 (.int .i64 ((k : Int) + 1))
  have hF1 : Fr (One R) w (w.setCell ⟨R, 1, none⟩ (.int .i64 ((k : Int) + 1))) := (Fr.refl (One R) w).setCell (p := ⟨R, 1, none⟩) (.inl rfl) _
  by_cases h300 : 300 < k + 1
  · have hd : decide (300 < (k : Int) + 1) = true := by simp; omega
    go_enter Tryz.func50, Tryz.ntmps50
    go_wp2_with fail
    go_ret
    refine ⟨?_, hF1, ?_⟩
    · rw [if_pos h300]; exact hR1
    · rw [if_pos h300]; rfl
  · have hd : decide (300 < (k : Int) + 1) = false := by simp; omega
    have FIN : Hid (∀ (w3 : World), Fr (One R) w w3 → TRdr w3 R (behind u) (k + 1) → WordPost w R u k (.returned (S (wordOf u))) w3) := by
      intro w3 h1 h2
      refine ⟨?_, h1, ?_⟩
      · rw [if_neg h300]; exact h2
      · rw [if_neg h300]
    have H300 := Lib.hid h300
    clear h300
    go_enter Tryz.func50, Tryz.ntmps50
    go_wp2_with fail
    refine (idx_any u _ (by omega)).mono ?_
    generalize w.setCell ⟨R, 1, none⟩ (.int .i64 ((k : Int) + 1)) = w1 at hR1 hF1 ⊢
    rintro e w2 ⟨r, rfl, hat, hf2⟩
    have hR2 : TRdr w2 R u (k + 1) := hR1.fr hf2 (fun h => h)
    have hF2 : Fr (One R) w w2 := hF1.trans (hf2.mono (fun _ _ h => h.elim))
    have d0 : w2.cell? ⟨R, 0, none⟩ = some (S u) := (hR2.cell 0).trans rfl
    have g0 := hR2.frozen 0
    have hlt2 := hR2.lt
    clear c0 c1 f1 hlt hR1 hF1 hf2
    rcases hat with ⟨rfl, hw, hb⟩ | ⟨h0, hle, hw, hb⟩
    · have HW := Lib.hid hw
      have HB := Lib.hid hb
      have e1 := ba_take u u.length
      have e2 := ba_drop u u.length
      rw [List.take_length] at e1
      rw [List.drop_length] at e2
      clear hw hb
      go_wp2_with fail
      go_ret
      have := FIN.out (w2.setCell ⟨R, 0, none⟩ (S [])) (hF2.setCell (p := ⟨R, 0, none⟩) (.inl rfl) _) (by rw [HB.out]; exact Blk.set_ hR2 0 (S []))
      rw [HW.out] at this
      exact this
    · obtain ⟨j, rfl⟩ : ∃ j : Nat, r = j := ⟨r.toNat, by omega⟩
      have hj : j ≤ u.length := by omega
      have hneg : ¬ (j : Int) < 0 := by omega
      rw [Int.toNat_natCast] at hw hb
      have HW := Lib.hid hw
      have HB := Lib.hid hb
      have e1 := ba_take u j
      have e2 := ba_drop u j
      clear hw hb h0 hle
      go_wp2_with fail
      go_ret
      have := FIN.out (w2.setCell ⟨R, 0, none⟩ (S (u.drop j))) (hF2.setCell (p := ⟨R, 0, none⟩) (.inl rfl) _) (by rw [HB.out]; exact Blk.set_ hR2 0 (S (u.drop j)))
      rw [HW.out] at this
      exact this

def digL : List UInt8 := [48, 49, 50, 51, 52, 53, 54, 55, 56, 57]

theorem dig_contains : ∀ c : Fin 256, digL.contains (UInt8.ofNat c.val) = isDig (UInt8.ofNat c.val) := by decide +kernel

theorem dig_iff (c : UInt8) : digL.contains c = isDig c := by
  have := dig_contains ⟨c.toNat, c.toNat_lt⟩
  simpa using this

theorem drop_nil (p : UInt8 → Bool) : ∀ l : List UInt8, l.dropWhile p = [] ↔ ∀ x ∈ l, p x = true
  | [] => by simp
  | c :: l => by
    rw [List.dropWhile_cons]
    rcases hc : p c with _ | _
    · simp [hc]
    · simp [hc, drop_nil p l]

theorem trim_nil (l : List UInt8) : (Lib.trimS l digL = []) ↔ l.all isDig = true := by
  have hp : (fun c => digL.contains c) = isDig := funext dig_iff
  unfold Lib.trimS Lib.trimLeftS Lib.trimRightS
  rw [hp]
  constructor
  · intro h
    rw [List.all_eq_true]
    by_cases hr : l.reverse.dropWhile isDig = []
    · intro x hx
      have := (drop_nil _ _).1 hr x (by simpa using hx)
      exact this
    · exfalso
      have h1 := (drop_nil _ _).1 h
      rcases hd : l.reverse.dropWhile isDig with _ | ⟨x, r⟩
      · exact hr hd
      · have h2 := h1 x (by rw [hd]; simp)
        have h3 := List.head_dropWhile_not isDig (l := l.reverse) (by rw [hd]; simp)
        simp only [hd, List.head_cons] at h3
        rw [h2] at h3
        cases h3
  · intro h
    rw [List.all_eq_true] at h
    have : l.reverse.dropWhile isDig = [] := (drop_nil _ _).2 (fun x hx => h x (by simpa using hx))
    rw [this]; rfl

theorem trim_any (l : List UInt8) (w : World) (hl : l.length ≤ 100000) :
    Calls Tryz.prog 77 #[S l, .string ⟨#[48, 49, 50, 51, 52, 53, 54, 55, 56, 57]⟩] w fun e w' => ∃ r : List UInt8, e = .returned (S r) ∧ (r = [] ↔ l.all isDig = true) ∧ Fr No w w' := by
  have h := Any.strings_Trim_ascii (ρ := Tryz.lays160_ren) Tryz.lays160 (fun w => by kernel_rfl) (by kernel_rfl) ⟨l.toArray⟩ ⟨#[48, 49, 50, 51, 52, 53, 54, 55, 56, 57]⟩ w (by show l.length ≤ _; omega) (by decide) (Go.Proofs.ascii_of_all (by decide))
  refine h.mono ?_
  rintro e w' ⟨rfl, hb⟩
  exact ⟨_, rfl, trim_nil l, Fr.of_below hb (Nat.le_refl _) _⟩

set_option maxRecDepth 100000 in
set_option maxHeartbeats 1000000 in
theorem nameIs_any (a : List UInt8) (w : World) (ha : a.length ≤ 6000) :
    Calls Tryz.prog 52 #[S a] w fun e w' => e = .returned (.bool (isName a)) ∧ Fr No w w' := by
  match a, ha with
  | [], _ =>
    go_enter Tryz.func52, Tryz.ntmps52
    go_wp2_with fail
    go_ret
    exact ⟨rfl, Fr.refl _ _⟩
  | c :: r, ha =>
    simp at ha
    have hg : ∀ h : 0 < (ByteArray.mk (c :: r).toArray).size, (ByteArray.mk (c :: r).toArray)[0]'h = c := fun h => rfl
    have hlt := c.toNat_lt
    by_cases h4 : 3 < r.length
    · have hd : decide ((4 : Int) < (r.length : Int) + 1) = true := by simp; omega
      have hn : isName (c :: r) = false := by simp [isName]; omega
      rw [hn]
      clear hn
      go_enter Tryz.func52, Tryz.ntmps52
      go_wp2_with fail
      go_ret
      exact ⟨rfl, Fr.refl _ _⟩
    · have hd : decide ((4 : Int) < (r.length : Int) + 1) = false := by simp; omega
      by_cases h97 : c.toNat < 97
      · have hn : isName (c :: r) = false := by
          simp only [isName]
          have : decide (97 ≤ c.toNat) = false := by simp; omega
          simp [this]
        rw [hn]
        have hd2 : decide ((c.toNat : Int) < 97) = true := by simp; omega
        clear hn
        go_enter Tryz.func52, Tryz.ntmps52
        go_wp2_with fail
        go_ret
        exact ⟨rfl, Fr.refl _ _⟩
      · have hd2 : decide ((c.toNat : Int) < 97) = false := by simp; omega
        by_cases h122 : 122 < c.toNat
        · have hn : isName (c :: r) = false := by
            simp only [isName]
            have : decide (c.toNat ≤ 122) = false := by simp; omega
            simp [this]
          rw [hn]
          have hd3 : decide (122 < (c.toNat : Int)) = true := by simp; omega
          clear hn
          go_enter Tryz.func52, Tryz.ntmps52
          go_wp2_with fail
          go_ret
          exact ⟨rfl, Fr.refl _ _⟩
        · have hd3 : decide (122 < (c.toNat : Int)) = false := by simp; omega
          have hn : isName (c :: r) = r.all isDig := by
            simp only [isName]
            have h1 : decide (r.length ≤ 3) = true := by simp; omega
            have h2 : decide (97 ≤ c.toNat) = true := by simp; omega
            have h3 : decide (c.toNat ≤ 122) = true := by simp; omega
            simp [h1, h2, h3]
          rw [hn]
          have hex : (ByteArray.mk (c :: r).toArray).extract 1 (r.length + 1) = ⟨r.toArray⟩ := by
            apply ByteArray.ext
            simp [ByteArray.data_extract]
          have h1r : (1 : Int) ≤ (r.length : Int) + 1 := by omega
          clear hn
          go_enter Tryz.func52, Tryz.ntmps52
          go_wp2_with fail
          refine (trim_any r _ (by omega)).mono ?_
          rintro e w1 ⟨x, rfl, hx, hf⟩
          rcases hall : r.all isDig with _ | _
          · have hxe : x.isEmpty = false := by
              rcases x with _ | ⟨y, x⟩
              · have := hx.1 rfl; rw [hall] at this; cases this
              · rfl
            clear hx
            go_wp2_with fail
            go_ret
            exact ⟨by rw [hall]; rfl, hf⟩
          · have hxe : x = [] := hx.2 hall
            subst hxe
            clear hx
            go_wp2_with fail
            go_ret
            exact ⟨by rw [hall]; rfl, hf⟩
end Go.Proofs.YtnjgaenhjdjpfaaGreatDoor
