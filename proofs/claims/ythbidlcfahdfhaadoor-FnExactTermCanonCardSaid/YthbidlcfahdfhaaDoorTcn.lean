/- The program's canonical names: fresh. -/
import Derived.Test.YthbidlcfahdfhaaDoorTrn
import Derived.Test.YthbidlcfahdfhaaDoorTfree
import Derived.Test.YthbidlcfahdfhaaDoorStext
import Derived.Test.YthbidlcfahdfhaaDoorShelf
import Derived.Lib.AppendIntMem
namespace Go.Proofs.YthbidlcfahdfhaaDoor
open Go.RowKit Go.ChangeMaps

/-- the library's table reads as it is laid, whatever is done from a block on -/
abbrev Tb (B : Nat) (w : World) : Prop := Lib.TabBelow Tryd.prog B w "internal/strconv.uint64pow10" .u64 Lib.pow10Tab

theorem Tb.fr {B : Nat} {w w' : World} {T : Nat → Prop} (h : Tb B w) (hf : Fr T w w') (hB : B ≤ w.heap.size) (hT : ∀ k, T k → B ≤ k) : Tb B w' := h.on (hf.below hB hT)

theorem SSl.frT {w w' : World} {A : Option Addr} {xs : List (List UInt8)} {T : Nat → Prop} (h : SSl w A xs) (hf : Fr T w w') (hT : ∀ g o, A = some ⟨g, o, none⟩ → ¬ T g) : SSl w' A xs := NSl.fr (show NSl w A xs from h) hf hT

theorem itoa_any (B : Nat) (n : Nat) (hn : n ≤ 100000) (w : World) (ht : Tb B w) :
    Calls Tryd.prog 95 #[.int .i64 n] w fun e w' => e = .returned (S (Lib.decDigits n)) ∧ Fr No w w' := by
  refine (Tryd.strconv_Itoa (n : Int) (by omega) (by omega) w ht.here).mono ?_
  rintro e w' ⟨rfl, k, os, rfl⟩
  have e1 : Lib.itoa (n : Int) = Lib.decDigits n := by
    unfold Lib.itoa
    rw [if_neg (by omega)]
    rfl
  exact ⟨by rw [e1], Fr.of_below (Lib.below_grow _ w (Nat.le_refl _) k os) (Nat.le_refl _) _⟩

def FshP (tk : List (List UInt8)) (m : Nat) (A : Option Addr) (c g : Nat) (w : World) (e : Ending) (w' : World) : Prop :=
  e = .returned (S (xnm (fsh tk g))) ∧ Fr (One m) w w' ∧ Blk w' m 80 #[.slice A tk.length c, .int .i64 ((fsh tk g + 1 : Nat) : Int)]

theorem fsh_here {tk : List (List UInt8)} {g i : Nat} (h1 : g ≤ i) (h2 : i ≤ fsh tk g) (h3 : xnm i ∉ tk) : i = fsh tk g := by
  obtain ⟨a, b, c⟩ := fsh_spec tk g
  by_cases h : i < fsh tk g
  · exact absurd (b i h1 h) h3
  · omega

theorem fsh_past {tk : List (List UInt8)} {g i : Nat} (h2 : i ≤ fsh tk g) (h3 : xnm i ∈ tk) : i + 1 ≤ fsh tk g := by
  obtain ⟨a, b, c⟩ := fsh_spec tk g
  by_cases h : i = fsh tk g
  · rw [h] at h3; exact absurd h3 c
  · omega

set_option maxRecDepth 100000 in
set_option maxHeartbeats 1000000 in
theorem fresh_any (w : World) (B m : Nat) (A : Option Addr) (c g : Nat) (tk : List (List UInt8)) (hB : B ≤ m) (ht : Tb B w) (hb : Blk w m 80 #[.slice A tk.length c, .int .i64 (g : Int)])
    (hx : SSl w A tk) (hA : ∀ b o, A = some ⟨b, o, none⟩ → b ≠ m) (hl : tk.length ≤ 1000) (hg : fsh tk g ≤ 5000) :
    Calls Tryd.prog 79 #[Ptr m] w fun e w' => FshP tk m A c g w e w' := by
  have hlt := hb.lt
  have HT := Lib.hid ht
  have HB := Lib.hid hB
  have HX := Lib.hid hx
  have HA := Lib.hid hA
  have HK := Lib.hid hb
  have HL := Lib.hid hl
  obtain ⟨l, hln⟩ : ∃ l, tk.length = l := ⟨_, rfl⟩
  have HLN := Lib.hid hln
  clear ht hB hx hA hb hl
  go_enter Tryd.func79, Tryd.ntmps79
  go_wp2_with fail
  go_loopw [3] (fun _ wr => ∃ i : Nat, g ≤ i ∧ i ≤ fsh tk g ∧ Fr (One m) w wr ∧ Blk wr m 80 #[.slice A tk.length c, .int .i64 (i : Int)]) (fun _ wr => fsh tk g - (intOf ((wr.cell? ⟨m, 1, none⟩).getD undef)).toNat)
  case atStart => exact ⟨g, Nat.le_refl _, (fsh_spec tk g).1, Fr.refl _ _, HK.out⟩
  case round =>
    obtain ⟨i, hgi, hif, hfr, hblk⟩ := hrel
    rw [hln] at hblk
    have c1 : wr.cell? ⟨m, 1, none⟩ = some (.int .i64 (i : Int)) := (hblk.cell 1).trans rfl
    have l1 := hblk.lt
    have i1 : (i : Int) ≤ 5000 := by omega
    have dl : (Lib.decDigits i).length ≤ 4 := dec_len i 3 (by omega)
    have HFR := Lib.hid hfr
    have HBK := Lib.hid hblk
    have ITO : Hid (Calls Tryd.prog 95 #[.int .i64 i] wr fun e w' => e = .returned (S (Lib.decDigits i)) ∧ Fr No wr w') :=
      itoa_any B i (by omega) wr (HT.out.fr hfr (by have := HB.out; omega) (fun k hk => by unfold One at hk; have := HB.out; omega))
    have AFT : Hid (∀ w1, Fr No wr w1 → w1.cell? ⟨m, 1, none⟩ = some (.int .i64 (i : Int)) ∧ w1.frozen? ⟨m, 1, none⟩ = false ∧ m < w1.heap.size ∧ Fr (One m) w (w1.setCell ⟨m, 1, none⟩ (.int .i64 ((i : Int) + 1))) ∧
        Blk (w1.setCell ⟨m, 1, none⟩ (.int .i64 ((i : Int) + 1))) m 80 #[.slice A l c, .int .i64 ((i : Int) + 1)]) := by
      intro w1 hf
      have hb1 := HBK.out.fr hf (fun h => h)
      refine ⟨(hb1.cell 1).trans rfl, hb1.frozen 1, hb1.lt, (HFR.out.then_ hf (fun _ _ h => h.elim)).setCell (p := ⟨m, 1, none⟩) (.inl rfl) _, ?_⟩
      exact hb1.set_ 1 (.int .i64 ((i : Int) + 1))
    have CON : Hid (∀ (W : World) (x : ByteArray), Fr (One m) w W → x.data.toList = xnm i → Calls Tryd.prog 77 #[.slice A l c, .string x] W fun e w' => HasS tk (xnm i) W e w') := by
      intro W x hf hx
      rw [show Value.string x = S (xnm i) from val_str hx, ← hln]
      exact contains_s W A tk c (xnm i) (HX.out.frT hf (fun b o e h => HA.out b o e h)) (by have := HL.out; omega)
    clear hfr hblk hln
    go_wp2_with fail
    refine ITO.out.mono ?_
    rintro e w1 ⟨rfl, hf1⟩
    obtain ⟨d1, d2, d3, d4, d5⟩ := AFT.out w1 hf1
    have e0 : (w1.setCell ⟨m, 1, none⟩ (.int .i64 ((i : Int) + 1))).cell? ⟨m, 0, none⟩ = some (.slice A l c) := (d5.cell 0).trans rfl
    have e1 : (w1.setCell ⟨m, 1, none⟩ (.int .i64 ((i : Int) + 1))).cell? ⟨m, 1, none⟩ = some (.int .i64 ((i : Int) + 1)) := (d5.cell 1).trans rfl
    have D4 := Lib.hid d4
    have D5 := Lib.hid d5
    clear d4 d5 hf1
    go_wp2_with fail
    refine (CON.out _ _ D4.out (by simp [xnm])).mono ?_
    rintro e w2 ⟨bb, rfl, hbb, rfl⟩
    cases bb
    · have hni : xnm i ∉ tk := fun h => by have := hbb.2 h; cases this
      have HI := Lib.hid (fsh_here hgi hif hni)
      clear hbb hni
      go_wp2_with fail
      go_ret
      refine ⟨ret_str (by rw [← HI.out]; simp [xnm]), D4.out, ?_⟩
      rw [← HI.out, HLN.out]
      exact D5.out
    · have hm := fsh_past hif (hbb.1 rfl)
      clear hbb
      go_wp2_with fail
      go_roundw
      case rel => exact ⟨i + 1, by omega, hm, D4.out, by rw [HLN.out]; exact D5.out⟩
      case measure =>
        simp only [c1, e1, Option.getD_some, intOf]
        omega
end Go.Proofs.YthbidlcfahdfhaaDoor
