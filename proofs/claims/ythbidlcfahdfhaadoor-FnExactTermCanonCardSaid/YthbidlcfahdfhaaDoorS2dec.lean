/- The model's decimals and fresh names. -/
import Derived.Test.YthbidlcfahdfhaaDoorTcn
import Derived.Laws.BytesArg
import Derived.Deep.RegionWith
namespace Go.Proofs.YthbidlcfahdfhaaDoor
open Go.RowKit Go.ChangeMaps

theorem dec_small {n : Nat} (h : n < 10) : Lib.decDigits n = [UInt8.ofNat (48 + n)] := by rw [Lib.decDigits, dif_pos h]
theorem dec_great {n : Nat} (h : ¬ n < 10) : Lib.decDigits n = Lib.decDigits (n / 10) ++ [UInt8.ofNat (48 + n % 10)] := by rw [Lib.decDigits, dif_neg h]

theorem byte_text_at (W : World) (g : Nat) (z : Int) (hb : Blk W g 5 #[.int .u8 z]) :
    (convert 69 9 (.slice (some ⟨g, 0, none⟩) 1 1)).run Tryd.prog W = .ok (S [UInt8.ofNat z.toNat]) W := by
  have := run_convert_bytes_arg (P := Tryd.prog) W 69 5 Tryd.underlying69 Tryd.underlying5 g 0 1 1 [z] rfl
    (fun i hi => by
      have : i = 0 := by omega
      subst this
      exact (hb.cell 0).trans rfl) 9 Tryd.underlying9
  exact this

set_option maxRecDepth 100000 in
set_option maxHeartbeats 1000000 in
theorem dec_any (n : Nat) : n ≤ 100000 → ∀ w, Calls Tryd.prog 94 #[.int .i64 n] w fun e w' => e = .returned (S (Lib.decDigits n)) ∧ Fr No w w' := by
  induction n using Nat.strongRecOn with
  | ind n ih =>
    intro hn w
    have n0 : (n : Int) ≤ 100000 := by omega
    by_cases h : n < 10
    · have HD := Lib.hid (dec_small h)
      have n1 : (n : Int) < 10 := by omega
      clear ih h
      go_enter Tryd.func94, Tryd.ntmps94
      have kc := fun (W : World) (z : Int) => byte_text_at (W.alloc (.cells #[.int .u8 z] 5)) W.heap.size z (Blk.new W 5 #[.int .u8 z])
      go_wp2_with fail
      go_ret
      exact ⟨by rw [HD.out]; rfl, (Fr.refl _ _).alloc _⟩
    · have HD := Lib.hid (dec_great h)
      have n1 : ¬ (n : Int) < 10 := by omega
      obtain ⟨m, hm⟩ : ∃ m, n / 10 = m := ⟨_, rfl⟩
      obtain ⟨r, hr⟩ : ∃ r, n % 10 = r := ⟨_, rfl⟩
      have m1 : (n : Int).tdiv 10 = (m : Int) := by rw [← hm]; rfl
      have m2 : (n : Int).tmod 10 = (r : Int) := by rw [← hr]; rfl
      have w1 : IntKind.i64.wrap (m : Int) = (m : Int) := IntWalk.i64_in _ (by omega)
      have w2 : IntKind.i64.wrap (48 + (r : Int)) = 48 + (r : Int) := IntWalk.i64_in _ (by omega)
      have w3 : IntKind.u8.wrap (48 + (r : Int)) = 48 + (r : Int) := IntWalk.u8_in _ (by omega)
      have CA : Hid (Calls Tryd.prog 94 #[.int .i64 m] w.drew fun e w2 => e = .returned (S (Lib.decDigits m)) ∧ Fr No w w2) := by
        refine (ih m (by omega) (by omega) w.drew).mono ?_
        rintro e w2 ⟨rfl, hf⟩
        exact ⟨rfl, ((Fr.refl _ _).drew).trans hf⟩
      have CB : Hid (Calls Tryd.prog 94 #[.int .i64 m] (w.alloc (.cells #[.int .u8 (48 + (r : Int))] 5)).drew fun e w2 => e = .returned (S (Lib.decDigits m)) ∧ Fr No w w2 ∧
          (convert 69 9 (.slice (some ⟨w.heap.size, 0, none⟩) 1 1)).run Tryd.prog w2 = .ok (S [UInt8.ofNat (48 + r)]) w2) := by
        refine (ih m (by omega) (by omega) _).mono ?_
        rintro e w2 ⟨rfl, hf⟩
        have hb := ((Blk.new w 5 #[.int .u8 (48 + (r : Int))]).drew).fr hf (fun h => h)
        have := byte_text_at w2 w.heap.size (48 + (r : Int)) hb
        rw [show (48 + (r : Int)).toNat = 48 + r by omega] at this
        exact ⟨rfl, ((((Fr.refl _ _).alloc _).drew)).trans hf, this⟩
      have kd : (convert 69 9 (.slice (some ⟨w.heap.size, 0, none⟩) 1 1)).run Tryd.prog (w.alloc (.cells #[.int .u8 (48 + (r : Int))] 5)).drew = .ok (S [UInt8.ofNat (48 + r)]) (w.alloc (.cells #[.int .u8 (48 + (r : Int))] 5)).drew := by
        have := byte_text_at _ w.heap.size (48 + (r : Int)) ((Blk.new w 5 #[.int .u8 (48 + (r : Int))]).drew)
        rw [show (48 + (r : Int)).toNat = 48 + r by omega] at this
        exact this
      have kc : ∀ W : World, (convert 69 9 (.slice (some ⟨W.heap.size, 0, none⟩) 1 1)).run Tryd.prog (W.alloc (.cells #[.int .u8 (48 + (r : Int))] 5)) = .ok (S [UInt8.ofNat (48 + r)]) (W.alloc (.cells #[.int .u8 (48 + (r : Int))] 5)) := by
        intro W
        have := byte_text_at _ W.heap.size (48 + (r : Int)) (Blk.new W 5 #[.int .u8 (48 + (r : Int))])
        rw [show (48 + (r : Int)).toNat = 48 + r by omega] at this
        exact this
      have dl : (Lib.decDigits m).length ≤ 6 := dec_len m 5 (by omega)
      rw [hm, hr] at HD
      clear ih h hm hr
      go_enter Tryd.func94, Tryd.ntmps94
      go_wp2_with fail
      go_region_with
        (first | (go_at_call 94; ((with_reducible refine (CA.out).mono ?_); rintro e w2 ⟨rfl, k2⟩)) | (go_at_call 94; ((with_reducible refine (CB.out).mono ?_); rintro e w2 ⟨rfl, k2, k1⟩)))
      all_goals go_wp2_with fail
      all_goals go_ret
      all_goals exact ⟨ret_str (by rw [HD.out]; simp), by first | exact k2 | exact k2.alloc _⟩

def Fsh2P (tk : List (List UInt8)) (m : Nat) (A : Option Addr) (c g : Nat) (w : World) (e : Ending) (w' : World) : Prop :=
  e = .returned (S (xnm (fsh tk g))) ∧ Fr (One m) w w' ∧ Blk w' m 77 #[.slice A tk.length c, .int .i64 ((fsh tk g + 1 : Nat) : Int)]

set_option maxRecDepth 100000 in
set_option maxHeartbeats 1000000 in
theorem fresh2_any (w : World) (m : Nat) (A : Option Addr) (c g : Nat) (tk : List (List UInt8)) (hb : Blk w m 77 #[.slice A tk.length c, .int .i64 (g : Int)])
    (hx : SSl w A tk) (hA : ∀ b o, A = some ⟨b, o, none⟩ → b ≠ m) (hl : tk.length ≤ 1000) (hg : fsh tk g ≤ 5000) :
    Calls Tryd.prog 78 #[Ptr m] w fun e w' => Fsh2P tk m A c g w e w' := by
  have hlt := hb.lt
  have HX := Lib.hid hx
  have HA := Lib.hid hA
  have HK := Lib.hid hb
  have HL := Lib.hid hl
  obtain ⟨l, hln⟩ : ∃ l, tk.length = l := ⟨_, rfl⟩
  have HLN := Lib.hid hln
  clear hx hA hb hl
  go_enter Tryd.func78, Tryd.ntmps78
  go_wp2_with fail
  go_loopw [3] (fun _ wr => ∃ i : Nat, g ≤ i ∧ i ≤ fsh tk g ∧ Fr (One m) w wr ∧ Blk wr m 77 #[.slice A tk.length c, .int .i64 (i : Int)]) (fun _ wr => fsh tk g - (intOf ((wr.cell? ⟨m, 1, none⟩).getD undef)).toNat)
  case atStart => exact ⟨g, Nat.le_refl _, (fsh_spec tk g).1, Fr.refl _ _, HK.out⟩
  case round =>
    obtain ⟨i, hgi, hif, hfr, hblk⟩ := hrel
    rw [hln] at hblk
    have c1 : wr.cell? ⟨m, 1, none⟩ = some (.int .i64 (i : Int)) := (hblk.cell 1).trans rfl
    have l1 := hblk.lt
    have i1 : (i : Int) ≤ 5000 := by omega
    have dl : (Lib.decDigits i).length ≤ 4 := dec_len i 3 (by omega)
    have HFR := Lib.hid hfr
    have HBK := Lib.hid hblk
    have ITO : Hid (Calls Tryd.prog 94 #[.int .i64 i] wr fun e w' => e = .returned (S (Lib.decDigits i)) ∧ Fr No wr w') := dec_any i (by omega) wr
    have AFT : Hid (∀ w1, Fr No wr w1 → w1.cell? ⟨m, 1, none⟩ = some (.int .i64 (i : Int)) ∧ w1.frozen? ⟨m, 1, none⟩ = false ∧ m < w1.heap.size ∧ Fr (One m) w (w1.setCell ⟨m, 1, none⟩ (.int .i64 ((i : Int) + 1))) ∧
        Blk (w1.setCell ⟨m, 1, none⟩ (.int .i64 ((i : Int) + 1))) m 77 #[.slice A l c, .int .i64 ((i : Int) + 1)]) := by
      intro w1 hf
      have hb1 := HBK.out.fr hf (fun h => h)
      refine ⟨(hb1.cell 1).trans rfl, hb1.frozen 1, hb1.lt, (HFR.out.then_ hf (fun _ _ h => h.elim)).setCell (p := ⟨m, 1, none⟩) (.inl rfl) _, ?_⟩
      exact hb1.set_ 1 (.int .i64 ((i : Int) + 1))
    have CON : Hid (∀ (W : World) (x : ByteArray), Fr (One m) w W → x.data.toList = xnm i → Calls Tryd.prog 57 #[.slice A l c, .string x] W fun e w' => HasS tk (xnm i) W e w') := by
      intro W x hf hx
      rw [show Value.string x = S (xnm i) from val_str hx, ← hln]
      exact has_any W A tk c (xnm i) (HX.out.frT hf (fun b o e h => HA.out b o e h)) (by have := HL.out; omega)
    clear hfr hblk hln
    go_wp2_with fail
    refine ITO.out.mono ?_
    rintro e w1 ⟨rfl, hf1⟩
    obtain ⟨d1, d2, d3, d4, d5⟩ := AFT.out w1 hf1
    have e0 : (w1.setCell ⟨m, 1, none⟩ (.int .i64 ((i : Int) + 1))).cell? ⟨m, 0, none⟩ = some (.slice A l c) := (d5.cell 0).trans rfl
    have e1 : (w1.setCell ⟨m, 1, none⟩ (.int .i64 ((i : Int) + 1))).cell? ⟨m, 1, none⟩ = some (.int .i64 ((i : Int) + 1)) := (d5.cell 1).trans rfl
    have D4 := Lib.hid d4
    have D5 := Lib.hid d5
    clear d4 d5 hf1
    go_wp2_with fail
    refine (CON.out _ _ D4.out (by simp [xnm])).mono ?_
    rintro e w2 ⟨bb, rfl, hbb, rfl⟩
    cases bb
    · have hni : xnm i ∉ tk := fun h => by have := hbb.2 h; cases this
      have HI := Lib.hid (fsh_here hgi hif hni)
      clear hbb hni
      go_wp2_with fail
      go_ret
      refine ⟨ret_str (by rw [← HI.out]; simp [xnm]), D4.out, ?_⟩
      rw [← HI.out, HLN.out]
      exact D5.out
    · have hm := fsh_past hif (hbb.1 rfl)
      clear hbb
      go_wp2_with fail
      go_roundw
      case rel => exact ⟨i + 1, by omega, hm, D4.out, by rw [HLN.out]; exact D5.out⟩
      case measure =>
        simp only [c1, e1, Option.getD_some, intOf]
        omega
end Go.Proofs.YthbidlcfahdfhaaDoor
