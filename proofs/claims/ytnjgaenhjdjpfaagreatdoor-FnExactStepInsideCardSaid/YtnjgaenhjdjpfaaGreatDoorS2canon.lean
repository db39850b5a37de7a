/- The model's decimals and fresh names. · The model's renaming: atoms; the row that it copies. · The model's renaming: terms that have parts. · TermCanon of the model. · The laws TermCanon and TermAlike. -/
import Derived.Test.YtnjgaenhjdjpfaaGreatDoorTcanon
import Derived.Laws.BytesArg
import Derived.Deep.RegionWith
import Derived.Test.YtnjgaenhjdjpfaaGreatDoorS2free
import Derived.Test.YtnjgaenhjdjpfaaGreatDoorTrn
import Derived.Deep.RegionHeld
import Derived.Deep.RegionHeld3
import Derived.Test.YtnjgaenhjdjpfaaGreatDoorStext
import Derived.Test.YtnjgaenhjdjpfaaGreatDoorTkids
import Derived.Test.YtnjgaenhjdjpfaaGreatDoorS2term
/- The model's decimals and fresh names. -/
namespace Go.Proofs.YtnjgaenhjdjpfaaGreatDoor
open Go.RowKit Go.ChangeMaps

theorem dec_small {n : Nat} (h : n < 10) : Lib.decDigits n = [UInt8.ofNat (48 + n)] := by rw [Lib.decDigits, dif_pos h]
theorem dec_great {n : Nat} (h : ¬ n < 10) : Lib.decDigits n = Lib.decDigits (n / 10) ++ [UInt8.ofNat (48 + n % 10)] := by rw [Lib.decDigits, dif_neg h]

theorem byte_text_at (W : World) (g : Nat) (z : Int) (hb : Blk W g 5 #[.int .u8 z]) :
    (convert 108 9 (.slice (some ⟨g, 0, none⟩) 1 1)).run Tryz.prog W = .ok (S [UInt8.ofNat z.toNat]) W := by
  have := run_convert_bytes_arg (P := Tryz.prog) W 108 5 Tryz.underlying108 Tryz.underlying5 g 0 1 1 [z] rfl
    (fun i hi => by
      have : i = 0 := by omega
      subst this
      exact (hb.cell 0).trans rfl) 9 Tryz.underlying9
  exact this

set_option maxRecDepth 100000 in
set_option maxHeartbeats 1000000 in
theorem dec_any (n : Nat) : n ≤ 100000 → ∀ w, Calls Tryz.prog 112 #[.int .i64 n] w fun e w' => e = .returned (S (Lib.decDigits n)) ∧ Fr No w w' := by
  induction n using Nat.strongRecOn with
  | ind n ih =>
    intro hn w
    have n0 : (n : Int) ≤ 100000 := by omega
    by_cases h : n < 10
    · have HD := Lib.hid (dec_small h)
      have n1 : (n : Int) < 10 := by omega
      clear ih h
      go_enter Tryz.func112, Tryz.ntmps112
      have kc := fun (W : World) (z : Int) => byte_text_at (W.alloc (.cells #[.int .u8 z] 5)) W.heap.size z (Blk.new W 5 #[.int .u8 z])
      go_wp2_with fail
      go_ret
      exact ⟨by rw [HD.out]; rfl, (Fr.refl _ _).alloc _⟩
    · have HD := Lib.hid (dec_great h)
      have n1 : ¬ (n : Int) < 10 := by omega
      obtain ⟨m, hm⟩ : ∃ m, n / 10 = m := ⟨_, rfl⟩
      obtain ⟨r, hr⟩ : ∃ r, n % 10 = r := ⟨_, rfl⟩
      have m1 : (n : Int).tdiv 10 = (m : Int) := by rw [← hm]; rfl
      have m2 : (n : Int).tmod 10 = (r : Int) := by rw [← hr]; rfl
      have w1 : IntKind.i64.wrap (m : Int) = (m : Int) := IntWalk.i64_in _ (by omega)
      have w2 : IntKind.i64.wrap (48 + (r : Int)) = 48 + (r : Int) := IntWalk.i64_in _ (by omega)
      have w3 : IntKind.u8.wrap (48 + (r : Int)) = 48 + (r : Int) := IntWalk.u8_in _ (by omega)
      have CA : Hid (Calls Tryz.prog 112 #[.int .i64 m] w.drew fun e w2 => e = .returned (S (Lib.decDigits m)) ∧ Fr No w w2) := by
        refine (ih m (by omega) (by omega) w.drew).mono ?_
        rintro e w2 ⟨rfl, hf⟩
        exact ⟨rfl, ((Fr.refl _ _).drew).trans hf⟩
      have CB : Hid (Calls Tryz.prog 112 #[.int .i64 m] (w.alloc (.cells #[.int .u8 (48 + (r : Int))] 5)).drew fun e w2 => e = .returned (S (Lib.decDigits m)) ∧ Fr No w w2 ∧
          (convert 108 9 (.slice (some ⟨w.heap.size, 0, none⟩) 1 1)).run Tryz.prog w2 = .ok (S [UInt8.ofNat (48 + r)]) w2) := by
        refine (ih m (by omega) (by omega) _).mono ?_
        rintro e w2 ⟨rfl, hf⟩
        have hb := ((Blk.new w 5 #[.int .u8 (48 + (r : Int))]).drew).fr hf (fun h => h)
        have := byte_text_at w2 w.heap.size (48 + (r : Int)) hb
        rw [show (48 + (r : Int)).toNat = 48 + r by omega] at this
        exact ⟨rfl, ((((Fr.refl _ _).alloc _).drew)).trans hf, this⟩
      have kd : (convert 108 9 (.slice (some ⟨w.heap.size, 0, none⟩) 1 1)).run Tryz.prog (w.alloc (.cells #[.int .u8 (48 + (r : Int))] 5)).drew = .ok (S [UInt8.ofNat (48 + r)]) (w.alloc (.cells #[.int .u8 (48 + (r : Int))] 5)).drew := by
        have := byte_text_at _ w.heap.size (48 + (r : Int)) ((Blk.new w 5 #[.int .u8 (48 + (r : Int))]).drew)
        rw [show (48 + (r : Int)).toNat = 48 + r by omega] at this
        exact this
      have kc : ∀ W : World, (convert 108 9 (.slice (some ⟨W.heap.size, 0, none⟩) 1 1)).run Tryz.prog (W.alloc (.cells #[.int .u8 (48 + (r : Int))] 5)) = .ok (S [UInt8.ofNat (48 + r)]) (W.alloc (.cells #[.int .u8 (48 + (r : Int))] 5)) := by
        intro W
        have := byte_text_at _ W.heap.size (48 + (r : Int)) (Blk.new W 5 #[.int .u8 (48 + (r : Int))])
        rw [show (48 + (r : Int)).toNat = 48 + r by omega] at this
        exact this
      have dl : (Lib.decDigits m).length ≤ 6 := dec_len m 5 (by omega)
      rw [hm, hr] at HD
      clear ih h hm hr
      go_enter Tryz.func112, Tryz.ntmps112
      go_wp2_with fail
      go_region_with
        (first | (go_at_call 112; ((with_reducible refine (CA.out).mono ?_); rintro e w2 ⟨rfl, k2⟩)) | (go_at_call 112; ((with_reducible refine (CB.out).mono ?_); rintro e w2 ⟨rfl, k2, k1⟩)))
      all_goals go_wp2_with fail
      all_goals go_ret
      all_goals exact ⟨ret_str (by rw [HD.out]; simp), by first | exact k2 | exact k2.alloc _⟩

def Fsh2P (tk : List (List UInt8)) (m : Nat) (A : Option Addr) (c g : Nat) (w : World) (e : Ending) (w' : World) : Prop :=
  e = .returned (S (xnm (fsh tk g))) ∧ Fr (One m) w w' ∧ Blk w' m 85 #[.slice A tk.length c, .int .i64 ((fsh tk g + 1 : Nat) : Int)]

set_option maxRecDepth 100000 in
set_option maxHeartbeats 1000000 in
theorem fresh2_any (w : World) (m : Nat) (A : Option Addr) (c g : Nat) (tk : List (List UInt8)) (hb : Blk w m 85 #[.slice A tk.length c, .int .i64 (g : Int)])
    (hx : SSl w A tk) (hA : ∀ b o, A = some ⟨b, o, none⟩ → b ≠ m) (hl : tk.length ≤ 1000) (hg : fsh tk g ≤ 5000) :
    Calls Tryz.prog 90 #[Ptr m] w fun e w' => Fsh2P tk m A c g w e w' := by
  have hlt := hb.lt
  have HX := Lib.hid hx
  have HA := Lib.hid hA
  have HK := Lib.hid hb
  have HL := Lib.hid hl
  obtain ⟨l, hln⟩ : ∃ l, tk.length = l := ⟨_, rfl⟩
  have HLN := Lib.hid hln
  clear hx hA hb hl
  go_enter Tryz.func90, Tryz.ntmps90
  go_wp2_with fail
  go_loopw [3] (fun _ wr => ∃ i : Nat, g ≤ i ∧ i ≤ fsh tk g ∧ Fr (One m) w wr ∧ Blk wr m 85 #[.slice A tk.length c, .int .i64 (i : Int)]) (fun _ wr => fsh tk g - (intOf ((wr.cell? ⟨m, 1, none⟩).getD undef)).toNat)
  case atStart => exact ⟨g, Nat.le_refl _, (fsh_spec tk g).1, Fr.refl _ _, HK.out⟩
  case round =>
    obtain ⟨i, hgi, hif, hfr, hblk⟩ := hrel
    rw [hln] at hblk
    have c1 : wr.cell? ⟨m, 1, none⟩ = some (.int .i64 (i : Int)) := (hblk.cell 1).trans rfl
    have l1 := hblk.lt
    have i1 : (i : Int) ≤ 5000 := by omega
    have dl : (Lib.decDigits i).length ≤ 4 := dec_len i 3 (by omega)
    have HFR := Lib.hid hfr
    have HBK := Lib.hid hblk
    have ITO : Hid (Calls Tryz.prog 112 #[.int .i64 i] wr fun e w' => e = .returned (S (Lib.decDigits i)) ∧ Fr No wr w') := dec_any i (by omega) wr
    have AFT : Hid (∀ w1, Fr No wr w1 → w1.cell? ⟨m, 1, none⟩ = some (.int .i64 (i : Int)) ∧ w1.frozen? ⟨m, 1, none⟩ = false ∧ m < w1.heap.size ∧ Fr (One m) w (w1.setCell ⟨m, 1, none⟩ (.int .i64 ((i : Int) + 1))) ∧
        Blk (w1.setCell ⟨m, 1, none⟩ (.int .i64 ((i : Int) + 1))) m 85 #[.slice A l c, .int .i64 ((i : Int) + 1)]) := by
      intro w1 hf
      have hb1 := HBK.out.fr hf (fun h => h)
      refine ⟨(hb1.cell 1).trans rfl, hb1.frozen 1, hb1.lt, (HFR.out.then_ hf (fun _ _ h => h.elim)).setCell (p := ⟨m, 1, none⟩) (.inl rfl) _, ?_⟩
      exact hb1.set_ 1 (.int .i64 ((i : Int) + 1))
    have CON : Hid (∀ (W : World) (x : ByteArray), Fr (One m) w W → x.data.toList = xnm i → Calls Tryz.prog 87 #[.slice A l c, .string x] W fun e w' => HasS tk (xnm i) W e w') := by
      intro W x hf hx
      rw [show Value.string x = S (xnm i) from val_str hx, ← hln]
      exact has_any W A tk c (xnm i) (HX.out.frT hf (fun b o e h => HA.out b o e h)) (by have := HL.out; omega)
    clear hfr hblk hln
    go_wp2_with fail
    refine ITO.out.mono ?_
    rintro e w1 ⟨rfl, hf1⟩
    obtain ⟨d1, d2, d3, d4, d5⟩ := AFT.out w1 hf1
    have e0 : (w1.setCell ⟨m, 1, none⟩ (.int .i64 ((i : Int) + 1))).cell? ⟨m, 0, none⟩ = some (.slice A l c) := (d5.cell 0).trans rfl
    have e1 : (w1.setCell ⟨m, 1, none⟩ (.int .i64 ((i : Int) + 1))).cell? ⟨m, 1, none⟩ = some (.int .i64 ((i : Int) + 1)) := (d5.cell 1).trans rfl
    have D4 := Lib.hid d4
    have D5 := Lib.hid d5
    clear d4 d5 hf1
    go_wp2_with fail
    refine (CON.out _ _ D4.out (by simp [xnm])).mono ?_
    rintro e w2 ⟨bb, rfl, hbb, rfl⟩
    cases bb
    · have hni : xnm i ∉ tk := fun h => by have := hbb.2 h; cases this
      have HI := Lib.hid (fsh_here hgi hif hni)
      clear hbb hni
      go_wp2_with fail
      go_ret
      refine ⟨ret_str (by rw [← HI.out]; simp [xnm]), D4.out, ?_⟩
      rw [← HI.out, HLN.out]
      exact D5.out
    · have hm := fsh_past hif (hbb.1 rfl)
      clear hbb
      go_wp2_with fail
      go_roundw
      case rel => exact ⟨i + 1, by omega, hm, D4.out, by rw [HLN.out]; exact D5.out⟩
      case measure =>
        simp only [c1, e1, Option.getD_some, intOf]
        omega
end Go.Proofs.YtnjgaenhjdjpfaaGreatDoor

/- The model's renaming: atoms; the row that it copies. -/
namespace Go.Proofs.YtnjgaenhjdjpfaaGreatDoor
open Go.RowKit Go.ChangeMaps

/-- what the model makes of a tree, with the number of the next name -/
def rnR (tk : List (List UInt8)) (a : List UInt8) (k : Fo) (fr to : List (List UInt8)) (g : Nat) : Fo × Nat := if a = [] then rnF tk k (.top fr to) g else (k, g)

theorem rnF_mono (tk : List (List UInt8)) : ∀ (f : Fo) (m : Rm) (g : Nat), g ≤ (rnF tk f m g).2
  | .nil, _, _ => Nat.le_refl _
  | .cons h k r, .top fr to, g => by
    simp only [rnF]
    split
    · exact rnF_mono tk r _ g
    · exact rnF_mono tk r _ g
  | .cons x k r, .name fr to h, g => by
    have h1 := (fsh_spec tk g).1
    have h2 := rnF_mono tk r (.kids fr to h x (xnm (fsh tk g)) 0) (fsh tk g + 1)
    simp only [rnF]
    omega
  | .cons a k r, .kids fr to h b y i, g => by
    have h1 : g ≤ (if a = [] then (rnF tk k (.top (insB fr h b i) (insB to h y i)) g).2 else g) := by
      split
      · exact rnF_mono tk k _ g
      · exact Nat.le_refl _
    have h2 := rnF_mono tk r (.kids fr to h b y (i + 1)) (if a = [] then (rnF tk k (.top (insB fr h b i) (insB to h y i)) g).2 else g)
    simp only [rnF]
    omega

theorem rnF_len (tk : List (List UInt8)) : ∀ (f : Fo) (m : Rm) (g : Nat), (rnF tk f m g).1.len = f.len
  | .nil, _, _ => rfl
  | .cons h k r, .top fr to, g => by
    simp only [rnF]
    split <;> simp only [Fo.len, rnF_len tk r]
  | .cons x k r, .name fr to h, g => by simp only [rnF, Fo.len, rnF_len tk r]
  | .cons a k r, .kids fr to h b y i, g => by simp only [rnF, Fo.len, rnF_len tk r]

abbrev NmC (w : World) (m : Nat) (A : Option Addr) (l c g : Nat) : Prop := Blk w m 85 #[.slice A l c, .int .i64 (g : Int)]

def RfP (tk : List (List UInt8)) (m : Nat) (NA : Option Addr) (nc : Nat) (T : Nat → Prop) (a' : List UInt8) (k' : Fo) (G : Nat) (w : World) (e : Ending) (w' : World) : Prop :=
  ∃ A c, e = .returned (.agg #[S a', .slice A k'.len c]) ∧ Fr (One m) w w' ∧ NmC w' m NA tk.length nc G ∧ Sl w' (TN T w w') A k'

def RfSaid (k : Fo) : Prop := ∀ (a : List UInt8) (A : Option Addr) (c : Nat) (w : World) (T : Nat → Prop) (m : Nat) (NA : Option Addr) (nc : Nat) (tk : List (List UInt8)) (g : Nat) (VF : Option Addr) (vf : Nat) (fr : List (List UInt8)) (VT : Option Addr) (vt : Nat) (to : List (List UInt8)),
  isTm a k = true → (a ≠ [] → k = .nil) → k.wf → treeSize a k ≤ 5000 → fr.length = to.length → fr.length + treeSize a k ≤ 10000 → (∀ b, T b → b < w.heap.size ∧ b ≠ m) → Sl w T A k →
  NmC w m NA tk.length nc g → SSl w NA tk → (∀ b o, NA = some ⟨b, o, none⟩ → b ≠ m) → tk.length ≤ 1000 → BSl w VF fr → (∀ b o, VF = some ⟨b, o, none⟩ → b ≠ m) → BSl w VT to → (∀ b o, VT = some ⟨b, o, none⟩ → b ≠ m) → (rnR tk a k fr to g).2 ≤ 4000 →
  Calls Tryz.prog 62 #[.agg #[S a, .slice A k.len c], .slice VF fr.length vf, .slice VT to.length vt, Ptr m] w fun e w' => RfP tk m NA nc T (rnA fr to a) (rnR tk a k fr to g).1 (rnR tk a k fr to g).2 w e w'

set_option maxRecDepth 100000 in
set_option maxHeartbeats 1000000 in
theorem rf_atom (a : List UInt8) (A : Option Addr) (c : Nat) (w : World) (T : Nat → Prop) (m : Nat) (NA : Option Addr) (nc : Nat) (tk : List (List UInt8)) (g : Nat) (VF : Option Addr) (vf : Nat) (fr : List (List UInt8)) (VT : Option Addr) (vt : Nat) (to : List (List UInt8))
    (ha : a ≠ []) (hl : fr.length = to.length) (hfl : fr.length ≤ 10000) (hnm : NmC w m NA tk.length nc g) (hF : BSl w VF fr) (hTo : BSl w VT to) :
    Calls Tryz.prog 62 #[.agg #[S a, .slice A 0 c], .slice VF fr.length vf, .slice VT to.length vt, Ptr m] w fun e w' => RfP tk m NA nc T (rnA fr to a) .nil g w e w' := by
  have hae : a.isEmpty = false := by cases a; exact absurd rfl ha; rfl
  have b0 := (Blk.new w 40 #[S a, .slice A 0 c]).alloc (.cells #[S [], .slice none 0 0] 40)
  have b1 : Blk ((w.alloc (.cells #[S a, .slice A 0 c] 40)).alloc (.cells #[S [], .slice none 0 0] 40)) (w.heap.size + 1) 40 #[S [], .slice none 0 0] := Blk.new_at _ _ _ (by simp)
  have hf0 : Fr No w ((w.alloc (.cells #[S a, .slice A 0 c] 40)).alloc (.cells #[S [], .slice none 0 0] 40)) := ((Fr.refl _ _).alloc _).alloc _
  obtain ⟨n, hn⟩ : ∃ n, n = fr.length := ⟨_, rfl⟩
  have hnt : to.length = n := by omega
  have hl2 : (n : Int) ≤ 10000 := by omega
  have HNM := Lib.hid hnm
  have HF := Lib.hid hF
  have HTO := Lib.hid hTo
  have HITS : Hid (∀ j y, fr.reverse[j]? = some y → (∀ z ∈ fr.reverse.take j, z ≠ a) → y = a → ∃ y', to[n - 1 - j]? = some y' ∧ rnA fr to a = y') := by
    intro j y hj hno hy
    have hjl := (List.getElem?_eq_some_iff.1 hj).1
    have hjn : j < n := by simp at hjl; omega
    have hd : depOf a fr = some j := by
      unfold depOf
      rw [depR_skip a fr.reverse 0 j hno (by omega), List.drop_eq_getElem_cons hjl]
      have : fr.reverse[j] = a := by
        obtain ⟨_, e⟩ := List.getElem?_eq_some_iff.1 hj
        rw [e, hy]
      rw [depR, if_pos this]
      simp
    refine ⟨_, List.getElem?_eq_getElem (by omega), ?_⟩
    simp only [rnA, if_neg ha, hd]
    rw [List.getD_eq_getElem?_getD, show to.length - 1 - j = n - 1 - j by omega, List.getElem?_eq_getElem (by omega)]
    rfl
  have MISS : Hid ((∀ z ∈ fr.reverse.take n, z ≠ a) → rnA fr to a = a) := by
    intro h
    rw [hn, show fr.length = fr.reverse.length by simp, List.take_length] at h
    have hd : depOf a fr = none := depR_none a _ 0 h
    simp only [rnA, if_neg ha, hd]
  have CELL : Hid (∀ (w' : World) (j : Nat), Fr No w w' → j < n → ∃ g o y, VF = some ⟨g, o, none⟩ ∧ w'.cell? ⟨g, o + (n - 1 - j), none⟩ = some (S y) ∧ fr.reverse[j]? = some y) := by
    intro w' j hf hj
    obtain ⟨y, h1, h2⟩ := rev_at (bs := fr) (j := j) (by omega)
    obtain ⟨g, o, e, hc⟩ := (HF.out.1.frT hf (fun _ _ _ h => h)) _ _ h2
    exact ⟨g, o, y, e, by rw [hn]; exact hc, h1⟩
  have CELT : Hid (∀ (w' : World) (i : Nat) (y : List UInt8), Fr No w w' → to[i]? = some y → ∃ g o, VT = some ⟨g, o, none⟩ ∧ w'.cell? ⟨g, o + i, none⟩ = some (S y)) := by
    intro w' i y hf hj
    exact (HTO.out.1.frT hf (fun _ _ _ h => h)) i y hj
  have FIN : Hid (∀ (a' : List UInt8) (A' : Option Addr) (c' : Nat) (wr : World) (v0 v1 : Value), rnA fr to a = a' → Fr No w wr → RfP tk m NA nc T (rnA fr to a) .nil g w (.returned (.agg #[S a', .slice A' 0 c'])) ((wr.setCell ⟨w.heap.size + 1, 0, none⟩ v0).setCell ⟨w.heap.size + 1, 1, none⟩ v1)) := by
    intro a' A' c' wr v0 v1 e hf
    have hml := HNM.out.lt
    refine ⟨A', c', by rw [e]; rfl, ((hf.setCell (p := ⟨w.heap.size + 1, 0, none⟩) (.inr (Nat.le_succ _)) v0).setCell (p := ⟨w.heap.size + 1, 1, none⟩) (.inr (Nat.le_succ _)) v1).mono (fun _ _ h => h.elim), ?_, .inl rfl⟩
    exact ((HNM.out.fr hf (fun h => h)).far (p := ⟨w.heap.size + 1, 0, none⟩) (by show m ≠ w.heap.size + 1; omega) v0).far (p := ⟨w.heap.size + 1, 1, none⟩) (by show m ≠ w.heap.size + 1; omega) v1
  have FIND : Hid (∀ (a' : List UInt8) (A' : Option Addr) (c' : Nat) (wr : World) (v0 v1 : Value), rnA fr to a = a' → Fr No w wr → RfP tk m NA nc T (rnA fr to a) .nil g w (.returned (.agg #[S a', .slice A' 0 c'])) ((wr.drew.setCell ⟨w.heap.size + 1, 0, none⟩ v0).setCell ⟨w.heap.size + 1, 1, none⟩ v1)) :=
    fun a' A' c' wr v0 v1 e hf => FIN.out a' A' c' wr.drew v0 v1 e hf.drew
  rw [hnt, ← hn]
  clear hn hl hnm hF hTo ha hnt
  go_enter Tryz.func62, Tryz.ntmps62
  go_wp2_with fail
  generalize ((w.alloc (.cells #[S a, .slice A 0 c] 40)).alloc (.cells #[S [], .slice none 0 0] 40)) = W at b0 b1 hf0 ⊢
  go_loopw [9] (fun u wr => ∃ (j : Nat), j ≤ n ∧ u = .int .i64 ((n : Int) - 1 - j) ∧ (∀ z ∈ fr.reverse.take j, z ≠ a) ∧ Fr No W wr) (fun u _ => (intOf u + 1).toNat)
  case atStart => exact ⟨0, Nat.zero_le _, by simp, by simp, Fr.refl _ _⟩
  case round =>
    obtain ⟨j, hj, rfl, hno, hfr⟩ := hrel
    have HNO := Lib.hid hno
    have HFR := Lib.hid hfr
    have d0 := b0.fr hfr (fun h => h)
    have d1 := b1.fr hfr (fun h => h)
    have c0 : wr.cell? ⟨w.heap.size, 0, none⟩ = some (S a) := (d0.cell 0).trans rfl
    have c1 : wr.cell? ⟨w.heap.size, 1, none⟩ = some (.slice A 0 c) := (d0.cell 1).trans rfl
    have r0 : wr.cell? ⟨w.heap.size + 1, 0, none⟩ = some (S []) := (d1.cell 0).trans rfl
    have r1 : wr.cell? ⟨w.heap.size + 1, 1, none⟩ = some (.slice none 0 0) := (d1.cell 1).trans rfl
    have f0 := d1.frozen 0
    have f1 := d1.frozen 1
    have l0 := d0.lt
    have l1 := d1.lt
    clear hno hfr d0 d1
    by_cases hlt : j < n
    · obtain ⟨gg, o, y, rfl, hc, hy⟩ := CELL.out wr j (hf0.trans HFR.out) hlt
      have w2 : ((n : Int) - 1 - (j : Int)) = ((n - 1 - j : Nat) : Int) := by omega
      have hi : n - 1 - j < n := by omega
      have hlg := block_lt hc
      have HY := Lib.hid hy
      rw [w2]
      clear hy
      by_cases hya : y = a
      · obtain ⟨y', hy1, hy2⟩ := HITS.out j y HY.out HNO.out hya
        obtain ⟨gt, ot, rfl, hct⟩ := CELT.out wr _ y' (hf0.trans HFR.out) hy1
        have HE := Lib.hid hy2
        have hlgt := block_lt hct
        subst hya
        clear hy1 hy2
        go_wp2_with fail
        go_region
        all_goals go_wp2_with fail
        refine bodyPost_ret (v := .agg #[S y', .slice none 0 0]) (by simp [results, Tryz.results62, go_sem, cell_set_same r0, cell_set_next r1]) rfl ?_
        exact FIND.out _ _ _ _ _ _ HE.out (hf0.trans HFR.out)
      · have hne : (y == a) = false := by simpa using hya
        have HM := Lib.hid (not_more HNO.out HY.out hya)
        clear hya
        go_wp2_with fail
        go_region
        all_goals go_wp2_with fail
        go_roundw
        case rel => exact ⟨j + 1, by omega, congrArg (Value.int .i64) (by omega), HM.out, HFR.out.drew⟩
        case measure => simp [intOf]
    · have hjn : j = n := by omega
      subst hjn
      have HE := Lib.hid (MISS.out HNO.out)
      go_wp2_with fail
      refine bodyPost_ret (v := .agg #[S a, .slice A 0 c]) (by simp [results, Tryz.results62, go_sem, cell_set_same r0, cell_set_next r1]) rfl ?_
      exact FIN.out _ _ _ _ _ _ HE.out (hf0.trans HFR.out)

/- What is still to come; the row that the model copies. -/

def rmM (fr to : List (List UInt8)) (h b y : List UInt8) (j : Nat) : Rm := if bindsB h = true then (if j = 0 then .name fr to h else .kids fr to h b y (j - 1)) else .kids fr to h [] [] j

theorem rm_start (tk : List (List UInt8)) (fr to : List (List UInt8)) (h b y : List UInt8) (k0 r : Fo) (g : Nat) :
    rnF tk (.cons h k0 r) (.top fr to) g = (.cons h k0 (rnF tk r (rmM fr to h b y 0) g).1, (rnF tk r (rmM fr to h b y 0) g).2) := by
  by_cases hb : bindsB h = true
  · simp only [rnF, rmM, hb, if_true]
  · simp only [rnF, rmM, if_neg hb]

theorem rm_name (tk : List (List UInt8)) (fr to : List (List UInt8)) {h b y : List UInt8} {r : Fo} {a : List UInt8} {k : Fo} (hb : bindsB h = true) (e : r.nth 0 = some (a, k)) (g : Nat) :
    rnF tk (r.from_ 0) (rmM fr to h b y 0) g = (.cons (xnm (fsh tk g)) .nil (rnF tk (r.from_ 1) (rmM fr to h a (xnm (fsh tk g)) 1) (fsh tk g + 1)).1, (rnF tk (r.from_ 1) (rmM fr to h a (xnm (fsh tk g)) 1) (fsh tk g + 1)).2) := by
  rw [Fo.from_nth r 0 a k e]
  simp only [rmM, hb, if_true, rnF]
  rfl

theorem rm_kid (tk : List (List UInt8)) (fr to : List (List UInt8)) {h b y : List UInt8} {r : Fo} {j : Nat} {a : List UInt8} {k : Fo} (hsh : (shapeOf h)[j]? = some true) (hbn : bindsB h = true → b ≠ []) (e : r.nth j = some (a, k)) (g : Nat) (F T : List (List UInt8))
    (hF : F = if bndB h b (j + 1) = [] then fr else fr ++ [bndB h b (j + 1)]) (hT : T = if bndB h b (j + 1) = [] then to else to ++ [y]) :
    rnF tk (r.from_ j) (rmM fr to h b y j) g = (.cons (rnA F T a) (rnR tk a k F T g).1 (rnF tk (r.from_ (j + 1)) (rmM fr to h b y (j + 1)) (rnR tk a k F T g).2).1, (rnF tk (r.from_ (j + 1)) (rmM fr to h b y (j + 1)) (rnR tk a k F T g).2).2) := by
  rw [Fo.from_nth r j a k e]
  rcases shape_cases h with ⟨e0, _⟩ | ⟨hb, e0, hk1⟩ | ⟨hb, e0, hk1⟩
  · rw [e0] at hsh; simp at hsh
  · rw [e0] at hsh
    cases j with
    | zero => simp at hsh
    | succ i =>
      have hi : i < kidsOf h := by
        simp only [List.getElem?_cons_succ, List.getElem?_replicate] at hsh
        by_cases hi : i < kidsOf h
        · exact hi
        · rw [if_neg hi] at hsh; cases hsh
      have hbd := bnd_ins h b i hb hi
      have eF : insB fr h b i = F := by
        rw [hF, hbd]
        unfold insB
        by_cases hl : i + 1 = kidsOf h
        · rw [if_pos ⟨hb, hl⟩, if_pos hl, if_neg (hbn hb)]
        · rw [if_neg (fun h => hl h.2), if_neg hl, if_pos rfl]
      have eT : insB to h y i = T := by
        rw [hT, hbd]
        unfold insB
        by_cases hl : i + 1 = kidsOf h
        · rw [if_pos ⟨hb, hl⟩, if_pos hl, if_neg (hbn hb)]
        · rw [if_neg (fun h => hl h.2), if_neg hl, if_pos rfl]
      have em : rmM fr to h b y (i + 1) = .kids fr to h b y i := by simp [rmM, hb]
      have em2 : rmM fr to h b y (i + 1 + 1) = .kids fr to h b y (i + 1) := by simp [rmM, hb]
      rw [em, em2]
      simp only [rnF, eF, eT, rnR]
      by_cases ha : a = []
      · simp only [if_pos ha]
      · simp only [if_neg ha]
  · have hbd := bnd_none h b (j + 1) hb
    have eF : F = fr := by rw [hF, hbd, if_pos rfl]
    have eT : T = to := by rw [hT, hbd, if_pos rfl]
    have ei : ∀ (cs : List (List UInt8)) (z : List UInt8), insB cs h z j = cs := fun cs z => by simp [insB, hb]
    have em : ∀ j, rmM fr to h b y j = .kids fr to h [] [] j := fun j => by simp [rmM, hb]
    rw [em, em, eF, eT]
    simp only [rnF, ei, rnR]
    by_cases ha : a = []
    · simp only [if_pos ha]
    · simp only [if_neg ha]

theorem Fo.wf_nth : ∀ (f : Fo) (j : Nat) (a : List UInt8) (k : Fo), f.wf → f.nth j = some (a, k) → (a ≠ [] → k = .nil) ∧ k.wf
  | .nil, j, a, k, _, e => by cases e
  | .cons b q r, 0, a, k, hw, e => by
    simp only [Fo.nth, Option.some.injEq, Prod.mk.injEq] at e
    obtain ⟨rfl, rfl⟩ := e
    exact ⟨hw.1, hw.2.1⟩
  | .cons b q r, j + 1, a, k, hw, e => Fo.wf_nth r j a k hw.2.2 e

theorem Fo.len_snoc_app (f : Fo) (a : List UInt8) (k g : Fo) : ((f.snoc a k).app g).len = (f.app (.cons a k g)).len := by rw [snoc_app]

theorem Elems.set_ {w : World} {T : Nat → Prop} {a' : List UInt8} {k' : Fo} {A' : Option Addr} {c' : Nat} (h : Sl w T A' k') : ∀ (pre : Fo) {a : List UInt8} {k rest : Fo} {xs : List Value}, Elems w T (pre.app (.cons a k rest)) xs →
    Elems w T (pre.app (.cons a' k' rest)) ((xs.set (pre.len * 2) (S a')).set (pre.len * 2 + 1) (.slice A' k'.len c')) := by
  intro pre
  induction pre with
  | nil =>
    intro a k rest xs hx
    obtain ⟨A, c, xs', rfl, _, h2⟩ := hx
    exact ⟨A', c', xs', rfl, h, h2⟩
  | cons b q p _ ih =>
    intro a k rest xs hx
    obtain ⟨A, c, xs', rfl, h1, h2⟩ := hx
    refine ⟨A, c, _, ?_, h1, ih h2⟩
    have e1 : (Fo.cons b q p).len * 2 = p.len * 2 + 1 + 1 := by simp only [Fo.len]; omega
    rw [e1]
    rfl

/-- the copied row, and what is around it -/
structure RF (w : World) (m : Nat) (T : Nat → Prop) (f : Fo) (G cc L ob : Nat) (A : Option Addr) (c : Nat) (wr : World) : Prop where
  fr : Fr (One m) w wr
  bx : Blk wr w.heap.size 40 #[S [], .slice A L c]
  rs : Blk wr (w.heap.size + 1) 40 #[S [], .slice none 0 0]
  out : Blk wr ob 40 #[S [], .slice (some ⟨G, 0, none⟩) L cc]
  own : ∃ xs, wr.ownsRow (w.heap.size + 2) 40 2 (.slice (some ⟨G, 0, none⟩) L cc) L xs ∧ Elems wr (fun b => T b ∨ (w.heap.size + 2 ≤ b ∧ b < wr.heap.size ∧ b ≠ G)) f xs
  len : f.len = L
  ne : w.heap.size + 2 ≤ ob ∧ ob ≠ G

theorem RF.gw {w : World} {m : Nat} {T : Nat → Prop} {f : Fo} {G cc L ob : Nat} {A : Option Addr} {c : Nat} {wr : World} (h : RF w m T f G cc L ob A c wr) : w.heap.size + 2 ≤ G ∧ G < wr.heap.size := by
  obtain ⟨xs, h1, _⟩ := h.own
  exact h1.lt G rfl

theorem RF.keep {w : World} {m : Nat} {T : Nat → Prop} {f : Fo} {G cc L ob : Nat} {A : Option Addr} {c : Nat} {wr w' : World} (hm : m < w.heap.size) (hT : ∀ b, T b → b < w.heap.size ∧ b ≠ m) (h : RF w m T f G cc L ob A c wr) (hf : Fr (One m) wr w') : RF w m T f G cc L ob A c w' := by
  have hg := h.gw
  obtain ⟨xs, h1, h2⟩ := h.own
  have hne := h.ne
  refine ⟨h.fr.trans hf, h.bx.fr hf (fun e => by unfold One at e; omega), h.rs.fr hf (fun e => by unfold One at e; omega), h.out.fr hf (fun e => by unfold One at e; omega), ⟨xs, own_fr h1 hf (fun b hb e => by simp only [Value.ownBlock, Option.some.injEq] at hb; unfold One at e; omega), ?_⟩, h.len, h.ne⟩
  refine h2.mono (fun b hb => hb.imp (fun h => h) (fun hb => ⟨hb.1, Nat.lt_of_lt_of_le hb.2.1 hf.size, hb.2.2⟩)) (fun b hb => ?_)
  rcases hb with hb | hb
  · exact hf.block b (Nat.lt_of_lt_of_le (hT b hb).1 h.fr.size) (fun e => (hT b hb).2 e)
  · exact hf.block b hb.2.1 (fun e => by unfold One at e; omega)

/-- one part is written -/
theorem RF.put {w : World} {m : Nat} {T : Nat → Prop} {pre rest : Fo} {a a' : List UInt8} {k k' : Fo} {G cc L ob : Nat} {A A' : Option Addr} {c c' : Nat} {wr : World} (hT : ∀ b, T b → b < w.heap.size ∧ b ≠ m) (h : RF w m T (pre.app (.cons a k rest)) G cc L ob A c wr)
    (hs : Sl wr (fun b => T b ∨ (w.heap.size + 2 ≤ b ∧ b < wr.heap.size ∧ b ≠ G)) A' k') :
    RF w m T ((pre.snoc a' k').app rest) G cc L ob A c ((wr.setCell ⟨G, pre.len * 2, none⟩ (S a')).setCell ⟨G, pre.len * 2 + 1, none⟩ (.slice A' k'.len c')) := by
  have hg := h.gw
  obtain ⟨xs, h1, h2⟩ := h.own
  have hne := h.ne
  obtain ⟨o1, g1⟩ := h1.stored (pre.len * 2) (S a')
  obtain ⟨o2, g2⟩ := o1.stored (pre.len * 2 + 1) (.slice A' k'.len c')
  have hh : ∀ b, b < wr.heap.size → b ≠ G → ((wr.setCell ⟨G, pre.len * 2, none⟩ (S a')).setCell ⟨G, pre.len * 2 + 1, none⟩ (.slice A' k'.len c')).heap[b]? = wr.heap[b]? := fun b hb hne => by
    have e1 : b < (wr.setCell ⟨G, pre.len * 2, none⟩ (S a')).heap.size := Nat.lt_of_lt_of_le hb g1.size
    rw [g2.block b e1 (fun e => hne (by injection e)), g1.block b hb (fun e => hne (by injection e))]
  have hsz : ((wr.setCell ⟨G, pre.len * 2, none⟩ (S a')).setCell ⟨G, pre.len * 2 + 1, none⟩ (.slice A' k'.len c')).heap.size = wr.heap.size := by simp [World.setCell]
  refine ⟨(h.fr.setCell (p := ⟨G, pre.len * 2, none⟩) (.inr (by show _ ≤ G; omega)) _).setCell (p := ⟨G, pre.len * 2 + 1, none⟩) (.inr (by show _ ≤ G; omega)) _, h.bx.keep (hh _ h.bx.lt (by omega)), h.rs.keep (hh _ h.rs.lt (by omega)), h.out.keep (hh _ h.out.lt hne.2), ⟨_, o2, ?_⟩, ?_, h.ne⟩
  · rw [Fo.snoc_app]
    have hT' : ∀ b, (T b ∨ (w.heap.size + 2 ≤ b ∧ b < wr.heap.size ∧ b ≠ G)) → b < wr.heap.size ∧ b ≠ G := fun b hb => by
      rcases hb with hb | hb
      · have := (hT b hb).1; have := h.fr.size; exact ⟨by omega, by omega⟩
      · exact hb.2
    refine Elems.mono (fun b hb => ?_) (fun b hb => ?_) (Elems.set_ hs pre h2)
    · rw [hsz]; exact hb
    · exact hh b (hT' b hb).1 (hT' b hb).2
  · rw [Fo.len_snoc_app, ← h.len, Fo.len_app, Fo.len_app]
    rfl

/-- the row behind all parts -/
theorem RF.done {w : World} {m : Nat} {T : Nat → Prop} {f : Fo} {G cc L ob : Nat} {A : Option Addr} {c : Nat} {wr : World} (h : RF w m T f G cc L ob A c wr) : Sl wr (fun b => T b ∨ (w.heap.size + 2 ≤ b ∧ b < wr.heap.size)) (some ⟨G, 0, none⟩) f := by
  have hg := h.gw
  obtain ⟨xs, h1, h2⟩ := h.own
  right
  refine ⟨G, 0, xs, rfl, .inr ⟨by omega, hg.2⟩, h2.mono (fun b hb => hb.imp (fun h => h) (fun hb => ⟨hb.1, hb.2.1⟩)) (fun _ _ => rfl), fun j u hj => ?_⟩
  have := h1.cells (g := G) rfl j u hj
  rw [addr_add] at this
  exact this

/-- two cells of the row -/
theorem RF.slot {w : World} {m : Nat} {T : Nat → Prop} {f : Fo} {G cc L ob : Nat} {A : Option Addr} {c : Nat} {wr : World} (h : RF w m T f G cc L ob A c wr) {i : Nat} (hi : i < L) :
    ∃ u v, wr.cell? ⟨G, i * 2, none⟩ = some u ∧ wr.cell? ⟨G, i * 2 + 1, none⟩ = some v ∧ wr.frozen? ⟨G, i * 2, none⟩ = false ∧ wr.frozen? ⟨G, i * 2 + 1, none⟩ = false ∧ G < wr.heap.size := by
  obtain ⟨xs, h1, h2⟩ := h.own
  have hl := h2.length
  rw [h.len] at hl
  refine ⟨xs[i * 2]'(by omega), xs[i * 2 + 1]'(by omega), ?_, ?_, h1.frozenAt _, h1.frozenAt _, h.gw.2⟩
  · rw [h1.cellAt _ (by omega), List.getElem?_eq_getElem]
  · rw [h1.cellAt _ (by omega), List.getElem?_eq_getElem]

theorem keepD {W : World} {p : Addr} {v : Value} (h : W.cell? p = some v) : W.drew.cell? p = some v := h
theorem keepA {W : World} {p : Addr} {v : Value} {o : Obj} (h : W.cell? p = some v) : (W.alloc o).cell? p = some v := by
  rw [World.cell?_alloc_some _ _ _ (by rw [h]; rfl)]
  exact h
theorem new0 (W : World) (x : List UInt8) (t : TypeId) : (W.alloc (.cells #[S x] t)).cell? ⟨W.heap.size, 0, none⟩ = some (S x) := ((Blk.new W t #[S x]).cell 0).trans rfl
theorem new1 (W : World) (o : Obj) (x : List UInt8) (t : TypeId) : ((W.alloc o).alloc (.cells #[S x] t)).cell? ⟨W.heap.size + 1, 0, none⟩ = some (S x) :=
  ((Blk.new_at (W.alloc o) t #[S x] (g := W.heap.size + 1) (by simp)).cell 0).trans rfl

theorem shape_false {h : List UInt8} {j : Nat} (e : (shapeOf h)[j]? = some false) : bindsB h = true ∧ j = 0 := by
  rcases shape_cases h with ⟨e0, _⟩ | ⟨hb, e0, _⟩ | ⟨hb, e0, _⟩
  · rw [e0] at e; simp at e
  · refine ⟨hb, ?_⟩
    rw [e0] at e
    cases j with
    | zero => rfl
    | succ i =>
      simp only [List.getElem?_cons_succ, List.getElem?_replicate] at e
      split at e <;> cases e
  · rw [e0, List.getElem?_replicate] at e
    split at e <;> cases e

theorem bind_name {h : List UInt8} {r : Fo} (hb : bindsB h = true) (hs : isTms (some (shapeOf h)) r = true) : isName (hd1 r) = true := by
  rcases shape_cases h with ⟨e0, _⟩ | ⟨_, e0, _⟩ | ⟨hb2, _⟩
  · rw [e0] at hs
    cases hq : bindsB h with
    | false => rw [hq] at hb; cases hb
    | true =>
      have := kids_binds hq
      have : (shapeOf h).length - 1 = kidsOf h := by simp [kidsOf, hq]
      rw [e0] at this
      simp at this
      omega
  · rw [e0] at hs
    cases r with
    | nil => simp [isTms] at hs
    | cons a k q =>
      simp only [isTms, Bool.and_eq_true] at hs
      exact hs.1
  · rw [hb] at hb2; cases hb2
end Go.Proofs.YtnjgaenhjdjpfaaGreatDoor

/- The model's renaming: terms that have parts. -/
namespace Go.Proofs.YtnjgaenhjdjpfaaGreatDoor
open Go.RowKit Go.ChangeMaps

set_option maxRecDepth 100000 in
set_option maxHeartbeats 4000000 in
theorem rf_node (h : List UInt8) (k0 r : Fo) (hN : ∀ a' k' j, (Fo.cons h k0 r).nth j = some (a', k') → RfSaid k') (A : Option Addr) (c : Nat) (w : World) (T : Nat → Prop) (mm : Nat) (NA : Option Addr) (nc : Nat) (tk : List (List UInt8)) (g : Nat) (VF : Option Addr) (vf : Nat) (fr : List (List UInt8)) (VT : Option Addr) (vt : Nat) (to : List (List UInt8))
    (htm : isTms none (.cons h k0 r) = true) (hwf : (Fo.cons h k0 r).wf) (hs : (Fo.cons h k0 r).size ≤ 5000) (hft : fr.length = to.length) (hfs : fr.length + (Fo.cons h k0 r).size ≤ 10000) (hT : ∀ b, T b → b < w.heap.size ∧ b ≠ mm) (hA : Sl w T A (.cons h k0 r))
    (hnm : NmC w mm NA tk.length nc g) (hx : SSl w NA tk) (hNA : ∀ b o, NA = some ⟨b, o, none⟩ → b ≠ mm) (htl : tk.length ≤ 1000) (hF : BSl w VF fr) (hFm : ∀ b o, VF = some ⟨b, o, none⟩ → b ≠ mm) (hTo : BSl w VT to) (hTm : ∀ b o, VT = some ⟨b, o, none⟩ → b ≠ mm)
    (hend : (rnF tk (.cons h k0 r) (.top fr to) g).2 ≤ 4000) :
    Calls Tryz.prog 62 #[.agg #[S [], .slice A (Fo.cons h k0 r).len c], .slice VF fr.length vf, .slice VT to.length vt, Ptr mm] w fun e w' => RfP tk mm NA nc T [] (rnF tk (.cons h k0 r) (.top fr to) g).1 (rnF tk (.cons h k0 r) (.top fr to) g).2 w e w' := by
  have HN := Lib.hid hN
  clear hN
  simp only [isTms, Bool.and_eq_true] at htm
  obtain ⟨hsn, htm⟩ := htm
  have hrl := isTms_len _ _ htm
  have hsl := shape_short h
  have hs1 : 1 ≤ (shapeOf h).length := by
    cases hq : shapeOf h with
    | nil => rw [hq] at hsn; cases hsn
    | cons => simp
  have hne : shapeOf h ≠ [] := by intro e; rw [e] at hs1; simp at hs1
  have HTMS := Lib.hid htm
  clear htm hsn
  have hrz : 1 + r.size ≤ (Fo.cons h k0 r).size := by
    simp only [Fo.size, if_neg (shape_head hne).1]
    omega
  obtain ⟨n, nk, r', HR⟩ : ∃ n nk r', Hid (r = .cons n nk r') := by
    cases r with
    | nil => simp [Fo.len] at hrl; omega
    | cons n nk r' => exact ⟨n, nk, r', rfl⟩
  have hn1 : Hid (hd1 r = n) := by rw [HR.out]; exact rfl
  obtain ⟨m, HM⟩ : ∃ m, Hid (m = (shapeOf h).length) := ⟨_, rfl⟩
  obtain ⟨L, HL⟩ : ∃ L, Hid ((Fo.cons h k0 r).len = L) := ⟨_, rfl⟩
  have HLM : Hid (L = m + 1) := by
    have h1 := HL.out
    have h2 := HM.out
    show L = m + 1
    simp only [Fo.len] at h1
    omega
  have HRL : Hid (r.len = m) := by
    have h2 := HM.out
    show r.len = m
    omega
  rw [← HM.out] at hsl hs1
  have hL4 : (L : Int) ≤ 4 := by have := HLM.out; omega
  have hL1 : (1 : Int) ≤ (L : Int) := by have := HLM.out; omega
  rw [HL.out]
  clear hrl
  obtain ⟨gA, oA, ys, rfl, hgT, hel, hcs⟩ : ∃ b o ys, A = some ⟨b, o, none⟩ ∧ T b ∧ Elems w T (.cons h k0 r) ys ∧ ∀ j u, ys[j]? = some u → w.cell? ⟨b, o + j, none⟩ = some u := by
    rcases hA with h0 | h0
    · simp [Fo.len] at h0
    · exact h0
  have hmw := hnm.lt
  have HWF := Lib.hid hwf
  have HSZ := Lib.hid hs
  have HFT := Lib.hid hft
  have HFS := Lib.hid hfs
  have HT := Lib.hid hT
  have HA := Lib.hid hA
  have HNM := Lib.hid hnm
  have HX := Lib.hid hx
  have HNA := Lib.hid hNA
  have HTL := Lib.hid htl
  have HF := Lib.hid hF
  have HFM := Lib.hid hFm
  have HTO := Lib.hid hTo
  have HTM := Lib.hid hTm
  obtain ⟨F0, HF0⟩ : ∃ z, Hid (rnF tk (.cons h k0 r) (.top fr to) g = z) := ⟨_, rfl⟩
  rw [HF0.out] at hend ⊢
  have HEND := Lib.hid hend
  obtain ⟨l, HLN⟩ : ∃ l, Hid (tk.length = l) := ⟨_, rfl⟩
  obtain ⟨nf, HNF⟩ : ∃ nf, Hid (fr.length = nf) := ⟨_, rfl⟩
  have HNT : Hid (to.length = nf) := by show _ = _; rw [← HFT.out, HNF.out]
  rw [HNF.out, HNT.out]
  have b0 := Blk.new w 40 #[S [], .slice (some ⟨gA, oA, none⟩) L c]
  -- the copy of the parts
  obtain ⟨i0, hi0, hz0, hz1, hz2⟩ := info_parts info_tree
  have hyl := hel.length
  have HO : Hid (∀ (o o' : Obj), ((((w.alloc o).alloc o').alloc (.cells #[] 40))).ownsRow (w.heap.size + 2) 40 2 (.slice (some ⟨w.heap.size + 2, 0, none⟩) 0 0) 0 []) := by
    intro o o'
    refine ⟨rfl, .inr ⟨w.heap.size + 2, 0, #[], rfl, Nat.le_refl _, ?_, Nat.le_refl _, Nat.zero_le _, rfl, rfl⟩⟩
    have := heap_alloc_new ((w.alloc o).alloc o') (.cells #[] 40)
    simpa using this
  have HC1 : Hid (∀ (o o' o2 : Obj) (j : Nat) (u : Value), ys[j]? = some u → (((w.alloc o).alloc o').alloc o2).cell? ((⟨gA, oA, none⟩ : Addr).add j) = some u) := by
    intro o o' o2 j u hj
    rw [addr_add]
    have hf : Fr No w (((w.alloc o).alloc o').alloc o2) := (((Fr.refl _ w).alloc o).alloc o').alloc o2
    exact (hf.cell (p := ⟨gA, oA + j, none⟩) (hT gA hgT).1 (fun h => h)).trans (hcs j u hj)
  have HC2 : Hid (∀ u ∈ ys, u.oneCell' = true) := hel.one
  have HYL : Hid (ys.length = L * 2) := by show _ = _; rw [hyl, HL.out]
  have bnd : (0 + L) * 40 ≤ 140737488355328 := by omega
  have bnd2 : 0 + L ≤ maxLen := by unfold maxLen; omega
  have HC5 : Hid (∀ (o o' o2 : Obj), w.heap.size + 2 ≤ (((w.alloc o).alloc o').alloc o2).heap.size) := fun o o' o2 => by simp
  have HEL := Lib.hid hel
  have ARM : Hid (∀ (V : Value) (v' : Value) (w2 : World), V = .slice (some ⟨w.heap.size + 1 + 1, 0, none⟩) 0 0 → w2.ownsRow (w.heap.size + 2) 40 2 v' (0 + L) ([] ++ ys) → (((w.alloc (.cells #[S [], .slice (some ⟨gA, oA, none⟩) L c] 40)).alloc (.cells #[S [], .slice none 0 0] 40)).alloc (.cells #[] 40)).grownBy w2 V.ownBlock →
      ∃ G cc, v' = .slice (some ⟨G, 0, none⟩) L cc ∧ Hid (Fr No w (w2.alloc (.cells #[.string ⟨#[]⟩, .slice (some ⟨G, 0, none⟩) L cc] 40))) ∧ Hid (RF w mm T (.cons h k0 r) G cc L w2.heap.size (some ⟨gA, oA, none⟩) c (w2.alloc (.cells #[.string ⟨#[]⟩, .slice (some ⟨G, 0, none⟩) L cc] 40)))) := by
    intro V v' w2 hV hown hg
    subst hV
    rw [Nat.zero_add, List.nil_append] at hown
    have hl0 : L ≠ 0 := by omega
    obtain ⟨G, cc, rfl⟩ : ∃ G cc, v' = .slice (some ⟨G, 0, none⟩) L cc := by
      rcases hown.2 with ⟨_, h0⟩ | ⟨G, cap, cur, hv, _⟩
      · exact absurd h0 hl0
      · exact ⟨G, cap, hv⟩
    have hGl := hown.lt G rfl
    have hf3 : Fr No w (((w.alloc (.cells #[S [], .slice (some ⟨gA, oA, none⟩) L c] 40)).alloc (.cells #[S [], .slice none 0 0] 40)).alloc (.cells #[] 40)) := (((Fr.refl _ w).alloc _).alloc _).alloc _
    have hf2 : Fr No w w2 := hf3.grown hg (fun b hb => .inr (by simp only [Value.ownBlock, Option.some.injEq] at hb; omega))
    have hsz := hg.size
    have hs3 : (((w.alloc (.cells #[S [], .slice (some ⟨gA, oA, none⟩) L c] 40)).alloc (.cells #[S [], .slice none 0 0] 40)).alloc (.cells #[] 40)).heap.size = w.heap.size + 3 := by simp
    have hfa : Fr No w (w2.alloc (.cells #[.string ⟨#[]⟩, .slice (some ⟨G, 0, none⟩) L cc] 40)) := hf2.alloc _
    refine ⟨G, cc, rfl, Lib.hid hfa, Lib.hid ?_⟩
    refine ⟨hfa.mono (fun _ _ h => h.elim), ?_, ?_, Blk.new _ _ _, ⟨ys, hown.alloc _, ?_⟩, HL.out, ⟨by omega, by omega⟩⟩
    · have h1 := ((Blk.new w 40 #[S [], .slice (some ⟨gA, oA, none⟩) L c]).alloc (.cells #[S [], .slice none 0 0] 40)).alloc (.cells #[] 40)
      exact (h1.keep (hg.block w.heap.size h1.lt (fun e => by simp only [Value.ownBlock, Option.some.injEq] at e; omega))).alloc _
    · have h1 := (Blk.new_at (w.alloc (.cells #[S [], .slice (some ⟨gA, oA, none⟩) L c] 40)) 40 #[S [], .slice none 0 0] (g := w.heap.size + 1) (by simp)).alloc (.cells #[] 40)
      exact (h1.keep (hg.block (w.heap.size + 1) h1.lt (fun e => by simp only [Value.ownBlock, Option.some.injEq] at e; omega))).alloc _
    · exact HEL.out.mono (fun b hb => .inl hb) (fun b hb => hfa.block b (HT.out b hb).1 (fun h => h))
  clear hwf hs hft hfs hT hA hnm hx hNA htl hF hFm hTo hTm hend hel hcs hyl hne
  go_enter Tryz.func62, Tryz.ntmps62
  go_wp2_with (at_builtin; go_must (refine wpList_append_own_at _ rfl _ _ 38 rfl (w.heap.size + 2) 40 i0 (.agg #[.string ⟨#[]⟩, .slice none 0 0]) 2 40 Tryz.underlying38 hi0 hz0 hz1 hz2 rfl (by decide) _ 0 [] rfl (HO.out _ _) ⟨gA, oA, none⟩ L c ys rfl HYL.out (HC1.out _ _ _) HC2.out bnd2 bnd (HC5.out _ _ _) ?_); intro v' w2 hown' hgrow _ hloc; obtain ⟨G, cc, rfl, HFW, HRF⟩ := ARM.out _ v' w2 rfl hown' hgrow; clear hown' hgrow hloc)
  obtain ⟨ob, hob⟩ : ∃ ob, ob = w2.heap.size := ⟨_, rfl⟩
  rw [← hob] at HRF ⊢
  generalize (w2.alloc (.cells #[.string ⟨#[]⟩, .slice (some ⟨G, 0, none⟩) L cc] 40)) = W at HRF HFW ⊢
  clear hob ARM HO HC1 HC2 HC5 HYL bnd bnd2 hi0 hz0 hz1 hz2 HEL
  have HNW : Hid (NmC W mm NA l nc g) := by
    have := HNM.out
    rw [HLN.out] at this
    exact this.fr HFW.out (fun h => h)
  have HS0 : Hid (F0 = ((Fo.cons h k0 .nil).app (rnF tk (r.from_ 0) (rmM fr to h n [] 0) g).1, (rnF tk (r.from_ 0) (rmM fr to h n [] 0) g).2)) := by
    show _ = _
    rw [← HF0.out, rm_start tk fr to h n [] k0 r g, Fo.from_zero]
    rfl
  go_loopw [11, 12] (fun v u wr => ∃ (j : Nat) (pre : Fo) (y : List UInt8) (gj : Nat), j ≤ m ∧ u = .int .i64 ((j + 1 : Nat) : Int) ∧ v = S y ∧ pre.len = j + 1 ∧ RF w mm T (pre.app (r.from_ j)) G cc L ob (some ⟨gA, oA, none⟩) c wr ∧ NmC wr mm NA l nc gj ∧
      F0 = (pre.app (rnF tk (r.from_ j) (rmM fr to h n y j) gj).1, (rnF tk (r.from_ j) (rmM fr to h n y j) gj).2)) (fun _ u _ => m + 1 - (intOf u).toNat)
  case atStart => exact ⟨0, .cons h k0 .nil, [], g, Nat.zero_le _, rfl, rfl, rfl, by rw [Fo.from_zero]; exact HRF.out, HNW.out, HS0.out⟩
  case round =>
    obtain ⟨j, pre, y, gj, hj, rfl, rfl, hpl, hrf, hnmj, hrel⟩ := hrel
    have HRJ := Lib.hid hrf
    have HNJ := Lib.hid hnmj
    have HREL := Lib.hid hrel
    have HPL := Lib.hid hpl
    clear hrf hnmj hrel hpl HNW HS0 HRF
    have ALLC : Hid (∀ w', Fr No wr w' → w'.cell? ⟨w.heap.size, 0, none⟩ = some (S []) ∧ w'.cell? ⟨w.heap.size, 1, none⟩ = some (.slice (some ⟨gA, oA, none⟩) L c) ∧ w.heap.size < w'.heap.size ∧ w'.cell? ⟨ob, 0, none⟩ = some (S []) ∧ w'.cell? ⟨ob, 1, none⟩ = some (.slice (some ⟨G, 0, none⟩) L cc) ∧ ob < w'.heap.size ∧
        w'.cell? ⟨w.heap.size + 1, 0, none⟩ = some (S []) ∧ w'.cell? ⟨w.heap.size + 1, 1, none⟩ = some (.slice none 0 0) ∧ w'.frozen? ⟨w.heap.size + 1, 0, none⟩ = false ∧ w'.frozen? ⟨w.heap.size + 1, 1, none⟩ = false ∧ w.heap.size + 1 < w'.heap.size) := by
      intro w' hf
      have d0 := HRJ.out.bx.fr hf (fun h => h)
      have d1 := HRJ.out.out.fr hf (fun h => h)
      have d2 := HRJ.out.rs.fr hf (fun h => h)
      exact ⟨(d0.cell 0).trans rfl, (d0.cell 1).trans rfl, d0.lt, (d1.cell 0).trans rfl, (d1.cell 1).trans rfl, d1.lt, (d2.cell 0).trans rfl, (d2.cell 1).trans rfl, d2.frozen 0, d2.frozen 1, d2.lt⟩
    obtain ⟨c0, c1, cl, o0, o1, ol, r0, r1, f0, f1, rl⟩ := ALLC.out wr (Fr.refl _ _)
    have hnG : w.heap.size ≠ G := by have := HRJ.out.gw; omega
    have hnO : ob ≠ G := HRJ.out.ne.2
    by_cases hlt : j < m
    · have hjc : (j : Int) + 1 < (L : Int) := by have := HLM.out; omega
      have hjn : j + 1 < L := by have := HLM.out; omega
      have hAr : Sl wr T (some ⟨gA, oA, none⟩) (.cons h k0 r) := HA.out.mono (fun _ h => h) (fun b hb => HRJ.out.fr.block b (HT.out b hb).1 (HT.out b hb).2)
      obtain ⟨g', o', a', k', A2, c2, hAe, hgT', hn, q0, q1, hsl'⟩ := hAr.nth (j := j + 1) (by rw [HL.out, HLM.out]; omega)
      obtain ⟨rfl, rfl⟩ : gA = g' ∧ oA = o' := by
        simp only [Option.some.injEq, Addr.mk.injEq, and_true] at hAe
        exact hAe
      have hnr : r.nth j = some (a', k') := hn
      have hlg := block_lt q0
      obtain ⟨b, hbj⟩ : ∃ b, (shapeOf h)[j]? = some b := ⟨_, List.getElem?_eq_getElem (by rw [← HM.out]; exact hlt)⟩
      have hok := isTms_at r _ j a' k' b HTMS.out hnr hbj
      have IN : Hid (Calls Tryz.prog 47 #[.agg #[S [], .slice (some ⟨gA, oA, none⟩) L c], .int .i64 ((j + 1 : Nat) : Int)] wr fun e w' => e = .returned (.bool b) ∧ Fr No wr w') :=
        HL.out ▸ inner_any wr T [] h k0 r _ c (j + 1) b (by omega) hbj hAr
      have hfj := Fo.from_nth r j a' k' hnr
      have HRJ1 : Hid (RF w mm T (pre.app (.cons a' k' (r.from_ (j + 1)))) G cc L ob (some ⟨gA, oA, none⟩) c wr) := by
        have := HRJ.out
        rw [hfj] at this
        exact this
      cases b
      · obtain ⟨hbb, hj0⟩ := shape_false hbj
        have hE := HREL.out
        rw [hj0] at hE
        have hnr0 := hnr
        rw [hj0] at hnr0
        have han : a' = n := by
          have h1 := hn1.out
          cases hr : r with
          | nil => rw [hr] at hnr0; cases hnr0
          | cons x y z =>
            rw [hr] at hnr0 h1
            simp only [Fo.nth, Option.some.injEq, Prod.mk.injEq] at hnr0
            rw [← hnr0.1, ← h1]
            rfl
        rw [rm_name tk fr to hbb hnr0 gj, han] at hE
        have hfs : fsh tk gj + 1 ≤ 4000 := by
          have h1 := HEND.out
          rw [hE] at h1
          have h2 := rnF_mono tk (r.from_ 1) (rmM fr to h n (xnm (fsh tk gj)) 1) (fsh tk gj + 1)
          exact Nat.le_trans h2 h1
        have HE := Lib.hid hE
        have HJ0 := Lib.hid hj0
        have FRS : Hid (∀ w', Fr No wr w' → Calls Tryz.prog 90 #[Ptr mm] w' fun e w3 => e = .returned (S (xnm (fsh tk gj))) ∧ Fr (One mm) wr w3 ∧ NmC w3 mm NA l nc (fsh tk gj + 1)) := by
          intro w' hf
          refine (fresh2_any w' mm NA nc gj tk (by rw [HLN.out]; exact HNJ.out.fr hf (fun h => h)) ((HX.out.frT HRJ.out.fr (fun b o e h => HNA.out b o e h)).frT hf (fun _ _ _ h => h)) HNA.out HTL.out (by omega)).mono ?_
          rintro e w3 ⟨rfl, g1, g2⟩
          rw [HLN.out] at g2
          exact ⟨rfl, (hf.mono (fun _ _ h => h.elim)).trans g1, g2⟩
        have PUT : Hid (∀ w3, Fr (One mm) wr w3 → NmC w3 mm NA l nc (fsh tk gj + 1) → (∃ u v, w3.cell? ⟨G, (j + 1) * 2, none⟩ = some u ∧ w3.cell? ⟨G, (j + 1) * 2 + 1, none⟩ = some v ∧ w3.frozen? ⟨G, (j + 1) * 2, none⟩ = false ∧ w3.frozen? ⟨G, (j + 1) * 2 + 1, none⟩ = false ∧ G < w3.heap.size) ∧ w3.cell? ⟨ob, 1, none⟩ = some (.slice (some ⟨G, 0, none⟩) L cc) ∧ ob < w3.heap.size ∧
            RF w mm T ((pre.snoc (xnm (fsh tk gj)) .nil).app (r.from_ (j + 1))) G cc L ob (some ⟨gA, oA, none⟩) c ((w3.setCell ⟨G, (j + 1) * 2, none⟩ (S (xnm (fsh tk gj)))).setCell ⟨G, (j + 1) * 2 + 1, none⟩ (.slice none 0 0)) ∧
            NmC ((w3.setCell ⟨G, (j + 1) * 2, none⟩ (S (xnm (fsh tk gj)))).setCell ⟨G, (j + 1) * 2 + 1, none⟩ (.slice none 0 0)) mm NA l nc (fsh tk gj + 1)) := by
          intro w3 hf hn3
          have h3 := HRJ1.out.keep hmw HT.out hf
          have hg := h3.gw
          have hp := h3.put (a' := xnm (fsh tk gj)) (k' := .nil) (A' := none) (c' := 0) HT.out (.inl rfl)
          rw [HPL.out] at hp
          exact ⟨h3.slot hjn, (h3.out.cell 1).trans rfl, h3.out.lt, hp, (hn3.far (p := ⟨G, (j + 1) * 2, none⟩) (by show mm ≠ G; omega) _).far (p := ⟨G, (j + 1) * 2 + 1, none⟩) (by show mm ≠ G; omega) _⟩
        clear hE hnr0 han hfs hok hbj hnr hn hfj hAr hAe hsl' hbb hj0
        go_wp2_with fail
        refine IN.out.mono ?_
        rintro e w1 ⟨rfl, hf1⟩
        have HF1 := Lib.hid hf1
        clear hf1
        go_wp2_with fail
        refine (FRS.out _ HF1.out).mono ?_
        rintro e w3 ⟨rfl, hf3, hn3⟩
        obtain ⟨⟨u, v, s0, s1, s2, s3, s4⟩, t1, t2, t3, t4⟩ := PUT.out w3 hf3 hn3
        have T3 := Lib.hid t3
        have T4 := Lib.hid t4
        clear hf3 hn3 t3 t4
        go_wp2_with fail
        go_roundw
        case rel => exact ⟨j + 1, pre.snoc (xnm (fsh tk gj)) .nil, xnm (fsh tk gj), _, by omega, by go_num, rfl, by rw [Fo.len_snoc, HPL.out], T3.out, T4.out, by rw [HJ0.out, Fo.snoc_app]; exact HE.out⟩
        case measure => simp [intOf]; omega
      · obtain ⟨bn, hbn⟩ : ∃ z, bndB h n (j + 1) = z := ⟨_, rfl⟩
        have BD : Hid (∀ w', Fr No wr w' → Calls Tryz.prog 88 #[.agg #[S [], .slice (some ⟨gA, oA, none⟩) L c], .int .i64 ((j + 1 : Nat) : Int)] w' fun e w2 => e = .returned (S bn) ∧ Fr No wr w2 ∧ (∀ W0, Fr No W0 w' → Fr No W0 w2) ∧ (∀ p v, w'.cell? p = some v → w2.cell? p = some v)) := fun w' hf => by
          have h1 := hAr.fr (fun b hb => Nat.lt_of_lt_of_le (HT.out b hb).1 HRJ.out.fr.size) hf
          have h3 : Calls Tryz.prog 88 #[.agg #[S [], .slice (some ⟨gA, oA, none⟩) L c], .int .i64 ((j + 1 : Nat) : Int)] w' fun e w2 => e = .returned (S (bndB h n (j + 1))) ∧ Fr No w' w2 := by
            have hr := HR.out
            have h2 := HL.out
            rw [hr] at h1 h2
            rw [← h2]
            exact bound_any w' T [] h n k0 nk r' _ c (j + 1) h1
          refine h3.mono ?_
          rintro e w2 ⟨rfl, hf2⟩
          exact ⟨by rw [hbn], hf.trans hf2, fun _ h => h.trans hf2, fun p v h => (hf2.cell (World.block_lt_of_cell? _ _ h) (fun h => h)).trans h⟩
        obtain ⟨FF, hFF⟩ : ∃ z, z = if bn = [] then fr else fr ++ [bn] := ⟨_, rfl⟩
        obtain ⟨TT, hTT⟩ : ∃ z, z = if bn = [] then to else to ++ [y] := ⟨_, rfl⟩
        have hnn : bindsB h = true → n ≠ [] := fun hb => by
          have := bind_name hb HTMS.out
          rw [hn1.out] at this
          exact (name_bytes this).1
        have hkid := rm_kid tk fr to (b := n) (y := y) hbj hnn hnr gj FF TT (by rw [hbn]; exact hFF) (by rw [hbn]; exact hTT)
        have hE := HREL.out
        rw [hkid] at hE
        obtain ⟨K2, G2, hKG⟩ : ∃ K2 G2, rnR tk a' k' FF TT gj = (K2, G2) := ⟨_, _, rfl⟩
        rw [hKG] at hE
        have hG2 : G2 ≤ 4000 := by
          have h1 := HEND.out
          rw [hE] at h1
          have h2 := rnF_mono tk (r.from_ (j + 1)) (rmM fr to h n y (j + 1)) G2
          exact Nat.le_trans h2 h1
        obtain ⟨hw1, hw2⟩ := Fo.wf_nth r j a' k' HWF.out.2.2 hnr
        have hz := Fo.nth_size hnr
        have HE : Hid (F0 = ((pre.snoc (rnA FF TT a') K2).app (rnF tk (r.from_ (j + 1)) (rmM fr to h n y (j + 1)) G2).1, (rnF tk (r.from_ (j + 1)) (rmM fr to h n y (j + 1)) G2).2)) := by
          show _ = _
          rw [Fo.snoc_app]
          exact hE
        -- the part renamed, and put into the row
        have CALL : Hid (∀ (w' : World) (ZF : Option Addr) (zf : Nat) (ZT : Option Addr) (zt : Nat), Fr No wr w' → BSl w' ZF FF → (∀ b o, ZF = some ⟨b, o, none⟩ → b ≠ mm) → BSl w' ZT TT → (∀ b o, ZT = some ⟨b, o, none⟩ → b ≠ mm) →
            Calls Tryz.prog 62 #[.agg #[S a', .slice A2 k'.len c2], .slice ZF FF.length zf, .slice ZT TT.length zt, Ptr mm] w' fun e w3 => ∃ A5 c5, e = .returned (.agg #[S (rnA FF TT a'), .slice A5 K2.len c5]) ∧
              (∃ u v, w3.cell? ⟨G, (j + 1) * 2, none⟩ = some u ∧ w3.cell? ⟨G, (j + 1) * 2 + 1, none⟩ = some v ∧ w3.frozen? ⟨G, (j + 1) * 2, none⟩ = false ∧ w3.frozen? ⟨G, (j + 1) * 2 + 1, none⟩ = false ∧ G < w3.heap.size ∧ w3.cell? ⟨ob, 1, none⟩ = some (.slice (some ⟨G, 0, none⟩) L cc) ∧ ob < w3.heap.size ∧ w3.cell? ⟨w.heap.size, 0, none⟩ = some (S []) ∧ w3.cell? ⟨w.heap.size, 1, none⟩ = some (.slice (some ⟨gA, oA, none⟩) L c) ∧ w3.cell? ⟨gA, oA + (j + 1) * 2, none⟩ = some (S a') ∧ w3.cell? ⟨gA, oA + (j + 1) * 2 + 1, none⟩ = some (.slice A2 k'.len c2)) ∧
              Hid (RF w mm T ((pre.snoc (rnA FF TT a') K2).app (r.from_ (j + 1))) G cc L ob (some ⟨gA, oA, none⟩) c ((w3.setCell ⟨G, (j + 1) * 2, none⟩ (S (rnA FF TT a'))).setCell ⟨G, (j + 1) * 2 + 1, none⟩ (.slice A5 K2.len c5)) ∧
              NmC ((w3.setCell ⟨G, (j + 1) * 2, none⟩ (S (rnA FF TT a'))).setCell ⟨G, (j + 1) * 2 + 1, none⟩ (.slice A5 K2.len c5)) mm NA l nc G2)) := by
          intro w' ZF zf ZT zt hf hzf hzfm hzt hztm
          have hfw := HRJ.out.fr.then_ hf (fun _ _ h => h.elim)
          have hfl : FF.length ≤ fr.length + 1 := by rw [hFF]; split <;> simp
          have hcall := HN.out a' k' (j + 1) hn a' A2 c2 w' T mm NA nc tk gj ZF zf FF ZT zt TT hok hw1 hw2 (by have := HSZ.out; omega) (by rw [hFF, hTT]; split <;> simp [HFT.out]) (by have := HFS.out; omega) (fun b hb => ⟨Nat.lt_of_lt_of_le (HT.out b hb).1 hfw.size, (HT.out b hb).2⟩)
            (hsl'.fr (fun b hb => Nat.lt_of_lt_of_le (HT.out b hb).1 HRJ.out.fr.size) hf) (by rw [HLN.out]; exact HNJ.out.fr hf (fun h => h)) ((HX.out.frT HRJ.out.fr (fun b o e h => HNA.out b o e h)).frT hf (fun _ _ _ h => h)) HNA.out HTL.out hzf hzfm hzt hztm (by rw [hKG]; exact hG2)
          rw [hKG] at hcall
          refine hcall.mono ?_
          rintro e w3 ⟨A5, c5, rfl, g1, g2, g3⟩
          have hr1 := (HRJ1.out.keep hmw HT.out (hf.mono (fun _ _ h => h.elim))).keep hmw HT.out g1
          have hgw := HRJ1.out.gw
          have hsz := hf.size
          have hwsz := HRJ1.out.ne
          have hp := hr1.put (a' := rnA FF TT a') (k' := K2) (A' := A5) (c' := c5) HT.out (g3.mono (fun b hb => hb.imp (fun h => h) (fun hb => ⟨by have := HRJ1.out.rs.lt; omega, hb.2, by omega⟩)) (fun _ _ => rfl))
          rw [HPL.out] at hp
          rw [HLN.out] at g2
          have hgg := hr1.gw
          obtain ⟨su, sv, s0, s1, s2, s3, s4⟩ := hr1.slot hjn
          exact ⟨A5, c5, rfl, ⟨su, sv, s0, s1, s2, s3, s4, (hr1.out.cell 1).trans rfl, hr1.out.lt, (hr1.bx.cell 0).trans rfl, (hr1.bx.cell 1).trans rfl, (g1.cell (p := ⟨gA, oA + (j + 1) * 2, none⟩) (Nat.lt_of_lt_of_le hlg hf.size) (fun e => (HT.out gA hgT).2 e)).trans ((hf.cell (p := ⟨gA, oA + (j + 1) * 2, none⟩) hlg (fun h => h)).trans q0), (g1.cell (p := ⟨gA, oA + (j + 1) * 2 + 1, none⟩) (Nat.lt_of_lt_of_le hlg hf.size) (fun e => (HT.out gA hgT).2 e)).trans ((hf.cell (p := ⟨gA, oA + (j + 1) * 2 + 1, none⟩) hlg (fun h => h)).trans q1)⟩, hp, (g2.far (p := ⟨G, (j + 1) * 2, none⟩) (by show mm ≠ G; omega) _).far (p := ⟨G, (j + 1) * 2 + 1, none⟩) (by show mm ≠ G; omega) _⟩
        have HFR : Hid (BSl wr VF fr ∧ BSl wr VT to) := ⟨HF.out.fr HRJ.out.fr (fun b o e h => HFM.out b o e h), HTO.out.fr HRJ.out.fr (fun b o e h => HTM.out b o e h)⟩
        have HSQ : Hid (∀ w', Fr No wr w' → w'.cell? ⟨gA, oA + (j + 1) * 2, none⟩ = some (S a') ∧ w'.cell? ⟨gA, oA + (j + 1) * 2 + 1, none⟩ = some (.slice A2 k'.len c2) ∧ gA < w'.heap.size) := fun w' hf =>
          ⟨(hf.cell (p := ⟨gA, oA + (j + 1) * 2, none⟩) hlg (fun h => h)).trans q0, (hf.cell (p := ⟨gA, oA + (j + 1) * 2 + 1, none⟩) hlg (fun h => h)).trans q1, Nat.lt_of_lt_of_le hlg hf.size⟩
        by_cases hb0 : bn = []
        · have eF : FF = fr := by rw [hFF, if_pos hb0]
          have eT : TT = to := by rw [hTT, if_pos hb0]
          subst hb0
          have CALL0 : Hid (∀ (w' : World), Fr No wr w' → Calls Tryz.prog 62 #[.agg #[S a', .slice A2 k'.len c2], .slice VF nf vf, .slice VT nf vt, Ptr mm] w' fun e w3 => ∃ A5 c5, e = .returned (.agg #[S (rnA FF TT a'), .slice A5 K2.len c5]) ∧
              (∃ u v, w3.cell? ⟨G, (j + 1) * 2, none⟩ = some u ∧ w3.cell? ⟨G, (j + 1) * 2 + 1, none⟩ = some v ∧ w3.frozen? ⟨G, (j + 1) * 2, none⟩ = false ∧ w3.frozen? ⟨G, (j + 1) * 2 + 1, none⟩ = false ∧ G < w3.heap.size ∧ w3.cell? ⟨ob, 1, none⟩ = some (.slice (some ⟨G, 0, none⟩) L cc) ∧ ob < w3.heap.size ∧ w3.cell? ⟨w.heap.size, 0, none⟩ = some (S []) ∧ w3.cell? ⟨w.heap.size, 1, none⟩ = some (.slice (some ⟨gA, oA, none⟩) L c) ∧ w3.cell? ⟨gA, oA + (j + 1) * 2, none⟩ = some (S a') ∧ w3.cell? ⟨gA, oA + (j + 1) * 2 + 1, none⟩ = some (.slice A2 k'.len c2)) ∧
              Hid (RF w mm T ((pre.snoc (rnA FF TT a') K2).app (r.from_ (j + 1))) G cc L ob (some ⟨gA, oA, none⟩) c ((w3.setCell ⟨G, (j + 1) * 2, none⟩ (S (rnA FF TT a'))).setCell ⟨G, (j + 1) * 2 + 1, none⟩ (.slice A5 K2.len c5)) ∧
              NmC ((w3.setCell ⟨G, (j + 1) * 2, none⟩ (S (rnA FF TT a'))).setCell ⟨G, (j + 1) * 2 + 1, none⟩ (.slice A5 K2.len c5)) mm NA l nc G2)) := by
            intro w' hf
            have := CALL.out w' VF vf VT vt hf (by rw [eF]; exact HFR.out.1.fr hf (fun _ _ _ h => h)) HFM.out (by rw [eT]; exact HFR.out.2.fr hf (fun _ _ _ h => h)) HTM.out
            rw [eF, eT, HNF.out, HNT.out] at this
            rw [eF, eT]
            exact this
          obtain ⟨a5, HA5⟩ : ∃ z, Hid (rnA FF TT a' = z) := ⟨_, rfl⟩
          rw [HA5.out] at CALL0
          obtain ⟨kl, HKL⟩ : ∃ z, Hid (k'.len = z) := ⟨_, rfl⟩
          rw [HKL.out] at CALL0 HSQ
          obtain ⟨k5, HK5⟩ : ∃ z, Hid (K2.len = z) := ⟨_, rfl⟩
          rw [HK5.out] at CALL0
          have HEX := HE
          rw [HA5.out] at HEX
          clear CALL HFR eF eT hFF hTT hkid hE hKG hG2 hw1 hw2 hz hnn hbn hok hbj hnr hn hfj hAr hAe hsl' q0 q1
          go_wp2_with fail
          refine IN.out.mono ?_
          rintro e w1 ⟨rfl, hf1⟩
          have HF1 := Lib.hid hf1
          obtain ⟨d0, d1, dl, e0, e1, el, s0, s1, u0, u1, ul⟩ := ALLC.out w1 hf1
          clear hf1
          go_wp2_with fail
          refine (BD.out _ HF1.out).mono ?_
          rintro e w3 ⟨rfl, hf3, _, _⟩
          have HF3 := Lib.hid hf3
          obtain ⟨v0, v1, vl, x0, x1, xl, y0, y1, z0, z1, zl⟩ := ALLC.out w3 hf3
          obtain ⟨p0, p1, pl⟩ := HSQ.out w3 hf3
          have hf3d : Fr No wr w3.drew := hf3.drew
          clear hf3
          go_wp2_with fail
          go_region_with (first | (go_at_call 62; (with_reducible refine (CALL0.out _ hf3d).mono ?_); rintro e w5 ⟨A5, c5, rfl, ⟨u, v, s0, s1, s2, s3, s4, s5, s6, s7, s8, s9, s10⟩, HRN⟩))
          all_goals go_wp2_with fail
          all_goals go_roundw
          all_goals first
            | exact ⟨j + 1, pre.snoc a5 K2, y, G2, by omega, by go_num, rfl, by rw [Fo.len_snoc, HPL.out], HRN.out.1, HRN.out.2, HEX.out⟩
            | (simp [intOf]; omega)
        · have eF : FF = fr ++ [bn] := by rw [hFF, if_neg hb0]
          have eT : TT = to ++ [y] := by rw [hTT, if_neg hb0]
          have BD2 : Hid (∀ w', Fr No wr w' → Calls Tryz.prog 88 #[.agg #[S [], .slice (some ⟨gA, oA, none⟩) L c], .int .i64 ((j : Int) + 1)] w' fun e w2 => e = .returned (S bn) ∧ Fr No wr w2 ∧ (∀ W0, Fr No W0 w' → Fr No W0 w2) ∧ (∀ p v, w'.cell? p = some v → w2.cell? p = some v)) := BD
          have hj1 : (0 : Int) ≤ (j : Int) + 1 := by omega
          have m1 : G ≠ w.heap.size := fun e => hnG e.symm
          have m2 : G ≠ ob := fun e => hnO e.symm
          have m3 : G ≠ gA := by have := HRJ.out.gw; have := (HT.out gA hgT).1; omega
          have hbe : bn.isEmpty = false := by cases bn; exact absurd rfl hb0; rfl
          have hml : ∀ b, wr.heap.size ≤ b → b ≠ mm := fun b hb => by have := HRJ.out.fr.size; omega
          have WF : Hid (∀ (w' : World) (g1 : Nat), Fr No wr w' → w'.cell? ⟨g1, 0, none⟩ = some (S bn) → Calls Tryz.prog 89 #[.slice VF nf vf, .slice (some ⟨g1, 0, none⟩) 1 1] w' fun e w2 => ∃ Z zc, e = .returned (.slice Z FF.length zc) ∧ BSl w2 Z FF ∧ (∀ b o, Z = some ⟨b, o, none⟩ → b ≠ mm) ∧ Fr No wr w2 ∧
              (∀ W0, Fr No W0 w' → Fr No W0 w2) ∧ (∀ p v, w'.cell? p = some v → w2.cell? p = some v)) := by
            intro w' g1 hf hx
            have h1 := with_any w' VF fr vf bn g1 (HFR.out.1.fr hf (fun _ _ _ h => h)) hx (by have := HFS.out; omega)
            rw [HNF.out] at h1
            refine h1.mono ?_
            rintro e w2 ⟨Z, zc, rfl, z1, z2, z3⟩
            rw [eF]
            exact ⟨Z, zc, rfl, z1, fun b o e => hml b (Nat.le_trans hf.size (z2 b o e)), hf.trans z3, fun _ h => h.trans z3, fun p v h => (z3.cell (World.block_lt_of_cell? _ _ h) (fun h => h)).trans h⟩
          have WT : Hid (∀ (w' : World) (g1 : Nat), Fr No wr w' → w'.cell? ⟨g1, 0, none⟩ = some (S y) → Calls Tryz.prog 89 #[.slice VT nf vt, .slice (some ⟨g1, 0, none⟩) 1 1] w' fun e w2 => ∃ Z zc, e = .returned (.slice Z TT.length zc) ∧ BSl w2 Z TT ∧ (∀ b o, Z = some ⟨b, o, none⟩ → b ≠ mm) ∧ Fr No wr w2 ∧
              (∀ W0, Fr No W0 w' → Fr No W0 w2) ∧ (∀ p v, w'.cell? p = some v → w2.cell? p = some v)) := by
            intro w' g1 hf hx
            have h1 := with_any w' VT to vt y g1 (HFR.out.2.fr hf (fun _ _ _ h => h)) hx (by have := HFS.out; have := HFT.out; omega)
            rw [HNT.out] at h1
            refine h1.mono ?_
            rintro e w2 ⟨Z, zc, rfl, z1, z2, z3⟩
            rw [eT]
            exact ⟨Z, zc, rfl, z1, fun b o e => hml b (Nat.le_trans hf.size (z2 b o e)), hf.trans z3, fun _ h => h.trans z3, fun p v h => (z3.cell (World.block_lt_of_cell? _ _ h) (fun h => h)).trans h⟩
          obtain ⟨a5, HA5⟩ : ∃ z, Hid (rnA FF TT a' = z) := ⟨_, rfl⟩
          rw [HA5.out] at CALL
          obtain ⟨kl, HKL⟩ : ∃ z, Hid (k'.len = z) := ⟨_, rfl⟩
          rw [HKL.out] at CALL HSQ
          obtain ⟨k5, HK5⟩ : ∃ z, Hid (K2.len = z) := ⟨_, rfl⟩
          rw [HK5.out] at CALL
          have HEX := HE
          rw [HA5.out] at HEX
          obtain ⟨fl, HFL⟩ : ∃ z, Hid (FF.length = z) := ⟨_, rfl⟩
          obtain ⟨tl, HTLN⟩ : ∃ z, Hid (TT.length = z) := ⟨_, rfl⟩
          rw [HFL.out] at WF CALL
          rw [HTLN.out] at WT CALL
          clear HFR eF eT hFF hTT hkid hE hKG hG2 hw1 hw2 hz hnn hbn hok hbj hnr hn hfj hAr hAe hsl' q0 q1 hml hb0
          go_wp2_with fail
          refine IN.out.mono ?_
          rintro e w1 ⟨rfl, hf1⟩
          have HF1 := Lib.hid hf1
          obtain ⟨d0, d1, dl, e0, e1, el, s0, s1, u0, u1, ul⟩ := ALLC.out w1 hf1
          clear hf1
          go_wp2_with fail
          refine (BD.out _ HF1.out).mono ?_
          rintro e w3 ⟨rfl, hf3, _, _⟩
          have HF3 := Lib.hid hf3
          obtain ⟨v0, v1, vl, x0, x1, xl, y0, y1, z0, z1, zl⟩ := ALLC.out w3 hf3
          obtain ⟨p0, p1, pl⟩ := HSQ.out w3 hf3
          go_wp2_with fail
          go_region_held3 (fun w' => w'.cell? ⟨w.heap.size, 0, none⟩ = some (S []) ∧ w'.cell? ⟨w.heap.size, 1, none⟩ = some (.slice (some ⟨gA, oA, none⟩) L c) ∧ w'.cell? ⟨ob, 1, none⟩ = some (.slice (some ⟨G, 0, none⟩) L cc) ∧ w'.cell? ⟨gA, oA + (j + 1) * 2, none⟩ = some (S a') ∧ w'.cell? ⟨gA, oA + (j + 1) * 2 + 1, none⟩ = some (.slice A2 kl c2)) (go_keep)
            (first
            | (go_at_call 88; (with_reducible refine (BD2.out _ ?_).mono ?_); (repeat (first | exact Fr.refl _ _ | exact hf3 | with_reducible apply Fr.drew | with_reducible apply Fr.alloc | with_reducible apply Lb | with_reducible apply Lf | with_reducible apply Lt)); rintro e wb ⟨rfl, hfb, Lb, Kb⟩; obtain ⟨b0, b1, bl, b2, b3, bl2, b4, b5, b6, b7, b8⟩ := ALLC.out wb hfb; obtain ⟨b9, b10, b11⟩ := HSQ.out wb hfb)
            | (go_at_call 89; (with_reducible refine (WF.out _ _ ?_ ?_).mono ?_); (repeat (first | exact Fr.refl _ _ | exact hf3 | with_reducible apply Fr.drew | with_reducible apply Fr.alloc | with_reducible apply Lb | with_reducible apply Lf | with_reducible apply Lt)); (repeat (first | with_reducible exact new0 _ _ _ | with_reducible exact new1 _ _ _ _ | with_reducible apply Kb | with_reducible apply Kf | with_reducible apply Kt | with_reducible apply keepD | with_reducible apply keepA)); rintro e wf ⟨ZF, zf, rfl, zf1, zf2, hff, Lf, Kf⟩; obtain ⟨g0, g1, gl, g2, g3, gl2, g4, g5, g6, g7, g8⟩ := ALLC.out wf hff; obtain ⟨g9, g10, g11⟩ := HSQ.out wf hff)
            | (go_at_call 89; (with_reducible refine (WT.out _ _ ?_ ?_).mono ?_); (repeat (first | exact Fr.refl _ _ | exact hf3 | with_reducible apply Fr.drew | with_reducible apply Fr.alloc | with_reducible apply Lb | with_reducible apply Lf | with_reducible apply Lt)); (repeat (first | with_reducible exact new0 _ _ _ | with_reducible exact new1 _ _ _ _ | with_reducible apply Kb | with_reducible apply Kf | with_reducible apply Kt | with_reducible apply keepD | with_reducible apply keepA)); rintro e wt ⟨ZT, zt, rfl, zt1, zt2, hft, Lt, Kt⟩; obtain ⟨i0, i1, il, i2, i3, il2, i4, i5, i6, i7, i8⟩ := ALLC.out wt hft; obtain ⟨i9, i10, i11⟩ := HSQ.out wt hft)
            | (go_at_call 62; (with_reducible refine (CALL.out _ _ _ _ _ ?_ (zf1.fr (T := No) ?_ (fun _ _ _ h => h)) zf2 (zt1.fr (T := No) ?_ (fun _ _ _ h => h)) zt2).mono ?_); (repeat (first | exact Fr.refl _ _ | exact hf3 | with_reducible apply Fr.drew | with_reducible apply Fr.alloc | with_reducible apply Lb | with_reducible apply Lf | with_reducible apply Lt)); (repeat (first | exact Fr.refl _ _ | exact hf3 | with_reducible apply Fr.drew | with_reducible apply Fr.alloc | with_reducible apply Lb | with_reducible apply Lf | with_reducible apply Lt)); (repeat (first | exact Fr.refl _ _ | exact hf3 | with_reducible apply Fr.drew | with_reducible apply Fr.alloc | with_reducible apply Lb | with_reducible apply Lf | with_reducible apply Lt)); rintro e w5 ⟨A5, c5, rfl, ⟨u, v, s0, s1, s2, s3, s4, s5, s6, s7, s8, s9, s10⟩, HRN⟩))
          all_goals go_wp2_with fail
          all_goals go_roundw
          all_goals first
            | exact ⟨j + 1, pre.snoc a5 K2, y, G2, by omega, by go_num, rfl, by rw [Fo.len_snoc, HPL.out], HRN.out.1, HRN.out.2, HEX.out⟩
            | (simp [intOf]; omega)
    · have hjm : j = m := by omega
      have hjc : ¬ (j : Int) + 1 < (L : Int) := by have := HLM.out; omega
      have FIN : Hid (∀ v0 v1, RfP tk mm NA nc T [] F0.1 F0.2 w (.returned (.agg #[S [], .slice (some ⟨G, 0, none⟩) L cc])) ((wr.setCell ⟨w.heap.size + 1, 0, none⟩ v0).setCell ⟨w.heap.size + 1, 1, none⟩ v1)) := by
        intro v0 v1
        have hrf := HRJ.out
        have e1 := HREL.out
        have hfl : r.from_ j = .nil := by rw [hjm, ← HRL.out, Fo.from_len]
        rw [hfl] at hrf e1
        have e2 : F0 = (pre, gj) := by rw [e1]; simp only [rnF, Fo.app_nil]
        rw [Fo.app_nil] at hrf
        have hl := hrf.len
        have hg := hrf.gw
        rw [e2]
        refine ⟨_, cc, by rw [← hl], ((hrf.fr.setCell (p := ⟨w.heap.size + 1, 0, none⟩) (.inr (Nat.le_succ _)) v0).setCell (p := ⟨w.heap.size + 1, 1, none⟩) (.inr (Nat.le_succ _)) v1), ?_, ?_⟩
        · rw [HLN.out]
          exact (HNJ.out.far (p := ⟨w.heap.size + 1, 0, none⟩) (by show mm ≠ w.heap.size + 1; omega) v0).far (p := ⟨w.heap.size + 1, 1, none⟩) (by show mm ≠ w.heap.size + 1; omega) v1
        · have hd := hrf.done
          refine hd.mono (fun b hb => hb.imp (fun h => h) (fun hb => ⟨by omega, by simp only [World.setCell]; simpa using hb.2⟩)) (fun b hb => ?_)
          have hb1 : b ≠ w.heap.size + 1 := by
            rcases hb with hb | hb
            · have := (HT.out b hb).1; omega
            · omega
          rw [Below.heap_setCell _ ⟨w.heap.size + 1, 1, none⟩ _ _ hb1, Below.heap_setCell _ ⟨w.heap.size + 1, 0, none⟩ _ _ hb1]
      clear hjm
      go_wp2_with fail
      refine bodyPost_ret (v := .agg #[S [], .slice (some ⟨G, 0, none⟩) L cc]) (by simp [results, Tryz.results62, go_sem, cell_set_same r0, cell_set_next r1]) rfl ?_
      exact FIN.out _ _
end Go.Proofs.YtnjgaenhjdjpfaaGreatDoor

/- TermCanon of the model. -/
namespace Go.Proofs.YtnjgaenhjdjpfaaGreatDoor
open Go.RowKit Go.ChangeMaps

theorem rf_any (N : Nat) : ∀ k : Fo, SizeOf.sizeOf k < N → RfSaid k := by
  induction N with
  | zero => intro k h; omega
  | succ N ih =>
    intro k hN a A c w T m NA nc tk g VF vf fr VT vt to htm hat hwf hs hft hfs hT hA hnm hx hNA htl hF hFm hTo hTm hend
    by_cases he : a = []
    · subst he
      have h2 : isTms none k = true := by simpa [isTm] using htm
      have e2 : treeSize [] k = k.size := by simp [treeSize]
      have e3 : rnR tk [] k fr to g = rnF tk k (.top fr to) g := by simp [rnR]
      have e4 : rnA fr to [] = [] := rfl
      rw [e2] at hs hfs
      rw [e3] at hend ⊢
      rw [e4]
      cases k with
      | nil => cases h2
      | cons h k0 r => exact rf_node h k0 r (fun a' k' j hn => ih k' (by have := Fo.nth_small _ j a' k' hn; omega)) A c w T m NA nc tk g VF vf fr VT vt to h2 hwf hs hft hfs hT hA hnm hx hNA htl hF hFm hTo hTm hend
    · obtain rfl := hat he
      have e3 : rnR tk a .nil fr to g = (.nil, g) := by simp [rnR, he]
      rw [e3]
      exact rf_atom a A c w T m NA nc tk g VF vf fr VT vt to he hft (by omega) hnm hF hTo

theorem rnF_le {tk : List (List UInt8)} {k : Fo} (h : isTms none k = true) (hk : k.wf) (hs : (cv k (.parts [])).size ≤ 390) (htk : tk.length ≤ 600) (hf : FrIn tk (cv k (.parts []))) : (rnF tk k (.top [] []) 0).2 ≤ 1000 := by
  have hend : (rnT tk (cv k (.parts [])) (if bindsB (hd1 k) then fsh tk 0 + 1 else 0)).2 ≤ 1000 := by
    have h1 := rnT_bound tk (.cons (ndH [] k) (ndA [] [] k) (ndD [] []) (cv k (.parts [])) .nil)
    have hlen := top_len [] hk h
    have eG : rnG tk (ndH [] k) (cv k (.parts [])) 0 = if bindsB (hd1 k) then fsh tk 0 + 1 else 0 := by
      simp only [rnG, if_neg hlen, ndH, if_true]
    simp only [rnT, eG, Ts.size] at h1
    revert h1
    split <;> split <;> intro h1 <;> omega
  have q1 := ((rn_eq tk k hk).2.1 [] [] 0 (rinv_nil tk 0) h hf hend).1
  rw [q1] at hend
  exact hend

theorem rnA_nil (a : List UInt8) : rnA [] [] a = a := by
  unfold rnA
  split
  · exact Eq.symm (by assumption)
  · rfl

theorem rnR_nil (tk : List (List UInt8)) (a : List UInt8) (k : Fo) : (rnR tk a k [] [] 0).1 = cnK tk a k := by
  unfold rnR cnK
  split <;> rfl

def ApP (T : Nat → Prop) (tk : List (List UInt8)) (a : List UInt8) (k : Fo) (w : World) (e : Ending) (w' : World) : Prop :=
  ∃ A c, e = .returned (.agg #[S a, .slice A (cnK tk a k).len c]) ∧ Fr No w w' ∧ Sl w' (TN T w w') A (cnK tk a k)

theorem BSl.empty (w : World) (g : Nat) (h : g < w.heap.size) : BSl w (some ⟨g, 0, none⟩) [] := ⟨fun j x e => by simp at e, g, 0, rfl, h⟩

set_option maxRecDepth 100000 in
set_option maxHeartbeats 2000000 in
/-- bound names renamed, apart from the term's own free names -/
theorem apart0_any (w : World) (T : Nat → Prop) (a : List UInt8) (A : Option Addr) (c : Nat) (k : Fo) (htm : isTm a k = true) (hat : a ≠ [] → k = .nil) (hwf : k.wf) (hs : treeSize a k ≤ 390) (hT : ∀ b, T b → b < w.heap.size) (hA : Sl w T A k) :
    Calls Tryz.prog 36 #[.agg #[S a, .slice A k.len c], .slice none 0 0] w fun e w' => ApP T (fvs a k) a k w e w' := by
  obtain ⟨xs, HX⟩ : ∃ xs, Hid (fsT a k [] [] = xs) := ⟨_, rfl⟩
  have hxl : xs.length ≤ treeSize a k := by rw [← HX.out]; exact fvs_len htm hat hwf
  have hfin : FrIn xs (nd [] a k) := by
    have h2 := frU_in (nd [] a k) [] (leafy_of _ (wf_nd [] htm hat hwf))
    rw [frU_nd htm hat hwf] at h2
    rw [← HX.out]
    exact h2
  have hend : (rnR xs a k [] [] 0).2 ≤ 4000 := by
    unfold rnR
    split
    · rename_i ha
      subst ha
      have h1 := nd_size [] htm hat hwf
      simp only [nd, Ts.size] at h1
      have := rnF_le (tk := xs) (by simpa [isTm] using htm) hwf (by omega) (by omega) hfin.2.1
      omega
    · exact Nat.zero_le _
  have b0 := (Blk.new w 40 #[S a, .slice A k.len c]).alloc (.cells #[S [], .slice none 0 0] 40)
  have b1 : Blk ((w.alloc (.cells #[S a, .slice A k.len c] 40)).alloc (.cells #[S [], .slice none 0 0] 40)) (w.heap.size + 1) 40 #[S [], .slice none 0 0] := Blk.new_at _ _ _ (by simp)
  have hf0 : Fr No w ((w.alloc (.cells #[S a, .slice A k.len c] 40)).alloc (.cells #[S [], .slice none 0 0] 40)) := ((Fr.refl _ _).alloc _).alloc _
  have hsz0 : ((w.alloc (.cells #[S a, .slice A k.len c] 40)).alloc (.cells #[S [], .slice none 0 0] 40)).heap.size = w.heap.size + 2 := by simp
  have HT := Lib.hid hT
  have HA := Lib.hid hA
  have HTM := Lib.hid htm
  have HAT := Lib.hid hat
  have HWF := Lib.hid hwf
  have HSZ := Lib.hid hs
  have HXL := Lib.hid hxl
  have HEND := Lib.hid hend
  obtain ⟨kl, HKL⟩ : ∃ z, Hid (k.len = z) := ⟨_, rfl⟩
  rw [HKL.out] at b0 b1 hf0 hsz0 ⊢
  obtain ⟨K, HK⟩ : ∃ z, Hid (cnK (fvs a k) a k = z) := ⟨_, rfl⟩
  have HRK : Hid ((rnR xs a k [] [] 0).1 = K) := by show _ = _; rw [rnR_nil, ← HK.out, ← HX.out]; rfl
  clear hT hA htm hat hwf hs hxl hfin hend
  go_enter Tryz.func36, Tryz.ntmps36
  go_wp2_with fail
  generalize ((w.alloc (.cells #[S a, .slice A kl c] 40)).alloc (.cells #[S [], .slice none 0 0] 40)) = W at b0 b1 hf0 hsz0 ⊢
  have HFW := Lib.hid hf0
  have HB0 := Lib.hid b0
  have HB1 := Lib.hid b1
  have HS0 := Lib.hid hsz0
  have c0 : W.cell? ⟨w.heap.size, 0, none⟩ = some (S a) := (b0.cell 0).trans rfl
  have FREE : Hid (Calls Tryz.prog 61 #[.agg #[S a, .slice A kl c], .slice (some ⟨w.heap.size + 2, 0, none⟩) 0 0, .slice (some ⟨w.heap.size + 2 + 1, 0, none⟩) 0 0] ((W.alloc (.cells #[] 9)).alloc (.cells #[] 9)) fun e w' =>
      ∃ V vc, e = .returned (.slice V xs.length vc) ∧ Fr No W w' ∧ w'.ownsRow (w.heap.size + 2) 9 1 (.slice V xs.length vc) xs.length (xs.map S)) := by
    have hfa : Fr No W ((W.alloc (.cells #[] 9)).alloc (.cells #[] 9)) := (((Fr.refl _ _).alloc _).alloc _)
    have hown : ((W.alloc (.cells #[] 9)).alloc (.cells #[] 9)).ownsRow (w.heap.size + 2) 9 1 (.slice (some ⟨w.heap.size + 2 + 1, 0, none⟩) 0 0) 0 [] := by
      have := own_empty (W.alloc (.cells #[] 9)) (w.heap.size + 2) (by simp; omega) _ rfl
      have e : (W.alloc (.cells #[] 9)).heap.size = w.heap.size + 2 + 1 := by simp; omega
      rw [e] at this
      exact this
    have hTW : ∀ b, T b → b < W.heap.size := fun b hb => by have := HT.out b hb; omega
    have hAW : Sl W T A k := HA.out.mono (fun _ h => h) (fun b hb => hf0.block b (HT.out b hb) (fun h => h))
    have e0 := fs_any _ k (Nat.lt_succ_self _) a A c _ T (w.heap.size + 2) (some ⟨w.heap.size + 2 + 1, 0, none⟩) 0 [] (some ⟨w.heap.size + 2, 0, none⟩) 0 [] HTM.out (by have := HSZ.out; omega) (by have := HSZ.out; simp; omega) (by have := HSZ.out; simp; omega) (by have := hfa.size; omega)
      (fun b hb => ⟨Nat.lt_of_lt_of_le (hTW b hb) hfa.size, fun e => by simp only [Value.ownBlock, Option.some.injEq] at e; have := HT.out b hb; omega⟩) (hAW.fr hTW hfa) (BSl.empty _ _ (by simp; omega)) (fun g o e e2 => by
        simp only [Option.some.injEq, Addr.mk.injEq, and_true] at e
        simp only [Value.ownBlock, Option.some.injEq] at e2
        omega) hown
    rw [HX.out, HKL.out] at e0
    refine e0.mono ?_
    rintro e w' ⟨V, vc, rfl, g1, g2, _⟩
    refine ⟨V, vc, rfl, hfa.then_ g1 (fun i hi e => ?_), g2⟩
    simp only [Value.ownBlock, Option.some.injEq] at e
    omega
  clear b0 b1 hf0
  go_wp2_with fail
  refine FREE.out.mono ?_
  rintro e w4 ⟨V, vc, rfl, hf4, ho4⟩
  have d0 := HB0.out.fr hf4 (fun h => h)
  have d1 := HB1.out.fr hf4 (fun h => h)
  have e0 : w4.cell? ⟨w.heap.size, 0, none⟩ = some (S a) := (d0.cell 0).trans rfl
  have e1 : w4.cell? ⟨w.heap.size, 1, none⟩ = some (.slice A kl c) := (d0.cell 1).trans rfl
  have el := d0.lt
  have RN : Hid (Calls Tryz.prog 62 #[.agg #[S a, .slice A kl c], .slice (some ⟨w4.heap.size, 0, none⟩) 0 0, .slice (some ⟨w4.heap.size + 1, 0, none⟩) 0 0, Ptr (w4.heap.size + 1 + 1)] (((w4.alloc (.cells #[] 9)).alloc (.cells #[] 9)).alloc (.cells #[.slice V xs.length vc, .int .i64 0] 85)) fun e w' =>
      ∃ A5 c5, e = .returned (.agg #[S a, .slice A5 K.len c5]) ∧ (w'.cell? ⟨w.heap.size + 1, 0, none⟩ = some (S []) ∧ w'.cell? ⟨w.heap.size + 1, 1, none⟩ = some (.slice none 0 0) ∧ w'.frozen? ⟨w.heap.size + 1, 0, none⟩ = false ∧ w'.frozen? ⟨w.heap.size + 1, 1, none⟩ = false ∧ w.heap.size + 1 < w'.heap.size) ∧
        Hid (∀ v0 v1, ApP T (fvs a k) a k w (.returned (.agg #[S a, .slice A5 K.len c5])) ((w'.setCell ⟨w.heap.size + 1, 0, none⟩ v0).setCell ⟨w.heap.size + 1, 1, none⟩ v1))) := by
    have hfa : Fr No w4 (((w4.alloc (.cells #[] 9)).alloc (.cells #[] 9)).alloc (.cells #[.slice V xs.length vc, .int .i64 0] 85)) := ((((Fr.refl _ _).alloc _).alloc _).alloc _)
    have hfw0 : Fr No w w4 := HFW.out.trans hf4
    have hfw : Fr No w (((w4.alloc (.cells #[] 9)).alloc (.cells #[] 9)).alloc (.cells #[.slice V xs.length vc, .int .i64 0] 85)) := hfw0.trans hfa
    have hs4 := hf4.size
    have h5 := rf_any _ k (Nat.lt_succ_self _) a A c _ T (w4.heap.size + 1 + 1) V vc xs 0 (some ⟨w4.heap.size, 0, none⟩) 0 [] (some ⟨w4.heap.size + 1, 0, none⟩) 0 [] HTM.out HAT.out HWF.out (by have := HSZ.out; omega) rfl (by have := HSZ.out; simp only [List.length_nil]; omega) (fun b hb => ⟨Nat.lt_of_lt_of_le (HT.out b hb) hfw.size, by have := HT.out b hb; omega⟩)
      (HA.out.mono (fun _ h => h) (fun b hb => hfw.block b (HT.out b hb) (fun h => h))) (Blk.new_at _ _ _ (by simp)) ((SSl.of_own ho4).frT (T := No) hfa (fun _ _ _ h => h)) (fun b o e => by subst e; have := (ho4.lt b rfl).2; omega) (by have := HXL.out; have := HSZ.out; omega)
      (BSl.empty _ _ (by simp <;> omega)) (fun b o e => by simp only [Option.some.injEq, Addr.mk.injEq, and_true] at e; omega) (BSl.empty _ _ (by simp <;> omega)) (fun b o e => by simp only [Option.some.injEq, Addr.mk.injEq, and_true] at e; omega) HEND.out
    rw [HKL.out, HRK.out, rnA_nil] at h5
    refine h5.mono ?_
    rintro e w' ⟨A5, c5, rfl, g1, g2, g3⟩
    have d2 := (d1.fr hfa (fun h => h)).fr g1 (fun e => by unfold One at e; omega)
    refine ⟨A5, c5, rfl, ⟨(d2.cell 0).trans rfl, (d2.cell 1).trans rfl, d2.frozen 0, d2.frozen 1, d2.lt⟩, fun v0 v1 => ?_⟩
    have hfw' : Fr No w w' := hfw.then_ g1 (fun i hi e => by unfold One at e; omega)
    rw [ApP, HK.out]
    refine ⟨A5, c5, rfl, (hfw'.setCell (p := ⟨w.heap.size + 1, 0, none⟩) (.inr (Nat.le_succ _)) v0).setCell (p := ⟨w.heap.size + 1, 1, none⟩) (.inr (Nat.le_succ _)) v1, ?_⟩
    refine g3.mono (fun b hb => hb.imp (fun h => h) (fun hb => ⟨by have := hfw.size; omega, by simp only [World.setCell]; simpa using hb.2⟩)) (fun b hb => ?_)
    have hb1 : b ≠ w.heap.size + 1 := by
      rcases hb with hb | hb
      · have := HT.out b hb; omega
      · have := hb.1; simp at this; omega
    rw [Below.heap_setCell _ ⟨w.heap.size + 1, 1, none⟩ _ _ hb1, Below.heap_setCell _ ⟨w.heap.size + 1, 0, none⟩ _ _ hb1]
  clear hf4 ho4 d0 d1
  go_wp2_with fail
  go_loopw [5, 6] (fun f v wr => f = .slice V xs.length vc ∧ v = .int .i64 0 ∧ wr = w4) (fun _ _ _ => 0)
  case atStart => exact ⟨rfl, rfl, rfl⟩
  case round =>
    obtain ⟨rfl, rfl, rfl⟩ := hrel
    go_wp2_with fail
    refine RN.out.mono ?_
    rintro e w6 ⟨A5, c5, rfl, ⟨r0, r1, f0, f1, rl⟩, HFIN⟩
    go_wp2_with fail
    refine bodyPost_ret (v := .agg #[S a, .slice A5 K.len c5]) (by simp [results, Tryz.results36, go_sem, cell_set_same r0, cell_set_next r1]) rfl ?_
    exact HFIN.out _ _

theorem term_small {a : List UInt8} {k : Fo} (h : isTm a k = true) (hw : a ≠ [] → k = .nil) (hk : k.wf) (hs : treeSize a k ≤ 390) : (treeText a k).length + k.cnt ≤ 1000000 ∧ k.len ≤ 100000 ∧ k.short := by
  have h1 := text_len h hk
  have h2 := (tree_bounds (texts_bounds k hk) hw).2.2 (by omega)
  refine ⟨?_, h2.2.2.1, h2.2.2.2⟩
  by_cases ha : a = []
  · subst ha
    simp only [isTm, if_true] at h
    have h3 := (cnt_tms k none hk h).1
    have h4 : treeSize [] k = k.size := by simp [treeSize]
    omega
  · obtain rfl := hw ha
    have : Fo.nil.cnt = 0 := rfl
    omega

set_option maxHeartbeats 1000000 in
theorem specTmCanon (w : World) (s : List UInt8) (hs : s.length ≤ maxLen) :
    Calls Tryz.prog 25 #[S s] w fun e w' => AnsCanon s w e w' := by
  go_enter Tryz.func25, Tryz.ntmps25
  go_wp2_with fail
  refine (term_any s _ hs).mono ?_
  rintro e w1 ⟨hf, ⟨a, k, A, c, hi, rfl, hsl⟩ | ⟨a, A, m, c, hno, rfl⟩⟩
  · have hw := hi.2.wf
    have hsm := hi.2.2.2
    have HI := Lib.hid hi
    have HF := Lib.hid hf
    obtain ⟨kl, HKL⟩ : ∃ z, Hid (k.len = z) := ⟨_, rfl⟩
    rw [HKL.out]
    obtain ⟨kc, HKC⟩ : ∃ z, Hid ((cnK (fvs a k) a k).len = z) := ⟨_, rfl⟩
    have co := cn_self hi.2.2.1 hw.1 hw.2 (by omega)
    have AP : Hid (∀ o : Obj, Calls Tryz.prog 36 #[.agg #[S a, .slice A kl c], .slice none 0 0] (w1.alloc o) fun e w' => ∃ A5 c5, e = .returned (.agg #[S a, .slice A5 kc c5]) ∧
        Calls Tryz.prog 30 #[.agg #[S a, .slice A5 kc c5]] w' fun e w2 => e = .returned (S (cnT a k)) ∧ Fr No w w2) := by
      intro o
      have hfa : Fr No w1 (w1.alloc o) := (Fr.refl _ _).alloc _
      have h1 := apart0_any (w1.alloc o) (New w w1) a A c k hi.2.2.1 hw.1 hw.2 (by omega) (fun b hb => Nat.lt_of_lt_of_le hb.2 hfa.size) (hsl.mono (fun _ h => h) (fun b hb => hfa.block b hb.2 (fun h => h)))
      rw [HKL.out] at h1
      refine h1.mono ?_
      rintro e w' ⟨A5, c5, rfl, g1, g2⟩
      refine ⟨A5, c5, by rw [HKC.out], ?_⟩
      rw [← HKC.out]
      obtain ⟨b1, b2, b3⟩ := term_small co.tm co.at_ co.wf (by rw [co.size]; omega)
      refine (spec_text _ (cnK (fvs a k) a k) (Nat.lt_succ_self _) a A5 c5 w' _ _ (Nat.le_refl _) b1 b2 b3 (fun b hb => hb.elim (fun h => Nat.lt_of_lt_of_le h.2 (Nat.le_trans hfa.size g1.size)) (fun h => h.2)) g2).mono ?_
      rintro e w2 ⟨rfl, g3⟩
      exact ⟨rfl, ((hf.trans hfa).trans g1).trans g3⟩
    clear hsl hi hf hw hsm co
    go_wp2_with fail
    refine (AP.out _).mono ?_
    rintro e w4 ⟨A5, c5, rfl, TX⟩
    have HTX := Lib.hid TX
    clear TX AP
    go_wp2_with fail
    refine HTX.out.mono ?_
    rintro e w5 ⟨rfl, hf5⟩
    have FIN : Hid (AnsCanon s w (.returned (.tuple #[S (cnT a k), .bool true])) w5) := ⟨_, _, rfl, .inl ⟨a, k, HI.out, rfl, rfl⟩, hf5⟩
    clear hf5
    go_wp2_with fail
    refine bodyPost_ret (v := .tuple #[S (cnT a k), .bool true]) (by simp [results, Tryz.results25, go_sem]) rfl ?_
    exact FIN.out
  · have FIN : Hid (∀ o : Obj, AnsCanon s w (.returned (.tuple #[S [], .bool false])) (w1.alloc o)) := fun o => ⟨_, _, rfl, .inr ⟨hno, rfl, rfl⟩, hf.alloc o⟩
    clear hno hf
    go_wp2_with fail
    refine bodyPost_ret (v := .tuple #[S [], .bool false]) (by simp [results, Tryz.results25, go_sem]) rfl ?_
    exact FIN.out _
end Go.Proofs.YtnjgaenhjdjpfaaGreatDoor

/- The laws TermCanon and TermAlike. -/
namespace Go.Proofs.YtnjgaenhjdjpfaaGreatDoor
open Go.RowKit Go.ChangeMaps

/-- two texts that are terms which are alike -/
def TAlike (s t : List UInt8) : Prop := ∃ a k a' k', TmOk s a k ∧ TmOk t a' k' ∧ cnT a k = cnT a' k'

theorem TAlike.no1 {s t : List UInt8} (h : ∀ a k, ¬ TmOk s a k) : ¬ TAlike s t := fun ⟨a, k, _, _, i, _⟩ => h a k i
theorem TAlike.no2 {s t : List UInt8} (h : ∀ a k, ¬ TmOk t a k) : ¬ TAlike s t := fun ⟨_, _, a, k, _, i, _⟩ => h a k i
theorem TAlike.iff {s t a a' : List UInt8} {k k' : Fo} (h1 : TmOk s a k) (h2 : TmOk t a' k') : TAlike s t ↔ cnT a k = cnT a' k' :=
  ⟨fun ⟨b, j, b', j', i1, i2, e⟩ => by
    obtain ⟨rfl, rfl⟩ := h1.unique i1
    obtain ⟨rfl, rfl⟩ := h2.unique i2
    exact e, fun e => ⟨a, k, a', k', h1, h2, e⟩⟩

theorem ndD_le (bs : List (List UInt8)) (a : List UInt8) : ndD bs a ≤ bs.length := by
  unfold ndD
  split
  · exact Nat.zero_le _
  · split
    · exact Nat.zero_le _
    · cases hd : depOf a bs with
      | none => exact Nat.zero_le _
      | some d => exact Nat.le_of_lt (dep_lt hd)

theorem dep_cv : ∀ (f : Fo) (m : Md) (n : Nat), f.wf → (match m with | .kids bs _ _ _ => bs.length | .parts bs => bs.length | .name bs _ => bs.length) + f.deep + n ≤ 99999 → DepOk (cv f m)
  | .nil, _, _, _, _ => by cases ‹Md› <;> trivial
  | .cons a k r, .kids bs h x i, n, hw, hl => by
    simp only [Fo.deep] at hl
    have hi := ins_len bs h x i
    have h1 := ndD_le (insB bs h x i) a
    refine ⟨by omega, ?_, dep_cv r (.kids bs h x (i + 1)) 0 hw.2.2 (by simp only; omega)⟩
    by_cases ha : a = []
    · rw [if_pos ha] at hl
      exact dep_cv k (.parts (insB bs h x i)) 0 hw.2.1 (by simp only; omega)
    · rw [hw.1 ha]; trivial
  | .cons h k r, .parts bs, n, hw, hl => by
    simp only [Fo.deep] at hl
    simp only [cv]
    split
    · exact dep_cv r (.name bs h) 0 hw.2.2 (by simp only; omega)
    · exact dep_cv r (.kids bs h [] 0) 0 hw.2.2 (by simp only; omega)
  | .cons x k r, .name bs h, n, hw, hl => by
    simp only [Fo.deep] at hl
    exact dep_cv r (.kids bs h x 0) 0 hw.2.2 (by simp only; omega)

theorem dep_term {a : List UInt8} {k : Fo} (h : isTm a k = true) (hw : a ≠ [] → k = .nil) (hk : k.wf) (hs : treeSize a k ≤ 300) : DepOk (cv k (.parts [])) := by
  have hd := isTm_deep h
  by_cases ha : a = []
  · rw [treeDeep, if_pos ha] at hd
    exact dep_cv k (.parts []) 0 hk (by simp only [List.length_nil]; omega)
  · rw [hw ha]; trivial

end Go.Proofs.YtnjgaenhjdjpfaaGreatDoor
