/- Mark · Eqs · Marks · Held · Rows of texts that a call owns, marked and held. -/
import Derived.Test.YtloecimlimoanaaDoorHas
import Derived.Laws.BytesArg
import Derived.StillTactics
import Derived.StillTailTactics
import Derived.Laws.OwnMore
import Derived.Deep.RegionHeld3
/- Mark -/
namespace Go.Proofs.YtloecimlimoanaaDoor
open Go.RowKit Go.ChangeMaps

def digs : Nat → Nat → List UInt8 → List UInt8
  | 0, _, acc => acc
  | n + 1, k, acc => if k = 0 then acc else digs n (k / 10) (UInt8.ofNat (48 + k % 10) :: acc)

def markOf (k : Nat) : List UInt8 := if k = 0 then [109, 48] else 109 :: digs k k []

theorem digs_one : ∀ (n m k : Nat) (acc : List UInt8), k ≤ n → k ≤ m → digs n k acc = digs m k acc
  | 0, 0, _, _, _, _ => rfl
  | 0, m + 1, k, acc, h, _ => by
    have : k = 0 := by omega
    simp [digs, this]
  | n + 1, 0, k, acc, _, h => by
    have : k = 0 := by omega
    simp [digs, this]
  | n + 1, m + 1, k, acc, h1, h2 => by
    simp only [digs]
    split
    · rfl
    · exact digs_one n m (k / 10) _ (by omega) (by omega)

theorem digs_step (k : Nat) (hk : 0 < k) (acc : List UInt8) : digs k k acc = digs (k / 10) (k / 10) (UInt8.ofNat (48 + k % 10) :: acc) := by
  obtain ⟨n, rfl⟩ : ∃ n, k = n + 1 := ⟨k - 1, by omega⟩
  rw [digs, if_neg (by omega)]
  exact digs_one _ _ _ _ (by omega) (Nat.le_refl _)

theorem byte_text (W : World) (o : Obj) (z : Int) (h : o = .cells #[.int .u8 z] 5) :
    (convert 22 9 (.slice (some ⟨W.heap.size, 0, none⟩) 1 1)).run Tryd.prog (W.alloc o) = .ok (S [UInt8.ofNat z.toNat]) (W.alloc o) := by
  subst h
  have := run_convert_bytes_arg (P := Tryd.prog) (W.alloc (.cells #[.int .u8 z] 5)) 22 5 Tryd.underlying22 Tryd.underlying5 W.heap.size 0 1 1 [z] rfl
    (fun i hi => by
      have : i = 0 := by omega
      subst this
      rw [World.cell?_alloc_new]
      rfl) 9 Tryd.underlying9
  exact this

set_option maxRecDepth 100000 in
set_option maxHeartbeats 1000000 in
theorem mark_any (k : Nat) (w : World) (hk : k ≤ 1000000) :
    Calls Tryd.prog 90 #[.int .i64 k] w fun e w' => e = .returned (S (markOf k)) ∧ Fr No w w' := by
  by_cases h0 : k = 0
  · subst h0
    go_enter Tryd.func90, Tryd.ntmps90
    go_wp2_with fail
    go_ret
    exact ⟨rfl, Fr.refl _ _⟩
  · have hpos : 0 < (k : Int) := by omega
    have HM : Hid (markOf k = 109 :: digs k k []) := by show _ = _; simp [markOf, h0]
    have hk' : (k : Int) ≤ 1000000 := by omega
    clear h0
    go_enter Tryd.func90, Tryd.ntmps90
    go_wp2_with fail
    have kc := fun (W : World) (z : Int) => byte_text W (.cells #[.int .u8 z] 5) z rfl
    go_loopw [0, 3] (fun v o wr => ∃ (j : Nat) (acc : List UInt8), j ≤ k ∧ v = .int .i64 j ∧ o = S acc ∧ acc.length + j ≤ k ∧ digs k k [] = digs j j acc ∧ Fr No w wr) (fun v _ _ => (intOf v).toNat)
    case atStart => exact ⟨k, [], Nat.le_refl _, rfl, rfl, by simp, rfl, Fr.refl _ _⟩
    case round =>
      obtain ⟨j, acc, hj, rfl, rfl, hlen, heq, hfr⟩ := hrel
      have HE := Lib.hid heq
      clear heq
      have z0 : (j : Int) ≤ 1000000 := by omega
      by_cases hj0 : 0 < j
      · have z1 : 0 < (j : Int) := by omega
        go_wp2_with fail
        refine ⟨⟨j / 10, (48 + UInt8.ofNat (j % 10)) :: acc, by omega, congrArg (Value.int .i64) (by omega), congrArg Value.string (ByteArray.ext (Array.toList_inj.1 (by simp))), by simp; omega, ?_, hfr.alloc _⟩, by simp only [intOf]; omega⟩
        rw [HE.out, digs_step j hj0, UInt8.ofNat_add]
        rfl
      · have hj1 : j = 0 := by omega
        subst hj1
        go_wp2
        go_ret
        have hm : markOf k = 109 :: acc := by rw [HM.out, HE.out]; rfl
        exact ⟨ret_str (by rw [hm]; simp), hfr⟩
end Go.Proofs.YtloecimlimoanaaDoor

/- Eqs -/
namespace Go.Proofs.YtloecimlimoanaaDoor
open Go.RowKit Go.ChangeMaps

theorem eq_take_more {xs ys : List (List UInt8)} {j : Nat} {x y : List UInt8} (h : xs.take j = ys.take j) (hx : xs[j]? = some x) (hy : ys[j]? = some y) (hxy : x = y) : xs.take (j + 1) = ys.take (j + 1) := by
  rw [List.take_add_one, List.take_add_one, h, hx, hy, hxy]

def EqS (xs ys : List (List UInt8)) (w : World) (e : Ending) (w' : World) : Prop := ∃ b : Bool, e = .returned (.bool b) ∧ (b = true ↔ xs = ys) ∧ ∃ n, w' = w.drewN n

set_option maxRecDepth 100000 in
set_option maxHeartbeats 1000000 in
theorem eqs_any (w : World) (A A' : Option Addr) (xs ys : List (List UInt8)) (c c' : Nat) (hx : SSl w A xs) (hy : SSl w A' ys) (hl : xs.length ≤ 1000000) (hl2 : ys.length ≤ 1000000) :
    Calls Tryd.prog 42 #[.slice A xs.length c, .slice A' ys.length c'] w fun e w' => EqS xs ys w e w' := by
  have HX := Lib.hid hx
  have HY := Lib.hid hy
  clear hx hy
  have hl' : (xs.length : Int) ≤ 1000000 := by omega
  have hl2' : (ys.length : Int) ≤ 1000000 := by omega
  by_cases hne : xs.length = ys.length
  · have HNE := Lib.hid hne
    rw [← hne]
    clear hne
    go_enter Tryd.func42, Tryd.ntmps42
    go_wp2_with fail
    go_loopw [5] (fun v wr => ∃ j : Nat, j ≤ xs.length ∧ v = .int .i64 j ∧ xs.take j = ys.take j ∧ ∃ n, wr = w.drewN n) (fun v _ => xs.length - (intOf v).toNat)
    case atStart => exact ⟨0, Nat.zero_le _, rfl, by simp, 0, rfl⟩
    case round =>
      obtain ⟨j, hj, rfl, hno, nn, rfl⟩ := hrel
      have HN := Lib.hid hno
      clear hno
      by_cases hlt : j < xs.length
      · obtain ⟨x, hxj⟩ : ∃ x, xs[j]? = some x := ⟨_, List.getElem?_eq_getElem hlt⟩
        obtain ⟨y, hyj⟩ : ∃ y, ys[j]? = some y := ⟨_, List.getElem?_eq_getElem (by rw [← HNE.out]; exact hlt)⟩
        obtain ⟨g, o, rfl, hc0⟩ := HX.out j x hxj
        obtain ⟨g', o', rfl, hc1⟩ := HY.out j y hyj
        have hc : (w.drewN nn).cell? ⟨g, o + j, none⟩ = some (S x) := hc0
        have hc' : (w.drewN nn).cell? ⟨g', o' + j, none⟩ = some (S y) := hc1
        have HFIN : Hid (∃ n, (w.drewN nn).drew = w.drewN n) := ⟨nn + 1, rfl⟩
        clear hc0 hc1
        generalize w.drewN nn = wr at hc hc' HFIN ⊢
        have HXJ := Lib.hid hxj
        have HYJ := Lib.hid hyj
        clear hxj hyj
        by_cases hpx : x = y
        · subst hpx
          go_wp2_with fail
          go_wp2_with fail
          refine wp_region_still_lit (by kernel_rfl) (by kernel_rfl) ?_
          change wpStill _ _ (World.drew _) (fun a' => _) _ _
          repeat still_step
          refine wpStill_nil ?_
          go_wp2
          go_round
          case rel => exact ⟨j + 1, by omega, by go_num, eq_take_more HN.out HXJ.out HYJ.out rfl, HFIN.out⟩
          case measure => simp [intOf]; omega
        · have hb : (x == y) = false := by simpa using hpx
          have HPX := Lib.hid hpx
          clear hpx
          go_wp2_with fail
          go_wp2_with fail
          refine wp_region_still_lit (by kernel_rfl) (by kernel_rfl) ?_
          change wpStill _ _ (World.drew _) (fun a' => _) _ _
          repeat still_step
          refine wpStill_nil ?_
          go_wp2
          go_ret
          refine ⟨false, rfl, ⟨fun h => (by cases h), fun h => ?_⟩, HFIN.out⟩
          have e1 := HXJ.out
          rw [h, HYJ.out] at e1
          injection e1 with e1
          exact (HPX.out e1.symm).elim
      · have hjl : j = xs.length := by omega
        have HF : Hid (xs = ys) := by
          have := HN.out
          rw [hjl, List.take_length, HNE.out, List.take_length] at this
          exact this
        clear hjl
        go_wp2
        go_ret
        exact ⟨true, rfl, ⟨fun _ => HF.out, fun _ => rfl⟩, _, rfl⟩
  · have HF : Hid (xs ≠ ys) := fun h => hne (by rw [h])
    go_enter Tryd.func42, Tryd.ntmps42
    go_wp2_with fail
    go_ret
    exact ⟨false, rfl, ⟨fun h => (by cases h), fun h => (HF.out h).elim⟩, 0, rfl⟩
end Go.Proofs.YtloecimlimoanaaDoor

/- Marks -/
namespace Go.Proofs.YtloecimlimoanaaDoor
open Go.RowKit Go.ChangeMaps

/-- the first j texts bear marks from k on -/
def Marked (k j n : Nat) (ys : List (List UInt8)) : Prop := ys.length = n ∧ ∀ i, i < j → ys[i]? = some (markOf (k + i))

theorem Marked.more {k j n : Nat} {ys : List (List UInt8)} (h : Marked k j n ys) (hj : j < n) : Marked k (j + 1) n (ys.set j (markOf (k + j))) := by
  refine ⟨by simp [h.1], fun i hi => ?_⟩
  by_cases he : i = j
  · subst he
    rw [List.getElem?_set_self (by rw [h.1]; exact hj)]
  · rw [List.getElem?_set_ne (Ne.symm he)]
    exact h.2 i (by omega)

def MarkP (B : Nat) (A : Option Addr) (c n k : Nat) (w : World) (e : Ending) (w' : World) : Prop :=
  e = .returned (.int .i64 ((k + n : Nat) : Int)) ∧ Fr (fun b => (Value.slice A n c).ownBlock = some b) w w' ∧ ∃ ys, Marked k n n ys ∧ w'.ownsRow B 9 1 (.slice A n c) n (ys.map S)

set_option maxRecDepth 100000 in
set_option maxHeartbeats 1000000 in
theorem marks_any (B : Nat) (w : World) (A : Option Addr) (xs : List (List UInt8)) (n k c : Nat) (hn : xs.length = n) (ho : w.ownsRow B 9 1 (.slice A n c) n (xs.map S)) (hl : n ≤ 1000) (hk : k ≤ 1000) :
    Calls Tryd.prog 45 #[.slice A n c, .int .i64 k] w fun e w' => MarkP B A c n k w e w' := by
  have HO := Lib.hid ho
  have HL := Lib.hid hn
  clear ho hn
  have hl' : (n : Int) ≤ 1000 := by omega
  have hk' : (k : Int) ≤ 1000 := by omega
  go_enter Tryd.func45, Tryd.ntmps45
  go_wp2_with fail
  go_loopw [1, 5] (fun v u wr => ∃ (j : Nat) (ys : List (List UInt8)), j ≤ n ∧ v = .int .i64 ((k + j : Nat) : Int) ∧ u = .int .i64 j ∧ Marked k j n ys ∧ wr.ownsRow B 9 1 (.slice A n c) n (ys.map S) ∧ Fr (fun b => (Value.slice A n c).ownBlock = some b) w wr) (fun _ u _ => n - (intOf u).toNat)
  case atStart => exact ⟨0, xs, Nat.zero_le _, rfl, rfl, ⟨HL.out, fun i hi => by omega⟩, HO.out, Fr.refl _ _⟩
  case round =>
    obtain ⟨j, ys, hj, rfl, rfl, hM, hown, hfr⟩ := hrel
    have HM := Lib.hid hM
    have HW := Lib.hid hown
    have HF := Lib.hid hfr
    clear hM hfr
    by_cases hlt : j < n
    · have hkj : k + j ≤ 1000000 := by omega
      have hnat : ((k + j : Nat) : Int) ≤ 3000 := by omega
      obtain ⟨g, hA⟩ : ∃ g, A = some ⟨g, 0, none⟩ := by
        rcases hown.2 with ⟨_, h0⟩ | ⟨g, cap, cur, hv, _⟩
        · omega
        · injection hv with e1 e2 e3
          exact ⟨g, e1⟩
      subst hA
      clear hown
      have MK : Hid (Calls Tryd.prog 90 #[.int .i64 ((k + j : Nat) : Int)] wr fun e w' => e = .returned (S (markOf (k + j))) ∧ Fr No wr w') := mark_any (k + j) wr hkj
      have FIN : Hid (∀ w2, Fr No wr w2 → (∃ v, w2.cell? ⟨g, j, none⟩ = some v) ∧ w2.frozen? ⟨g, j, none⟩ = false ∧
          ∃ ys', Marked k (j + 1) n ys' ∧ (w2.setCell ⟨g, j, none⟩ (S (markOf (k + j)))).ownsRow B 9 1 (.slice (some ⟨g, 0, none⟩) n c) n (ys'.map S) ∧ Fr (fun b => (Value.slice (some ⟨g, 0, none⟩) n c).ownBlock = some b) w (w2.setCell ⟨g, j, none⟩ (S (markOf (k + j))))) := by
        intro w2 hf
        have h2 := own_fr HW.out hf (fun _ _ h => h)
        have hys : j < ys.length := by rw [HM.out.1]; exact hlt
        refine ⟨⟨S ys[j], ?_⟩, h2.frozenAt j, ys.set j (markOf (k + j)), HM.out.more hlt, ?_, ?_⟩
        · rw [h2.cellAt j (by omega)]
          simp [List.getElem?_eq_getElem hys]
        · rw [List.map_set]
          exact (h2.stored j _).1
        · exact (HF.out.trans (hf.mono fun _ _ h => h.elim)).setCell (p := ⟨g, j, none⟩) (.inl rfl) _
      clear HW HM HF
      generalize markOf (k + j) = mk at *
      go_wp2_with fail
      refine MK.out.mono ?_
      rintro e w2 ⟨rfl, hf⟩
      obtain ⟨⟨v, hc⟩, hz, ys', hm, hown', hfr'⟩ := FIN.out w2 hf
      have HE : Hid (∃ ys', Marked k (j + 1) n ys' ∧ (w2.setCell ⟨g, j, none⟩ (S mk)).ownsRow B 9 1 (.slice (some ⟨g, 0, none⟩) n c) n (ys'.map S) ∧ Fr (fun b => (Value.slice (some ⟨g, 0, none⟩) n c).ownBlock = some b) w (w2.setCell ⟨g, j, none⟩ (S mk))) := ⟨ys', hm, hown', hfr'⟩
      clear hm hown' hfr' FIN MK
      go_wp2
      go_round
      case rel =>
        obtain ⟨ys', h1, h2, h3⟩ := HE.out
        exact ⟨j + 1, ys', by omega, by go_num, by go_num, h1, h2, h3⟩
      case measure => simp [intOf]; omega
    · have hjl : j = n := by omega
      subst hjl
      clear hown
      go_wp2
      go_ret
      exact ⟨rfl, HF.out, ys, HM.out, HW.out⟩
end Go.Proofs.YtloecimlimoanaaDoor

/- Held -/
namespace Go.Proofs.YtloecimlimoanaaDoor
open Go.RowKit Go.ChangeMaps

end Go.Proofs.YtloecimlimoanaaDoor

/- Rows of texts that a call owns, marked and held. -/
namespace Go.Proofs.YtloecimlimoanaaDoor
open Go.RowKit Go.ChangeMaps

/-- a row of texts of the call's own: its block lies at B or above -/
def Row (w : World) (B : Nat) (A : Option Addr) (c : Nat) (xs : List (List UInt8)) : Prop := w.ownsRow B 9 1 (.slice A xs.length c) xs.length (xs.map S)

theorem row_low {w : World} {B : Nat} {A : Option Addr} {c : Nat} {xs : List (List UInt8)} (h : Row w B A c xs) : ∀ b, (Value.slice A xs.length c).ownBlock = some b → B ≤ b ∧ b < w.heap.size := fun b hb => h.lt b hb

theorem marks_one (B : Nat) (w : World) (A : Option Addr) (xs : List (List UInt8)) (n c : Nat) (r : Int) (hr : r = ((1 + n : Nat) : Int)) (hn : xs.length = n) (ho : Row w B A c xs) (hl : n ≤ 900) :
    Calls Tryd.prog 45 #[.slice A n c, .int .i64 1] w fun e w' => e = .returned (.int .i64 r) ∧ Fr (fun b => (Value.slice A n c).ownBlock = some b) w w' ∧ ∃ ys, Marked 1 n n ys ∧ ys.length = n ∧ Row w' B A c ys := by
  subst hr; subst hn
  refine (marks_any B w A xs xs.length 1 c rfl ho (by omega) (by omega)).mono ?_
  rintro e w' ⟨rfl, h1, ys, h2, h3⟩
  have hl := h2.1
  refine ⟨rfl, h1, ys, h2, hl, ?_⟩
  unfold Row
  rw [hl]
  exact h3

theorem Row.fr {w w' : World} {B : Nat} {A : Option Addr} {c : Nat} {xs : List (List UInt8)} {T : Nat → Prop} (h : Row w B A c xs) (hf : Fr T w w') (hs : ∀ b, (Value.slice A xs.length c).ownBlock = some b → ¬ T b) : Row w' B A c xs := own_fr h hf hs

end Go.Proofs.YtloecimlimoanaaDoor
