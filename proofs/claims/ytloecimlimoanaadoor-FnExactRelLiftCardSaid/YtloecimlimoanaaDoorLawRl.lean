/- Long rows of texts and slices of relations, marked. · The law RelLift. -/
import Derived.Test.YtloecimlimoanaaDoorRlh
import Derived.Test.YtloecimlimoanaaDoorMark
import Derived.Test.YtloecimlimoanaaDoorLrm
import Derived.Test.YtloecimlimoanaaDoorSlt
/- Long rows of texts and slices of relations, marked. -/
namespace Go.Proofs.YtloecimlimoanaaDoor
open Go.RowKit Go.ChangeMaps

set_option maxRecDepth 100000 in
set_option maxHeartbeats 1000000 in
theorem mark_big (k : Nat) (w : World) (hk : k ≤ 4000000) :
    Calls Tryd.prog 90 #[.int .i64 k] w fun e w' => e = .returned (S (markOf k)) ∧ Fr No w w' := by
  by_cases h0 : k = 0
  · subst h0
    go_enter Tryd.func90, Tryd.ntmps90
    go_wp2_with fail
    go_ret
    exact ⟨rfl, Fr.refl _ _⟩
  · have hpos : 0 < (k : Int) := by omega
    have HM : Hid (markOf k = 109 :: digs k k []) := by show _ = _; simp [markOf, h0]
    have hk' : (k : Int) ≤ 4000000 := by omega
    clear h0
    go_enter Tryd.func90, Tryd.ntmps90
    go_wp2_with fail
    have kc := fun (W : World) (z : Int) => byte_text W (.cells #[.int .u8 z] 5) z rfl
    go_loopw [0, 3] (fun v o wr => ∃ (j : Nat) (acc : List UInt8), j ≤ k ∧ v = .int .i64 j ∧ o = S acc ∧ acc.length + j ≤ k ∧ digs k k [] = digs j j acc ∧ Fr No w wr) (fun v _ _ => (intOf v).toNat)
    case atStart => exact ⟨k, [], Nat.le_refl _, rfl, rfl, by simp, rfl, Fr.refl _ _⟩
    case round =>
      obtain ⟨j, acc, hj, rfl, rfl, hlen, heq, hfr⟩ := hrel
      have HE := Lib.hid heq
      clear heq
      have z0 : (j : Int) ≤ 4000000 := by omega
      by_cases hj0 : 0 < j
      · have z1 : 0 < (j : Int) := by omega
        go_wp2_with fail
        refine ⟨⟨j / 10, (48 + UInt8.ofNat (j % 10)) :: acc, by omega, congrArg (Value.int .i64) (by omega), congrArg Value.string (ByteArray.ext (Array.toList_inj.1 (by simp))), by simp; omega, ?_, hfr.alloc _⟩, by simp only [intOf]; omega⟩
        rw [HE.out, digs_step j hj0, UInt8.ofNat_add]
        rfl
      · have hj1 : j = 0 := by omega
        subst hj1
        go_wp2
        go_ret
        have hm : markOf k = 109 :: acc := by rw [HM.out, HE.out]; rfl
        exact ⟨ret_str (by rw [hm]; simp), hfr⟩

set_option maxRecDepth 100000 in
set_option maxHeartbeats 1000000 in
theorem marks_big (B : Nat) (w : World) (A : Option Addr) (xs : List (List UInt8)) (n k c : Nat) (hn : xs.length = n) (ho : w.ownsRow B 9 1 (.slice A n c) n (xs.map S)) (hl : n ≤ 2000000) (hk : k ≤ 1000000) :
    Calls Tryd.prog 45 #[.slice A n c, .int .i64 k] w fun e w' => MarkP B A c n k w e w' := by
  have HO := Lib.hid ho
  have HL := Lib.hid hn
  clear ho hn
  have hl' : (n : Int) ≤ 2000000 := by omega
  have hk' : (k : Int) ≤ 1000000 := by omega
  go_enter Tryd.func45, Tryd.ntmps45
  go_wp2_with fail
  go_loopw [1, 5] (fun v u wr => ∃ (j : Nat) (ys : List (List UInt8)), j ≤ n ∧ v = .int .i64 ((k + j : Nat) : Int) ∧ u = .int .i64 j ∧ Marked k j n ys ∧ wr.ownsRow B 9 1 (.slice A n c) n (ys.map S) ∧ Fr (fun b => (Value.slice A n c).ownBlock = some b) w wr) (fun _ u _ => n - (intOf u).toNat)
  case atStart => exact ⟨0, xs, Nat.zero_le _, rfl, rfl, ⟨HL.out, fun i hi => by omega⟩, HO.out, Fr.refl _ _⟩
  case round =>
    obtain ⟨j, ys, hj, rfl, rfl, hM, hown, hfr⟩ := hrel
    have HM := Lib.hid hM
    have HW := Lib.hid hown
    have HF := Lib.hid hfr
    clear hM hfr
    by_cases hlt : j < n
    · have hkj : k + j ≤ 4000000 := by omega
      have hnat : ((k + j : Nat) : Int) ≤ 4000000 := by omega
      obtain ⟨g, hA⟩ : ∃ g, A = some ⟨g, 0, none⟩ := by
        rcases hown.2 with ⟨_, h0⟩ | ⟨g, cap, cur, hv, _⟩
        · omega
        · injection hv with e1 e2 e3
          exact ⟨g, e1⟩
      subst hA
      clear hown
      have MK : Hid (Calls Tryd.prog 90 #[.int .i64 ((k + j : Nat) : Int)] wr fun e w' => e = .returned (S (markOf (k + j))) ∧ Fr No wr w') := mark_big (k + j) wr hkj
      have FIN : Hid (∀ w2, Fr No wr w2 → (∃ v, w2.cell? ⟨g, j, none⟩ = some v) ∧ w2.frozen? ⟨g, j, none⟩ = false ∧
          ∃ ys', Marked k (j + 1) n ys' ∧ (w2.setCell ⟨g, j, none⟩ (S (markOf (k + j)))).ownsRow B 9 1 (.slice (some ⟨g, 0, none⟩) n c) n (ys'.map S) ∧ Fr (fun b => (Value.slice (some ⟨g, 0, none⟩) n c).ownBlock = some b) w (w2.setCell ⟨g, j, none⟩ (S (markOf (k + j))))) := by
        intro w2 hf
        have h2 := own_fr HW.out hf (fun _ _ h => h)
        have hys : j < ys.length := by rw [HM.out.1]; exact hlt
        refine ⟨⟨S ys[j], ?_⟩, h2.frozenAt j, ys.set j (markOf (k + j)), HM.out.more hlt, ?_, ?_⟩
        · rw [h2.cellAt j (by omega)]
          simp [List.getElem?_eq_getElem hys]
        · rw [List.map_set]
          exact (h2.stored j _).1
        · exact (HF.out.trans (hf.mono fun _ _ h => h.elim)).setCell (p := ⟨g, j, none⟩) (.inl rfl) _
      clear HW HM HF
      generalize markOf (k + j) = mk at *
      go_wp2_with fail
      refine MK.out.mono ?_
      rintro e w2 ⟨rfl, hf⟩
      obtain ⟨⟨v, hc⟩, hz, ys', hm, hown', hfr'⟩ := FIN.out w2 hf
      have HE : Hid (∃ ys', Marked k (j + 1) n ys' ∧ (w2.setCell ⟨g, j, none⟩ (S mk)).ownsRow B 9 1 (.slice (some ⟨g, 0, none⟩) n c) n (ys'.map S) ∧ Fr (fun b => (Value.slice (some ⟨g, 0, none⟩) n c).ownBlock = some b) w (w2.setCell ⟨g, j, none⟩ (S mk))) := ⟨ys', hm, hown', hfr'⟩
      clear hm hown' hfr' FIN MK
      go_wp2
      go_round
      case rel =>
        obtain ⟨ys', h1, h2, h3⟩ := HE.out
        exact ⟨j + 1, ys', by omega, by go_num, by go_num, h1, h2, h3⟩
      case measure => simp [intOf]; omega
    · have hjl : j = n := by omega
      subst hjl
      clear hown
      go_wp2
      go_ret
      exact ⟨rfl, HF.out, ys, HM.out, HW.out⟩

/-- what marks of relations leave: the slice's cells, the rows that are still to come -/
structure MI (w : World) (lo hi g n : Nat) (rs : List (Int × Int × List Int)) (bs : Nat → Nat) (j : Nat) (wr : World) : Prop where
  fr : Fr (fun b => lo ≤ b ∧ b < hi) w wr
  blk : ∃ cs : Array Value, Blk wr g 30 cs ∧ n * 3 ≤ cs.size ∧ ∀ (i : Nat) (L R : Int) (ps : List Int), rs[i]? = some (L, R, ps) → cs[i * 3 + 2]? = some (.slice (some ⟨bs i, 0, none⟩) ps.length ps.length)
  row : ∀ (i : Nat) (L R : Int) (ps : List Int), j ≤ i → rs[i]? = some (L, R, ps) → OR wr lo (some ⟨bs i, 0, none⟩) ps.length ps.length ps

theorem or_far {w : World} {B g n c : Nat} {xs : List Int} (h : OR w B (some ⟨g, 0, none⟩) n c xs) {p : Addr} (hp : g ≠ p.block) (u : Value) : OR (w.setCell p u) B (some ⟨g, 0, none⟩) n c xs := ⟨h.1, own_far h.2 hp u⟩

set_option maxRecDepth 100000 in
set_option maxHeartbeats 2000000 in
theorem markRS_any (w : World) (lo hi g k : Nat) (rs : List (Int × Int × List Int)) (bs : Nat → Nat) (ho : OwnRels w lo g rs.length rs bs rs.length) (hg : g < hi) (hb : ∀ i, i < rs.length → bs i < hi) (hk : k ≤ 2000000) (hl : rs.length + tot rs ≤ 1048576) :
    Calls Tryd.prog 46 #[.slice (some ⟨g, 0, none⟩) rs.length rs.length, .int .i64 k] w fun e w' => (∃ m : Nat, e = .returned (.int .i64 m)) ∧ Fr (fun b => lo ≤ b ∧ b < hi) w w' := by
  have HO := Lib.hid ho
  have HB := Lib.hid hb
  have HL := Lib.hid hl
  have hkI : (k : Int) ≤ 2000000 := by omega
  have hlI : (rs.length : Int) ≤ 1048576 := by omega
  have hgl : lo ≤ g := ho.low
  clear ho hb hl
  go_enter Tryd.func46, Tryd.ntmps46
  go_wp2_with fail
  go_loopw [1, 5] (fun v u wr => ∃ (j q : Nat), j ≤ rs.length ∧ v = .int .i64 q ∧ u = .int .i64 j ∧ q ≤ k + 2 * j + tot (rs.take j) ∧ MI w lo hi g rs.length rs bs j wr) (fun _ u _ => rs.length - (intOf u).toNat)
  case atStart =>
    obtain ⟨h1, ⟨cs, h2, h3, h4⟩, h5, h6⟩ := HO.out
    exact ⟨0, k, Nat.zero_le _, rfl, rfl, by simp, Fr.refl _ _, ⟨cs, h2, h3, fun i L R ps hr => (h4 i L R ps (List.getElem?_eq_some_iff.1 hr).1 hr).2.2⟩, fun i L R ps _ hr => h5 i L R ps (List.getElem?_eq_some_iff.1 hr).1 hr⟩
  case round =>
    obtain ⟨j, q, hj, rfl, rfl, hq, hmi⟩ := hrel
    have HQ := Lib.hid hq
    have HMI := Lib.hid hmi
    by_cases hlt : j < rs.length
    · obtain ⟨⟨L, R, ps⟩, hxj⟩ : ∃ x, rs[j]? = some x := ⟨_, List.getElem?_eq_getElem hlt⟩
      have htm := tot_more hxj
      have htl : tot (rs.take (j + 1)) ≤ tot rs := by
        unfold tot
        have h : ((rs.map fun r => r.2.2.length)).take (j + 1) = (rs.take (j + 1)).map fun r => r.2.2.length := by rw [List.map_take]
        have h2 := List.take_append_drop (j + 1) (rs.map fun r => r.2.2.length)
        have h3 := congrArg List.sum h2
        rw [List.sum_append, h] at h3
        omega
      have hpl : ps.length ≤ 1048576 := by have := HL.out; omega
      have hqb : q ≤ 6000000 := by have := HL.out; omega
      have hqI : (q : Int) ≤ 6000000 := by omega
      obtain ⟨cs, hbk, hcs, hc2⟩ := hmi.blk
      have hrow := hmi.row j L R ps (Nat.le_refl _) hxj
      have hne : bs j ≠ g := fun e => by
        have h := hrow.other hbk (by decide)
        exact h ⟨_, rfl, by rw [e]⟩
      obtain ⟨v0, e0⟩ : ∃ v, wr.cell? ⟨g, j * 3, none⟩ = some v := ⟨_, (hbk.cell _).trans (Array.getElem?_eq_getElem (by omega))⟩
      have z0 := hbk.frozen (j * 3)
      obtain ⟨W1, hW1⟩ : ∃ W, W = wr.setCell ⟨g, j * 3, none⟩ (.int .i64 q) := ⟨_, rfl⟩
      have hb1 : Blk W1 g 30 (cs.setIfInBounds (j * 3) (.int .i64 q)) := by rw [hW1]; exact hbk.set_ _ _
      obtain ⟨v1, e1⟩ : ∃ v, W1.cell? ⟨g, j * 3 + 1, none⟩ = some v := ⟨_, (hb1.cell _).trans (Array.getElem?_eq_getElem (by simp; omega))⟩
      have z1 := hb1.frozen (j * 3 + 1)
      obtain ⟨W2, hW2⟩ : ∃ W, W = W1.setCell ⟨g, j * 3 + 1, none⟩ (.int .i64 ((q : Int) + 1)) := ⟨_, rfl⟩
      have hb2 : Blk W2 g 30 ((cs.setIfInBounds (j * 3) (.int .i64 q)).setIfInBounds (j * 3 + 1) (.int .i64 ((q : Int) + 1))) := by rw [hW2]; exact hb1.set_ _ _
      have e2 : W2.cell? ⟨g, j * 3 + 2, none⟩ = some (.slice (some ⟨bs j, 0, none⟩) ps.length ps.length) := by
        rw [hb2.cell, Array.getElem?_setIfInBounds_ne (by omega), Array.getElem?_setIfInBounds_ne (by omega)]
        exact hc2 j L R ps hxj
      have hr2 : OR W2 lo (some ⟨bs j, 0, none⟩) ps.length ps.length ps := by
        rw [hW2, hW1]
        exact or_far (or_far hrow (p := ⟨g, j * 3, none⟩) hne _) (p := ⟨g, j * 3 + 1, none⟩) hne _
      have MK : Hid (Calls Tryd.prog 91 #[.slice (some ⟨bs j, 0, none⟩) ps.length ps.length, .int .i64 ((q : Int) + 1 + 1)] W2 fun e w' => MarkR (some ⟨bs j, 0, none⟩) lo ps.length ps.length (q + 2) W2 e w') := by
        have h := markI_any W2 lo (some ⟨bs j, 0, none⟩) ps.length ps.length (q + 2) ps (by omega) (by omega) hr2
        have e : ((q : Int) + 1 + 1) = ((q + 2 : Nat) : Int) := by omega
        rw [e]
        exact h
      have hf2 : Fr (One g) wr W2 := by
        rw [hW2, hW1]
        exact ((Fr.refl (One g) wr).setCell (p := ⟨g, j * 3, none⟩) (.inl rfl) _).setCell (p := ⟨g, j * 3 + 1, none⟩) (.inl rfl) _
      have FIN : Hid (∀ w4, Fr (Own (some ⟨bs j, 0, none⟩)) W2 w4 → MI w lo hi g rs.length rs bs (j + 1) w4) := fun w4 hf4 => by
        have hlow := hrow.bounds ⟨_, rfl, rfl⟩
        have hbj := HB.out j hlt
        have hlow1 : lo ≤ bs j := hlow.1
        refine ⟨(HMI.out.fr.then_ hf2 (fun i _ h => by have h : i = g := h; subst h; exact ⟨hgl, hg⟩)).then_ hf4 (fun i _ h => by
          obtain ⟨a, ha, hab⟩ := h
          injection ha with ha
          subst ha
          have hab : bs j = i := hab
          subst hab
          exact ⟨hlow1, hbj⟩), ⟨_, hb2.fr hf4 (hr2.other hb2 (by decide)), by simpa using hcs, fun i L' R' ps' hr' => ?_⟩, fun i L' R' ps' hi' hr' => ?_⟩
        · rw [Array.getElem?_setIfInBounds_ne (by omega), Array.getElem?_setIfInBounds_ne (by omega)]
          exact hc2 i L' R' ps' hr'
        · have hil := (List.getElem?_eq_some_iff.1 hr').1
          have h1 := HMI.out.row i L' R' ps' (by omega) hr'
          have hne' : bs i ≠ bs j := HO.out.ap i j hil hlt hil hlt (by omega)
          have hnz : bs i ≠ g := fun e => h1.other hbk (by decide) ⟨_, rfl, by rw [e]⟩
          refine (h1.fr hf2 (fun b hb h => ?_)).fr hf4 (fun b hb h => ?_)
          · obtain ⟨a, ha, hab⟩ := hb
            injection ha with ha
            subst ha
            have hab : bs i = b := hab
            have h : b = g := h
            omega
          · obtain ⟨a, ha, hab⟩ := hb
            injection ha with ha
            subst ha
            obtain ⟨a', ha', hab'⟩ := h
            injection ha' with ha'
            subst ha'
            have hab : bs i = b := hab
            have hab' : bs j = b := hab'
            omega
      have HTM := Lib.hid htm
      rw [hW1] at e1 z1 hW2
      rw [hW2] at e2 MK
      clear hq hmi hxj htm htl hbk hcs hc2 hrow hb1 hb2 hr2 hf2 hW1 hpl
      go_wp2_with fail
      refine MK.out.mono ?_
      rintro e w4 ⟨rfl, hf4, _, _⟩
      rw [← hW2] at hf4
      have HN := Lib.hid (FIN.out w4 hf4)
      clear FIN MK hf4 hW2 e0 e1 e2 z0 z1
      go_wp2_with fail
      go_roundw
      case rel => exact ⟨j + 1, q + 2 + ps.length, by omega, rfl, by go_num, by have := HQ.out; have := HTM.out; omega, HN.out⟩
      case measure => simp [intOf]; omega
    · have hjl : j = rs.length := by omega
      have HF := Lib.hid hmi.fr
      clear hmi hq
      go_wp2_with fail
      go_ret
      exact ⟨⟨q, rfl⟩, HF.out⟩
end Go.Proofs.YtloecimlimoanaaDoor

/- The law RelLift. -/
namespace Go.Proofs.YtloecimlimoanaaDoor
open Go.RowKit Go.ChangeMaps Go.Shelf

/-- a relation, and whether there is one, is returned: part by part -/
def AnsCl (Lo Ro : Int) (Po : List Int) (bo : Bool) (w : World) (e : Ending) (w' : World) : Prop := ∃ A n c, e = .returned (.tuple #[RV Lo Ro A n c, .bool bo]) ∧ Fr No w w' ∧ OR w' w.heap.size A n c Po

theorem own_lt {w : World} {B : Nat} {e : TypeId} {g n c : Nat} {xs : List Value} (h : w.ownsRow B e 1 (.slice (some ⟨g, 0, none⟩) n c) n xs) : g < w.heap.size := by
  rcases h.2 with ⟨hv, _⟩ | ⟨g', cap, cur, hv, h2, h3, _⟩
  · cases hv
  · injection hv with e1 e2 e3
    injection e1 with e1
    injection e1 with e1
    subst e1
    exact (Array.getElem?_eq_some_iff.1 h3).1

theorem OwnRels.lt {w : World} {lo g n j : Nat} {rs : List (Int × Int × List Int)} {bs : Nat → Nat} (h : OwnRels w lo g n rs bs j) : g < w.heap.size := by
  obtain ⟨cs, hb, _⟩ := h.blk
  exact hb.lt

theorem OwnRels.rowb {w : World} {lo g n : Nat} {rs : List (Int × Int × List Int)} {bs : Nat → Nat} (h : OwnRels w lo g n rs bs rs.length) (i : Nat) (hi : i < rs.length) : lo ≤ bs i ∧ bs i < w.heap.size := by
  obtain ⟨⟨L, R, ps⟩, hr⟩ : ∃ r, rs[i]? = some r := ⟨_, List.getElem?_eq_getElem hi⟩
  exact (h.row i L R ps hi hr).bounds ⟨_, rfl, rfl⟩

theorem OwnRels.rowlt {w : World} {lo g n : Nat} {rs : List (Int × Int × List Int)} {bs : Nat → Nat} (h : OwnRels w lo g n rs bs rs.length) (i : Nat) (hi : i < rs.length) : bs i < w.heap.size := (h.rowb i hi).2
theorem OwnRels.rowlow {w : World} {lo g n : Nat} {rs : List (Int × Int × List Int)} {bs : Nat → Nat} (h : OwnRels w lo g n rs bs rs.length) (i : Nat) (hi : i < rs.length) : lo ≤ bs i := (h.rowb i hi).1

theorem OwnRels.apart {w w' : World} {lo g n : Nat} {rs : List (Int × Int × List Int)} {bs : Nat → Nat} {T : Nat → Prop} (h : OwnRels w lo g n rs bs rs.length) (hf : Fr T w w') (hg : ¬ T g) (hb : ∀ i, i < rs.length → ¬ T (bs i)) : OwnRels w' lo g n rs bs rs.length := by
  obtain ⟨h1, ⟨cs, h2, h3, h4⟩, h5, h6⟩ := h
  exact ⟨h1, ⟨cs, h2.fr hf hg, h3, h4⟩, fun i L R ps hi hr => (h5 i L R ps hi hr).fr hf (fun b ho ht => by
    obtain ⟨a, ha, hab⟩ := ho
    injection ha with ha
    subst ha
    have hab : bs i = b := hab
    subst hab
    exact hb i hi ht), h6⟩

set_option maxRecDepth 100000 in
set_option maxHeartbeats 2000000 in
theorem lawRelLift (w : World) (HTAB : TZt w) (s : List UInt8) (hs : s.length ≤ maxLen) (A : Option Addr) (n c : Nat) (ns : List (List UInt8)) (hns : StrsIn w A n c ns) (A' : Option Addr) (n' c' : Nat) (rs : List (Int × Int × List Int)) (hrs : RelsIn w A' n' c' rs) :
    Calls Tryd.prog 11 #[S s, .slice A n c, .slice A' n' c'] w fun e w' => Yes w e w' := by
  obtain ⟨rfl, hcns, hmns, hSns, hLns⟩ := hns
  have HSns := Lib.hid hSns
  have HLns := Lib.hid hLns
  have HMns := Lib.hid hmns
  unfold maxLen at hmns
  have hMns : (ns.length : Int) ≤ 9223372036854775807 := by omega
  clear hSns hLns
  have HRS := Lib.hid hrs
  obtain ⟨rfl, hczs, hmzs, hSzs⟩ := hrs
  have HSzs := Lib.hid hSzs
  unfold maxLen at hmzs
  have hMzs : (rs.length : Int) ≤ 9223372036854775807 := by omega
  clear hSzs
  have HT := Lib.hid HTAB
  clear HTAB
  have HBs := Lib.hid hs
  unfold maxLen at hs
  by_cases hbigs : 1048576 < s.length
  · have hbs : decide ((1048576 : Int) < (s.length : Int)) = true := by simp; omega
    go_enter Tryd.func11, Tryd.ntmps11
    go_wp2_with fail
    go_ret
    exact ⟨rfl, Fr.refl _ _⟩
  have hbs : decide ((1048576 : Int) < (s.length : Int)) = false := by simp; omega
  have hns : s.length ≤ 1048576 := by omega
  have HNs := Lib.hid hns
  clear hbigs hns
  go_enter Tryd.func11, Tryd.ntmps11
  go_wp2_with fail
  refine (szS_any w A ns c (1048576) (by omega) (by omega) HSns.out HMns.out HLns.out).mono ?_
  rintro e w0 ⟨left0, rfl, hl10, hl20, hl30, rfl⟩
  by_cases hneg0 : left0 < 0
  · clear hl30
    go_wp2_with fail
    go_ret
    exact ⟨rfl, Fr.refl _ _⟩
  have hnns : ns.length ≤ 1048576 := by have := hl30 (by omega); omega
  have HNns := Lib.hid hnns
  clear hl30 hnns
  go_wp2_with fail
  refine (szRS_any w A' _ c' rs left0 (by omega) (by omega) HRS.out).mono ?_
  rintro e w0 ⟨left1, rfl, hl11, hl21, hl31, f0⟩
  by_cases hneg1 : left1 < 0
  · clear hl31
    have HF := Lib.hid f0
    clear f0
    go_wp2_with fail
    go_ret
    exact ⟨rfl, HF.out⟩
  have hnzs : rs.length + tot rs ≤ 1048576 := by have := hl31 (by omega); omega
  have HNzs := Lib.hid hnzs
  have HRR : Hid (Rels w A' rs) := HSzs.out.rels (fun r hr => by have := tot_le hr; omega)
  clear hl31 hnzs HSzs HRS
  obtain ⟨Lo, Ro, Po, bo, HLEN, SP, IM⟩ : ∃ (Lo Ro : Int) (Po : List Int) (bo : Bool), Hid (Po.length ≤ 100000) ∧ Hid (∀ W gn gr, SSl W (some ⟨gn, 0, none⟩) ns → Rels W (some ⟨gr, 0, none⟩) rs → Calls Tryd.prog 19 #[S s, .slice (some ⟨gn, 0, none⟩) ns.length ns.length, .slice (some ⟨gr, 0, none⟩) rs.length rs.length] W fun e w' => AnsCl Lo Ro Po bo W e w') ∧ Hid (∀ W gn gr, Fr No w W → SSl W (some ⟨gn, 0, none⟩) ns → Rels W (some ⟨gr, 0, none⟩) rs → Calls Tryd.prog 18 #[S s, .slice (some ⟨gn, 0, none⟩) ns.length ns.length, .slice (some ⟨gr, 0, none⟩) rs.length rs.length] W fun e w' => AnsCl Lo Ro Po bo W e w') := by
    obtain ⟨o, ho⟩ := LiftR.ex s ns rs
    have h1 := HNns.out
    have h2 := HNzs.out
    exact ⟨(o.getD (0, 0, [])).1, (o.getD (0, 0, [])).2.1, (o.getD (0, 0, [])).2.2, o.isSome, ho.len, fun W gn gr hn hr => specRelLift W s _ _ _ _ ns rs o ho HBs.out (Nat.le_refl _) hn hr h1 (by omega) HLns.out, fun W gn gr hf hn hr => implRelLift W s _ _ _ _ ns rs o ho HBs.out hn hr h1 (by omega) HLns.out (HT.out.fr hf (fun h => h))⟩
  have CN : Hid (∀ w', Fr No w w' → Calls Tryd.prog 40 #[.slice A ns.length c] w' fun e w2 => ∃ g, e = .returned (.slice (some ⟨g, 0, none⟩) ns.length ns.length) ∧ Fr No w' w2 ∧ Fr No w w2 ∧ ∀ w3, Fr No w2 w3 → SSl w3 (some ⟨g, 0, none⟩) ns) := fun w' hf => copyS_in HSns.out rfl (by have := HNns.out; omega) w' hf
  have CR : Hid (∀ w', Fr No w w' → Calls Tryd.prog 41 #[.slice A' rs.length c'] w' fun e w2 => ∃ g, e = .returned (.slice (some ⟨g, 0, none⟩) rs.length rs.length) ∧ Fr No w' w2 ∧ Fr No w w2 ∧ ∀ w3, Fr No w2 w3 → Rels w3 (some ⟨g, 0, none⟩) rs) := fun w' hf => copyRS_in HRR.out rfl (by have := HNzs.out; omega) w' hf
  have CN1 : Hid (∀ w', Fr No w w' → Calls Tryd.prog 40 #[.slice A ns.length c] w' fun e w2 => CopyS ns w' e w2) := fun w' hf => copyS_any w' A ns c (HSns.out.keep hf (fun _ h => h.elim)) (by have := HNns.out; omega)
  have CR1 : Hid (∀ w', Fr No w w' → Calls Tryd.prog 41 #[.slice A' rs.length c'] w' fun e w2 => CopyRS rs w' e w2) := fun w' hf => copyRS_any w' A' rs c' (HRR.out.no hf) (by have := HNzs.out; omega)
  have F0 := Lib.hid f0
  have HLR : Hid (∀ r ∈ rs, r.2.2.length ≤ 2000000) := fun r hr => by have := tot_le hr; have := HNzs.out; omega
  clear hcns hczs f0
  have m1 := Lib.hid F0.out.size
  go_wp2_with fail
  refine (CN.out _ F0.out).mono ?_
  rintro e w1 ⟨gn0, rfl, hf, _, hqn⟩
  have HQN := Lib.hid hqn
  have m2 := Lib.hid hf.size
  have F3 := Lib.hid (F0.out.trans hf)
  clear hf hqn
  go_wp2_with fail
  refine (CR.out _ F3.out).mono ?_
  rintro e w2 ⟨gr0, rfl, hf, _, hqr⟩
  have HRN := Lib.hid (hqr _ (Fr.refl _ _))
  have HSN := Lib.hid (HQN.out _ ((Fr.refl No w1).trans hf))
  have m4 := Lib.hid hf.size
  have F5 := Lib.hid (F3.out.trans hf)
  clear hf hqr HQN F3
  go_wp2_with fail
  refine (SP.out _ _ _ HSN.out HRN.out).mono ?_
  rintro e w3 ⟨Ap, np, cp, rfl, hf, hor⟩
  have m6 := Lib.hid hf.size
  have F7 := Lib.hid (F5.out.trans hf)
  have R8 := Lib.hid hor
  have bd9 : Hid (∀ b, Own Ap b → w2.heap.size ≤ b ∧ b < (w3).heap.size) := fun b hb => OR.bounds hor hb
  clear hf hor F5
  clear HSN HRN
  have ha10 : Fr No w3 (w3.alloc (.cells #[.int .i64 Lo, .int .i64 Ro, .slice Ap np cp] 30)) := (Fr.refl No w3).alloc _
  have m11 := Lib.hid ha10.size
  have R12 := Lib.hid (R8.out.fr ha10 (fun _ _ h => h))
  have F13 := Lib.hid (F7.out.trans ha10)
  have B14 : Hid (Blk (w3.alloc (.cells #[.int .i64 Lo, .int .i64 Ro, .slice Ap np cp] 30)) (w3.heap.size) 30 #[.int .i64 Lo, .int .i64 Ro, .slice Ap np cp]) := Blk.new _ _ _
  clear ha10 R8 F7
  go_wp2_with fail
  generalize (w3.alloc (.cells #[.int .i64 Lo, .int .i64 Ro, .slice Ap np cp] 30)) = w4 at *
  have lt15 := Lib.hid B14.out.lt
  refine (CN1.out _ F13.out).mono ?_
  rintro e w5 ⟨g1, rfl, h1lo, hf, hown1⟩
  have O1 := Lib.hid hown1
  have L1 := Lib.hid h1lo
  have m16 := Lib.hid hf.size
  have B17 := Lib.hid (B14.out.fr hf (fun h => h))
  have R18 := Lib.hid (R12.out.fr hf (fun _ _ h => h))
  have F19 := Lib.hid (F13.out.trans hf)
  clear hf h1lo hown1 B14 R12 F13
  go_wp2_with fail
  refine (CR1.out _ F19.out).mono ?_
  rintro e w6 ⟨g2, bs, rfl, hf, hown2⟩
  have O2 := Lib.hid hown2
  have FX1 := Lib.hid hf
  have m20 := Lib.hid hf.size
  have B21 := Lib.hid (B17.out.fr hf (fun h => h))
  have R22 := Lib.hid (R18.out.fr hf (fun _ _ h => h))
  have F23 := Lib.hid (F19.out.trans hf)
  clear hf hown2 B17 R18 F19
  go_wp2_with fail
  have O2L : Hid (g2 < w6.heap.size) := O2.out.lt
  have O2B : Hid (∀ i, i < rs.length → bs i < w6.heap.size) := fun i hi => O2.out.rowlt i hi
  have FX2 : Hid (Fr No w6 w6) := Fr.refl _ _
  refine (IM.out _ _ _ F23.out ((SSl.of_own O1.out).keep FX1.out (fun _ h => h.elim)) (O2.out.rels (Nat.le_refl _) HLR.out)).mono ?_
  rintro e w7 ⟨Ag, ng, cg, rfl, hf, hor⟩
  have FX2 := Lib.hid (FX2.out.trans hf)
  have m24 := Lib.hid hf.size
  have B25 := Lib.hid (B21.out.fr hf (fun h => h))
  have R26 := Lib.hid (R22.out.fr hf (fun _ _ h => h))
  have F27 := Lib.hid (F23.out.trans hf)
  have R28 := Lib.hid hor
  have bd29 : Hid (∀ b, Own Ag b → w6.heap.size ≤ b ∧ b < (w7).heap.size) := fun b hb => OR.bounds hor hb
  clear hf hor B21 R22 F23
  have ha30 : Fr No w7 (w7.alloc (.cells #[.int .i64 Lo, .int .i64 Ro, .slice Ag ng cg] 30)) := (Fr.refl No w7).alloc _
  have m31 := Lib.hid ha30.size
  have B32 := Lib.hid (B25.out.fr ha30 (fun h => h))
  have R33 := Lib.hid (R26.out.fr ha30 (fun _ _ h => h))
  have R34 := Lib.hid (R28.out.fr ha30 (fun _ _ h => h))
  have F35 := Lib.hid (F27.out.trans ha30)
  have B36 : Hid (Blk (w7.alloc (.cells #[.int .i64 Lo, .int .i64 Ro, .slice Ag ng cg] 30)) (w7.heap.size) 30 #[.int .i64 Lo, .int .i64 Ro, .slice Ag ng cg]) := Blk.new _ _ _
  clear ha30 B25 R26 R28 F27
  have FX2 := Lib.hid (FX2.out.alloc (.cells #[.int .i64 Lo, .int .i64 Ro, .slice Ag ng cg] 30))
  have c37 : World.cell? (w7.alloc (.cells #[.int .i64 Lo, .int .i64 Ro, .slice Ag ng cg] 30)) ⟨w3.heap.size, 0, none⟩ = some (.int .i64 Lo) := (B32.out.cell 0).trans rfl
  have c38 : World.cell? (w7.alloc (.cells #[.int .i64 Lo, .int .i64 Ro, .slice Ag ng cg] 30)) ⟨w3.heap.size, 1, none⟩ = some (.int .i64 Ro) := (B32.out.cell 1).trans rfl
  have c39 : World.cell? (w7.alloc (.cells #[.int .i64 Lo, .int .i64 Ro, .slice Ag ng cg] 30)) ⟨w3.heap.size, 2, none⟩ = some (.slice Ap np cp) := (B32.out.cell 2).trans rfl
  go_wp2_with fail
  generalize (w7.alloc (.cells #[.int .i64 Lo, .int .i64 Ro, .slice Ag ng cg] 30)) = w8 at *
  have lt40 := Lib.hid B36.out.lt
  have hEQ : Calls Tryd.prog 44 #[RV Lo Ro Ag ng cg, RV Lo Ro Ap np cp] w8 fun e w' => e = .returned (.bool true) ∧ Fr No w8 w' := by
    rw [R34.out.1, R33.out.1]
    refine (eqRel_any w8 Lo Ro Lo Ro Ag Ap Po Po cg cp (OR.isl R34.out) (OR.isl R33.out) (by have := HLEN.out; omega) (by have := HLEN.out; omega)).mono ?_
    rintro e w' ⟨b, rfl, hb, hf⟩
    obtain rfl : b = true := hb.2 ⟨rfl, rfl, rfl⟩
    exact ⟨rfl, hf⟩
  have HEQ := Lib.hid hEQ
  clear hEQ
  refine (HEQ.out).mono ?_
  rintro e w9 ⟨rfl, hf⟩
  have FX2 := Lib.hid (FX2.out.trans hf)
  have m41 := Lib.hid hf.size
  have B42 := Lib.hid (B32.out.fr hf (fun h => h))
  have B43 := Lib.hid (B36.out.fr hf (fun h => h))
  have R44 := Lib.hid (R33.out.fr hf (fun _ _ h => h))
  have R45 := Lib.hid (R34.out.fr hf (fun _ _ h => h))
  have F46 := Lib.hid (F35.out.trans hf)
  clear hf HEQ B32 B36 R33 R34 F35 c37 c38 c39
  go_wp2_with fail
  refine (CN.out _ F46.out).mono ?_
  rintro e w10 ⟨gn3, rfl, hf, _, hqn⟩
  have HQN := Lib.hid (hqn _ (Fr.refl _ _))
  have FX2 := Lib.hid (FX2.out.trans hf)
  have m47 := Lib.hid hf.size
  have B48 := Lib.hid (B42.out.fr hf (fun h => h))
  have B49 := Lib.hid (B43.out.fr hf (fun h => h))
  have R50 := Lib.hid (R44.out.fr hf (fun _ _ h => h))
  have R51 := Lib.hid (R45.out.fr hf (fun _ _ h => h))
  have F52 := Lib.hid (F46.out.trans hf)
  clear hf hqn B42 B43 R44 R45 F46
  go_wp2_with fail
  refine (sameS_in (Fr.refl _ _) ((SSl.of_own O1.out).keep (FX1.out.trans FX2.out) (fun _ h => h.elim)) HQN.out rfl (by have := HNns.out; omega)).mono ?_
  rintro e w11 ⟨rfl, hf, _⟩
  have FX2 := Lib.hid (FX2.out.trans hf)
  have m53 := Lib.hid hf.size
  have B54 := Lib.hid (B48.out.fr hf (fun h => h))
  have B55 := Lib.hid (B49.out.fr hf (fun h => h))
  have R56 := Lib.hid (R50.out.fr hf (fun _ _ h => h))
  have R57 := Lib.hid (R51.out.fr hf (fun _ _ h => h))
  have F58 := Lib.hid (F52.out.trans hf)
  clear hf HQN B48 B49 R50 R51 F52
  go_wp2_with fail
  refine (CR.out _ F58.out).mono ?_
  rintro e w12 ⟨gr3, rfl, hf, _, hqr⟩
  have HRN := Lib.hid (hqr _ (Fr.refl _ _))
  have FX2 := Lib.hid (FX2.out.trans hf)
  have m59 := Lib.hid hf.size
  have B60 := Lib.hid (B54.out.fr hf (fun h => h))
  have B61 := Lib.hid (B55.out.fr hf (fun h => h))
  have R62 := Lib.hid (R56.out.fr hf (fun _ _ h => h))
  have R63 := Lib.hid (R57.out.fr hf (fun _ _ h => h))
  have F64 := Lib.hid (F58.out.trans hf)
  clear hf hqr B54 B55 R56 R57 F58
  go_wp2_with fail
  refine (eqRS_any _ (some ⟨g2, 0, none⟩) (some ⟨gr3, 0, none⟩) rs rs.length rs.length (((O2.out.no FX2.out).rels (Nat.le_refl _) HLR.out)) HRN.out (by have := HNzs.out; omega)).mono ?_
  rintro e w13 ⟨rfl, hf⟩
  have FX2 := Lib.hid (FX2.out.trans hf)
  have m65 := Lib.hid hf.size
  have B66 := Lib.hid (B60.out.fr hf (fun h => h))
  have B67 := Lib.hid (B61.out.fr hf (fun h => h))
  have R68 := Lib.hid (R62.out.fr hf (fun _ _ h => h))
  have R69 := Lib.hid (R63.out.fr hf (fun _ _ h => h))
  have F70 := Lib.hid (F64.out.trans hf)
  clear hf HRN B60 B61 R62 R63 F64
  go_wp2_with fail
  refine (marks_big w4.heap.size _ _ ns _ 1 _ rfl (own_fr O1.out (FX1.out.trans FX2.out) (fun _ _ h => h)) (by have := HNns.out; omega) (by decide)).mono ?_
  rintro e w14 ⟨rfl, hf', _⟩
  have hf : Fr (fun b : Nat => w4.heap.size ≤ b ∧ b < w5.heap.size) w13 w14 := hf'.mono (fun b _ h => by have h : some g1 = some b := h; injection h with h; subst h; have := L1.out; have := own_lt O1.out; exact ⟨by omega, by omega⟩)
  have hfn : Fr (fun b : Nat => b = g1) w13 w14 := hf'.mono (fun b _ h => by have h : some g1 = some b := h; injection h with h; exact h.symm)
  have O3 := Lib.hid ((O2.out.no FX2.out).apart hfn (fun h => by have := own_lt O1.out; have := O2.out.low; omega) (fun i hi h => by have := own_lt O1.out; have := O2.out.rowlow i hi; omega))
  have m71 := Lib.hid hf.size
  have B72 := Lib.hid (B66.out.fr hf (fun h => by have h : w4.heap.size ≤ w3.heap.size ∧ w3.heap.size < w5.heap.size := h; have := lt15.out; have := m1.out; have := m2.out; have := m4.out; have := m6.out; have := m11.out; have := m16.out; have := m20.out; have := m24.out; have := m31.out; have := m41.out; have := m47.out; have := m53.out; have := m59.out; have := m65.out; omega))
  have B73 := Lib.hid (B67.out.fr hf (fun h => by have h : w4.heap.size ≤ w7.heap.size ∧ w7.heap.size < w5.heap.size := h; have := lt40.out; have := m1.out; have := m2.out; have := m4.out; have := m6.out; have := m11.out; have := m16.out; have := m20.out; have := m24.out; have := m31.out; have := m41.out; have := m47.out; have := m53.out; have := m59.out; have := m65.out; omega))
  have R74 := Lib.hid (R68.out.fr hf (fun b h1 h => by have h : w4.heap.size ≤ b ∧ b < w5.heap.size := h; have := bd9.out b h1; have := m1.out; have := m2.out; have := m4.out; have := m6.out; have := m11.out; have := m16.out; have := m20.out; have := m24.out; have := m31.out; have := m41.out; have := m47.out; have := m53.out; have := m59.out; have := m65.out; omega))
  have R75 := Lib.hid (R69.out.fr hf (fun b h1 h => by have h : w4.heap.size ≤ b ∧ b < w5.heap.size := h; have := bd29.out b h1; have := m1.out; have := m2.out; have := m4.out; have := m6.out; have := m11.out; have := m16.out; have := m20.out; have := m24.out; have := m31.out; have := m41.out; have := m47.out; have := m53.out; have := m59.out; have := m65.out; omega))
  have F76 := Lib.hid (F70.out.then_ hf (fun b hb h => by have h : w4.heap.size ≤ b ∧ b < w5.heap.size := h; have := m1.out; have := m2.out; have := m4.out; have := m6.out; have := m11.out; have := m16.out; have := m20.out; have := m24.out; have := m31.out; have := m41.out; have := m47.out; have := m53.out; have := m59.out; have := m65.out; omega))
  clear hf hf' hfn B66 B67 R68 R69 F70
  clear O2 FX2
  have hkn : ((1 + ns.length : Nat) : Int) ≤ 2000000 := by have := HNns.out; omega
  go_wp2_with fail
  refine (markRS_any _ w5.heap.size w6.heap.size g2 (1 + ns.length) rs bs O3.out O2L.out (fun i hi => O2B.out i hi) (by have := HNns.out; omega) HNzs.out).mono ?_
  rintro e w15 ⟨⟨km, rfl⟩, hf⟩
  have m77 := Lib.hid hf.size
  have B78 := Lib.hid (B72.out.fr hf (fun h => by have h : w5.heap.size ≤ w3.heap.size ∧ w3.heap.size < w6.heap.size := h; have := lt15.out; have := m1.out; have := m2.out; have := m4.out; have := m6.out; have := m11.out; have := m16.out; have := m20.out; have := m24.out; have := m31.out; have := m41.out; have := m47.out; have := m53.out; have := m59.out; have := m65.out; have := m71.out; omega))
  have B79 := Lib.hid (B73.out.fr hf (fun h => by have h : w5.heap.size ≤ w7.heap.size ∧ w7.heap.size < w6.heap.size := h; have := lt40.out; have := m1.out; have := m2.out; have := m4.out; have := m6.out; have := m11.out; have := m16.out; have := m20.out; have := m24.out; have := m31.out; have := m41.out; have := m47.out; have := m53.out; have := m59.out; have := m65.out; have := m71.out; omega))
  have R80 := Lib.hid (R74.out.fr hf (fun b h1 h => by have h : w5.heap.size ≤ b ∧ b < w6.heap.size := h; have := bd9.out b h1; have := m1.out; have := m2.out; have := m4.out; have := m6.out; have := m11.out; have := m16.out; have := m20.out; have := m24.out; have := m31.out; have := m41.out; have := m47.out; have := m53.out; have := m59.out; have := m65.out; have := m71.out; omega))
  have R81 := Lib.hid (R75.out.fr hf (fun b h1 h => by have h : w5.heap.size ≤ b ∧ b < w6.heap.size := h; have := bd29.out b h1; have := m1.out; have := m2.out; have := m4.out; have := m6.out; have := m11.out; have := m16.out; have := m20.out; have := m24.out; have := m31.out; have := m41.out; have := m47.out; have := m53.out; have := m59.out; have := m65.out; have := m71.out; omega))
  have F82 := Lib.hid (F76.out.then_ hf (fun b hb h => by have h : w5.heap.size ≤ b ∧ b < w6.heap.size := h; have := m1.out; have := m2.out; have := m4.out; have := m6.out; have := m11.out; have := m16.out; have := m20.out; have := m24.out; have := m31.out; have := m41.out; have := m47.out; have := m53.out; have := m59.out; have := m65.out; have := m71.out; omega))
  clear hf B72 B73 R74 R75 F76 hkn
  clear O3 O1 FX1
  have hk1 : ¬ ((km : Int) < 0) := by omega
  have c83 : World.cell? w15 ⟨w7.heap.size, 0, none⟩ = some (.int .i64 Lo) := (B79.out.cell 0).trans rfl
  have c84 : World.cell? w15 ⟨w7.heap.size, 1, none⟩ = some (.int .i64 Ro) := (B79.out.cell 1).trans rfl
  have c85 : World.cell? w15 ⟨w7.heap.size, 2, none⟩ = some (.slice Ag ng cg) := (B79.out.cell 2).trans rfl
  have c86 : World.cell? w15 ⟨w3.heap.size, 0, none⟩ = some (.int .i64 Lo) := (B78.out.cell 0).trans rfl
  have c87 : World.cell? w15 ⟨w3.heap.size, 1, none⟩ = some (.int .i64 Ro) := (B78.out.cell 1).trans rfl
  have c88 : World.cell? w15 ⟨w3.heap.size, 2, none⟩ = some (.slice Ap np cp) := (B78.out.cell 2).trans rfl
  go_wp2_with fail
  have hEQ : Calls Tryd.prog 44 #[RV Lo Ro Ag ng cg, RV Lo Ro Ap np cp] w15 fun e w' => e = .returned (.bool true) ∧ Fr No w15 w' := by
    rw [R81.out.1, R80.out.1]
    refine (eqRel_any w15 Lo Ro Lo Ro Ag Ap Po Po cg cp (OR.isl R81.out) (OR.isl R80.out) (by have := HLEN.out; omega) (by have := HLEN.out; omega)).mono ?_
    rintro e w' ⟨b, rfl, hb, hf⟩
    obtain rfl : b = true := hb.2 ⟨rfl, rfl, rfl⟩
    exact ⟨rfl, hf⟩
  have HEQ := Lib.hid hEQ
  clear hEQ
  refine (HEQ.out).mono ?_
  rintro e w16 ⟨rfl, hf⟩
  have m89 := Lib.hid hf.size
  have B90 := Lib.hid (B78.out.fr hf (fun h => h))
  have B91 := Lib.hid (B79.out.fr hf (fun h => h))
  have R92 := Lib.hid (R80.out.fr hf (fun _ _ h => h))
  have R93 := Lib.hid (R81.out.fr hf (fun _ _ h => h))
  have F94 := Lib.hid (F82.out.trans hf)
  clear hf HEQ B78 B79 R80 R81 F82 hk1 c83 c84 c85 c86 c87 c88
  have c95 : World.cell? w16 ⟨w7.heap.size, 0, none⟩ = some (.int .i64 Lo) := (B91.out.cell 0).trans rfl
  have c96 : World.cell? w16 ⟨w7.heap.size, 1, none⟩ = some (.int .i64 Ro) := (B91.out.cell 1).trans rfl
  have c97 : World.cell? w16 ⟨w7.heap.size, 2, none⟩ = some (.slice Ag ng cg) := (B91.out.cell 2).trans rfl
  go_wp2_with fail
  refine (markR_any _ _ Lo Ro Ag _ _ 1 _ (by decide) (by have := HLEN.out; have := R93.out.1; omega) R93.out).mono ?_
  rintro e w17 ⟨rfl, hf, hor⟩
  have HNR : Hid (ng ≤ 1048576) := by have := HLEN.out; have := R93.out.1; show _ ≤ _; omega
  have m98 := Lib.hid hf.size
  have B99 := Lib.hid (B90.out.fr hf (R93.out.other B90.out (by decide)))
  have B100 := Lib.hid (B91.out.fr hf (R93.out.other B91.out (by decide)))
  have R101 := Lib.hid (R92.out.fr hf (fun b h1 h2 => by have e1 := bd9.out b h1; have e2 := bd29.out b h2; have := m1.out; have := m2.out; have := m4.out; have := m6.out; have := m11.out; have := m16.out; have := m20.out; have := m24.out; have := m31.out; have := m41.out; have := m47.out; have := m53.out; have := m59.out; have := m65.out; have := m71.out; have := m77.out; have := m89.out; omega))
  have F102 := Lib.hid (F94.out.then_ hf (fun b hb h => by have e1 := bd29.out b h; have := m1.out; have := m2.out; have := m4.out; have := m6.out; have := m11.out; have := m16.out; have := m20.out; have := m24.out; have := m31.out; have := m41.out; have := m47.out; have := m53.out; have := m59.out; have := m65.out; have := m71.out; have := m77.out; have := m89.out; omega))
  have R103 := Lib.hid hor
  clear hf hor B90 B91 R92 F94 R93 c95 c96 c97
  have c104 : World.cell? w17 ⟨w7.heap.size, 0, none⟩ = some (.int .i64 Lo) := (B100.out.cell 0).trans rfl
  have c105 : World.cell? w17 ⟨w7.heap.size, 1, none⟩ = some (.int .i64 Ro) := (B100.out.cell 1).trans rfl
  have c106 : World.cell? w17 ⟨w7.heap.size, 2, none⟩ = some (.slice Ag ng cg) := (B100.out.cell 2).trans rfl
  go_wp2_with fail
  refine (heldR_any _ _ Lo Ro Ag _ _ 1 (by decide) (by have := HNR.out; omega) R103.out).mono ?_
  rintro e w18 ⟨rfl, hf⟩
  have m107 := Lib.hid hf.size
  have B108 := Lib.hid (B99.out.fr hf (fun h => h))
  have B109 := Lib.hid (B100.out.fr hf (fun h => h))
  have R110 := Lib.hid (R101.out.fr hf (fun _ _ h => h))
  have R111 := Lib.hid (R103.out.fr hf (fun _ _ h => h))
  have F112 := Lib.hid (F102.out.trans hf)
  clear hf B99 B100 R101 R103 F102 c104 c105 c106
  have hq : ¬ (((1 + ng : Nat) : Int) < 0) := by omega
  go_wp2_with fail
  clear hq
  refine (CN.out _ F112.out).mono ?_
  rintro e w19 ⟨gn2, rfl, hf, _, hqn⟩
  have HQN := Lib.hid hqn
  have m113 := Lib.hid hf.size
  have B114 := Lib.hid (B108.out.fr hf (fun h => h))
  have B115 := Lib.hid (B109.out.fr hf (fun h => h))
  have R116 := Lib.hid (R110.out.fr hf (fun _ _ h => h))
  have R117 := Lib.hid (R111.out.fr hf (fun _ _ h => h))
  have F118 := Lib.hid (F112.out.trans hf)
  clear hf hqn B108 B109 R110 R111 F112
  go_wp2_with fail
  refine (CR.out _ F118.out).mono ?_
  rintro e w20 ⟨gr2, rfl, hf, _, hqr⟩
  have HRN := Lib.hid (hqr _ (Fr.refl _ _))
  have HSN := Lib.hid (HQN.out _ ((Fr.refl No w19).trans hf))
  have m119 := Lib.hid hf.size
  have B120 := Lib.hid (B114.out.fr hf (fun h => h))
  have B121 := Lib.hid (B115.out.fr hf (fun h => h))
  have R122 := Lib.hid (R116.out.fr hf (fun _ _ h => h))
  have R123 := Lib.hid (R117.out.fr hf (fun _ _ h => h))
  have F124 := Lib.hid (F118.out.trans hf)
  clear hf hqr HQN B114 B115 R116 R117 F118
  go_wp2_with fail
  refine (IM.out _ _ _ F124.out HSN.out HRN.out).mono ?_
  rintro e w21 ⟨Ah, nh, ch, rfl, hf, hor⟩
  have m125 := Lib.hid hf.size
  have B126 := Lib.hid (B120.out.fr hf (fun h => h))
  have B127 := Lib.hid (B121.out.fr hf (fun h => h))
  have R128 := Lib.hid (R122.out.fr hf (fun _ _ h => h))
  have R129 := Lib.hid (R123.out.fr hf (fun _ _ h => h))
  have F130 := Lib.hid (F124.out.trans hf)
  have R131 := Lib.hid hor
  have bd132 : Hid (∀ b, Own Ah b → w20.heap.size ≤ b ∧ b < (w21).heap.size) := fun b hb => OR.bounds hor hb
  clear hf hor B120 B121 R122 R123 F124
  clear HSN HRN
  have ha133 : Fr No w21 (w21.alloc (.cells #[.int .i64 Lo, .int .i64 Ro, .slice Ah nh ch] 30)) := (Fr.refl No w21).alloc _
  have m134 := Lib.hid ha133.size
  have B135 := Lib.hid (B126.out.fr ha133 (fun h => h))
  have B136 := Lib.hid (B127.out.fr ha133 (fun h => h))
  have R137 := Lib.hid (R128.out.fr ha133 (fun _ _ h => h))
  have R138 := Lib.hid (R129.out.fr ha133 (fun _ _ h => h))
  have R139 := Lib.hid (R131.out.fr ha133 (fun _ _ h => h))
  have F140 := Lib.hid (F130.out.trans ha133)
  have B141 : Hid (Blk (w21.alloc (.cells #[.int .i64 Lo, .int .i64 Ro, .slice Ah nh ch] 30)) (w21.heap.size) 30 #[.int .i64 Lo, .int .i64 Ro, .slice Ah nh ch]) := Blk.new _ _ _
  clear ha133 B126 B127 R128 R129 R131 F130
  have c142 : World.cell? (w21.alloc (.cells #[.int .i64 Lo, .int .i64 Ro, .slice Ah nh ch] 30)) ⟨w3.heap.size, 0, none⟩ = some (.int .i64 Lo) := (B135.out.cell 0).trans rfl
  have c143 : World.cell? (w21.alloc (.cells #[.int .i64 Lo, .int .i64 Ro, .slice Ah nh ch] 30)) ⟨w3.heap.size, 1, none⟩ = some (.int .i64 Ro) := (B135.out.cell 1).trans rfl
  have c144 : World.cell? (w21.alloc (.cells #[.int .i64 Lo, .int .i64 Ro, .slice Ah nh ch] 30)) ⟨w3.heap.size, 2, none⟩ = some (.slice Ap np cp) := (B135.out.cell 2).trans rfl
  go_wp2_with fail
  generalize (w21.alloc (.cells #[.int .i64 Lo, .int .i64 Ro, .slice Ah nh ch] 30)) = w22 at *
  have hEQ : Calls Tryd.prog 44 #[RV Lo Ro Ah nh ch, RV Lo Ro Ap np cp] w22 fun e w' => e = .returned (.bool true) ∧ Fr No w22 w' := by
    rw [R139.out.1, R137.out.1]
    refine (eqRel_any w22 Lo Ro Lo Ro Ah Ap Po Po ch cp (OR.isl R139.out) (OR.isl R137.out) (by have := HLEN.out; omega) (by have := HLEN.out; omega)).mono ?_
    rintro e w' ⟨b, rfl, hb, hf⟩
    obtain rfl : b = true := hb.2 ⟨rfl, rfl, rfl⟩
    exact ⟨rfl, hf⟩
  have HEQ := Lib.hid hEQ
  clear hEQ
  refine (HEQ.out).mono ?_
  rintro e w23 ⟨rfl, hf⟩
  have m145 := Lib.hid hf.size
  have B146 := Lib.hid (B135.out.fr hf (fun h => h))
  have B147 := Lib.hid (B136.out.fr hf (fun h => h))
  have B148 := Lib.hid (B141.out.fr hf (fun h => h))
  have R149 := Lib.hid (R137.out.fr hf (fun _ _ h => h))
  have R150 := Lib.hid (R138.out.fr hf (fun _ _ h => h))
  have R151 := Lib.hid (R139.out.fr hf (fun _ _ h => h))
  have F152 := Lib.hid (F140.out.trans hf)
  clear hf HEQ B135 B136 B141 R137 R138 R139 F140 c142 c143 c144
  have c153 : World.cell? w23 ⟨w7.heap.size, 0, none⟩ = some (.int .i64 Lo) := (B147.out.cell 0).trans rfl
  have c154 : World.cell? w23 ⟨w7.heap.size, 1, none⟩ = some (.int .i64 Ro) := (B147.out.cell 1).trans rfl
  have c155 : World.cell? w23 ⟨w7.heap.size, 2, none⟩ = some (.slice Ag ng cg) := (B147.out.cell 2).trans rfl
  go_wp2_with fail
  refine (heldR_any _ _ Lo Ro Ag _ _ 1 (by decide) (by have := HNR.out; omega) R150.out).mono ?_
  rintro e w24 ⟨rfl, hf⟩
  have m156 := Lib.hid hf.size
  have B157 := Lib.hid (B146.out.fr hf (fun h => h))
  have B158 := Lib.hid (B147.out.fr hf (fun h => h))
  have B159 := Lib.hid (B148.out.fr hf (fun h => h))
  have R160 := Lib.hid (R149.out.fr hf (fun _ _ h => h))
  have R161 := Lib.hid (R150.out.fr hf (fun _ _ h => h))
  have R162 := Lib.hid (R151.out.fr hf (fun _ _ h => h))
  have F163 := Lib.hid (F152.out.trans hf)
  clear hf B146 B147 B148 R149 R150 R151 F152 c153 c154 c155
  have hq : ¬ (((1 + ng : Nat) : Int) < 0) := by omega
  go_wp2_with fail
  go_ret
  exact ⟨rfl, F163.out⟩
end Go.Proofs.YtloecimlimoanaaDoor
