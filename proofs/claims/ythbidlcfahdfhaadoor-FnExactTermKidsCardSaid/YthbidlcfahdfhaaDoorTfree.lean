/- Free names of the program's terms. -/
import Derived.Test.YthbidlcfahdfhaaDoorTfr
import Derived.Test.YthbidlcfahdfhaaDoorTuse
import Derived.Test.YthbidlcfahdfhaaDoorHas
namespace Go.Proofs.YthbidlcfahdfhaaDoor
open Go.RowKit Go.ChangeMaps

set_option maxRecDepth 100000 in
set_option maxHeartbeats 1000000 in
theorem index_s (w : World) (A : Option Addr) (xs : List (List UInt8)) (c : Nat) (s : List UInt8) (hx : SSl w A xs) (hl : xs.length ≤ 1000000) :
    Calls Tryd.prog 93 #[.slice A xs.length c, S s] w fun e w' => ∃ r : Int, e = .returned (.int .i64 r) ∧ ((0 ≤ r ∧ s ∈ xs) ∨ (r = -1 ∧ s ∉ xs)) ∧ w = w' := by
  have HX := Lib.hid hx
  clear hx
  have hl' : (xs.length : Int) ≤ 1000000 := by omega
  go_enter Tryd.func93, Tryd.ntmps93
  go_wp2_with fail
  go_loop [8] (fun v => ∃ j : Nat, j ≤ xs.length ∧ v = .int .i64 j ∧ s ∉ xs.take j) (fun v => xs.length - (intOf v).toNat)
  case atStart => exact ⟨0, Nat.zero_le _, rfl, by simp⟩
  case round =>
    obtain ⟨j, hj, rfl, hno⟩ := hrel
    have HN := Lib.hid hno
    clear hno
    by_cases hlt : j < xs.length
    · obtain ⟨x, hxj⟩ : ∃ x, xs[j]? = some x := ⟨_, List.getElem?_eq_getElem hlt⟩
      obtain ⟨g, o, rfl, hc⟩ := HX.out j x hxj
      have HXJ := Lib.hid hxj
      clear hxj
      by_cases hpx : s = x
      · subst hpx
        go_wp2_with fail
        go_ret
        exact ⟨_, rfl, .inl ⟨by omega, List.mem_of_getElem? HXJ.out⟩, rfl⟩
      · have hb : (s == x) = false := by simpa using hpx
        have HPX : Hid (x ≠ s) := fun e => hpx e.symm
        clear hpx
        go_wp2_with fail
        go_round
        case rel => exact ⟨j + 1, by omega, by go_num, nots_more HN.out HXJ.out HPX.out⟩
        case measure => simp [intOf]; omega
    · have hjl : j = xs.length := by omega
      have HF : Hid (s ∉ xs) := by
        have := HN.out
        rw [hjl, List.take_length] at this
        exact this
      clear hjl
      go_wp2_with fail
      go_ret
      exact ⟨_, rfl, .inr ⟨rfl, HF.out⟩, rfl⟩

set_option maxHeartbeats 400000 in
theorem contains_s (w : World) (A : Option Addr) (xs : List (List UInt8)) (c : Nat) (s : List UInt8) (hx : SSl w A xs) (hl : xs.length ≤ 1000000) :
    Calls Tryd.prog 77 #[.slice A xs.length c, S s] w fun e w' => HasS xs s w e w' := by
  have IX := Lib.hid (index_s w A xs c s hx hl)
  clear hx
  go_enter Tryd.func77, Tryd.ntmps77
  go_wp2_with fail
  refine IX.out.mono ?_
  rintro e w' ⟨r, rfl, ⟨hr, hm⟩ | ⟨rfl, hm⟩, rfl⟩
  · have hd : decide (r ≥ 0) = true := by simpa using hr
    go_wp2_with fail
    go_ret
    exact ⟨true, rfl, ⟨fun _ => hm, fun _ => rfl⟩, rfl⟩
  · go_wp2_with fail
    go_ret
    exact ⟨false, rfl, ⟨fun h => (by cases h), fun h => (hm h).elim⟩, rfl⟩

/-- texts in a row of the call's own; of what lies below B nothing turns; the row is the old one or new -/
def AddL (B : Nat) (xs : List (List UInt8)) (w : World) (v : Value) (e : Ending) (w' : World) : Prop :=
  ∃ A c, e = .returned (.slice A xs.length c) ∧ Fr (fun b => v.ownBlock = some b) w w' ∧ w'.ownsRow B 9 1 (.slice A xs.length c) xs.length (xs.map S) ∧
    ((Value.slice A xs.length c).ownBlock = v.ownBlock ∨ ∀ b, (Value.slice A xs.length c).ownBlock = some b → w.heap.size ≤ b)

/-- one text more, behind a world that has only laid blocks -/
theorem AddL.snoc {B : Nat} {w wa w2 : World} {l : List (List UInt8)} {x : List UInt8} {V : Option Addr} {vc : Nat} {v' : Value} (hfa : Fr (fun b => (Value.slice V l.length vc).ownBlock = some b) w wa) (h1 : w2.ownsRow B 9 1 v' (l.length + 1) (l.map S ++ [S x])) (h2 : wa.grownBy w2 (Value.slice V l.length vc).ownBlock)
    (h3 : v'.ownBlock = (Value.slice V l.length vc).ownBlock ∨ v'.ownBlock = some wa.heap.size) : AddL B (l ++ [x]) w (.slice V l.length vc) (.returned v') w2 := by
  obtain ⟨A', c', rfl⟩ := own_form h1
  have e1 : l.map S ++ [S x] = (l ++ [x]).map S := by simp
  have e2 : (l ++ [x]).length = l.length + 1 := by simp
  rw [e1] at h1
  refine ⟨A', c', by rw [e2], ?_, by rw [e2]; exact h1, ?_⟩
  · exact hfa.grown h2 (fun k hk => .inl hk)
  · rw [e2]
    rcases h3 with h3 | h3
    · exact .inl h3
    · refine .inr (fun b hb => ?_)
      have hb' : some wa.heap.size = some b := h3.symm.trans hb
      injection hb' with hb'
      rw [← hb']; exact hfa.size

def FrSaid (k : Ts) : Prop := ∀ (h a : List UInt8) (d p : Nat) (w : World) (T : Nat → Prop) (B : Nat) (V : Option Addr) (vc : Nat) (l : List (List UInt8)), k.size ≤ 5000 → l.length + k.size ≤ 100000 → B ≤ w.heap.size →
  (∀ b, T b → b < w.heap.size ∧ (Value.slice V l.length vc).ownBlock ≠ some b) → Tm w T p h a d k → w.ownsRow B 9 1 (.slice V l.length vc) l.length (l.map S) →
  Calls Tryd.prog 60 #[.slice V l.length vc, Ptr p] w fun e w' => AddL B (frN h a k l) w (.slice V l.length vc) e w'

theorem frN_not {h a : List UInt8} {k : Ts} {l : List (List UInt8)} (hq : freeB h a = false ∨ a ∈ l) : frN h a k l = frU k l := by
  unfold frN
  rw [if_neg]
  rintro ⟨h1, h2, h3⟩
  rcases hq with hq | hq
  · simp [freeB, h1, h2] at hq
  · exact h3 hq

theorem frN_yes {h a : List UInt8} {k : Ts} {l : List (List UInt8)} (hq : freeB h a = true) (hm : a ∉ l) : frN h a k l = l ++ [a] := by
  unfold frN
  rw [if_pos]
  simp [freeB] at hq
  exact ⟨hq.1, hq.2, hm⟩

theorem fr_step {f : Ts} {j : Nat} {h a : List UInt8} {d : Nat} {k : Ts} (e : f.nth j = some (h, a, d, k)) (l : List (List UInt8)) : frU (f.from_ j) l = frU (f.from_ (j + 1)) (frN h a k l) := by
  rw [Ts.from_nth f j h a d k e]
  rfl

set_option maxRecDepth 100000 in
set_option maxHeartbeats 1000000 in
theorem free_node (k : Ts) (hN : ∀ h a d k' j, k.nth j = some (h, a, d, k') → FrSaid k') : FrSaid k := by
  intro h a d p w T B V vc l hs hlen hB hT ht ho
  have HN := Lib.hid hN
  have HB := Lib.hid hB
  have HT := Lib.hid hT
  have HO := Lib.hid ho
  clear hN
  obtain ⟨hp, A, c, hb, hsl⟩ := ht.open_
  have FR := Lib.hid (free_any w p h a _ _ _ hb)
  have c1 : w.cell? ⟨p, 1, none⟩ = some (S a) := (hb.cell 1).trans rfl
  have c3 : w.cell? ⟨p, 3, none⟩ = some (.slice A k.len c) := (hb.cell 3).trans rfl
  have hlt := hb.lt
  have hln := Ts.len_size k
  have hl6 : (k.len : Int) ≤ 5000 := by omega
  have hl2 : l.length ≤ 100000 := by omega
  have HSL := Lib.hid hsl
  have CON : Hid (Calls Tryd.prog 77 #[.slice V l.length vc, S a] w fun e w' => HasS l a w e w') := contains_s w V l vc a (SSl.of_own ho) (by omega)
  clear hb ht hT hB ho hsl
  rcases hq : freeB h a with _ | _
  · have HR : Hid (frN h a k l = frU k l) := frN_not (.inl hq)
    rw [hq] at FR
    clear hq
    go_enter Tryd.func60, Tryd.ntmps60
    go_wp2_with fail
    refine FR.out.mono ?_
    rintro e w1 ⟨rfl, rfl⟩
    go_wp2_with fail
    go_loopw [0, 30] (fun v i wr => ∃ (j : Nat) (l' : List (List UInt8)) (A' : Option Addr) (c' : Nat), j ≤ k.len ∧ i = .int .i64 j ∧ v = .slice A' l'.length c' ∧ frU (k.from_ j) l' = frU k l ∧ l'.length ≤ l.length + k.sizeTo j ∧ Fr (fun b => (Value.slice V l.length vc).ownBlock = some b) w wr ∧
        wr.ownsRow B 9 1 (.slice A' l'.length c') l'.length (l'.map S) ∧ ((Value.slice A' l'.length c').ownBlock = (Value.slice V l.length vc).ownBlock ∨ ∀ b, (Value.slice A' l'.length c').ownBlock = some b → w.heap.size ≤ b)) (fun _ i _ => k.len - (intOf i).toNat)
    case atStart => exact ⟨0, l, V, vc, Nat.zero_le _, rfl, rfl, by rw [Ts.from_zero], by omega, Fr.refl _ _, HO.out, .inl rfl⟩
    case round =>
      obtain ⟨j, l', A', c', hj, rfl, rfl, hsum, hll, hfr, hown, hloc⟩ := hrel
      have HS := Lib.hid hsum
      have HW := Lib.hid hown
      have HL := Lib.hid hloc
      have HLL := Lib.hid hll
      clear hsum hown hloc hll
      by_cases hlt : j < k.len
      · have hTw : ∀ b, T b → wr.heap[b]? = w.heap[b]? := fun b hb => hfr.block b (HT.out b hb).1 (HT.out b hb).2
        obtain ⟨g, o, q, h', a', d', k', rfl, hg, hn, hc, htm⟩ := (HSL.out.mono (T' := T) (fun _ h => h) hTw).at_ hlt
        have hst := fr_step hn l'
        have hz := Ts.nth_size hn
        have hzs := Ts.sizeTo_succ k j h' a' d' k' hn
        have hzl := Ts.sizeTo_le k (j + 1)
        have HST := Lib.hid hst
        have hlg := block_lt hc
        have hnl := fr_nlen h' a' k' l'
        have HZ : Hid ((frN h' a' k' l').length ≤ l.length + k.sizeTo (j + 1)) := by
          have := HLL.out
          show _ ≤ _
          split at hzs <;> omega
        have CALL : Hid (Calls Tryd.prog 60 #[.slice A' l'.length c', Ptr q] wr fun e w' => AddL B (frN h' a' k' l') wr (.slice A' l'.length c') e w') := by
          refine HN.out h' a' d' k' j hn h' a' d' q wr T B A' c' l' (by omega) (by have := HLL.out; split at hzs <;> omega) (Nat.le_trans HB.out hfr.size) (fun b hb => ⟨Nat.lt_of_lt_of_le (HT.out b hb).1 hfr.size, fun e => ?_⟩) htm HW.out
          rcases HL.out with h1 | h1
          · exact (HT.out b hb).2 (h1 ▸ e)
          · have := h1 b e; have := (HT.out b hb).1; omega
        clear hst htm hn hz hzs hzl hnl hTw
        go_wp2_with fail
        refine CALL.out.mono ?_
        rintro e w1 ⟨A2, c2, rfl, g1, g2, g3⟩
        have REL : Hid (Fr (fun b => (Value.slice V l.length vc).ownBlock = some b) w w1 ∧ ((Value.slice A2 (frN h' a' k' l').length c2).ownBlock = (Value.slice V l.length vc).ownBlock ∨ ∀ b, (Value.slice A2 (frN h' a' k' l').length c2).ownBlock = some b → w.heap.size ≤ b)) := by
          refine ⟨hfr.then_ g1 (fun i hi e => ?_), ?_⟩
          · rcases HL.out with h1 | h1
            · exact h1 ▸ e
            · have := h1 i e; omega
          · rcases g3 with g3 | g3
            · rcases HL.out with h1 | h1
              · exact .inl (g3.trans h1)
              · exact .inr (fun b hb => h1 b (g3 ▸ hb))
            · exact .inr (fun b hb => Nat.le_trans hfr.size (g3 b hb))
        have HG2 := Lib.hid g2
        clear g1 g2 g3
        go_wp2_with fail
        go_roundw
        case rel => exact ⟨j + 1, frN h' a' k' l', A2, c2, by omega, by go_num, rfl, by rw [← HST.out]; exact HS.out, HZ.out, REL.out.1, HG2.out, REL.out.2⟩
        case measure => simp [intOf]; omega
      · have hjl : j = k.len := by omega
        have HF : Hid (AddL B (frN h a k l) w (.slice V l.length vc) (.returned (.slice A' l'.length c')) wr) := by
          have e1 := HS.out
          rw [hjl, Ts.from_len] at e1
          have e2 : frN h a k l = l' := by rw [HR.out, ← e1]; rfl
          rw [e2]
          exact ⟨A', c', rfl, hfr, HW.out, HL.out⟩
        clear hjl
        go_wp2_with fail
        go_ret
        exact HF.out
  · rw [hq] at FR
    have HQ := Lib.hid hq
    clear hq
    go_enter Tryd.func60, Tryd.ntmps60
    go_wp2_with fail
    refine FR.out.mono ?_
    rintro e w1 ⟨rfl, rfl⟩
    go_wp2_with fail
    refine CON.out.mono ?_
    rintro e w1 ⟨bb, rfl, hbb, rfl⟩
    cases bb
    · have hni : a ∉ l := fun h => by have := hbb.2 h; cases this
      have HE := Lib.hid (frN_yes (k := k) HQ.out hni)
      clear hbb hni
      obtain ⟨i0, hi0, hz0, hz1, hz2⟩ := info_parts info_str
      have HC1 : Hid (∀ (j : Nat) (u : Value), [S a][j]? = some u → (w.alloc (.cells #[S a] 9)).cell? ((⟨w.heap.size, 0, none⟩ : Addr).add j) = some u) := cells_new rfl [S a] 9
      have HC2 : Hid (∀ u ∈ [S a], u.oneCell' = true) := by
        intro u hu
        simp at hu
        rw [hu]; rfl
      have HC5 : Hid (∀ o : Obj, B ≤ (w.alloc o).heap.size) := fun o => by have := HB.out; simp; omega
      have bnd : (l.length + 1) * 16 ≤ 140737488355328 := by omega
      have bnd2 : l.length + 1 ≤ maxLen := by unfold maxLen; omega
      have FIN : Hid (∀ (o : Obj) (v' : Value) (w2 : World), w2.ownsRow B 9 1 v' (l.length + 1) (l.map S ++ [S a]) → (w.alloc o).grownBy w2 (Value.slice V l.length vc).ownBlock →
          (v'.ownBlock = (Value.slice V l.length vc).ownBlock ∨ v'.ownBlock = some (w.alloc o).heap.size) → AddL B (frN h a k l) w (.slice V l.length vc) (.returned v') w2) := by
        intro o v' w2 h1 h2 h3
        rw [HE.out]
        exact AddL.snoc ((Fr.refl _ w).alloc o) h1 h2 h3
      have HOA : Hid (∀ o : Obj, (w.alloc o).ownsRow B 9 1 (.slice V l.length vc) l.length (l.map S)) := fun o => HO.out.alloc o
      go_wp2_with (at_builtin; go_must (refine wpList_append_own_at _ rfl _ _ 24 rfl B 9 i0 (.string ⟨#[]⟩) 1 16 Tryd.underlying24 hi0 hz0 hz1 hz2 rfl (by decide) _ l.length (l.map S) rfl (HOA.out _) ⟨w.heap.size, 0, none⟩ 1 1 [S a] rfl rfl HC1.out HC2.out bnd2 bnd (HC5.out _) ?_); intro v' w2 hown' hgrow _ hloc; have HF := Lib.hid (FIN.out _ v' w2 hown' hgrow hloc); clear hown' hgrow hloc)
      go_ret
      exact HF.out
    · have hni : a ∈ l := hbb.1 rfl
      have HR : Hid (frN h a k l = frU k l) := frN_not (.inr hni)
      clear hbb hni
      go_wp2_with fail
      go_loopw [0, 30] (fun v i wr => ∃ (j : Nat) (l' : List (List UInt8)) (A' : Option Addr) (c' : Nat), j ≤ k.len ∧ i = .int .i64 j ∧ v = .slice A' l'.length c' ∧ frU (k.from_ j) l' = frU k l ∧ l'.length ≤ l.length + k.sizeTo j ∧ Fr (fun b => (Value.slice V l.length vc).ownBlock = some b) w wr ∧
          wr.ownsRow B 9 1 (.slice A' l'.length c') l'.length (l'.map S) ∧ ((Value.slice A' l'.length c').ownBlock = (Value.slice V l.length vc).ownBlock ∨ ∀ b, (Value.slice A' l'.length c').ownBlock = some b → w.heap.size ≤ b)) (fun _ i _ => k.len - (intOf i).toNat)
      case atStart => exact ⟨0, l, V, vc, Nat.zero_le _, rfl, rfl, by rw [Ts.from_zero], by omega, Fr.refl _ _, HO.out, .inl rfl⟩
      case round =>
        obtain ⟨j, l', A', c', hj, rfl, rfl, hsum, hll, hfr, hown, hloc⟩ := hrel
        have HS := Lib.hid hsum
        have HW := Lib.hid hown
        have HL := Lib.hid hloc
        have HLL := Lib.hid hll
        clear hsum hown hloc hll
        by_cases hlt : j < k.len
        · have hTw : ∀ b, T b → wr.heap[b]? = w.heap[b]? := fun b hb => hfr.block b (HT.out b hb).1 (HT.out b hb).2
          obtain ⟨g, o, q, h', a', d', k', rfl, hg, hn, hc, htm⟩ := (HSL.out.mono (T' := T) (fun _ h => h) hTw).at_ hlt
          have hst := fr_step hn l'
          have hz := Ts.nth_size hn
          have hzs := Ts.sizeTo_succ k j h' a' d' k' hn
          have hzl := Ts.sizeTo_le k (j + 1)
          have HST := Lib.hid hst
          have hlg := block_lt hc
          have hnl := fr_nlen h' a' k' l'
          have HZ : Hid ((frN h' a' k' l').length ≤ l.length + k.sizeTo (j + 1)) := by
            have := HLL.out
            show _ ≤ _
            split at hzs <;> omega
          have CALL : Hid (Calls Tryd.prog 60 #[.slice A' l'.length c', Ptr q] wr fun e w' => AddL B (frN h' a' k' l') wr (.slice A' l'.length c') e w') := by
            refine HN.out h' a' d' k' j hn h' a' d' q wr T B A' c' l' (by omega) (by have := HLL.out; split at hzs <;> omega) (Nat.le_trans HB.out hfr.size) (fun b hb => ⟨Nat.lt_of_lt_of_le (HT.out b hb).1 hfr.size, fun e => ?_⟩) htm HW.out
            rcases HL.out with h1 | h1
            · exact (HT.out b hb).2 (h1 ▸ e)
            · have := h1 b e; have := (HT.out b hb).1; omega
          clear hst htm hn hz hzs hzl hnl hTw
          go_wp2_with fail
          refine CALL.out.mono ?_
          rintro e w1 ⟨A2, c2, rfl, g1, g2, g3⟩
          have REL : Hid (Fr (fun b => (Value.slice V l.length vc).ownBlock = some b) w w1 ∧ ((Value.slice A2 (frN h' a' k' l').length c2).ownBlock = (Value.slice V l.length vc).ownBlock ∨ ∀ b, (Value.slice A2 (frN h' a' k' l').length c2).ownBlock = some b → w.heap.size ≤ b)) := by
            refine ⟨hfr.then_ g1 (fun i hi e => ?_), ?_⟩
            · rcases HL.out with h1 | h1
              · exact h1 ▸ e
              · have := h1 i e; omega
            · rcases g3 with g3 | g3
              · rcases HL.out with h1 | h1
                · exact .inl (g3.trans h1)
                · exact .inr (fun b hb => h1 b (g3 ▸ hb))
              · exact .inr (fun b hb => Nat.le_trans hfr.size (g3 b hb))
          have HG2 := Lib.hid g2
          clear g1 g2 g3
          go_wp2_with fail
          go_roundw
          case rel => exact ⟨j + 1, frN h' a' k' l', A2, c2, by omega, by go_num, rfl, by rw [← HST.out]; exact HS.out, HZ.out, REL.out.1, HG2.out, REL.out.2⟩
          case measure => simp [intOf]; omega
        · have hjl : j = k.len := by omega
          have HF : Hid (AddL B (frN h a k l) w (.slice V l.length vc) (.returned (.slice A' l'.length c')) wr) := by
            have e1 := HS.out
            rw [hjl, Ts.from_len] at e1
            have e2 : frN h a k l = l' := by rw [HR.out, ← e1]; rfl
            rw [e2]
            exact ⟨A', c', rfl, hfr, HW.out, HL.out⟩
          clear hjl
          go_wp2_with fail
          go_ret
          exact HF.out

theorem free_all (N : Nat) : ∀ k : Ts, SizeOf.sizeOf k < N → FrSaid k := by
  induction N with
  | zero => intro k h; omega
  | succ N ih =>
    intro k hN
    exact free_node k (fun h a d k' j hn => ih k' (by have := Ts.nth_small k j h a d k' hn; omega))
end Go.Proofs.YthbidlcfahdfhaaDoor
