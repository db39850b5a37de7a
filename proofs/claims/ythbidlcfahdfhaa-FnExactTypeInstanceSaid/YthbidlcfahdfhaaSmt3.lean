/- l1Match at o, and at a variable that stands already. -/
import Derived.Test.YthbidlcfahdfhaaSmt
namespace Go.Proofs.Ythbidlcfahdfhaa
open Go.RowKit Go.ChangeMaps

theorem atom_o {u : Ty} (hu : u.lets) : u.atom = [111] ↔ u = .o := by
  cases u with
  | v n =>
    have := (Ty.letter_ne hu).1
    simp [Ty.atom]
    exact this
  | o => simp [Ty.atom]
  | n f l r => simp [Ty.atom]

set_option maxRecDepth 100000 in
set_option maxHeartbeats 1000000 in
theorem sm_o : SmSaid .o := by
  intro w T A c u A' c' B N nc M mc ms n hn hok hlen hu hsz hB hT hA hA' hms
  simp only [Ty.atom, Ty.kids, Fo.len]
  change Calls _ _ #[_, .agg #[S u.atom, .slice A' u.kids.len c'], _, _] _ _
  have hiff := atom_o hu
  have b0 := (Blk.new w 49 #[S [111], .slice A 0 c]).alloc (.cells #[S u.atom, .slice A' u.kids.len c'] 49)
  have b1 : Blk ((w.alloc (.cells #[S [111], .slice A 0 c] 49)).alloc (.cells #[S u.atom, .slice A' u.kids.len c'] 49)) (w.heap.size + 1) 49 #[S u.atom, .slice A' u.kids.len c'] := Blk.new_at _ _ _ (by simp)
  have hf0 : Fr No w ((w.alloc (.cells #[S [111], .slice A 0 c] 49)).alloc (.cells #[S u.atom, .slice A' u.kids.len c'] 49)) := ((Fr.refl _ _).alloc _).alloc _
  have HV : Hid (isVar [111] = false) := rfl
  have HVL : Hid (([111] : List UInt8).length ≤ maxLen) := by show 1 ≤ maxLen; unfold maxLen; omega
  have c0 : ((w.alloc (.cells #[S [111], .slice A 0 c] 49)).alloc (.cells #[S u.atom, .slice A' u.kids.len c'] 49)).cell? ⟨w.heap.size, 0, none⟩ = some (S [111]) := (b0.cell 0).trans rfl
  have c1 : ((w.alloc (.cells #[S [111], .slice A 0 c] 49)).alloc (.cells #[S u.atom, .slice A' u.kids.len c'] 49)).cell? ⟨w.heap.size + 1, 0, none⟩ = some (S u.atom) := (b1.cell 0).trans rfl
  have hTw : ∀ b, T b → b < w.heap.size := fun b hb => Nat.lt_of_lt_of_le (hT b hb) hB
  have FIN : Hid (∀ w' bb, Fr No w w' → (bb = true ↔ u = .o) → SmR B T (.slice N n nc) (.slice M n mc) (mt .o u ms) w (.returned (.tuple #[.slice N n nc, .slice M n mc, .bool bb])) w') := by
    intro w' bb hf hb
    rw [mt_o]
    by_cases h : u = .o
    · rw [if_pos h]
      refine ⟨_, _, _, _, _, _, by rw [hb.2 h]; rfl, hf.mono (fun _ _ h => h.elim), fun ms' h' => ?_⟩
      injection h' with h'
      subst h'
      exact ⟨hn, hn, hms.fr hTw hf, .inl rfl, .inl rfl⟩
    · rw [if_neg h]
      have : bb = false := Bool.eq_false_iff.2 fun e => h (hb.1 e)
      exact ⟨_, _, _, _, _, _, by rw [this]; rfl, hf.mono (fun _ _ h => h.elim), fun ms' h' => by cases h'⟩
  clear b0 b1 hA hA' hms hok hu hsz hn hlen hB hT hTw
  generalize mt .o u ms = res at FIN ⊢
  generalize u.kids.len = ul at c0 c1 hf0 ⊢
  generalize u.atom = ua at c0 c1 hf0 hiff ⊢
  have HI := Lib.hid hiff
  clear hiff
  by_cases h111 : ua = [111]
  · have HO := Lib.hid (HI.out.1 h111)
    subst h111
    go_enter Try.func73, Try.ntmps73
    go_wp2_with fail
    generalize ((w.alloc (.cells #[S [111], .slice A 0 c] 49)).alloc (.cells #[S [111], .slice A' ul c'] 49)) = W at *
    refine (var_any2 [111] _ HVL.out).mono ?_
    rintro e w' ⟨rfl, rfl⟩
    rw [HV.out]
    go_wp2_with fail
    go_region
    all_goals go_wp2_with fail
    refine bodyPost_ret (v := .tuple #[.slice N n nc, .slice M n mc, .bool true]) (by simp [results, Try.results73, go_sem]) rfl ?_
    exact FIN.out _ _ hf0.drew ⟨fun _ => HO.out, fun _ => rfl⟩
  · have HO := Lib.hid (fun h => h111 (HI.out.2 h))
    have n1 : (([111] : List UInt8) == ua) = false := by
      rw [Bool.eq_false_iff]
      exact fun e => h111 (eq_of_beq e).symm
    clear h111
    go_enter Try.func73, Try.ntmps73
    go_wp2_with fail
    generalize ((w.alloc (.cells #[S [111], .slice A 0 c] 49)).alloc (.cells #[S ua, .slice A' ul c'] 49)) = W at *
    refine (var_any2 [111] _ HVL.out).mono ?_
    rintro e w' ⟨rfl, rfl⟩
    rw [HV.out]
    go_wp2_with fail
    go_region
    all_goals go_wp2_with fail
    refine bodyPost_ret (v := .tuple #[.slice N n nc, .slice M n mc, .bool false]) (by simp [results, Try.results73, go_sem]) rfl ?_
    exact FIN.out _ _ hf0.drew ⟨fun h => (by cases h), fun h => (HO.out h).elim⟩

theorem MS.name_at {w w' : World} {B n nc : Nat} {T : Nat → Prop} {ms : List (Nat × Ty)} {N : Option Addr} {U : Value} (h : MS w B T ms (.slice N n nc) U) (hn : n = ms.length) (hf : Fr No w w') {j : Nat} {p : Nat × Ty} (hj : ms[j]? = some p) :
    ∃ g o, N = some ⟨g, o, none⟩ ∧ w'.cell? ⟨g, o + j, none⟩ = some (S [Ty.letter p.1]) := by
  subst hn
  have h1 := h.names
  have e : (namesOf ms).length = ms.length := by simp [namesOf]
  have h2 : SSl w N (namesOf ms) := SSl.of_own (c := nc) (B := B) (by rw [e]; exact h1)
  exact (h2.fr hf) j [Ty.letter p.1] (by simp [namesOf, hj])

theorem MS.by_at {w w' : World} {B n mc : Nat} {T : Nat → Prop} {ms : List (Nat × Ty)} {M : Option Addr} {V : Value} (h : MS w B T ms V (.slice M n mc)) (hn : n = ms.length) (hT : ∀ b, T b → b < w.heap.size) (hf : Fr No w w') {j : Nat} {p : Nat × Ty} (hj : ms[j]? = some p) :
    ∃ g o A' c', M = some ⟨g, o, none⟩ ∧ w'.cell? ⟨g, o + j * 2, none⟩ = some (S p.2.atom) ∧ w'.cell? ⟨g, o + j * 2 + 1, none⟩ = some (.slice A' p.2.kids.len c') ∧ Sl w' (Old w) A' p.2.kids ∧ g < w'.heap.size := by
  subst hn
  have hjl := (List.getElem?_eq_some_iff.1 hj).1
  obtain ⟨ys, h1, h2⟩ := h.bys
  have hsl : Sl w (Old w) M (tysFo (ms.map Prod.snd)) := by
    rcases h1.2 with ⟨_, hz⟩ | ⟨g, cap, cur, hv, _⟩
    · omega
    · injection hv with e1 e2 e3
      have hgl := h1.lt g (by rw [e1]; rfl)
      refine .inr ⟨g, 0, ys, e1, hgl.2, h2.mono (fun b hb => hT b hb) (fun _ _ => rfl), fun i u hi => ?_⟩
      have := h1.cells (g := g) (by rw [e1]; rfl) i u hi
      rw [addr_add] at this
      exact this
  obtain ⟨g, o, a', k', A', c', e, hg, hnth, g1, g2, g3⟩ := hsl.nth (j := j) (by rw [tysFo_len]; simpa using hjl)
  rw [tysFo_nth, List.getElem?_map, hj] at hnth
  simp at hnth
  obtain ⟨rfl, rfl⟩ := hnth
  exact ⟨g, o, A', c', e, (hf.cell (p := ⟨g, o + j * 2, none⟩) hg (fun h => h)).trans g1, (hf.cell (p := ⟨g, o + j * 2 + 1, none⟩) hg (fun h => h)).trans g2, g3.keepT (fun b hb => hb) hf, Nat.lt_of_lt_of_le hg hf.size⟩

set_option maxRecDepth 100000 in
set_option maxHeartbeats 2000000 in
theorem sm_v_old (k : Nat) (hk : k < 25) (x : Ty) (w : World) (T : Nat → Prop) (A : Option Addr) (c : Nat) (u : Ty) (A' : Option Addr) (c' B : Nat) (N : Option Addr) (nc : Nat) (M : Option Addr) (mc : Nat) (ms : List (Nat × Ty)) (n : Nat) (hn : n = ms.length)
    (hok : OkM ms) (hlen : ms.length ≤ 1000) (hu : u.lets) (hsz : u.size ≤ 40) (hTw : ∀ b, T b → b < w.heap.size) (hA' : Sl w T A' u.kids) (hms : MS w B T ms (.slice N n nc) (.slice M n mc)) (hx : asg ms k = some x) :
    Calls Try.prog 73 #[.agg #[S [Ty.letter k], .slice A 0 c], .agg #[S u.atom, .slice A' u.kids.len c'], .slice N n nc, .slice M n mc] w
      fun e w' => SmR B T (.slice N n nc) (.slice M n mc) (mt (.v k) u ms) w e w' := by
  have b0 := (Blk.new w 49 #[S [Ty.letter k], .slice A 0 c]).alloc (.cells #[S u.atom, .slice A' u.kids.len c'] 49)
  have b1 : Blk ((w.alloc (.cells #[S [Ty.letter k], .slice A 0 c] 49)).alloc (.cells #[S u.atom, .slice A' u.kids.len c'] 49)) (w.heap.size + 1) 49 #[S u.atom, .slice A' u.kids.len c'] := Blk.new_at _ _ _ (by simp)
  have hf0 : Fr No w ((w.alloc (.cells #[S [Ty.letter k], .slice A 0 c] 49)).alloc (.cells #[S u.atom, .slice A' u.kids.len c'] 49)) := ((Fr.refl _ _).alloc _).alloc _
  have hl : (n : Int) ≤ 1000 := by omega
  have HV : Hid (isVar [Ty.letter k] = true) := isVar_letter hk
  have HVL : Hid (([Ty.letter k] : List UInt8).length ≤ maxLen) := by show 1 ≤ maxLen; unfold maxLen; omega
  have FIN : Hid (∀ w' bb, Fr No w w' → (bb = true ↔ x = u) → SmR B T (.slice N n nc) (.slice M n mc) (mt (.v k) u ms) w (.returned (.tuple #[.slice N n nc, .slice M n mc, .bool bb])) w') := by
    intro w' bb hf hb
    have e : mt (.v k) u ms = if x = u then some ms else none := by simp [mt, hx]
    rw [e]
    by_cases h : x = u
    · rw [if_pos h]
      refine ⟨_, _, _, _, _, _, by rw [hb.2 h]; rfl, hf.mono (fun _ _ h => h.elim), fun ms' h' => ?_⟩
      injection h' with h'
      subst h'
      exact ⟨hn, hn, hms.fr hTw hf, .inl rfl, .inl rfl⟩
    · rw [if_neg h]
      have : bb = false := Bool.eq_false_iff.2 fun e => h (hb.1 e)
      exact ⟨_, _, _, _, _, _, by rw [this]; rfl, hf.mono (fun _ _ h => h.elim), fun ms' h' => by cases h'⟩
  have FOUND : Hid (∀ (j : Nat) (p : Nat × Ty), ms[j]? = some p → (∀ p ∈ ms.take j, p.1 ≠ k) → p.1 = k → p.2 = x) := by
    intro j p hj hno hp
    subst hp
    have := asg_at hno hj
    rw [hx] at this
    injection this with this
    exact this.symm
  have NONE : Hid ((∀ p ∈ ms.take n, p.1 ≠ k) → False) := by
    intro h
    rw [hn, List.take_length] at h
    rw [asg_none.2 h] at hx
    cases hx
  have NAMES : Hid (∀ (w' : World) (j : Nat) (p : Nat × Ty), Fr No w w' → ms[j]? = some p → ∃ g o, N = some ⟨g, o, none⟩ ∧ w'.cell? ⟨g, o + j, none⟩ = some (S [Ty.letter p.1])) := fun w' j p hf hj => hms.name_at hn hf hj
  have BYS : Hid (∀ (w' : World) (j : Nat) (p : Nat × Ty), Fr No w w' → ms[j]? = some p → ∃ g o A' c', M = some ⟨g, o, none⟩ ∧ w'.cell? ⟨g, o + j * 2, none⟩ = some (S p.2.atom) ∧ w'.cell? ⟨g, o + j * 2 + 1, none⟩ = some (.slice A' p.2.kids.len c') ∧ Sl w' (Old w) A' p.2.kids ∧ g < w'.heap.size) := fun w' j p hf hj => hms.by_at hn hTw hf hj
  have TXU : Hid (∀ w', Fr No w w' → Calls Try.prog 67 #[.agg #[S u.atom, .slice A' u.kids.len c']] w' fun e w2 => e = .returned (S u.text) ∧ Fr No w' w2) := fun w' hf =>
    spec_part u hu hsz A' c' w' (Old w) (fun b hb => Nat.lt_of_lt_of_le hb hf.size) ((hA'.in_old hTw).keepT (fun b hb => hb) hf)
  have TXP : Hid (∀ w' w0 (A2 : Option Addr) (c2 : Nat) (p : Nat × Ty), p ∈ ms → Fr No w w0 → Fr No w0 w' → Sl w0 (Old w) A2 p.2.kids → Calls Try.prog 67 #[.agg #[S p.2.atom, .slice A2 p.2.kids.len c2]] w' fun e w2 => e = .returned (S p.2.text) ∧ Fr No w' w2) := fun w' w0 A2 c2 p hp hf hf' hs =>
    spec_part p.2 (hok p hp).2.1 (hok p hp).2.2 A2 c2 w' (Old w) (fun b hb => Nat.lt_of_lt_of_le hb (hf.trans hf').size) (hs.keepT (fun b hb => Nat.lt_of_lt_of_le hb hf.size) hf')
  have NEQ : Hid (x ≠ u → (∃ p ∈ ms, p.2 = x) → (x.text == u.text) = false) := by
    rintro h ⟨p, hp, rfl⟩
    rw [Bool.eq_false_iff]
    exact fun e => h (Ty.text_inj (hok p hp).2.1 hu (eq_of_beq e))
  have MSK : Hid (∀ p ∈ ms, p.1 < 25) := fun p hp => (hok p hp).1
  have HN := Lib.hid hn
  clear hms hA' hx hok hn
  go_enter Try.func73, Try.ntmps73
  go_wp2_with fail
  generalize ((w.alloc (.cells #[S [Ty.letter k], .slice A 0 c] 49)).alloc (.cells #[S u.atom, .slice A' u.kids.len c'] 49)) = W at b0 b1 hf0 ⊢
  have c00 : W.cell? ⟨w.heap.size, 0, none⟩ = some (S [Ty.letter k]) := (b0.cell 0).trans rfl
  refine (var_any2 [Ty.letter k] _ HVL.out).mono ?_
  rintro e w' ⟨rfl, rfl⟩
  rw [HV.out]
  clear c00
  go_wp2_with fail
  go_loopw [11] (fun v wr => ∃ (j : Nat), j ≤ n ∧ v = .int .i64 j ∧ (∀ p ∈ ms.take j, p.1 ≠ k) ∧ Fr No W wr) (fun v _ => n - (intOf v).toNat)
  case atStart => exact ⟨0, Nat.zero_le _, rfl, by simp, Fr.refl _ _⟩
  case round =>
    obtain ⟨j, hj, rfl, hno, hfr⟩ := hrel
    have HNO := Lib.hid hno
    have HFR := Lib.hid hfr
    have d0 := b0.fr hfr (fun h => h)
    have d1 := b1.fr hfr (fun h => h)
    have c0 : wr.cell? ⟨w.heap.size, 0, none⟩ = some (S [Ty.letter k]) := (d0.cell 0).trans rfl
    have r0 : wr.cell? ⟨w.heap.size + 1, 0, none⟩ = some (S u.atom) := (d1.cell 0).trans rfl
    have r1 : wr.cell? ⟨w.heap.size + 1, 1, none⟩ = some (.slice A' u.kids.len c') := (d1.cell 1).trans rfl
    have l0 := d0.lt
    have l1 := d1.lt
    have BX : Hid (∀ w', Fr No wr w' → w'.cell? ⟨w.heap.size + 1, 0, none⟩ = some (S u.atom) ∧ w'.cell? ⟨w.heap.size + 1, 1, none⟩ = some (.slice A' u.kids.len c')) := fun w' hf => ⟨((d1.fr hf (fun h => h)).cell 0).trans rfl, ((d1.fr hf (fun h => h)).cell 1).trans rfl⟩
    clear hno hfr d0 d1
    by_cases hlt : j < n
    · obtain ⟨p, hp⟩ : ∃ p, ms[j]? = some p := ⟨_, List.getElem?_eq_getElem (by have := HN.out; omega)⟩
      obtain ⟨g, o, rfl, hname⟩ := NAMES.out wr j p (hf0.trans HFR.out) hp
      by_cases hpk : p.1 = k
      · obtain ⟨g', o', A2, c2, rfl, q0, q1, hsl, hgl⟩ := BYS.out wr j p (hf0.trans HFR.out) hp
        have hpx := FOUND.out j p hp HNO.out hpk
        have hpm := List.mem_of_getElem? hp
        have TP : Hid (∀ w', Fr No wr w' → Calls Try.prog 67 #[.agg #[S p.2.atom, .slice A2 p.2.kids.len c2]] w' fun e w2 => e = .returned (S p.2.text) ∧ Fr No wr w2 ∧ (w2.cell? ⟨g', o' + j * 2, none⟩ = some (S p.2.atom) ∧ w2.cell? ⟨g', o' + j * 2 + 1, none⟩ = some (.slice A2 p.2.kids.len c2))) := fun w' hf =>
          (TXP.out w' wr A2 c2 p hpm (hf0.trans HFR.out) hf hsl).mono fun e w2 ⟨h1, h2⟩ => ⟨h1, hf.trans h2, ((hf.trans h2).cell (p := ⟨g', o' + j * 2, none⟩) hgl (fun h => h)).trans q0, ((hf.trans h2).cell (p := ⟨g', o' + j * 2 + 1, none⟩) hgl (fun h => h)).trans q1⟩
        have TU : Hid (∀ w', Fr No wr w' → Calls Try.prog 67 #[.agg #[S u.atom, .slice A' u.kids.len c']] w' fun e w2 => e = .returned (S u.text) ∧ Fr No wr w2 ∧ (w2.cell? ⟨g', o' + j * 2, none⟩ = some (S p.2.atom) ∧ w2.cell? ⟨g', o' + j * 2 + 1, none⟩ = some (.slice A2 p.2.kids.len c2))) := fun w' hf =>
          (TXU.out w' ((hf0.trans HFR.out).trans hf)).mono fun e w2 ⟨h1, h2⟩ => ⟨h1, hf.trans h2, ((hf.trans h2).cell (p := ⟨g', o' + j * 2, none⟩) hgl (fun h => h)).trans q0, ((hf.trans h2).cell (p := ⟨g', o' + j * 2 + 1, none⟩) hgl (fun h => h)).trans q1⟩
        rw [hpx] at q0 q1 TP TU
        rw [hpk] at hname
        have NE2 : Hid (x ≠ u → (x.text == u.text) = false) := fun h => NEQ.out h ⟨p, hpm, hpx⟩
        clear hpk hp hsl hpx hpm
        have hj0 : (0 : Int) ≤ (j : Int) := by omega
        have hj1 : (j : Int) < (n : Int) := by omega
        by_cases hxu : x = u
        · subst hxu
          clear NE2
          generalize x.text = xt at *
          go_wp2_with fail
          go_region
          all_goals go_wp2_with fail
          go_region_held3 (fun w' => w'.cell? ⟨g', o' + j * 2, none⟩ = some (S x.atom) ∧ w'.cell? ⟨g', o' + j * 2 + 1, none⟩ = some (.slice A2 x.kids.len c2) ∧ w'.cell? ⟨w.heap.size + 1, 0, none⟩ = some (S x.atom) ∧ w'.cell? ⟨w.heap.size + 1, 1, none⟩ = some (.slice A' x.kids.len c')) (go_keep)
            (first | (go_at_call 67; ((with_reducible refine (TP.out _ (((Fr.refl _ _).drew).drew)).mono ?_); rintro e1 w1 ⟨rfl, hf1, s0, s1⟩; obtain ⟨s2, s3⟩ := BX.out w1 hf1)) | (go_at_call 67; ((with_reducible refine (TU.out _ hf1).mono ?_); rintro e2 w2 ⟨rfl, hf2, t0, t1⟩; obtain ⟨t2, t3⟩ := BX.out w2 hf2)))
          go_wp2_with fail
          refine bodyPost_ret (v := .tuple #[.slice (some ⟨g, o, none⟩) n nc, .slice (some ⟨g', o', none⟩) n mc, .bool true]) (by simp [results, Try.results73, go_sem]) rfl ?_
          exact FIN.out _ _ ((hf0.trans HFR.out).trans hf2) ⟨fun _ => (by first | trivial | rfl), fun _ => rfl⟩
        · have hne := NE2.out hxu
          have HXU := Lib.hid hxu
          clear hxu
          generalize x.text = xt at *
          generalize u.text = ut at *
          go_wp2_with fail
          go_region
          all_goals go_wp2_with fail
          go_region_held3 (fun w' => w'.cell? ⟨g', o' + j * 2, none⟩ = some (S x.atom) ∧ w'.cell? ⟨g', o' + j * 2 + 1, none⟩ = some (.slice A2 x.kids.len c2) ∧ w'.cell? ⟨w.heap.size + 1, 0, none⟩ = some (S u.atom) ∧ w'.cell? ⟨w.heap.size + 1, 1, none⟩ = some (.slice A' u.kids.len c')) (go_keep)
            (first | (go_at_call 67; ((with_reducible refine (TP.out _ (((Fr.refl _ _).drew).drew)).mono ?_); rintro e1 w1 ⟨rfl, hf1, s0, s1⟩; obtain ⟨s2, s3⟩ := BX.out w1 hf1)) | (go_at_call 67; ((with_reducible refine (TU.out _ hf1).mono ?_); rintro e2 w2 ⟨rfl, hf2, t0, t1⟩; obtain ⟨t2, t3⟩ := BX.out w2 hf2)))
          go_wp2_with fail
          refine bodyPost_ret (v := .tuple #[.slice (some ⟨g, o, none⟩) n nc, .slice (some ⟨g', o', none⟩) n mc, .bool false]) (by simp [results, Try.results73, go_sem]) rfl ?_
          exact FIN.out _ _ ((hf0.trans HFR.out).trans hf2) ⟨fun h => (by cases h), fun h => (HXU.out h).elim⟩
      · have hne : ([Ty.letter p.1] == [Ty.letter k]) = false := by
          have := MSK.out p (List.mem_of_getElem? hp)
          simp
          exact fun e => hpk (Ty.letter_inj this hk e)
        have HM := Lib.hid (no_more HNO.out hp hpk)
        clear hpk hp
        go_wp2_with fail
        go_region
        all_goals go_wp2_with fail
        go_roundw
        case rel => exact ⟨j + 1, by omega, by go_num, HM.out, HFR.out.drew⟩
        case measure => simp [intOf]; omega
    · have hjn : j = n := by omega
      subst hjn
      exact (NONE.out HNO.out).elim
end Go.Proofs.Ythbidlcfahdfhaa
