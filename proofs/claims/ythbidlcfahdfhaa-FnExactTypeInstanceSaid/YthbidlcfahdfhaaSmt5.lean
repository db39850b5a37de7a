/- l1Match at a variable for which nothing is put. -/
import Derived.Test.YthbidlcfahdfhaaSmt3
import Derived.Deep.AppendLies
namespace Go.Proofs.Ythbidlcfahdfhaa
open Go.RowKit Go.ChangeMaps

theorem own_type {w : World} {B n s : Nat} {e : TypeId} {v : Value} {xs : List Value} (h : w.ownsRow B e s v n xs) {b : Nat} (hb : v.ownBlock = some b) : ∃ cs fr, w.heap[b]? = some (.cells cs e fr) := by
  rcases h.2 with ⟨hv, _⟩ | ⟨g, cap, cur, hv, _, hg, _⟩
  · rw [hv] at hb; cases hb
  · rw [hv] at hb
    injection hb with hb
    simp only at hb
    subst hb
    exact ⟨_, _, hg⟩

/-- the two rows on their way, since W -/
structure Rows2 (W : World) (B : Nat) (V U : Value) (z : World) (n1 : Nat) (xs1 : List Value) (V1 : Value) (n2 : Nat) (xs2 : List Value) (U1 : Value) : Prop where
  r1 : z.ownsRow B 9 1 V1 n1 xs1
  r2 : z.ownsRow B 49 2 U1 n2 xs2
  fr : Fr (Own2 V U) W z
  l1 : Loc W V V1
  l2 : Loc W U U1

namespace Rows2
variable {W z w' : World} {B n1 n2 : Nat} {V U V1 U1 : Value} {xs1 xs2 : List Value}
theorem alloc (h : Rows2 W B V U z n1 xs1 V1 n2 xs2 U1) (o : Obj) : Rows2 W B V U (z.alloc o) n1 xs1 V1 n2 xs2 U1 := ⟨h.r1.alloc o, h.r2.alloc o, h.fr.alloc o, h.l1, h.l2⟩
theorem drew (h : Rows2 W B V U z n1 xs1 V1 n2 xs2 U1) : Rows2 W B V U z.drew n1 xs1 V1 n2 xs2 U1 := ⟨h.r1, h.r2, h.fr.drew, h.l1, h.l2⟩
theorem base (h : Rows2 W B V U z n1 xs1 V1 n2 xs2 U1) (hB : B ≤ W.heap.size) : B ≤ z.heap.size := Nat.le_trans hB h.fr.size
theorem app1 (h : Rows2 W B V U z n1 xs1 V1 n2 xs2 U1) {m : Nat} {ys : List Value} {g cap : Nat} (h1 : w'.ownsRow B 9 1 (.slice (some ⟨g, 0, none⟩) m cap) m ys) (hg : z.grownBy w' V1.ownBlock) (hl : V1.ownBlock = some g ∨ g = z.heap.size) :
    Rows2 W B V U w' m ys (.slice (some ⟨g, 0, none⟩) m cap) n2 xs2 U1 ∧ (∀ b cs, Blk z b 49 cs → Blk w' b 49 cs) := by
  have hf : Fr (fun b => V1.ownBlock = some b) z w' := (Fr.refl _ z).grown hg (fun k hk => .inl hk)
  refine ⟨⟨h1, own_fr h.r2 hf (fun b hb hb' => ?_), h.fr.grown hg (fun k hk => ?_), ?_, h.l2⟩, fun b cs hb => hb.fr hf (fun e => ?_)⟩
  · obtain ⟨cs, fr, e1⟩ := own_type h.r1 hb'
    obtain ⟨cs', fr', e2⟩ := own_type h.r2 hb
    have := e1.symm.trans e2
    injection this with this
    injection this with _ this
    cases this
  · rcases h.l1 with hv | hv
    · exact .inl (.inl (hv ▸ hk))
    · exact .inr (hv k hk)
  · rcases hl with hl | hl
    · rcases h.l1 with hv | hv
      · exact .inl (hl.symm.trans hv)
      · refine .inr fun b hb => ?_
        injection hb with hb
        simp only at hb
        exact hb ▸ hv g hl
    · refine .inr fun b hb => ?_
      injection hb with hb
      simp only at hb
      rw [← hb, hl]; exact h.fr.size
  · obtain ⟨cs, fr, e1⟩ := own_type h.r1 e
    have := e1.symm.trans hb
    injection this with this
    injection this with _ this
    cases this
theorem app2 (h : Rows2 W B V U z n1 xs1 V1 n2 xs2 U1) {m : Nat} {ys : List Value} {g cap : Nat} (h1 : w'.ownsRow B 49 2 (.slice (some ⟨g, 0, none⟩) m cap) m ys) (hg : z.grownBy w' U1.ownBlock) (hl : U1.ownBlock = some g ∨ g = z.heap.size) :
    Rows2 W B V U w' n1 xs1 V1 m ys (.slice (some ⟨g, 0, none⟩) m cap) ∧ (∀ b cs, Blk z b 9 cs → Blk w' b 9 cs) := by
  have hf : Fr (fun b => U1.ownBlock = some b) z w' := (Fr.refl _ z).grown hg (fun k hk => .inl hk)
  refine ⟨⟨own_fr h.r1 hf (fun b hb hb' => ?_), h1, h.fr.grown hg (fun k hk => ?_), h.l1, ?_⟩, fun b cs hb => hb.fr hf (fun e => ?_)⟩
  · obtain ⟨cs, fr, e1⟩ := own_type h.r2 hb'
    obtain ⟨cs', fr', e2⟩ := own_type h.r1 hb
    have := e1.symm.trans e2
    injection this with this
    injection this with _ this
    cases this
  · rcases h.l2 with hv | hv
    · exact .inl (.inr (hv ▸ hk))
    · exact .inr (hv k hk)
  · rcases hl with hl | hl
    · rcases h.l2 with hv | hv
      · exact .inl (hl.symm.trans hv)
      · refine .inr fun b hb => ?_
        injection hb with hb
        simp only at hb
        exact hb ▸ hv g hl
    · refine .inr fun b hb => ?_
      injection hb with hb
      simp only at hb
      rw [← hb, hl]; exact h.fr.size
  · obtain ⟨cs, fr, e1⟩ := own_type h.r2 e
    have := e1.symm.trans hb
    injection this with this
    injection this with _ this
    cases this
end Rows2

set_option maxRecDepth 100000 in
set_option maxHeartbeats 2000000 in
theorem sm_v_new (k : Nat) (hk : k < 25) (w : World) (T : Nat → Prop) (A : Option Addr) (c : Nat) (u : Ty) (A' : Option Addr) (c' B : Nat) (N : Option Addr) (nc : Nat) (M : Option Addr) (mc : Nat) (ms : List (Nat × Ty)) (n : Nat) (hn : n = ms.length)
    (hok : OkM ms) (hlen : ms.length ≤ 1000) (hB : B ≤ w.heap.size) (hT : ∀ b, T b → b < B) (hA' : Sl w T A' u.kids) (hms : MS w B T ms (.slice N n nc) (.slice M n mc)) (hx : asg ms k = none) :
    Calls Try.prog 73 #[.agg #[S [Ty.letter k], .slice A 0 c], .agg #[S u.atom, .slice A' u.kids.len c'], .slice N n nc, .slice M n mc] w
      fun e w' => SmR B T (.slice N n nc) (.slice M n mc) (mt (.v k) u ms) w e w' := by
  have b0 := (Blk.new w 49 #[S [Ty.letter k], .slice A 0 c]).alloc (.cells #[S u.atom, .slice A' u.kids.len c'] 49)
  have b1 : Blk ((w.alloc (.cells #[S [Ty.letter k], .slice A 0 c] 49)).alloc (.cells #[S u.atom, .slice A' u.kids.len c'] 49)) (w.heap.size + 1) 49 #[S u.atom, .slice A' u.kids.len c'] := Blk.new_at _ _ _ (by simp)
  have hf0 : Fr No w ((w.alloc (.cells #[S [Ty.letter k], .slice A 0 c] 49)).alloc (.cells #[S u.atom, .slice A' u.kids.len c'] 49)) := ((Fr.refl _ _).alloc _).alloc _
  have hl : (n : Int) ≤ 1000 := by omega
  have HV : Hid (isVar [Ty.letter k] = true) := isVar_letter hk
  have HVL : Hid (([Ty.letter k] : List UInt8).length ≤ maxLen) := by show 1 ≤ maxLen; unfold maxLen; omega
  have hTw : ∀ b, T b → b < w.heap.size := fun b hb => Nat.lt_of_lt_of_le (hT b hb) hB
  have hlt := hms.lt
  obtain ⟨ys, hr2, hel⟩ := hms.bys
  have R0 : Hid (∀ z, Fr No ((w.alloc (.cells #[S [Ty.letter k], .slice A 0 c] 49)).alloc (.cells #[S u.atom, .slice A' u.kids.len c'] 49)) z → Rows2 ((w.alloc (.cells #[S [Ty.letter k], .slice A 0 c] 49)).alloc (.cells #[S u.atom, .slice A' u.kids.len c'] 49)) B (.slice N n nc) (.slice M n mc) z n ((namesOf ms).map S) (.slice N n nc) n ys (.slice M n mc)) := fun z hf => by
    have h1 := hms.names
    rw [← hn] at h1 hr2
    exact ⟨own_fr h1 (hf0.trans hf) (fun _ _ h => h), own_fr hr2 (hf0.trans hf) (fun _ _ h => h), hf.mono (fun _ _ h => h.elim), .inl rfl, .inl rfl⟩
  have FIN : Hid (∀ z V1 U1 N1 M1 c1 c2, V1 = .slice N1 (n + 1) c1 → U1 = .slice M1 (n + 1) c2 → Rows2 ((w.alloc (.cells #[S [Ty.letter k], .slice A 0 c] 49)).alloc (.cells #[S u.atom, .slice A' u.kids.len c'] 49)) B (.slice N n nc) (.slice M n mc) z (n + 1) ((namesOf ms).map S ++ [S [Ty.letter k]]) V1 (n + 1) (ys ++ [S u.atom, .slice A' u.kids.len c']) U1 →
      SmR B T (.slice N n nc) (.slice M n mc) (mt (.v k) u ms) w (.returned (.tuple #[V1, U1, .bool true])) z) := by
    rintro z _ _ N1 M1 c1 c2 rfl rfl h
    have e : mt (.v k) u ms = some (ms ++ [(k, u)]) := by simp [mt, hx]
    have hfz : Fr (Own2 (.slice N n nc) (.slice M n mc)) w z := (hf0.mono (fun _ _ h => h.elim)).trans h.fr
    have hTo : ∀ b, T b → ¬ Own2 (.slice N n nc) (.slice M n mc) b := fun b hb e => by have := hT b hb; have := (hlt b e).1; omega
    rw [e]
    refine ⟨_, _, _, _, _, _, rfl, hfz, fun ms' h' => ?_⟩
    injection h' with h'
    subst h'
    have hl2 : (ms ++ [(k, u)]).length = n + 1 := by simp [hn]
    refine ⟨hl2.symm, hl2.symm, ⟨?_, ys ++ [S u.atom, .slice A' u.kids.len c'], ?_, ?_⟩, Loc.trans (.inl rfl) h.l1 hf0.size, Loc.trans (.inl rfl) h.l2 hf0.size⟩
    · have := h.r1
      rw [hl2]
      simpa [namesOf] using this
    · rw [hl2]; exact h.r2
    · rw [List.map_append]
      show Elems z T (tysFo (ms.map Prod.snd ++ [u])) _
      rw [tysFo_snoc]
      exact (hel.mono (fun _ h => h) (fun b hb => hfz.block b (hTw b hb) (hTo b hb))).snoc (hA'.mono (fun _ h => h) (fun b hb => hfz.block b (hTw b hb) (hTo b hb)))
  have BXS : Hid (∀ z, Fr (Own2 (.slice N n nc) (.slice M n mc)) ((w.alloc (.cells #[S [Ty.letter k], .slice A 0 c] 49)).alloc (.cells #[S u.atom, .slice A' u.kids.len c'] 49)) z → (z.cell? ⟨w.heap.size, 0, none⟩ = some (S [Ty.letter k]) ∧ z.cell? ⟨w.heap.size + 1, 0, none⟩ = some (S u.atom) ∧ z.cell? ⟨w.heap.size + 1, 1, none⟩ = some (.slice A' u.kids.len c')) ∧ w.heap.size < z.heap.size ∧ w.heap.size + 1 < z.heap.size) := by
    intro z hf
    have d0 := b0.fr hf (fun e => by have := (hlt _ e).2; omega)
    have d1 := b1.fr hf (fun e => by have := (hlt _ e).2; omega)
    exact ⟨⟨(d0.cell 0).trans rfl, (d1.cell 0).trans rfl, (d1.cell 1).trans rfl⟩, d0.lt, d1.lt⟩
  have FOUND : Hid (∀ (j : Nat) (p : Nat × Ty), ms[j]? = some p → p.1 ≠ k) := fun j p hj => asg_none.1 hx p (List.mem_of_getElem? hj)
  have HBW : Hid (B ≤ ((w.alloc (.cells #[S [Ty.letter k], .slice A 0 c] 49)).alloc (.cells #[S u.atom, .slice A' u.kids.len c'] 49)).heap.size) := Nat.le_trans hB hf0.size
  have NAMES : Hid (∀ (w' : World) (j : Nat) (p : Nat × Ty), Fr No w w' → ms[j]? = some p → ∃ g o, N = some ⟨g, o, none⟩ ∧ w'.cell? ⟨g, o + j, none⟩ = some (S [Ty.letter p.1])) := fun w' j p hf hj => hms.name_at hn hf hj
  have MSK : Hid (∀ p ∈ ms, p.1 < 25) := fun p hp => (hok p hp).1
  have HN := Lib.hid hn
  clear hms hA' hx hok hn hr2 hel hT hTw hlt
  go_enter Try.func73, Try.ntmps73
  go_wp2_with fail
  generalize ((w.alloc (.cells #[S [Ty.letter k], .slice A 0 c] 49)).alloc (.cells #[S u.atom, .slice A' u.kids.len c'] 49)) = W at b0 b1 hf0 R0 FIN BXS HBW ⊢
  have c00 : W.cell? ⟨w.heap.size, 0, none⟩ = some (S [Ty.letter k]) := (b0.cell 0).trans rfl
  refine (var_any2 [Ty.letter k] _ HVL.out).mono ?_
  rintro e w' ⟨rfl, rfl⟩
  rw [HV.out]
  clear c00
  go_wp2_with fail
  go_loopw [11] (fun v wr => ∃ (j : Nat), j ≤ n ∧ v = .int .i64 j ∧ (∀ p ∈ ms.take j, p.1 ≠ k) ∧ Fr No W wr) (fun v _ => n - (intOf v).toNat)
  case atStart => exact ⟨0, Nat.zero_le _, rfl, by simp, Fr.refl _ _⟩
  case round =>
    obtain ⟨j, hj, rfl, hno, hfr⟩ := hrel
    have HNO := Lib.hid hno
    have HFR := Lib.hid hfr
    have d0 := b0.fr hfr (fun h => h)
    have d1 := b1.fr hfr (fun h => h)
    have c0 : wr.cell? ⟨w.heap.size, 0, none⟩ = some (S [Ty.letter k]) := (d0.cell 0).trans rfl
    have r0 : wr.cell? ⟨w.heap.size + 1, 0, none⟩ = some (S u.atom) := (d1.cell 0).trans rfl
    have r1 : wr.cell? ⟨w.heap.size + 1, 1, none⟩ = some (.slice A' u.kids.len c') := (d1.cell 1).trans rfl
    have l0 := d0.lt
    have l1 := d1.lt
    have BX : Hid (∀ w', Fr No wr w' → w'.cell? ⟨w.heap.size + 1, 0, none⟩ = some (S u.atom) ∧ w'.cell? ⟨w.heap.size + 1, 1, none⟩ = some (.slice A' u.kids.len c')) := fun w' hf => ⟨((d1.fr hf (fun h => h)).cell 0).trans rfl, ((d1.fr hf (fun h => h)).cell 1).trans rfl⟩
    clear hno hfr d0 d1
    by_cases hlt : j < n
    · obtain ⟨p, hp⟩ : ∃ p, ms[j]? = some p := ⟨_, List.getElem?_eq_getElem (by have := HN.out; omega)⟩
      obtain ⟨g, o, rfl, hname⟩ := NAMES.out wr j p (hf0.trans HFR.out) hp
      have hpk := FOUND.out j p hp
      have hne : ([Ty.letter p.1] == [Ty.letter k]) = false := by
        have := MSK.out p (List.mem_of_getElem? hp)
        simp
        exact fun e => hpk (Ty.letter_inj this hk e)
      have HM := Lib.hid (no_more HNO.out hp hpk)
      clear hpk hp
      go_wp2_with fail
      go_region
      all_goals go_wp2_with fail
      go_roundw
      case rel => exact ⟨j + 1, by omega, by go_num, HM.out, HFR.out.drew⟩
      case measure => simp [intOf]; omega
    · have hjn : j = n := by omega
      have HR0 := Lib.hid (R0.out wr.drew HFR.out.drew)
      obtain ⟨i0, hi0, hz0, hz1, hz2⟩ := info_parts info_str
      obtain ⟨i1, hi1, hy0, hy1, hy2⟩ := info_parts info_tree
      have HC1 : Hid (∀ v ∈ [S [Ty.letter k]], v.oneCell' = true) := by
        intro v hv
        simp at hv
        rw [hv]; rfl
      have HC2 : Hid (∀ v ∈ [S u.atom, Value.slice A' u.kids.len c'], v.oneCell' = true) := by
        intro v hv
        simp at hv
        rcases hv with rfl | rfl <;> rfl
      have bnd : (n + 1) * 16 ≤ 140737488355328 := by omega
      have bnd1 : (n + 1) * 40 ≤ 140737488355328 := by omega
      have bnd2 : n + 1 ≤ maxLen := by unfold maxLen; omega
      obtain ⟨⟨z0, z1, z2⟩, z3, z4⟩ := BXS.out wr (HFR.out.mono (fun _ _ h => h.elim))
      subst hjn
      clear c0 r0 r1
      go_wp2_with fail
      go_region_held3 (fun w' => w'.cell? ⟨w.heap.size, 0, none⟩ = some (S [Ty.letter k]) ∧ w'.cell? ⟨w.heap.size + 1, 0, none⟩ = some (S u.atom) ∧ w'.cell? ⟨w.heap.size + 1, 1, none⟩ = some (.slice A' u.kids.len c')) (go_keep)
        (first | (refine step_append_lies _ (by rfl) _ _ _ (by rfl) B 9 i0 (.string ⟨#[]⟩) 1 16 Try.underlying31 hi0 hz0 hz1 hz2 (by rfl) (by decide) (.slice N j nc) j ((namesOf ms).map S) (by rfl) (Rows2.r1 (by first | exact HR2.out | exact HR2.out.alloc _ | exact HR0.out.alloc _ | exact (HR0.out.alloc _).alloc _)) _ 1 1 [S [Ty.letter k]] (by rfl) (by rfl) (World.news_of_block (by first | exact Blk.new_at _ _ _ (by simp) | exact (Blk.new_at _ _ _ (by simp)).alloc _ | exact HK2.out _ (Blk.new_at _ _ _ (by simp)) | exact HK2.out _ ((Blk.new_at _ _ _ (by simp)).alloc _))) HC1.out (by decide) bnd2 bnd (Rows2.base (by first | exact HR2.out | exact HR2.out.alloc _ | exact HR0.out.alloc _ | exact (HR0.out.alloc _).alloc _) HBW.out) _ rfl ?_; intro g4 cap4 w4 hown4 hgrow4 hat4 hlt4; obtain ⟨k1, k2⟩ := Rows2.app1 (by first | exact HR2.out | exact HR2.out.alloc _ | exact HR0.out.alloc _ | exact (HR0.out.alloc _).alloc _) hown4 hgrow4 hat4; obtain ⟨⟨e0, e1, e2⟩, e3, e4⟩ := BXS.out w4 k1.fr; have HK1 : Hid (∀ b, Blk _ b 49 #[S u.atom, .slice A' u.kids.len c'] → Blk w4 b 49 #[S u.atom, .slice A' u.kids.len c']) := fun b hb => k2 b _ hb; have HR1 := Lib.hid k1; clear hown4 hgrow4 hat4 hlt4 k1 k2) | (refine step_append_lies _ (by rfl) _ _ _ (by rfl) B 49 i1 (.agg #[.string ⟨#[]⟩, .slice none 0 0]) 2 40 Try.underlying47 hi1 hy0 hy1 hy2 (by rfl) (by decide) (.slice M j mc) j ys (by rfl) (Rows2.r2 (by first | exact HR1.out | exact HR1.out.alloc _ | exact HR0.out.alloc _ | exact (HR0.out.alloc _).alloc _)) _ 1 1 [S u.atom, .slice A' u.kids.len c'] (by rfl) (by rfl) (World.news_of_block (by first | exact Blk.new_at _ _ _ (by simp) | exact (Blk.new_at _ _ _ (by simp)).alloc _ | exact HK1.out _ (Blk.new_at _ _ _ (by simp)) | exact HK1.out _ ((Blk.new_at _ _ _ (by simp)).alloc _))) HC2.out (by decide) bnd2 bnd1 (Rows2.base (by first | exact HR1.out | exact HR1.out.alloc _ | exact HR0.out.alloc _ | exact (HR0.out.alloc _).alloc _) HBW.out) _ rfl ?_; intro g5 cap5 w5 hown5 hgrow5 hat5 hlt5; obtain ⟨k1, k2⟩ := Rows2.app2 (by first | exact HR1.out | exact HR1.out.alloc _ | exact HR0.out.alloc _ | exact (HR0.out.alloc _).alloc _) hown5 hgrow5 hat5; obtain ⟨⟨f0, f1, f2⟩, f3, f4⟩ := BXS.out w5 k1.fr; have HK2 : Hid (∀ b, Blk _ b 9 #[S [Ty.letter k]] → Blk w5 b 9 #[S [Ty.letter k]]) := fun b hb => k2 b _ hb; have HR2 := Lib.hid k1; clear hown5 hgrow5 hat5 hlt5 k1 k2))
      all_goals go_wp2_with fail
      all_goals (refine bodyPost_ret (v := .tuple #[.slice (some ⟨g4, 0, none⟩) (j + 1) cap4, .slice (some ⟨g5, 0, none⟩) (j + 1) cap5, .bool true]) (by simp [results, Try.results73, go_sem]) rfl ?_; first | exact FIN.out _ _ _ _ _ _ _ rfl rfl HR1.out | exact FIN.out _ _ _ _ _ _ _ rfl rfl HR2.out)
end Go.Proofs.Ythbidlcfahdfhaa
