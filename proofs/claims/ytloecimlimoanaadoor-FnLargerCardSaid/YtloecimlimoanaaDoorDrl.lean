/- The draws of lifted relations. -/
import Derived.Test.YtloecimlimoanaaDoorDrr
import Derived.Test.YtloecimlimoanaaDoorDrm
import Derived.Test.YtloecimlimoanaaDoorDro
import Derived.Test.YtloecimlimoanaaDoorRlh
namespace Go.Proofs.YtloecimlimoanaaDoor
open Go.RowKit Go.ChangeMaps

/-- names and one relation that were drawn: they stay while the code is read on -/
def RlsP (r : Nat) (A : Option Addr) (n c p : Nat) (w : World) (e : Ending) (w' : World) : Prop :=
  ∃ (gn gr : Nat) (ns : List (List UInt8)) (L R : Int) (ps : List Int) (p' : Nat), e = .returned (.tuple #[.slice (some ⟨gn, 0, none⟩) ns.length ns.length, .slice (some ⟨gr, 0, none⟩) 1 1]) ∧ (ns.length ≤ 2 ∧ (ns = [[97]] ∨ ns = [[97], [98]])) ∧ (∀ x ∈ ns, x.length ≤ 1) ∧ ps.length ≤ 100 ∧
    (∀ w2, Fr (One r) w' w2 → SSl w2 (some ⟨gn, 0, none⟩) ns ∧ Rels w2 (some ⟨gr, 0, none⟩) [(L, R, ps)]) ∧ Fr (One r) w w' ∧ p' ≤ p + 30 ∧ Rdc w' r A n c p'

theorem rels_one {w : World} {g : Nat} {L R : Int} {ps : List Int} {B : Option Addr} {cp : Nat} {t : TypeId} (hb : Blk w g t #[.int .i64 L, .int .i64 R, .slice B ps.length cp]) (hi : ISl w B ps) (hl : ps.length ≤ 2000000) : Rels w (some ⟨g, 0, none⟩) [(L, R, ps)] := fun j L' R' ps' hj => by
  cases j with
  | zero =>
    simp at hj
    obtain ⟨rfl, rfl, rfl⟩ := hj
    exact ⟨g, 0, B, cp, rfl, (hb.cell _).trans rfl, (hb.cell _).trans rfl, (hb.cell _).trans rfl, hi, hl⟩
  | succ j => simp at hj

set_option maxRecDepth 100000 in
set_option maxHeartbeats 2000000 in
theorem rels_draw (w : World) (r : Nat) (A : Option Addr) (n c p : Nat) (h : Rdc w r A n c p) (hp : p ≤ 80000) :
    Calls Tryd.prog 51 #[Ptr r] w fun e w' => RlsP r A n c p w e w' := by
  have hrl := h.blk.lt
  have PK := Lib.hid (pick_any w r A n c p 2 h (by decide) (by decide) (by omega))
  clear h
  go_enter Tryd.func51, Tryd.ntmps51
  go_wp2_with fail
  refine PK.out.mono ?_
  rintro e w1 ⟨y, rfl, hy, hf1, hr1⟩
  have PK2 := Lib.hid (pick_any w1 r A n c _ 2 hr1 (by decide) (by decide) (by omega))
  have HF1 := Lib.hid hf1
  clear hf1 hr1 PK
  have hyI : (y : Int) < 2 := by omega
  go_wp2_with fail
  refine PK2.out.mono ?_
  rintro e w2 ⟨z, rfl, hz, hf2, hr2⟩
  have HF2 := Lib.hid (HF1.out.trans hf2)
  have PK3 := Lib.hid (pick_any w2 r A n c _ 6 hr2 (by decide) (by decide) (by omega))
  clear hf2 hr2 PK2 HF1
  have hzI : (z : Int) < 2 := by omega
  go_wp2_with fail
  refine PK3.out.mono ?_
  rintro e w3 ⟨x, rfl, hx, hf3, hr3⟩
  have HF3 := Lib.hid (HF2.out.trans hf3)
  obtain ⟨q, hq⟩ : ∃ q : Nat, q = x / 5 := ⟨_, rfl⟩
  have hq1 : q ≤ 1 := by omega
  have hxq : (x : Int).tdiv 5 = (q : Int) := by rw [hq]; rfl
  have hxI : (x : Int) < 6 := by omega
  have hx0 : (0 : Int) ≤ (x : Int) := by omega
  have hM : (1 + y) * (1 + z + q) ≤ 2 * 3 := Nat.mul_le_mul (by omega) (by omega)
  have RD := Lib.hid (rel_draw w3 r A n c _ (1 + y) (1 + z + q) hr3 (by omega) (by omega) (by omega) (by omega) (by omega))
  have e1 : (1 + (y : Int)) = ((1 + y : Nat) : Int) := by omega
  have e2 : (1 + (z : Int) + (q : Int)) = ((1 + z + q : Nat) : Int) := by omega
  have RD' : Hid (Calls Tryd.prog 94 #[Ptr r, .int .i64 (1 + (y : Int)), .int .i64 (1 + (z : Int) + (q : Int))] w3 fun e w' => DrR r A n c (p + 1 + 1 + 1) ((1 + y) * (1 + z + q) + 2) (1 + (z : Int) + (q : Int)) w3 e w') := by
    rw [e1, e2]; exact RD.out
  have hqI : (q : Int) ≤ 1 := by omega
  have hxd : (x : Int) / 5 = (q : Int) := by omega
  have HRW : Hid (r < w3.heap.size) := hr3.blk.lt
  clear hf3 hr3 PK3 HF2 e1 e2 RD hq
  go_wp2_with fail
  refine RD'.out.mono ?_
  rintro e w4 ⟨L, ps, g, cp, p', rfl, hor, hlen, hf4, hp', hr4⟩
  obtain ⟨W5, hW5, hf5, hb5⟩ : ∃ W, W = w4.alloc (.cells #[.int .i64 L, .int .i64 (1 + (z : Int) + (q : Int)), .slice (some ⟨g, 0, none⟩) ps.length cp] 30) ∧ Fr No w4 W ∧ Blk W w4.heap.size 30 #[.int .i64 L, .int .i64 (1 + (z : Int) + (q : Int)), .slice (some ⟨g, 0, none⟩) ps.length cp] := ⟨_, rfl, (Fr.refl _ _).alloc _, Blk.new _ _ _⟩
  have hs4 := hf4.size
  have hr3 := HRW.out
  have STAY : Hid (∀ w2, Fr (One r) W5 w2 → Rels w2 (some ⟨w4.heap.size, 0, none⟩) [(L, (1 + (z : Int) + (q : Int)), ps)]) := fun w2 hf => rels_one (hb5.fr hf (fun e => by have e : w4.heap.size = r := e; omega)) (OR.isl ((hor.no hf5).fr hf (fun b hb e => by have e : b = r := e; have := (hor.bounds hb).1; omega))) (by omega)
  have HFW0 := Lib.hid ((HF3.out.trans hf4).trans (hf5.mono (fun _ _ h => h.elim)))
  have hr5 := hr4.no hf5
  have PK6 := Lib.hid (pick_any W5 r A n c _ 20 hr5 (by decide) (by decide) (by omega))
  clear hor hf4 hr4 hf5 hb5 hr5 RD'
  go_wp2_with fail
  rw [← hW5]
  clear hW5
  refine PK6.out.mono ?_
  rintro e w6 ⟨v, rfl, hv, hf6, hr6⟩
  have HF6 := Lib.hid hf6
  have HD6 := Lib.hid hr6
  have HFW := Lib.hid (HFW0.out.trans hf6)
  clear hf6 hr6 PK6
  by_cases hv0 : v = 0
  · subst hv0
    obtain ⟨W7, hW7, hf7, hb7⟩ : ∃ W, W = w6.alloc (.cells #[S [97], S [98]] 9) ∧ Fr No w6 W ∧ Blk W w6.heap.size 9 #[S [97], S [98]] := ⟨_, rfl, (Fr.refl _ _).alloc _, Blk.new _ _ _⟩
    have hr6 := HD6.out.blk.lt
    have FIN : Hid (RlsP r A n c p w (.returned (.tuple #[.slice (some ⟨w6.heap.size, 0, none⟩) 2 2, .slice (some ⟨w4.heap.size, 0, none⟩) 1 1])) W7) := by
      refine ⟨w6.heap.size, w4.heap.size, [[97], [98]], L, _, ps, _, rfl, ⟨by simp, .inr rfl⟩, by simp, by omega, fun w2 hf => ⟨ssl_blk (hb7.fr hf (fun e => by have e : w6.heap.size = r := e; omega)) rfl, STAY.out w2 ((HF6.out.trans (hf7.mono (fun _ _ h => h.elim))).trans hf)⟩, HFW.out.trans (hf7.mono (fun _ _ h => h.elim)), ?_, HD6.out.no hf7⟩
      omega
    clear hf7 hb7 STAY
    go_wp2_with fail
    rw [← hW7]
    go_ret2
    exact FIN.out
  · have z0 : ((v : Int) == 0) = false := beq_eq_false_iff_ne.2 (by omega)
    obtain ⟨W7, hW7, hf7, hb7⟩ : ∃ W, W = w6.alloc (.cells #[S [97]] 9) ∧ Fr No w6 W ∧ Blk W w6.heap.size 9 #[S [97]] := ⟨_, rfl, (Fr.refl _ _).alloc _, Blk.new _ _ _⟩
    have hr6 := HD6.out.blk.lt
    have FIN : Hid (RlsP r A n c p w (.returned (.tuple #[.slice (some ⟨w6.heap.size, 0, none⟩) 1 1, .slice (some ⟨w4.heap.size, 0, none⟩) 1 1])) W7) := by
      refine ⟨w6.heap.size, w4.heap.size, [[97]], L, _, ps, _, rfl, ⟨by simp, .inl rfl⟩, by simp, by omega, fun w2 hf => ⟨ssl_blk (hb7.fr hf (fun e => by have e : w6.heap.size = r := e; omega)) rfl, STAY.out w2 ((HF6.out.trans (hf7.mono (fun _ _ h => h.elim))).trans hf)⟩, HFW.out.trans (hf7.mono (fun _ _ h => h.elim)), ?_, HD6.out.no hf7⟩
      omega
    clear hf7 hb7 STAY
    go_wp2_with fail
    rw [← hW7]
    go_ret2
    exact FIN.out

/-- a type, names, one relation -/
def DrLift (w : World) (e : Ending) (w' : World) : Prop :=
  ∃ (s : List UInt8) (gn gr : Nat) (ns : List (List UInt8)) (L R : Int) (ps : List Int), e = .returned (.tuple #[S s, .slice (some ⟨gn, 0, none⟩) ns.length ns.length, .slice (some ⟨gr, 0, none⟩) 1 1]) ∧ s.length ≤ 40 ∧ (ns.length ≤ 2 ∧ (ns = [[97]] ∨ ns = [[97], [98]])) ∧ (∀ x ∈ ns, x.length ≤ 1) ∧ ps.length ≤ 100 ∧ SSl w' (some ⟨gn, 0, none⟩) ns ∧ Rels w' (some ⟨gr, 0, none⟩) [(L, R, ps)] ∧ Fr No w w'

/-- .. and two elements -/
def DrRel (w : World) (e : Ending) (w' : World) : Prop :=
  ∃ (s : List UInt8) (gn gr : Nat) (ns : List (List UInt8)) (L R : Int) (ps : List Int) (x y : Int), e = .returned (.tuple #[S s, .slice (some ⟨gn, 0, none⟩) ns.length ns.length, .slice (some ⟨gr, 0, none⟩) 1 1, .int .i64 x, .int .i64 y]) ∧ s.length ≤ 40 ∧ (ns.length ≤ 2 ∧ (ns = [[97]] ∨ ns = [[97], [98]])) ∧ (∀ x ∈ ns, x.length ≤ 1) ∧ ps.length ≤ 100 ∧ SSl w' (some ⟨gn, 0, none⟩) ns ∧ Rels w' (some ⟨gr, 0, none⟩) [(L, R, ps)] ∧ Fr No w w'

set_option maxRecDepth 100000 in
set_option maxHeartbeats 2000000 in
theorem drawRelLift (w : World) (A : Option Addr) (n c : Nat) (hn : n ≤ maxLen) (hnc : n ≤ c) (hb : Byt w A n) :
    Calls Tryd.prog 17 #[.slice A n c] w fun e w' => DrLift w e w' := by
  have OP := Lib.hid (open_any w A n c hn hnc hb)
  clear hn hnc hb
  go_enter Tryd.func17, Tryd.ntmps17
  go_wp2_with fail
  refine OP.out.mono ?_
  rintro e w1 ⟨r, A1, n1, c1, rfl, hf1, hr1, hd1⟩
  have HF1 := Lib.hid hf1
  have KD := Lib.hid (kind_draw w1 r A1 n1 c1 0 hd1 (by omega))
  clear hf1 hd1 OP
  go_wp2_with fail
  refine KD.out.mono ?_
  rintro e w2 ⟨s, p2, rfl, hs, hf2, hp2, hd2⟩
  have HF2 : Hid (Fr No w w2) := HF1.out.then_ hf2 (fun b hb e => by have e : b = r := e; omega)
  have RD := Lib.hid (rels_draw w2 r A1 n1 c1 p2 hd2 (by omega))
  clear hf2 hd2 KD
  go_wp2_with fail
  refine RD.out.mono ?_
  rintro e w3 ⟨gn, gr, ns, L, R, ps, p3, rfl, h1, h2, h3, hst, hf3, hp3, hd3⟩
  obtain ⟨q1, q2⟩ := hst w3 (Fr.refl _ _)
  have HF3 : Hid (Fr No w w3) := HF2.out.then_ hf3 (fun b hb e => by have e : b = r := e; omega)
  have FIN : Hid (DrLift w (.returned (.tuple #[S s, .slice (some ⟨gn, 0, none⟩) ns.length ns.length, .slice (some ⟨gr, 0, none⟩) 1 1])) w3) := ⟨s, gn, gr, ns, L, R, ps, rfl, hs, h1, h2, h3, q1, q2, HF3.out⟩
  clear hf3 hd3 hst q1 q2 RD h2
  go_wp2_with fail
  refine bodyPost_ret (v := .tuple #[S s, .slice (some ⟨gn, 0, none⟩) ns.length ns.length, .slice (some ⟨gr, 0, none⟩) 1 1]) (by simp [results, Tryd.results17, go_sem]) rfl ?_
  exact FIN.out

set_option maxRecDepth 100000 in
set_option maxHeartbeats 4000000 in
theorem drawRelated (w : World) (A : Option Addr) (n c : Nat) (hn : n ≤ maxLen) (hnc : n ≤ c) (hb : Byt w A n) :
    Calls Tryd.prog 12 #[.slice A n c] w fun e w' => DrRel w e w' := by
  have OP := Lib.hid (open_any w A n c hn hnc hb)
  clear hn hnc hb
  go_enter Tryd.func12, Tryd.ntmps12
  go_wp2_with fail
  refine OP.out.mono ?_
  rintro e w1 ⟨r, A1, n1, c1, rfl, hf1, hr1, hd1⟩
  have HF1 := Lib.hid hf1
  have KD := Lib.hid (kind_draw w1 r A1 n1 c1 0 hd1 (by omega))
  clear hf1 hd1 OP
  go_wp2_with fail
  refine KD.out.mono ?_
  rintro e w2 ⟨s, p2, rfl, hs, hf2, hp2, hd2⟩
  have HF2 : Hid (Fr No w w2) := HF1.out.then_ hf2 (fun b hb e => by have e : b = r := e; omega)
  have RD := Lib.hid (rels_draw w2 r A1 n1 c1 p2 hd2 (by omega))
  clear hf2 hd2 KD
  go_wp2_with fail
  refine RD.out.mono ?_
  rintro e w3 ⟨gn, gr, ns, L, R, ps, p3, rfl, h1, h2, h3, hst, hf3, hp3, hd3⟩
  have HST := Lib.hid hst
  have HF3 : Hid (Fr No w w3) := HF2.out.then_ hf3 (fun b hb e => by have e : b = r := e; omega)
  have CC : Hid (∀ V, Fr (One r) w3 V → V.cell? ⟨gr, 0, none⟩ = some (.int .i64 L) ∧ V.cell? ⟨gr, 1, none⟩ = some (.int .i64 R) ∧ gr < V.heap.size) := fun V hf => by
    obtain ⟨g, o, B, cc, e, c0, c1, _⟩ := (hst V hf).2 0 L R ps rfl
    injection e with e
    injection e with e1 e2
    subst e1 e2
    rw [Nat.zero_mul, Nat.zero_add] at c0 c1
    exact ⟨c0, c1, block_lt c0⟩
  have hD : Fr (One r) w3 w3.drew := (Fr.refl _ _).drew
  have OF1 : Hid (∀ k, Calls Tryd.prog 52 #[Ptr r, S s, .int .i64 k] w3.drew fun e w' => DelP r A1 n1 c1 p3 w3.drew e w') := fun k => of_draw w3.drew r A1 n1 c1 p3 (hd3.no ((Fr.refl No _).drew)) (by omega) s (by unfold maxLen; omega) k
  have OF2 : Hid (∀ V p4 k, Rdc V r A1 n1 c1 p4 → p4 ≤ p3 + 3 → Calls Tryd.prog 52 #[Ptr r, S s, .int .i64 k] V fun e w' => DelP r A1 n1 c1 p4 V e w') := fun V p4 k hd h4 => of_draw V r A1 n1 c1 p4 hd (by omega) s (by unfold maxLen; omega) k
  have HS := Lib.hid hs
  have H1 := Lib.hid (And.intro h1 (And.intro h2 h3))
  obtain ⟨k0, k1, k2⟩ := CC.out w3 (Fr.refl _ _)
  clear hf3 hd3 hst RD h2 h1 h3
  go_wp2_with fail
  go_region_held3 (fun w' => w'.cell? ⟨gr, 0, none⟩ = some (.int .i64 L) ∧ w'.cell? ⟨gr, 1, none⟩ = some (.int .i64 R)) (go_keep)
    (first | (go_at_call 52; first | ((with_reducible refine (OF1.out _).mono ?_); rintro e w4 ⟨x, p4, rfl, x1, x2, hf4, hp4, hd4⟩; have HD4 := Lib.hid hd4; have HF4 := Lib.hid (hD.trans hf4); obtain ⟨k0, k1, k2⟩ := CC.out w4 HF4.out; clear hd4 hf4) | ((with_reducible refine (OF2.out _ _ _ HD4.out hp4).mono ?_); rintro e w5 ⟨y, p5, rfl, y1, y2, hf5, hp5, _⟩; have HF5 := Lib.hid (HF4.out.trans hf5); obtain ⟨k0, k1, k2⟩ := CC.out w5 HF5.out; clear hf5)))
  obtain ⟨q1, q2⟩ := HST.out w5 HF5.out
  have FIN : Hid (DrRel w (.returned (.tuple #[S s, .slice (some ⟨gn, 0, none⟩) ns.length ns.length, .slice (some ⟨gr, 0, none⟩) 1 1, .int .i64 x, .int .i64 y])) w5) := ⟨s, gn, gr, ns, L, R, ps, x, y, rfl, HS.out, H1.out.1, H1.out.2.1, H1.out.2.2, q1, q2, HF3.out.then_ HF5.out (fun b hb e => by have e : b = r := e; omega)⟩
  go_wp2_with fail
  refine bodyPost_ret (v := .tuple #[S s, .slice (some ⟨gn, 0, none⟩) ns.length ns.length, .slice (some ⟨gr, 0, none⟩) 1 1, .int .i64 x, .int .i64 y]) (by simp [results, Tryd.results12, go_sem]) rfl ?_
  exact FIN.out
end Go.Proofs.YtloecimlimoanaaDoor
