/- The set of a type that a text is, in a model that two lists are. · Elements of sets in memory: has, digits. -/
import Derived.Test.YtloecimlimoanaaGreatDoorCtr
import Derived.Test.YtloecimlimoanaaGreatDoorOpn
import Derived.OwnWalk
/- The set of a type that a text is, in a model that two lists are. -/
namespace Go.Proofs.YtloecimlimoanaaGreatDoor
open Go.RowKit Go.ChangeMaps

/-- a pool with a union that has joined nothing -/
structure Fresh (q m : Nat) (ps : List Nat) (D : List Ty) (u ml ms : Nat) (w : World) : Prop where
  pool : Pool w q m ps D
  blk : Blk w u 135 #[Ptr q, .map (some ml), .map (some ms)]
  map : MapAt w encI ml 0 (fun _ => none)

theorem lead_fresh (q m : Nat) (ps : List Nat) (D : List Ty) (u ml ms : Nat) : Lead u ml (fun b => b = q ∨ b = m ∨ b ∈ ps ∨ b = u ∨ b = ml) (fun p t => Has ps D t p) (Fresh q m ps D u ml ms) where
  call w p t hQ hp := by
    obtain ⟨x, y, i, hb, hk⟩ := hp.blk hQ.pool
    refine (lead_none w u ml ms q p _ i hQ.blk hQ.map hb rfl).mono ?_
    rintro e w' ⟨rfl, n, rfl⟩
    refine ⟨p, rfl, ⟨hQ.pool.keep (fun _ _ _ => rfl), hQ.blk, hQ.map.keep rfl⟩, hp, (Fr.refl _ w).drewN n, num t, x, y, t.size, i, hb, ?_⟩
    cases t with
    | v j => exact ⟨rfl, hk⟩
    | o => exact hk
    | n f l r =>
      obtain ⟨il, ir, pl, pr, h1, h2, h3, h4, h5, h6⟩ := hk
      exact ⟨pl, pr, h5, h6, ⟨il, h1, h3⟩, ⟨ir, h2, h4⟩⟩
  uniq w p t t' hQ h h' := (Has.inj hQ.pool h h').1 rfl
  node w p t hQ h := by
    obtain ⟨x, y, i, hb, _⟩ := h.blk hQ.pool
    exact ⟨_, hb⟩
  keep w w' T hQ hf hT := ⟨hQ.pool.fr hf (fun h => hT _ h (.inl rfl)) (fun h => hT _ h (.inr (.inl rfl))) (fun p hp h => hT _ h (.inr (.inr (.inl hp)))), hQ.blk.fr hf (fun h => hT _ h (.inr (.inr (.inr (.inl rfl))))), hQ.map.keep (hf.block ml hQ.map.lt (fun h => hT _ h (.inr (.inr (.inr (.inr rfl))))))⟩
  map w hQ := by
    obtain ⟨es, clk, hb, _⟩ := hQ.map
    exact ⟨es, clk, hb⟩

set_option maxHeartbeats 400000 in
theorem newUnion_any (w : World) (q : Nat) :
    Calls Tryz.prog 46 #[Ptr q] w fun e w' => e = .returned (Ptr (w.heap.size + 2)) ∧
      ((w.alloc (.map #[] 0)).alloc (.map #[] 0)).alloc (.cells #[Ptr q, .map (some w.heap.size), .map (some (w.heap.size + 1))] 135) = w' := by
  have hmm := @run_makeMap Tryz.prog
  go_enter Tryz.func46, Tryz.ntmps46
  go_wp2
  go_ret
  exact ⟨rfl, rfl⟩

set_option maxHeartbeats 400000 in
theorem newCounter_any (w : World) (u mz : Nat) :
    Calls Tryz.prog 47 #[Ptr u, .map (some mz)] w fun e w' => e = .returned (Ptr (w.heap.size + 1)) ∧
      (w.alloc (.map #[] 0)).alloc (.cells #[Ptr u, .map (some mz), .map (some w.heap.size)] 138) = w' := by
  have hmm := @run_makeMap Tryz.prog
  go_enter Tryz.func47, Tryz.ntmps47
  go_wp2
  go_ret
  exact ⟨rfl, rfl⟩

/-- what readSet answers -/
def RsP (s : List UInt8) (ns : List (List UInt8)) (zs : List Int) (w : World) (e : Ending) (w' : World) : Prop :=
  Fr No w w' ∧ ((∃ t ms v, Ty.Is s t ∧ ModelIs ns zs ms ∧ e = .returned v ∧ SetV w' (szs ms) t v) ∨ ((∀ t ms, Ty.Is s t → ModelIs ns zs ms → False) ∧ e = .returned (.pointer none)))

/-- behind the union and the counter -/
theorem counter_ready {w : World} {q m mz : Nat} {ps : List Nat} {D : List Ty} {μ : Nat → Option Nat} (hP : Pool w q m ps D) (hz : SzAt w mz μ) (hμ : Sizes μ) {w1 w2 : World}
    (h1 : ((w.alloc (.map #[] 0)).alloc (.map #[] 0)).alloc (.cells #[Ptr q, .map (some w.heap.size), .map (some (w.heap.size + 1))] 135) = w1)
    (h2 : (w1.alloc (.map #[] 0)).alloc (.cells #[Ptr (w.heap.size + 2), .map (some mz), .map (some w1.heap.size)] 138) = w2) :
    CsAt (w.heap.size + 2) w.heap.size mz w1.heap.size (w1.heap.size + 1) (fun p t => Has ps D t p) (Fresh q m ps D (w.heap.size + 2) w.heap.size (w.heap.size + 1)) μ w2 ∧
    CsOk w.heap.size mz w1.heap.size (fun b => b = q ∨ b = m ∨ b ∈ ps ∨ b = w.heap.size + 2 ∨ b = w.heap.size) μ ∧ Fr No w w2 ∧ w.heap.size ≤ w1.heap.size := by
  have hf1 : Fr No w w1 := by subst h1; exact (((Fr.refl No w).alloc _).alloc _).alloc _
  have hf2 : Fr No w1 w2 := by subst h2; exact ((Fr.refl No w1).alloc _).alloc _
  have hs1 : w1.heap.size = w.heap.size + 3 := by subst h1; simp
  have hml : MapAt w1 encI w.heap.size 0 (fun _ => none) := by
    subst h1
    exact (MapAt.made w encI).keep ((Below.heap_alloc _ _ _ (by simp; omega)).trans (Below.heap_alloc _ _ _ (by simp)))
  have hu : Blk w1 (w.heap.size + 2) 135 #[Ptr q, .map (some w.heap.size), .map (some (w.heap.size + 1))] := by
    subst h1; exact Blk.new_at _ _ _ (by simp)
  have hmk : MapAt w2 (fun p : Nat => Ptr p) w1.heap.size 0 (fun _ => none) := by
    subst h2; exact (MapAt.made w1 _).keep (Below.heap_alloc _ _ _ (by simp))
  have hc : Blk w2 (w1.heap.size + 1) 138 #[Ptr (w.heap.size + 2), .map (some mz), .map (some w1.heap.size)] := by
    subst h2; exact Blk.new_at _ _ _ (by simp)
  have hmz : mz < w.heap.size := by obtain ⟨k, f, h, _⟩ := hz; exact h.lt
  have hlow : q < w.heap.size ∧ m < w.heap.size ∧ ∀ p ∈ ps, p < w.heap.size := ⟨hP.head.lt, by obtain ⟨f, hm, _⟩ := hP.map; exact hm.lt, fun _ hp => hP.lt hp⟩
  have hf := hf1.trans hf2
  refine ⟨⟨⟨hP.fr hf (fun h => h) (fun h => h) (fun _ _ h => h), hu.fr hf2 (fun h => h), hml.keep (hf2.block _ hml.lt (fun h => h))⟩, hc, hz.fr hf (fun h => h), 0, _, hmk, fun p v h => by cases h⟩, ⟨by omega, by omega, by omega, ?_, hμ⟩, hf, by omega⟩
  rintro (h | h | h | h | h)
  · have := hlow.1; omega
  · have := hlow.2.1; omega
  · have := hlow.2.2 _ h; omega
  · omega
  · omega

end Go.Proofs.YtloecimlimoanaaGreatDoor

/- Elements of sets in memory: has, digits. -/
namespace Go.Proofs.YtloecimlimoanaaGreatDoor
open Go.RowKit Go.ChangeMaps

/-- the set of a compound type with the counts of both parts -/
def FsAt (w : World) (g : Nat) (f : Bool) (a b d : Nat) : Prop := ∃ (gl gr : Nat) (sz s1 z1 p1 q1 s2 z2 p2 q2 : Value),
  Blk w g 107 #[S [Ty.sign f], sz, .int .i64 d, Ptr gl, Ptr gr] ∧ Blk w gl 107 #[s1, z1, .int .i64 a, p1, q1] ∧ Blk w gr 107 #[s2, z2, .int .i64 b, p2, q2]

theorem FsAt.fr {w w' : World} {g : Nat} {f : Bool} {a b d : Nat} (h : FsAt w g f a b d) (hf : Fr No w w') : FsAt w' g f a b d := by
  obtain ⟨gl, gr, sz, s1, z1, p1, q1, s2, z2, p2, q2, h1, h2, h3⟩ := h
  exact ⟨gl, gr, sz, s1, z1, p1, q1, s2, z2, p2, q2, h1.fr hf (fun h => h), h2.fr hf (fun h => h), h3.fr hf (fun h => h)⟩

theorem SetV.fs {w : World} {μ : Nat → Option Nat} {f : Bool} {l r : Ty} {v : Value} {d : Nat} (h : SetV w μ (.n f l r) v) (hd : (Ty.n f l r).kn μ = some d) : ∃ g a b, v = Ptr g ∧ l.kn μ = some a ∧ r.kn μ = some b ∧ d = (if f then b ^ a else a * b) ∧ d ≤ 4096 ∧ FsAt w g f a b d := by
  rcases h with ⟨c, g, x, y, h1, rfl, h3, h4, h5⟩ | ⟨h1, _⟩
  · rw [hd] at h1
    injection h1 with h1
    subst h1
    obtain ⟨a, b, ha, hb, hc, hle, _⟩ := Ty.kn_n hd
    obtain ⟨gl, p1, q1, rfl, bl⟩ := h4.some_ ha
    obtain ⟨gr, p2, q2, rfl, br⟩ := h5.some_ hb
    exact ⟨g, a, b, rfl, ha, hb, hc, hle, gl, gr, _, _, _, _, _, _, _, _, _, h3, bl, br⟩
  · rw [hd] at h1; cases h1

set_option maxHeartbeats 1000000 in
theorem has_set (w : World) (g : Nat) (s z p q : Value) (d : Nat) (k : Int) (hb : Blk w g 107 #[s, z, .int .i64 d, p, q]) :
    Calls Tryz.prog 25 #[Ptr g, .int .i64 k] w fun e w' => e = .returned (.bool (decide (0 ≤ k ∧ k < (d : Int)))) ∧ w = w' := by
  have c2 : w.cell? ⟨g, 2, none⟩ = some (.int .i64 d) := (hb.cell 2).trans rfl
  clear hb
  by_cases h1 : 0 ≤ k
  · by_cases h2 : k < (d : Int)
    · have hd : decide (0 ≤ k ∧ k < (d : Int)) = true := by simp [h1, h2]
      rw [hd]
      go_enter Tryz.func25, Tryz.ntmps25
      go_wp2_with fail
      go_ret
      first | exact ⟨rfl, rfl⟩ | exact ⟨ret_bool (by simp; omega), rfl⟩
    · have hd : decide (0 ≤ k ∧ k < (d : Int)) = false := by simp [h2]
      rw [hd]
      go_enter Tryz.func25, Tryz.ntmps25
      go_wp2_with fail
      go_ret
      first | exact ⟨rfl, rfl⟩ | exact ⟨ret_bool (by simp; omega), rfl⟩
  · have hd : decide (0 ≤ k ∧ k < (d : Int)) = false := by simp [h1]
    rw [hd]
    have h1' : k < 0 := by omega
    go_enter Tryz.func25, Tryz.ntmps25
    go_wp2_with fail
    go_ret
    first | exact ⟨rfl, rfl⟩ | exact ⟨ret_bool (by simp; omega), rfl⟩

/-- the digits of an element: so many, and what they leave -/
def digL (b k m : Nat) : List Int := (List.range m).map (fun i => ((k / b ^ i % b : Nat) : Int)) ++ [((k / b ^ m : Nat) : Int)]

theorem digL_len (b k m : Nat) : (digL b k m).length = m + 1 := by simp [digL]

def DigP (b k m : Nat) (w : World) (e : Ending) (w' : World) : Prop := ∃ G, e = .returned (.slice (some ⟨G, 0, none⟩) (m + 1) (m + 1)) ∧ Fr No w w' ∧ ISl w' (some ⟨G, 0, none⟩) (digL b k m)

theorem dig_more {b k j : Nat} {ys : List Value} {v : Value} (h : ys.take j = (List.range j).map fun i => Value.int .i64 ((k / b ^ i % b : Nat) : Int)) (hl : j < ys.length) (hv : v = .int .i64 ((k / b ^ j % b : Nat) : Int)) :
    (ys.set j v).take (j + 1) = (List.range (j + 1)).map fun i => Value.int .i64 ((k / b ^ i % b : Nat) : Int) := by
  rw [List.take_add_one, List.take_set_of_le (Nat.le_refl _), h, List.getElem?_set_self hl, List.range_succ, List.map_append, hv]
  rfl

theorem dig_done {b k m : Nat} {ys : List Value} {v : Value} (h : ys.take m = (List.range m).map fun i => Value.int .i64 ((k / b ^ i % b : Nat) : Int)) (hl : ys.length = m + 1) (hv : v = .int .i64 ((k / b ^ m : Nat) : Int)) :
    ys.set m v = (digL b k m).map (Value.int .i64) := by
  have e : ys.set m v = (ys.set m v).take (m + 1) := (List.take_of_length_le (by simp [hl])).symm
  rw [e, List.take_add_one, List.take_set_of_le (Nat.le_refl _), h, List.getElem?_set_self (by omega), hv]
  simp [digL]


set_option maxRecDepth 100000 in
set_option maxHeartbeats 2000000 in
theorem digits_pair (w : World) (g : Nat) (a b d k : Nat) (hb : 1 ≤ b) (hb2 : b ≤ 4096) (hk : k ≤ 4096) (hF : FsAt w g false a b d) :
    Calls Tryz.prog 74 #[Ptr g, .int .i64 k] w fun e w' => DigP b k 1 w e w' := by
  obtain ⟨gl, gr, sz, s1, z1, p1, q1, s2, z2, p2, q2, h1, h2, h3⟩ := hF
  have HC : Hid (∀ w', Fr No w w' → w'.cell? ⟨g, 4, none⟩ = some (Ptr gr) ∧ w'.cell? ⟨gr, 2, none⟩ = some (.int .i64 b)) := fun w' hf => ⟨((h1.fr hf (fun h => h)).cell 4).trans rfl, ((h3.fr hf (fun h => h)).cell 2).trans rfl⟩
  have c0 : w.cell? ⟨g, 0, none⟩ = some (S [42]) := (h1.cell 0).trans rfl
  have c3 : w.cell? ⟨g, 3, none⟩ = some (Ptr gl) := (h1.cell 3).trans rfl
  have c2 : w.cell? ⟨gl, 2, none⟩ = some (.int .i64 a) := (h2.cell 2).trans rfl
  obtain ⟨i0, hi0, hz0, hz1, hz2⟩ := info_parts info_int
  have bnd : i0.bytes * (1 + 1) ≤ 281474976710656 := by rw [hz2]; omega
  have HB := Lib.hid bnd
  have bnd2 : 1 + 1 ≤ maxLen := by unfold maxLen; omega
  have hkI : (k : Int) ≤ 4096 := by omega
  have hbI : (1 : Int) ≤ (b : Int) := by omega
  have hbI2 : (b : Int) ≤ 4096 := by omega
  skip
  clear h1 h2 h3 bnd
  go_enter Tryz.func74, Tryz.ntmps74
  go_wp2_with (at_make; refine wpList_make_full _ rfl _ _ 25 rfl w.heap.size 3 i0 (.int .i64 0) 1 Tryz.underlying25 hi0 hz0 hz1 .i64 .i64 (1 + 1) (1 + 1) (1 + 1) rfl rfl (by simp) (by simp) HB.out bnd2 (Nat.le_refl _) ?_; intro w1 hown hgrow)
  have HG : Hid (Fr No w w1) := (Fr.refl No w).grown hgrow (fun k hk => by cases hk)
  have HO : Hid (w1.ownsRow w.heap.size 3 1 (.slice (some ⟨w.heap.size, 0, none⟩) (1 + 1) (1 + 1)) (1 + 1) (madeCells (Value.int .i64 0).cells ((1 + 1) * 1)).toList) := hown
  clear hown hgrow
  go_wp2_with fail
  go_loopw [1, 25] (fun v u wr => ∃ (j : Nat), j ≤ 1 ∧ u = .int .i64 j ∧ v = .int .i64 ((k / b ^ j : Nat) : Int) ∧ Fr No w wr ∧ ∃ ys : List Value, ys.take j = (List.range j).map (fun i => Value.int .i64 ((k / b ^ i % b : Nat) : Int)) ∧ wr.ownsRow w.heap.size 3 1 (.slice (some ⟨w.heap.size, 0, none⟩) (1 + 1) (1 + 1)) (1 + 1) ys) (fun _ u _ => 1 - (intOf u).toNat)
  case atStart => exact ⟨0, Nat.zero_le _, rfl, by simp, HG.out, _, by simp, HO.out⟩
  case round =>
    obtain ⟨j, hj, rfl, rfl, hfr, ys, hys, hown⟩ := hrel
    have HF := Lib.hid hfr
    have HY := Lib.hid hys
    have hyl : ys.length = 1 + 1 := by have := hown.1; omega
    obtain ⟨c4, c5⟩ := HC.out wr hfr
    clear hfr hys HG HO c0 c2 c3
    have hp : k / b ^ j ≤ 4096 := Nat.le_trans (Nat.div_le_self _ _) hk
    have hpI : ((k / b ^ j : Nat) : Int) ≤ 4096 := by omega
    have HD : Hid (((k / b ^ j : Nat) : Int) / (b : Int) = ((k / b ^ (j + 1) : Nat) : Int)) := by show _ = _; rw [← div_step]; simp
    have hd1 : k / b ^ (j + 1) ≤ 4096 := Nat.le_trans (Nat.div_le_self _ _) hk
    have hdI : ((k / b ^ j : Nat) : Int) / (b : Int) ≤ 4096 := by rw [HD.out]; omega
    have hd0 : 0 ≤ ((k / b ^ j : Nat) : Int) / (b : Int) := by rw [HD.out]; exact Int.natCast_nonneg _
    by_cases hlt : j < 1
    · have hcw : wr.cell? ⟨w.heap.size, j, none⟩ = some ys[j] := by
        rw [hown.cellAt j (by omega)]
        exact List.getElem?_eq_getElem (by omega)
      have hfz := hown.frozenAt j
      have FIN : Hid (Fr No w (wr.setCell ⟨w.heap.size, j, none⟩ (.int .i64 (((k / b ^ j : Nat) : Int) % (b : Int)))) ∧ ∃ ys' : List Value, ys'.take (j + 1) = (List.range (j + 1)).map (fun i => Value.int .i64 ((k / b ^ i % b : Nat) : Int)) ∧ (wr.setCell ⟨w.heap.size, j, none⟩ (.int .i64 (((k / b ^ j : Nat) : Int) % (b : Int)))).ownsRow w.heap.size 3 1 (.slice (some ⟨w.heap.size, 0, none⟩) (1 + 1) (1 + 1)) (1 + 1) ys') :=
        ⟨HF.out.setCell (p := ⟨w.heap.size, j, none⟩) (.inr (Nat.le_refl _)) _, ys.set j _, dig_more HY.out (by omega) (by simp), (hown.stored j _).1⟩
      have HC2 := HC.out _ FIN.out.1
      obtain ⟨c6, c7⟩ := HC2
      have ngr : gr ≠ w.heap.size := fun e => by have h := (HC.out w (Fr.refl _ _)).2; rw [e] at h; have := block_lt h; omega
      have ng : g ≠ w.heap.size := fun e => by have h := (HC.out w (Fr.refl _ _)).1; rw [e] at h; have := block_lt h; omega
      clear hown
      generalize hp1 : k / b ^ (j + 1) = p1 at *
      have HP1 := Lib.hid hp1
      clear hp1 hd1
      generalize k / b ^ j = p0 at *
      go_wp2_with fail
      go_roundw
      case rel => exact ⟨j + 1, by omega, by go_num, by rw [HD.out, HP1.out], FIN.out⟩
      case measure => simp [intOf]; omega
    · have hjl : j = 1 := by omega
      obtain ⟨v0, hcw⟩ : ∃ v, wr.cell? ⟨w.heap.size, 1, none⟩ = some v := by
        rw [hown.cellAt 1 (by omega)]
        exact ⟨_, List.getElem?_eq_getElem (by omega)⟩
      have hfz := hown.frozenAt 1
      have FIN : Hid (∀ v : Int, v = ((k / b ^ j : Nat) : Int) → Fr No w (wr.setCell ⟨w.heap.size, 1, none⟩ (.int .i64 v)) ∧ ISl (wr.setCell ⟨w.heap.size, 1, none⟩ (.int .i64 v)) (some ⟨w.heap.size, 0, none⟩) (digL b k 1)) := by
        intro v hv
        refine ⟨HF.out.setCell (p := ⟨w.heap.size, 1, none⟩) (.inr (Nat.le_refl _)) _, ?_⟩
        have h := (hown.stored 1 (.int .i64 v)).1
        rw [hjl] at hv
        have hY : ys.take 1 = _ := hjl ▸ HY.out
        rw [dig_done (b := b) (k := k) hY hyl (by rw [hv])] at h
        refine ISl.of_own (B := w.heap.size) (c := 1 + 1) ?_
        rw [digL_len]
        exact h
      have HJL := Lib.hid hjl
      clear hown HY hyl
      go_wp2_with fail
      go_ret
      exact ⟨w.heap.size, rfl, FIN.out _ (by first | rfl | (rw [HJL.out]; simp))⟩

set_option maxRecDepth 100000 in
set_option maxHeartbeats 2000000 in
theorem digits_fun (w : World) (g : Nat) (a' b d k : Nat) (hb : 1 ≤ b) (hb2 : b ≤ 4096) (ha : a' ≤ 4096) (hk : k ≤ 4096) (hF : FsAt w g true (a' + 1) b d) :
    Calls Tryz.prog 74 #[Ptr g, .int .i64 k] w fun e w' => DigP b k a' w e w' := by
  obtain ⟨gl, gr, sz, s1, z1, p1, q1, s2, z2, p2, q2, h1, h2, h3⟩ := hF
  have HC : Hid (∀ w', Fr No w w' → w'.cell? ⟨g, 4, none⟩ = some (Ptr gr) ∧ w'.cell? ⟨gr, 2, none⟩ = some (.int .i64 b)) := fun w' hf => ⟨((h1.fr hf (fun h => h)).cell 4).trans rfl, ((h3.fr hf (fun h => h)).cell 2).trans rfl⟩
  have c0 : w.cell? ⟨g, 0, none⟩ = some (S [62]) := (h1.cell 0).trans rfl
  have c3 : w.cell? ⟨g, 3, none⟩ = some (Ptr gl) := (h1.cell 3).trans rfl
  have c2 : w.cell? ⟨gl, 2, none⟩ = some (.int .i64 ((a' + 1 : Nat) : Int)) := (h2.cell 2).trans rfl
  obtain ⟨i0, hi0, hz0, hz1, hz2⟩ := info_parts info_int
  have bnd : i0.bytes * (a' + 1) ≤ 281474976710656 := by rw [hz2]; omega
  have HB := Lib.hid bnd
  have bnd2 : a' + 1 ≤ maxLen := by unfold maxLen; omega
  have hkI : (k : Int) ≤ 4096 := by omega
  have hbI : (1 : Int) ≤ (b : Int) := by omega
  have hbI2 : (b : Int) ≤ 4096 := by omega
  have haI : (a' : Int) ≤ 4096 := by omega
  clear h1 h2 h3 bnd
  go_enter Tryz.func74, Tryz.ntmps74
  go_wp2_with (at_make; refine wpList_make_full _ rfl _ _ 25 rfl w.heap.size 3 i0 (.int .i64 0) 1 Tryz.underlying25 hi0 hz0 hz1 .i64 .i64 ((a' : Int) + 1) ((a' : Int) + 1) (a' + 1) rfl rfl (by simp) (by simp) HB.out bnd2 (Nat.le_refl _) ?_; intro w1 hown hgrow)
  have HG : Hid (Fr No w w1) := (Fr.refl No w).grown hgrow (fun k hk => by cases hk)
  have HO : Hid (w1.ownsRow w.heap.size 3 1 (.slice (some ⟨w.heap.size, 0, none⟩) (a' + 1) (a' + 1)) (a' + 1) (madeCells (Value.int .i64 0).cells ((a' + 1) * 1)).toList) := hown
  clear hown hgrow
  go_wp2_with fail
  go_loopw [1, 25] (fun v u wr => ∃ (j : Nat), j ≤ a' ∧ u = .int .i64 j ∧ v = .int .i64 ((k / b ^ j : Nat) : Int) ∧ Fr No w wr ∧ ∃ ys : List Value, ys.take j = (List.range j).map (fun i => Value.int .i64 ((k / b ^ i % b : Nat) : Int)) ∧ wr.ownsRow w.heap.size 3 1 (.slice (some ⟨w.heap.size, 0, none⟩) (a' + 1) (a' + 1)) (a' + 1) ys) (fun _ u _ => a' - (intOf u).toNat)
  case atStart => exact ⟨0, Nat.zero_le _, rfl, by simp, HG.out, _, by simp, HO.out⟩
  case round =>
    obtain ⟨j, hj, rfl, rfl, hfr, ys, hys, hown⟩ := hrel
    have HF := Lib.hid hfr
    have HY := Lib.hid hys
    have hyl : ys.length = a' + 1 := by have := hown.1; omega
    obtain ⟨c4, c5⟩ := HC.out wr hfr
    clear hfr hys HG HO c0 c2 c3
    have hp : k / b ^ j ≤ 4096 := Nat.le_trans (Nat.div_le_self _ _) hk
    have hpI : ((k / b ^ j : Nat) : Int) ≤ 4096 := by omega
    have HD : Hid (((k / b ^ j : Nat) : Int) / (b : Int) = ((k / b ^ (j + 1) : Nat) : Int)) := by show _ = _; rw [← div_step]; simp
    have hd1 : k / b ^ (j + 1) ≤ 4096 := Nat.le_trans (Nat.div_le_self _ _) hk
    have hdI : ((k / b ^ j : Nat) : Int) / (b : Int) ≤ 4096 := by rw [HD.out]; omega
    have hd0 : 0 ≤ ((k / b ^ j : Nat) : Int) / (b : Int) := by rw [HD.out]; exact Int.natCast_nonneg _
    by_cases hlt : j < a'
    · have hcw : wr.cell? ⟨w.heap.size, j, none⟩ = some ys[j] := by
        rw [hown.cellAt j (by omega)]
        exact List.getElem?_eq_getElem (by omega)
      have hfz := hown.frozenAt j
      have FIN : Hid (Fr No w (wr.setCell ⟨w.heap.size, j, none⟩ (.int .i64 (((k / b ^ j : Nat) : Int) % (b : Int)))) ∧ ∃ ys' : List Value, ys'.take (j + 1) = (List.range (j + 1)).map (fun i => Value.int .i64 ((k / b ^ i % b : Nat) : Int)) ∧ (wr.setCell ⟨w.heap.size, j, none⟩ (.int .i64 (((k / b ^ j : Nat) : Int) % (b : Int)))).ownsRow w.heap.size 3 1 (.slice (some ⟨w.heap.size, 0, none⟩) (a' + 1) (a' + 1)) (a' + 1) ys') :=
        ⟨HF.out.setCell (p := ⟨w.heap.size, j, none⟩) (.inr (Nat.le_refl _)) _, ys.set j _, dig_more HY.out (by omega) (by simp), (hown.stored j _).1⟩
      have HC2 := HC.out _ FIN.out.1
      obtain ⟨c6, c7⟩ := HC2
      have ngr : gr ≠ w.heap.size := fun e => by have h := (HC.out w (Fr.refl _ _)).2; rw [e] at h; have := block_lt h; omega
      have ng : g ≠ w.heap.size := fun e => by have h := (HC.out w (Fr.refl _ _)).1; rw [e] at h; have := block_lt h; omega
      clear hown
      generalize hp1 : k / b ^ (j + 1) = p1 at *
      have HP1 := Lib.hid hp1
      clear hp1 hd1
      generalize k / b ^ j = p0 at *
      go_wp2_with fail
      go_roundw
      case rel => exact ⟨j + 1, by omega, by go_num, by rw [HD.out, HP1.out], FIN.out⟩
      case measure => simp [intOf]; omega
    · have hjl : j = a' := by omega
      obtain ⟨v0, hcw⟩ : ∃ v, wr.cell? ⟨w.heap.size, a', none⟩ = some v := by
        rw [hown.cellAt a' (by omega)]
        exact ⟨_, List.getElem?_eq_getElem (by omega)⟩
      have hfz := hown.frozenAt a'
      have FIN : Hid (∀ v : Int, v = ((k / b ^ j : Nat) : Int) → Fr No w (wr.setCell ⟨w.heap.size, a', none⟩ (.int .i64 v)) ∧ ISl (wr.setCell ⟨w.heap.size, a', none⟩ (.int .i64 v)) (some ⟨w.heap.size, 0, none⟩) (digL b k a')) := by
        intro v hv
        refine ⟨HF.out.setCell (p := ⟨w.heap.size, a', none⟩) (.inr (Nat.le_refl _)) _, ?_⟩
        have h := (hown.stored a' (.int .i64 v)).1
        rw [hjl] at hv
        have hY : ys.take a' = _ := hjl ▸ HY.out
        rw [dig_done (b := b) (k := k) hY hyl (by rw [hv])] at h
        refine ISl.of_own (B := w.heap.size) (c := a' + 1) ?_
        rw [digL_len]
        exact h
      have HJL := Lib.hid hjl
      clear hown HY hyl
      go_wp2_with fail
      go_ret
      exact ⟨w.heap.size, rfl, FIN.out _ (by first | rfl | (rw [HJL.out]; simp))⟩
end Go.Proofs.YtloecimlimoanaaGreatDoor
