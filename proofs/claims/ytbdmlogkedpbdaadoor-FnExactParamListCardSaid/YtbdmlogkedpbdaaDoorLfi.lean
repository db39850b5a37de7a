/- The relations between both sizes, lifted one by one: the iterator. -/
import Derived.Test.YtbdmlogkedpbdaaDoorPtt
import Derived.Test.YtbdmlogkedpbdaaDoorRnum
namespace Go.Proofs.YtbdmlogkedpbdaaDoor
open Go.RowKit Go.ChangeMaps Go.Shelf

attribute [local go_sem] Oper.semAt_some

/-- the pairs of a relation with a number -/
def numP (m n k : Nat) : List Int := (elems (m * n) (k.testBit ·)).map Int.ofNat
/-- what it relates, for any variable -/
def numR (m n k : Nat) : Nat → Nat → Nat → Bool := fun _ x y => memR n (numP m n k) x y

theorem numOk {m n k : Nat} (h1 : 1 ≤ m) (h3 : m ≤ 3) (g1 : 1 ≤ n) (g3 : n ≤ 3) (hk : k < 2 ^ (m * n)) : NumOk m n k := by
  have hmn : m * n ≤ 3 * 3 := Nat.mul_le_mul h3 g3
  have e : ((m : Int) * (n : Int)).toNat = m * n := by rw [← Int.natCast_mul]; rfl
  refine ⟨by omega, by omega, by rw [← Int.natCast_mul]; omega, by omega, ?_⟩
  rw [e]
  exact_mod_cast hk

theorem numO_eq {m n k : Nat} (h : NumOk m n k) : relNumO m n k = some ((m : Int), (n : Int), numP m n k) := by
  rw [relNumO_yes h]
  have e : ((m : Int) * (n : Int)).toNat = m * n := by rw [← Int.natCast_mul]; rfl
  rw [e]
  rfl

theorem numP_len (m n k : Nat) : (numP m n k).length ≤ m * n := by
  unfold numP elems
  rw [List.length_map]
  exact Nat.le_trans (List.length_filter_le _ _) (by simp)

theorem numP_ok {m n k : Nat} (h1 : 1 ≤ m) (h3 : m ≤ 3) (g1 : 1 ≤ n) (g3 : n ≤ 3) : RelOk m n (numP m n k) := by
  refine ⟨by omega, by omega, ?_, ?_⟩
  · unfold numP
    rw [List.pairwise_map]
    exact ((sorted_range (m * n)).filter _).imp fun {a b} h => by simpa using h
  · intro p hp
    unfold numP at hp
    obtain ⟨q, hq, rfl⟩ := List.mem_map.1 hp
    have := (elems_mem.1 hq).1
    rw [← Int.natCast_mul]
    exact ⟨Int.natCast_nonneg q, Int.ofNat_lt.2 this⟩

theorem sz1_some {m i c : Nat} (h : sz1 m i = some c) : i = 0 ∧ c = m := by
  unfold sz1 szs szs at h
  by_cases e : 0 = i
  · simp only [e, if_true] at h
    injection h with h
    exact ⟨e.symm, h.symm⟩
  · simp only [e, if_false] at h
    cases h

theorem fresh_nd {q m : Nat} {ps : List Nat} {D : List Ty} {u ml ms : Nat} (w : World) (p : Nat) (t : Ty) (hQ : Fresh q m ps D u ml ms w) (hp : Has ps D t p) : Nd w (fun p t => Has ps D t p) p t := by
  obtain ⟨x, y, i, hb, hk⟩ := hp.blk hQ.pool
  refine ⟨num t, x, y, t.size, i, hb, ?_⟩
  cases t with
  | v j => exact ⟨rfl, hk⟩
  | o => exact hk
  | n f l r =>
    obtain ⟨il, ir, pl, pr, h1, h2, h3, h4, h5, h6⟩ := hk
    exact ⟨pl, pr, h5, h6, ⟨il, h1, h3⟩, ⟨ir, h2, h4⟩⟩

theorem fresh_own {q m : Nat} {ps : List Nat} {D : List Ty} {u ml ms : Nat} (w : World) (b : Nat) (hQ : Fresh q m ps D u ml ms w) (h : b = q ∨ b = m ∨ b ∈ ps ∨ b = u ∨ b = ml) : b < w.heap.size := by
  have hl := hQ.pool.low
  have h1 := hQ.blk.lt
  have h2 := hQ.map.lt
  rcases h with h | h | h | h | h
  · omega
  · omega
  · exact hl.2.2 _ h
  · omega
  · omega

/-- a block of integers or of a slice of integers -/
def RowBlk (w : World) (b : Nat) : Prop := ∃ ty cs, Blk w b ty cs ∧ (ty = 3 ∨ ty = 23)

theorem RowBlk.ne {w : World} {b g : Nat} {ty : TypeId} {cs : Array Value} (h : RowBlk w b) (hb : Blk w g ty cs) (h1 : ty ≠ 3) (h2 : ty ≠ 23) : g ≠ b := by
  rintro rfl
  obtain ⟨ty', cs', h3, h4⟩ := h
  have e := (hb.eq h3).1
  subst e
  exact h4.elim h1 h2

theorem RowBlk.ne_map {w : World} {b m : Nat} {es : Array MapEntry} {clk : Nat} (h : RowBlk w b) (hm : w.heap[m]? = some (.map es clk)) : m ≠ b := by
  obtain ⟨ty', cs', h3, h4⟩ := h
  exact fun e => h3.ne_map hm e.symm

theorem Fresh.not_row {q m : Nat} {ps : List Nat} {D : List Ty} {u ml ms b : Nat} {w : World} (hQ : Fresh q m ps D u ml ms w) (hb : RowBlk w b) : ¬ (b = q ∨ b = m ∨ b ∈ ps ∨ b = u ∨ b = ml) := by
  rintro (rfl | rfl | h | rfl | rfl)
  · exact hb.ne hQ.pool.head (by decide) (by decide) rfl
  · obtain ⟨f, ⟨es, clk, hm, _⟩, _⟩ := hQ.pool.map
    exact hb.ne_map hm rfl
  · obtain ⟨i, hi, e⟩ := List.getElem_of_mem h
    have hD : i < D.length := by have := hQ.pool.len; omega
    obtain ⟨x, y, h1, _⟩ := hQ.pool.node i D[i] b (List.getElem?_eq_getElem hD) (by rw [List.getElem?_eq_getElem hi, e])
    exact hb.ne h1 (by decide) (by decide) rfl
  · exact hb.ne hQ.blk (by decide) (by decide) rfl
  · obtain ⟨es, clk, hm, _⟩ := hQ.map
    exact hb.ne_map hm rfl

theorem PtIs.frX {d : PtD} {w w' : World} {T t m n c c' lo hi} {X : Nat → Prop} (h : PtIs d w T t m n c c' lo hi) (hf : Fr X w w') (hX : ∀ b, X b → hi ≤ b ∨ RowBlk w b) (hB : ∀ g ty cs, Blk w g ty cs → ty = 176 ∨ ty = 103 ∨ ty = 111 → ¬ X g) : PtIs d w' T t m n c c' lo hi := by
  obtain ⟨s, z, x, y, hl⟩ := h.sl
  obtain ⟨s', z', x', y', hr⟩ := h.sr
  obtain ⟨h1, h2, h3, h4, h5⟩ := h.high
  have no : ∀ b, d.own b → ¬ X b := fun b hb hx => by
    rcases hX b hx with hX | hX
    · have := h1 b hb; omega
    · exact Fresh.not_row h.cs1.q hX hb
  have nm : ∀ b, b < hi → (∃ es clk, w.heap[b]? = some (.map es clk)) → ¬ X b := fun b hb ⟨es, clk, hm⟩ hx => by
    rcases hX b hx with hX | hX
    · omega
    · exact hX.ne_map hm rfl
  have a1 : ∃ es clk, w.heap[d.mz1]? = some (.map es clk) := by obtain ⟨k, f, ⟨es, clk, hm, _⟩, _⟩ := h.cs1.sz; exact ⟨es, clk, hm⟩
  have a2 : ∃ es clk, w.heap[d.mz2]? = some (.map es clk) := by obtain ⟨k, f, ⟨es, clk, hm, _⟩, _⟩ := h.cs2.sz; exact ⟨es, clk, hm⟩
  have a3 : ∃ es clk, w.heap[d.mk1]? = some (.map es clk) := by obtain ⟨k, f, ⟨es, clk, hm, _⟩, _⟩ := h.cs1.kn; exact ⟨es, clk, hm⟩
  have a4 : ∃ es clk, w.heap[d.mk2]? = some (.map es clk) := by obtain ⟨k, f, ⟨es, clk, hm, _⟩, _⟩ := h.cs2.kn; exact ⟨es, clk, hm⟩
  exact ⟨h.blk.fr hf (hB _ _ _ h.blk (.inr (.inr rfl))), h.has, h.cs1.any d.lead hf (fun g ty cs hb ht => hB g ty cs hb (ht.elim .inl (fun h => .inr (.inl h)))) (fun b hb ho => no b ho hb) (nm _ h2 a1) (nm _ h4 a3),
    h.cs2.any d.lead hf (fun g ty cs hb ht => hB g ty cs hb (ht.elim .inl (fun h => .inr (.inl h)))) (fun b hb ho => no b ho hb) (nm _ h3 a2) (nm _ h5 a4), h.ok1, h.ok2, h.kk, h.z1, h.z2,
    ⟨s, z, x, y, hl.fr hf (hB _ _ _ hl (.inr (.inl rfl)))⟩, ⟨s', z', x', y', hr.fr hf (hB _ _ _ hr (.inr (.inl rfl)))⟩, h.low, h.high⟩

/-- what a round of a loop over lifted types keeps; X: rows that a round may change -/
structure LfJ (l : Nat) (X : Nat → Prop) (d : PtD) (T : Nat) (t : Ty) (m n c c' lo hi : Nat) (J : Nat → World → Prop) (Jx : World → Prop) : Prop where
  rows : ∀ k W b, J k W → X b → RowBlk W b
  tab : ¬ X 0
  keep : ∀ k W W' X, J k W → Fr X W W' → (∀ b, X b → lo ≤ b ∧ ∃ es clk, W.heap[b]? = some (.map es clk)) → J k W'
  round : ∀ (k P Bk : Nat) (F : Cach) (W : World), k < nrel t m n → J k W → l < Bk → Bk ≤ W.heap.size → (∀ g, InF F g → Bk ≤ g) → LtAt (sz1 m) (sz1 n) (numR m n k) F No W t P → LC (sz1 m) (sz1 n) (numR m n k) F No W →
    YieldAt Fence.wide 7 Tryd.prog l #[Ptr P] W fun e W' => (e = .returned (.bool true) ∧ J (k + 1) W' ∧ Fr (fun b => InF F b ∨ b = l ∨ X b) W W' ∧ ∃ r, W'.heap[l]? = some (.loop r)) ∨ (e = .returned (.bool false) ∧ Jx W')

set_option maxRecDepth 100000 in
set_option maxHeartbeats 4000000 in
theorem lifts_in (l B : Nat) (X : Nat → Prop) (d : PtD) (T : Nat) (t : Ty) (m n c c' lo hi : Nat) (J : Nat → World → Prop) (Jx : World → Prop) (hJ : LfJ l X d T t m n c c' lo hi J Jx) (ht : t.size ≤ 40) (hm1 : 1 ≤ m) (hm : m ≤ 3) (hn1 : 1 ≤ n) (hn : n ≤ 3) (hk1 : t.kn (sz1 m) = some c) (hk2 : t.kn (sz1 n) = some c')
    (w : World) (h0 : J 0 w) (hP : PtIs d w T t m n c c' lo hi) (hbox : Blk w B 106 #[Ptr T]) (hT : TZt w) (hl : hi ≤ l) (hlp : ∃ r, w.heap[l]? = some (.loop r)) (htz : 0 < hi) :
    CallsIn Fence.wide 8 Tryd.prog 103 #[.func (.yield l) #[] #[], Ptr B] w fun e W' => (∃ v, e = .returned v) ∧ (J (nrel t m n) W' ∨ Jx W') := by
  have REL := Lib.hid (relations_any w T t m n c c' lo hi hP ht hm1 hm hn1 hn)
  have HJ := Lib.hid hJ
  have H0 := Lib.hid h0
  have HP := Lib.hid hP
  have HBOX := Lib.hid hbox
  have HT := Lib.hid hT
  have HLP := Lib.hid hlp
  have HNR : Hid (nrel t m n ≤ 512) := by
    show _ ≤ _
    unfold nrel
    split
    · decide
    · exact Nat.le_trans (Nat.pow_le_pow_right (by decide) (Nat.mul_le_mul hm hn)) (by decide)
  have b0 : w.cell? ⟨B, 0, none⟩ = some (Ptr T) := (hbox.cell 0).trans rfl
  clear hJ h0 hP hbox hT hlp
  refine callsIn_of_wp Tryd.func103 rfl trivial ?_ rfl
  simp only [Tryd.ntmps103, List.size_toArray, List.length_cons, List.length_nil, Nat.reduceAdd, Nat.reduceSub, Array.replicate_succ, Array.replicate_zero, List.push_toArray, List.append_toArray, List.nil_append, List.cons_append]
  gi_wp2_with fail
  refine ⟨trivial, (callsIn_wide.2 REL.out).mono ?_⟩
  rintro e w1 ⟨rfl, hf1⟩
  have HF1 := Lib.hid hf1
  have HJ1 : Hid (J 0 w1) := HJ.out.keep 0 w w1 No H0.out hf1 (fun _ h => h.elim)
  have HP1 := Lib.hid (HP.out.no hf1)
  have HB1 := Lib.hid (HBOX.out.fr hf1 (fun h => h))
  have HT1 := Lib.hid (HT.out.fr hf1 (fun h => h))
  have HL1 : Hid (∃ r, w1.heap[l]? = some (.loop r)) := by
    obtain ⟨r, hr⟩ := HLP.out
    exact ⟨r, (hf1.block l (Array.getElem?_eq_some_iff.1 hr).1 (fun h => h)).trans hr⟩
  clear hf1 b0 REL H0 HP HBOX HT HLP
  have hnr := HNR.out
  generalize hNR : nrel t m n = NR at *
  have HNE := Lib.hid hNR
  clear hNR
  gi_wp2_with fail
  gi_loopg [10] NR (fun gk u W => ∃ k : Nat, k + gk = NR ∧ u = .int .i64 k ∧ J k W ∧ PtIs d W T t m n c c' lo hi ∧ Blk W B 106 #[Ptr T] ∧ TZt W ∧ ∃ r, W.heap[l]? = some (.loop r))
  case atStart => exact ⟨0, by omega, rfl, HJ1.out, HP1.out, HB1.out, HT1.out, HL1.out⟩
  case round =>
    obtain ⟨k, hk, rfl, hj, hpt, hbx, htz', hlr⟩ := hrel
    have HJK := Lib.hid hj
    have HPT := Lib.hid hpt
    have HBX := Lib.hid hbx
    have HTZ := Lib.hid htz'
    have HLR := Lib.hid hlr
    clear hj hpt hbx htz' hlr HJ1 HP1 HB1 HT1 HL1
    by_cases hlt : k < NR
    · have hkI : (k : Int) < (NR : Int) := by omega
      have s0 : wr.cell? ⟨B, 0, none⟩ = some (Ptr T) := (HBX.out.cell 0).trans rfl
      have s2 : wr.cell? ⟨T, 2, none⟩ = some (.int .i64 m) := (HPT.out.blk.cell 2).trans rfl
      have s3 : wr.cell? ⟨T, 3, none⟩ = some (.int .i64 n) := (HPT.out.blk.cell 3).trans rfl
      have hNOK : NumOk m n k := numOk hm1 hm hn1 hn (by
        have h : nrel t m n ≤ 2 ^ (m * n) := by
          unfold nrel; split
          · exact Nat.one_le_two_pow
          · exact Nat.le_refl _
        have := HNE.out
        omega)
      have SS : Hid (∀ W', Fr No wr W' → W'.cell? ⟨B, 0, none⟩ = some (Ptr T) ∧ W'.cell? ⟨T, 2, none⟩ = some (.int .i64 m) ∧ W'.cell? ⟨T, 3, none⟩ = some (.int .i64 n) ∧ B < W'.heap.size ∧ T < W'.heap.size) := fun W' hf => by
        have h1 := HBX.out.fr hf (fun h => h)
        have h2 := HPT.out.blk.fr hf (fun h => h)
        exact ⟨(h1.cell 0).trans rfl, (h2.cell 2).trans rfl, (h2.cell 3).trans rfl, h1.lt, h2.lt⟩
      have RN : Hid (∀ W', Fr No wr W' → Calls Tryd.prog 105 #[.int .i64 m, .int .i64 n, .int .i64 k] W' fun e w' => ∃ A q cc, e = .returned (.tuple #[RV m n A q cc, .bool true]) ∧ Fr No W' w' ∧ Hid (Fr No wr w' ∧ OR w' wr.heap.size A q cc (numP m n k))) := fun W' hf => (implRelNumber W' m n k (HTZ.out.fr hf (fun h => h))).mono (fun e w' ⟨A, q, cc, h1, h2, h3⟩ => by
        rw [numO_eq hNOK] at h1 h3
        exact ⟨A, q, cc, h1, h2, hf.trans h2, h3.low hf.size⟩)
      have hd0 : Fr No wr wr.drew := (Fr.refl No wr).drew
      have hd1 : Fr No wr (wr.alloc (.cells #[.int .i64 0, .int .i64 0, .slice none 0 0] 27)).drew := ((Fr.refl No wr).alloc _).drew
      obtain ⟨_, _, _, l1, l2⟩ := SS.out wr (Fr.refl _ _)
      have nB : B ≠ wr.heap.size := by omega
      have nB' : wr.heap.size ≠ B := by omega
      have nT : T ≠ wr.heap.size := by omega
      have nT' : wr.heap.size ≠ T := by omega
      gi_wp2_with fail
      rename_i Ks hKs
      suffices REST : Hid (∀ (kb : Nat) (A : Option Addr) (q cc : Nat) (V : World), Fr No wr V → Blk V kb 27 #[.int .i64 m, .int .i64 n, .slice A q cc] → OR V wr.heap.size A q cc (numP m n k) → wr.heap.size ≤ kb → Ks { tmps := #[Value.func (Fn.yield l) #[] #[], Ptr B, undef, Value.int IntKind.i64 ↑k, Value.pointer (some { block := kb, off := 0 }), Value.bool true, u6, u7, Ptr T, Value.int IntKind.i64 ↑NR, Value.int IntKind.i64 ↑k, Value.bool true, Value.int IntKind.i64 ↑k, Value.tuple #[RV (↑m) (↑n) A q cc, Value.bool true], Ptr T, Value.pointer (some { block := T, off := 0 }), Value.pointer (some { block := T, off := 2 }), Value.int IntKind.i64 ↑m, Ptr T, Value.pointer (some { block := T, off := 0 }), Value.pointer (some { block := T, off := 3 }), Value.int IntKind.i64 ↑n, Value.int IntKind.i64 ↑k, Value.tuple #[RV (↑m) (↑n) A q cc, Value.bool true], RV (↑m) (↑n) A q cc, Value.bool true, u26, u27, u28, u29, u30, u31, u32, u33, u34, u35, u36, u37, u38, u39, u40, u41, u42, u43, u44, u45, u46, u47, u48, u49, u50, u51, u52, u53, u54], defers := [] } V) by
        clear hKs
        refine wpIn_wide.2 ?_
        go_region_held3 (fun w' => w'.cell? ⟨B, 0, none⟩ = some (Ptr T) ∧ w'.cell? ⟨T, 2, none⟩ = some (.int .i64 m) ∧ w'.cell? ⟨T, 3, none⟩ = some (.int .i64 n)) (go_keep)
          (first | (go_at_call 105; ((with_reducible refine (RN.out _ (by first | exact hd0 | exact hd1)).mono ?_); rintro e w2 ⟨A, q, cc, rfl, t6, HA⟩; obtain ⟨t0, t2, t3, t4, t5⟩ := SS.out w2 HA.out.1; first | (have hk6 := (Blk.drew (Blk.new wr 27 #[.int .i64 0, .int .i64 0, .slice none 0 0])).fr t6 (fun h => h); have x0 : w2.cell? ⟨wr.heap.size, 0, none⟩ = some (.int .i64 0) := (hk6.cell 0).trans rfl; have x1 : w2.cell? ⟨wr.heap.size, 1, none⟩ = some (.int .i64 0) := (hk6.cell 1).trans rfl; have x2 : w2.cell? ⟨wr.heap.size, 2, none⟩ = some (.slice none 0 0) := (hk6.cell 2).trans rfl; have y0 := hk6.frozen 0; have y1 := hk6.frozen 1; have y2 := hk6.frozen 2; have y3 := hk6.lt) | skip)))
        all_goals first
          | exact REST.out _ A q cc _ (HA.out.1.alloc _) (Blk.new _ _ _) (HA.out.2.no ((Fr.refl _ _).alloc _)) HA.out.1.size
          | (obtain ⟨j1, j2⟩ := ans_store (Nat.le_refl _) HA.out.1 hk6 HA.out.2 (Nat.le_refl _) (.int .i64 m) (.int .i64 n) (.slice A q cc); exact REST.out _ A q cc _ j1 (((hk6.set_ 0 _).set_ 1 _).set_ 2 _) j2 (Nat.le_refl _))
      intro kb A q cc V hfV hkb hor hkbl
      refine hKs _ _ ?_
      clear hKs nB nB' nT nT' l1 l2 hd0 hd1 s0 s2 s3 RN SS
      obtain ⟨rfl, hown⟩ := hor
      have hpl := numP_len m n k
      have hmn : m * n ≤ 9 := Nat.le_trans (Nat.mul_le_mul hm hn) (by decide)
      have RD : Hid (∀ V', Fr No V V' → Calls Tryd.prog 54 #[RV m n A (numP m n k).length cc] V' fun e w' => ∃ b : Nat, e = .returned (Ptr b) ∧ Fr No V' w' ∧ Hid (Fr No V w' ∧ RelAt w' b m n V.heap.size (memR n (numP m n k)))) := fun V' hf => (readRelation_any V' m n A cc (numP m n k) ((OR.isl ⟨rfl, hown⟩).keep hf (fun _ h => h.elim)) (by omega)).mono (fun e w' ⟨h1, h2⟩ => by
        rcases h2 with ⟨l', r', b, e1, e2, _, rfl, h3, Rb, gs, h4, h5⟩ | ⟨hno, _⟩
        · have e1 : m = l' := by omega
          have e2 : n = r' := by omega
          subst e1 e2
          exact ⟨b, rfl, h1, hf.trans h1, Nat.le_trans hf.size h3, Rb, gs, h4, h5.base hf.size⟩
        · exact absurd (numP_ok hm1 hm hn1 hn) hno)
      have HFV := Lib.hid hfV
      have HKB := Lib.hid hkb
      have HKL := Lib.hid hkbl
      have SS : Hid (∀ W', Fr No V W' → W'.cell? ⟨B, 0, none⟩ = some (Ptr T) ∧ W'.cell? ⟨T, 1, none⟩ = some (.int .i64 0) ∧ W'.cell? ⟨kb, 0, none⟩ = some (.int .i64 m) ∧ W'.cell? ⟨kb, 1, none⟩ = some (.int .i64 n) ∧ W'.cell? ⟨kb, 2, none⟩ = some (.slice A (numP m n k).length cc) ∧ B < W'.heap.size ∧ T < W'.heap.size ∧ kb < W'.heap.size) := fun W' hf => by
        have h1 := (HBX.out.fr HFV.out (fun h => h)).fr hf (fun h => h)
        have h2 := (HPT.out.blk.fr HFV.out (fun h => h)).fr hf (fun h => h)
        have h3 := HKB.out.fr hf (fun h => h)
        exact ⟨(h1.cell 0).trans rfl, (h2.cell 1).trans rfl, (h3.cell 0).trans rfl, (h3.cell 1).trans rfl, (h3.cell 2).trans rfl, h1.lt, h2.lt, h3.lt⟩
      have UPD : Hid (∀ (W' : World) (mr b : Nat), MapAt W' encI mr 0 (fun _ => none) → ∃ w6, (Instr.mapUpdate 135 (.map (some mr)) (.int .i64 0) (Ptr b)).run Tryd.prog W' = .ok () w6 ∧ Hid (Fr (One mr) W' w6 ∧ ∃ kk f, MapAt w6 encI mr kk f ∧ f 0 = some (Ptr b))) := fun W' mr b h => by
        obtain ⟨w6, h1, h2, h3, _⟩ := h.update (int_kind Tryd.underlying3) Tryd.underlying135 0 (Ptr b)
        exact ⟨w6, h1, (Fr.refl (One mr) W').turned h3 (.inl rfl), _, _, h2, updK_same _ _ _⟩
      have hmm := @run_makeMap Tryd.prog
      have hd0 : Fr No V V.drew := (Fr.refl No V).drew
      have hd1 : Fr No V (V.alloc (.map #[] 0)).drew := ((Fr.refl No V).alloc _).drew
      obtain ⟨s0, s1, s2, s3, s4, s5, s6, s7⟩ := SS.out V (Fr.refl _ _)
      generalize (numP m n k).length = ql at *
      clear hfV hkb hkbl hown hpl
      gi_wp2_with fail
      rename_i Ks hKs
      have R2 : Hid (∀ (W' : World) (mr b : Nat) (w6 : World), Fr No V W' → RelAt W' b m n V.heap.size (memR n (numP m n k)) → MapAt W' encI mr 0 (fun _ => none) → (Fr (One mr) W' w6 ∧ ∃ kk f, MapAt w6 encI mr kk f ∧ f 0 = some (Ptr b)) → V.heap.size ≤ mr →
          Fr No V w6 ∧ RelAt w6 b m n V.heap.size (memR n (numP m n k)) ∧ (∃ kk f, MapAt w6 encI mr kk f ∧ f 0 = some (Ptr b)) ∧ V.heap.size ≤ mr) := by
        rintro W' mr b w6 h1 h2 ⟨es, clk, hm, _⟩ ⟨h4, h5⟩ h6
        exact ⟨h1.then_ h4 (fun i hi h => by have h : i = mr := h; omega), h2.frO h4 (fun g t cs hb _ h => by have h : g = mr := h; exact hb.ne_map hm h), h5, h6⟩
      suffices REST : Hid (∀ (mr b : Nat) (V6 : World), (Fr No V V6 ∧ RelAt V6 b m n V.heap.size (memR n (numP m n k)) ∧ (∃ kk f, MapAt V6 encI mr kk f ∧ f 0 = some (Ptr b)) ∧ V.heap.size ≤ mr) → Ks { tmps := #[Value.func (Fn.yield l) #[] #[], Ptr B, undef, Value.int IntKind.i64 ↑k, Value.pointer (some { block := kb, off := 0 }), Value.bool true, Value.map (some mr), u7, Ptr T, Value.int IntKind.i64 ↑NR, Value.int IntKind.i64 ↑k, Value.bool true, Value.int IntKind.i64 ↑k, Value.tuple #[RV (↑m) (↑n) A ql cc, Value.bool true], Ptr T, Value.pointer (some { block := T, off := 0 }), Value.pointer (some { block := T, off := 2 }), Value.int IntKind.i64 ↑m, Ptr T, Value.pointer (some { block := T, off := 0 }), Value.pointer (some { block := T, off := 3 }), Value.int IntKind.i64 ↑n, Value.int IntKind.i64 ↑k, Value.tuple #[RV (↑m) (↑n) A ql cc, Value.bool true], RV (↑m) (↑n) A ql cc, Value.bool true, Value.map (some mr), Ptr T, Value.pointer (some { block := T, off := 0 }), Value.pointer (some { block := T, off := 1 }), Value.int IntKind.i64 0, Value.agg #[Value.int IntKind.i64 ↑m, Value.int IntKind.i64 ↑n, Value.slice A ql cc], Ptr b, Value.map (some mr), u34, u35, u36, u37, u38, u39, u40, u41, u42, u43, u44, u45, u46, u47, u48, u49, u50, u51, u52, u53, u54], defers := [] } V6) by
        clear hKs
        refine wpIn_wide.2 ?_
        go_region_held3 (fun w' => w'.cell? ⟨B, 0, none⟩ = some (Ptr T) ∧ w'.cell? ⟨T, 1, none⟩ = some (.int .i64 0) ∧ w'.cell? ⟨kb, 0, none⟩ = some (.int .i64 m) ∧ w'.cell? ⟨kb, 1, none⟩ = some (.int .i64 n) ∧ w'.cell? ⟨kb, 2, none⟩ = some (.slice A ql cc)) (go_keep)
          (first | (go_at_call 54; ((first | (with_reducible refine (RD.out _ hd0).mono ?_) | (with_reducible refine (RD.out _ hd1).mono ?_)); rintro e w5 ⟨b, rfl, t6, HB⟩; obtain ⟨z0, z1, z2, z3, z4, z5, z6, z7⟩ := SS.out w5 HB.out.1; (first | (have hma : MapAt w5 encI V.heap.size 0 (fun _ => none) := ((MapAt.made V encI).keep (w' := (V.alloc (.map #[] 0)).drew) rfl).keep (Fr.block t6 V.heap.size (by simp) (fun h => h)); obtain ⟨w6, hrun, H6⟩ := UPD.out w5 V.heap.size b hma; obtain ⟨y0, y1, y2, y3, y4, y5, y6, y7⟩ := SS.out w6 (HB.out.1.then_ H6.out.1 (fun i hi h => by have h : i = V.heap.size := h; omega))) | (have hma := MapAt.made w5 encI; obtain ⟨w6, hrun, H6⟩ := UPD.out (w5.alloc (.map #[] 0)) w5.heap.size b hma; obtain ⟨y0, y1, y2, y3, y4, y5, y6, y7⟩ := SS.out w6 ((HB.out.1.alloc _).then_ H6.out.1 (fun i hi h => by have h : i = w5.heap.size := h; have := Fr.size HB.out.1; omega)))))))
        all_goals first
          | exact REST.out V.heap.size b w6 (R2.out w5 V.heap.size b w6 HB.out.1 HB.out.2 hma H6.out (Nat.le_refl _))
          | exact REST.out w5.heap.size b w6 (R2.out (w5.alloc (.map #[] 0)) w5.heap.size b w6 (HB.out.1.alloc _) (HB.out.2.fr ((Fr.refl No w5).alloc _) (fun _ h => h.elim)) hma H6.out HB.out.1.size)
      rintro mr b V6 ⟨hf6, hrel, hmap, hmr⟩
      refine hKs _ _ ?_
      clear hKs R2 RD UPD hmm hd0 hd1 s0 s1 s2 s3 s4 s5 s6 s7 SS
      have hpt6 := (HPT.out.no HFV.out).no hf6
      have hbx6 := (HBX.out.fr HFV.out (fun h => h)).fr hf6 (fun h => h)
      have s0 : V6.cell? ⟨B, 0, none⟩ = some (Ptr T) := (hbx6.cell 0).trans rfl
      have s4 : V6.cell? ⟨T, 4, none⟩ = some (Ptr d.c1) := (hpt6.blk.cell 4).trans rfl
      have s5 : V6.cell? ⟨T, 5, none⟩ = some (Ptr d.c2) := (hpt6.blk.cell 5).trans rfl
      have s6 := hbx6.lt
      have s7 := hpt6.blk.lt
      have HPT6 := Lib.hid hpt6
      have HBX6 := Lib.hid hbx6
      have HF6 := Lib.hid (HFV.out.trans hf6)
      have HREL := Lib.hid hrel
      have HMAP := Lib.hid hmap
      have HMR : Hid (V.heap.size ≤ mr ∧ wr.heap.size ≤ V.heap.size) := ⟨hmr, HFV.out.size⟩
      clear hpt6 hbx6 hf6 hrel hmap hmr
      gi_wp2_with fail
      refine wpIn_wide.2 ?_
      go_region_held3 (fun w' => w'.cell? ⟨B, 0, none⟩ = some (Ptr T) ∧ w'.cell? ⟨T, 4, none⟩ = some (Ptr d.c1) ∧ w'.cell? ⟨T, 5, none⟩ = some (Ptr d.c2)) (go_keep) (fail)
      have hfa : Fr No V6 (V6.alloc (.cells #[.map (some mr), Ptr d.c1, Ptr d.c2] 144)).drew := ((Fr.refl No V6).alloc _).drew
      have hLb : Blk (V6.alloc (.cells #[.map (some mr), Ptr d.c1, Ptr d.c2] 144)).drew V6.heap.size 144 #[.map (some mr), Ptr d.c1, Ptr d.c2] := Blk.drew (Blk.new _ _ _)
      generalize (V6.alloc (.cells #[.map (some mr), Ptr d.c1, Ptr d.c2] 144)).drew = V8 at hfa hLb ⊢
      have hpt8 := HPT6.out.no hfa
      have hbx8 := HBX6.out.fr hfa (fun h => h)
      have hrel8 := HREL.out.fr hfa (fun _ h => h.elim)
      obtain ⟨_, Rb, gs, hrb, hrows⟩ := hrel8
      obtain ⟨kk, f, hm1', hm2'⟩ := HMAP.out
      have hm8 := hm1'.keep (hfa.block mr hm1'.lt (fun h => h))
      have hrl : RelsAt V8 mr V8.heap.size (sz1 m) (sz1 n) (numR m n k) := ⟨kk, f, hm8, fun i a a' e1 e2 => by
        obtain ⟨rfl, rfl⟩ := sz1_some e1
        obtain ⟨_, rfl⟩ := sz1_some e2
        exact ⟨b, Rb, gs, hm2', hrb, hrows.base (Nat.zero_le _), hrows.rows.lt⟩⟩
      have hLf : LfAt d.u d.ml d.mz1 d.mk1 d.c1 d.mz2 d.mk2 d.c2 V6.heap.size mr V8.heap.size d.L d.Q (sz1 m) (sz1 n) (numR m n k) V8 := ⟨hpt8.cs1, hpt8.cs2, hLb, hrl⟩
      have hmlow : d.ml < wr.heap.size ∧ d.mk1 < wr.heap.size ∧ d.mk2 < wr.heap.size := by
        obtain ⟨k1, f1, h1, _⟩ := HPT.out.cs1.kn
        obtain ⟨k2, f2, h2, _⟩ := HPT.out.cs2.kn
        exact ⟨HPT.out.cs1.q.map.lt, h1.lt, h2.lt⟩
      have hmr2 : wr.heap.size ≤ mr := Nat.le_trans HMR.out.2 HMR.out.1
      have hOk : LfOk d.ml d.mz1 d.mk1 d.mz2 d.mk2 mr d.own (sz1 m) (sz1 n) := ⟨hpt8.ok1, hpt8.ok2, hpt8.kk, hpt8.z1, hpt8.z2, by omega, by omega, by omega⟩
      have hF08 : Fr No wr V8 := HF6.out.trans hfa
      have hTZ8 := HTZ.out.fr hF08 (fun h => h)
      have hLC : LC (sz1 m) (sz1 n) (numR m n k) (fun _ => none) No V8 := ⟨fun g t h => (by cases h), hTZ8, rfl⟩
      have CALL := Lib.hid (ofl_any d.lead fresh_nd fresh_own hOk (sz1_sizes hm1 hm) t V8 d.kind (fun _ => none) c c' hLf hpt8.has hLC (fun g ⟨t, h⟩ => by cases h) (Nat.le_refl _) hk1 hk2)
      have HPT8 := Lib.hid hpt8
      have HBX8 := Lib.hid hbx8
      have HF8 := Lib.hid hF08
      have HLF8 := Lib.hid hLf
      have s0 : V8.cell? ⟨B, 0, none⟩ = some (Ptr T) := (hbx8.cell 0).trans rfl
      have s1 : V8.cell? ⟨T, 0, none⟩ = some (Ptr d.kind) := (hpt8.blk.cell 0).trans rfl
      clear hfa hLb hpt8 hbx8 hrb hrows hm1' hm2' hm8 hrl hLf hmlow hmr2 hOk hF08 hTZ8 hLC s4 s5 s6 s7 HPT6 HBX6 HF6 HREL HMAP HMR HKB HKL HFV
      gi_wp2_with fail
      refine ⟨trivial, (callsIn_wide.2 CALL.out).mono ?_⟩
      rintro e w9 ⟨P, F', rfl, hlt9, hlc9, hlf9, _, hF9, hf9⟩
      have hj8 := HJ.out.keep k wr V8 No HJK.out HF8.out (fun _ h => h.elim)
      have hm9 := HLF8.out.maps d.lead
      have hj9 := HJ.out.keep k V8 w9 _ hj8 hf9 (fun b hb => ⟨by
        have h := HPT.out.low
        rcases hb with h1 | h1 | h1
        · rw [h1]; exact h.1
        · rw [h1]; exact h.2.1
        · rw [h1]; exact h.2.2, hm9 b hb⟩)
      have nm : ∀ g ty cs, Blk V8 g ty cs → ¬ Three d.ml d.mk1 d.mk2 g := fun g ty cs hb ht => by
        obtain ⟨es, clk, hm⟩ := hm9 g ht
        exact hb.ne_map hm rfl
      obtain ⟨r, hr⟩ := HLR.out
      have hl8 : V8.heap[l]? = some (.loop r) := (HF8.out.block l (Array.getElem?_eq_some_iff.1 hr).1 (fun h => h)).trans hr
      have hl9 : w9.heap[l]? = some (.loop r) := (hf9.block l (Array.getElem?_eq_some_iff.1 hl8).1 (fun h => by obtain ⟨es, clk, hm⟩ := hm9 l h; rw [hl8] at hm; cases hm)).trans hl8
      have hlB : l < V8.heap.size := (Array.getElem?_eq_some_iff.1 hl8).1
      have hpt9 : PtIs d w9 T t m n c c' lo hi := by
        have h := HPT8.out
        obtain ⟨s, z, x, y, h1⟩ := h.sl
        obtain ⟨s', z', x', y', h2⟩ := h.sr
        exact ⟨h.blk.fr hf9 (nm _ _ _ h.blk), h.has, hlf9.a, hlf9.b, h.ok1, h.ok2, h.kk, h.z1, h.z2, ⟨s, z, x, y, h1.fr hf9 (nm _ _ _ h1)⟩, ⟨s', z', x', y', h2.fr hf9 (nm _ _ _ h2)⟩, h.low, h.high⟩
      have hbx9 := HBX8.out.fr hf9 (nm _ _ _ HBX8.out)
      obtain ⟨fn, tmps, assign, body, hy, hR⟩ := HJ.out.round k P V8.heap.size F' w9 (by rw [HNE.out]; exact hlt) hj9 hlB hf9.size hF9 hlt9 hlc9
      have HX9 : Hid (∀ b, X b → RowBlk w9 b) := fun b hb => HJ.out.rows k w9 b hj9 hb
      have HPT9 := Lib.hid hpt9
      have HBX9 := Lib.hid hbx9
      have HL9 := Lib.hid hl9
      have HLC9 := Lib.hid hlc9
      have HF9 := Lib.hid hF9
      have HLB := Lib.hid hlB
      clear hlt9 hlc9 hlf9 hF9 hf9 hj8 hm9 hj9 nm hr hl8 hl9 hlB hpt9 hbx9 CALL s0 s1
      gi_wp2_with fail
      refine hR.mono ?_
      rintro e W3 (⟨rfl, hj3, hf3, hl3⟩ | ⟨rfl, hx⟩)
      · have hX1 : ∀ b, (InF F' b ∨ b = l ∨ X b) → hi ≤ b ∨ RowBlk w9 b := fun b hb => by
          rcases hb with hb | hb | hb
          · have := HF9.out b hb; have := HLB.out; left; omega
          · left; omega
          · exact .inr (HX9.out b hb)
        have nB : ∀ g ty cs, Blk w9 g ty cs → ty ≠ 66 → ty ≠ 119 → ty ≠ 3 → ty ≠ 23 → ¬ (InF F' g ∨ g = l ∨ X g) := fun g ty cs hb h1 h2 h3 h4 h => by
          rcases h with h | h | h
          · exact HLC9.out.far g ty cs hb (.inl h1) (fun e => absurd e h2) h
          · exact hb.ne_of HL9.out (fun _ h => by cases h) h
          · exact (HX9.out g h).ne hb h3 h4 rfl
        have HREL : Hid (J (k + 1) W3 ∧ PtIs d W3 T t m n c c' lo hi ∧ Blk W3 B 106 #[Ptr T] ∧ TZt W3 ∧ ∃ r, W3.heap[l]? = some (.loop r)) := by
          refine ⟨hj3, HPT9.out.frX hf3 hX1 (fun g ty cs hb h => nB g ty cs hb (by rcases h with rfl | rfl | rfl <;> decide) (by rcases h with rfl | rfl | rfl <;> decide) (by rcases h with rfl | rfl | rfl <;> decide) (by rcases h with rfl | rfl | rfl <;> decide)), HBX9.out.fr hf3 (nB _ _ _ HBX9.out (by decide) (by decide) (by decide) (by decide)), HLC9.out.tz.fr hf3 ?_, hl3⟩
          rintro (⟨t, h⟩ | h | h)
          · rw [HLC9.out.tzF] at h; cases h
          · omega
          · exact HJ.out.tab h
        clear hj3 hf3 hl3 hX1 nB hy hR
        gi_wp2_with fail
        go_roundg (NR - (k + 1))
        case measure => omega
        case rel => exact ⟨k + 1, by omega, by go_num, HREL.out⟩
      · have HX := Lib.hid hx
        clear hx hy hR
        gi_wp2_with fail
        refine bodyPost_ret (results_none rfl _ _ _) rfl ?_
        exact ⟨⟨_, rfl⟩, .inr HX.out⟩
    · have hkN : k = NR := by omega
      have HE : Hid (J (nrel t m n) wr) := by show J _ _; rw [HNE.out, ← hkN]; exact HJK.out
      have hnlt : ¬ (k : Int) < (NR : Int) := by omega
      clear hkN
      gi_wp2_with fail
      go_end0
      exact ⟨⟨_, rfl⟩, .inl HE.out⟩
end Go.Proofs.YtbdmlogkedpbdaaDoor
