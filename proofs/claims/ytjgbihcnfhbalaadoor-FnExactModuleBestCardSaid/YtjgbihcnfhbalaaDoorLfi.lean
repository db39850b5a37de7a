/- The relations between both sizes, lifted one by one: the iterator. -/
import Derived.Test.YtjgbihcnfhbalaaDoorPtt
import Derived.Test.YtjgbihcnfhbalaaDoorRnum
namespace Go.Proofs.YtjgbihcnfhbalaaDoor
open Go.RowKit Go.ChangeMaps Go.Shelf

attribute [local go_sem] Oper.semAt_some

/-- the pairs of a relation with a number -/
def numP (m n k : Nat) : List Int := (elems (m * n) (k.testBit ·)).map Int.ofNat
/-- what it relates, for any variable -/
def numR (m n k : Nat) : Nat → Nat → Nat → Bool := fun _ x y => memR n (numP m n k) x y

theorem numOk {m n k : Nat} (h1 : 1 ≤ m) (h3 : m ≤ 3) (g1 : 1 ≤ n) (g3 : n ≤ 3) (hk : k < 2 ^ (m * n)) : NumOk m n k := by
  have hmn : m * n ≤ 3 * 3 := Nat.mul_le_mul h3 g3
  have e : ((m : Int) * (n : Int)).toNat = m * n := by rw [← Int.natCast_mul]; rfl
  refine ⟨by omega, by omega, by rw [← Int.natCast_mul]; omega, by omega, ?_⟩
  rw [e]
  exact_mod_cast hk

theorem numO_eq {m n k : Nat} (h : NumOk m n k) : relNumO m n k = some ((m : Int), (n : Int), numP m n k) := by
  rw [relNumO_yes h]
  have e : ((m : Int) * (n : Int)).toNat = m * n := by rw [← Int.natCast_mul]; rfl
  rw [e]
  rfl

theorem numP_len (m n k : Nat) : (numP m n k).length ≤ m * n := by
  unfold numP elems
  rw [List.length_map]
  exact Nat.le_trans (List.length_filter_le _ _) (by simp)

theorem numP_ok {m n k : Nat} (h1 : 1 ≤ m) (h3 : m ≤ 3) (g1 : 1 ≤ n) (g3 : n ≤ 3) : RelOk m n (numP m n k) := by
  refine ⟨by omega, by omega, ?_, ?_⟩
  · unfold numP
    rw [List.pairwise_map]
    exact ((sorted_range (m * n)).filter _).imp fun {a b} h => by simpa using h
  · intro p hp
    unfold numP at hp
    obtain ⟨q, hq, rfl⟩ := List.mem_map.1 hp
    have := (elems_mem.1 hq).1
    rw [← Int.natCast_mul]
    exact ⟨Int.natCast_nonneg q, Int.ofNat_lt.2 this⟩

theorem sz1_some {m i c : Nat} (h : sz1 m i = some c) : i = 0 ∧ c = m := by
  unfold sz1 szs szs at h
  by_cases e : 0 = i
  · simp only [e, if_true] at h
    injection h with h
    exact ⟨e.symm, h.symm⟩
  · simp only [e, if_false] at h
    cases h

theorem fresh_nd {q m : Nat} {ps : List Nat} {D : List Ty} {u ml ms : Nat} (w : World) (p : Nat) (t : Ty) (hQ : Fresh q m ps D u ml ms w) (hp : Has ps D t p) : Nd w (fun p t => Has ps D t p) p t := by
  obtain ⟨x, y, i, hb, hk⟩ := hp.blk hQ.pool
  refine ⟨num t, x, y, t.size, i, hb, ?_⟩
  cases t with
  | v j => exact ⟨rfl, hk⟩
  | o => exact hk
  | n f l r =>
    obtain ⟨il, ir, pl, pr, h1, h2, h3, h4, h5, h6⟩ := hk
    exact ⟨pl, pr, h5, h6, ⟨il, h1, h3⟩, ⟨ir, h2, h4⟩⟩

theorem fresh_own {q m : Nat} {ps : List Nat} {D : List Ty} {u ml ms : Nat} (w : World) (b : Nat) (hQ : Fresh q m ps D u ml ms w) (h : b = q ∨ b = m ∨ b ∈ ps ∨ b = u ∨ b = ml) : b < w.heap.size := by
  have hl := hQ.pool.low
  have h1 := hQ.blk.lt
  have h2 := hQ.map.lt
  rcases h with h | h | h | h | h
  · omega
  · omega
  · exact hl.2.2 _ h
  · omega
  · omega

/-- a block of integers, of a slice of integers or of truth values, or a loop's record -/
def RowBlk (w : World) (b : Nat) : Prop := (∃ ty cs, Blk w b ty cs ∧ (ty = 3 ∨ ty = 24 ∨ ty = 4)) ∨ ∃ r, w.heap[b]? = some (.loop r)

theorem RowBlk.ne {w : World} {b g : Nat} {ty : TypeId} {cs : Array Value} (h : RowBlk w b) (hb : Blk w g ty cs) (h1 : ty ≠ 3) (h2 : ty ≠ 24) (h0 : ty ≠ 4) : g ≠ b := by
  rintro rfl
  rcases h with ⟨ty', cs', h3, h4⟩ | ⟨r, hr⟩
  · have e := (hb.eq h3).1
    subst e
    exact h4.elim h1 (fun h => h.elim h2 h0)
  · exact hb.ne_of hr (fun _ h => by cases h) rfl

theorem RowBlk.ne_map {w : World} {b m : Nat} {es : Array MapEntry} {clk : Nat} (h : RowBlk w b) (hm : w.heap[m]? = some (.map es clk)) : m ≠ b := by
  rintro rfl
  rcases h with ⟨ty', cs', h3, h4⟩ | ⟨r, hr⟩
  · exact h3.ne_map hm rfl
  · rw [hr] at hm; cases hm

theorem Fresh.not_row {q m : Nat} {ps : List Nat} {D : List Ty} {u ml ms b : Nat} {w : World} (hQ : Fresh q m ps D u ml ms w) (hb : RowBlk w b) : ¬ (b = q ∨ b = m ∨ b ∈ ps ∨ b = u ∨ b = ml) := by
  rintro (rfl | rfl | h | rfl | rfl)
  · exact hb.ne hQ.pool.head (by decide) (by decide) (by decide) rfl
  · obtain ⟨f, ⟨es, clk, hm, _⟩, _⟩ := hQ.pool.map
    exact hb.ne_map hm rfl
  · obtain ⟨i, hi, e⟩ := List.getElem_of_mem h
    have hD : i < D.length := by have := hQ.pool.len; omega
    obtain ⟨x, y, h1, _⟩ := hQ.pool.node i D[i] b (List.getElem?_eq_getElem hD) (by rw [List.getElem?_eq_getElem hi, e])
    exact hb.ne h1 (by decide) (by decide) (by decide) rfl
  · exact hb.ne hQ.blk (by decide) (by decide) (by decide) rfl
  · obtain ⟨es, clk, hm, _⟩ := hQ.map
    exact hb.ne_map hm rfl

theorem PtIs.frX {d : PtD} {w w' : World} {T t m n c c' lo hi} {X : Nat → Prop} (h : PtIs d w T t m n c c' lo hi) (hf : Fr X w w') (hX : ∀ b, X b → hi ≤ b ∨ RowBlk w b) (hB : ∀ g ty cs, Blk w g ty cs → ty = 182 ∨ ty = 87 ∨ ty = 76 → ¬ X g) : PtIs d w' T t m n c c' lo hi := by
  obtain ⟨s, z, x, y, hl⟩ := h.sl
  obtain ⟨s', z', x', y', hr⟩ := h.sr
  obtain ⟨h1, h2, h3, h4, h5⟩ := h.high
  have no : ∀ b, d.own b → ¬ X b := fun b hb hx => by
    rcases hX b hx with hX | hX
    · have := h1 b hb; omega
    · exact Fresh.not_row h.cs1.q hX hb
  have nm : ∀ b, b < hi → (∃ es clk, w.heap[b]? = some (.map es clk)) → ¬ X b := fun b hb ⟨es, clk, hm⟩ hx => by
    rcases hX b hx with hX | hX
    · omega
    · exact hX.ne_map hm rfl
  have a1 : ∃ es clk, w.heap[d.mz1]? = some (.map es clk) := by obtain ⟨k, f, ⟨es, clk, hm, _⟩, _⟩ := h.cs1.sz; exact ⟨es, clk, hm⟩
  have a2 : ∃ es clk, w.heap[d.mz2]? = some (.map es clk) := by obtain ⟨k, f, ⟨es, clk, hm, _⟩, _⟩ := h.cs2.sz; exact ⟨es, clk, hm⟩
  have a3 : ∃ es clk, w.heap[d.mk1]? = some (.map es clk) := by obtain ⟨k, f, ⟨es, clk, hm, _⟩, _⟩ := h.cs1.kn; exact ⟨es, clk, hm⟩
  have a4 : ∃ es clk, w.heap[d.mk2]? = some (.map es clk) := by obtain ⟨k, f, ⟨es, clk, hm, _⟩, _⟩ := h.cs2.kn; exact ⟨es, clk, hm⟩
  exact ⟨h.blk.fr hf (hB _ _ _ h.blk (.inr (.inr rfl))), h.has, h.cs1.any d.lead hf (fun g ty cs hb ht => hB g ty cs hb (ht.elim .inl (fun h => .inr (.inl h)))) (fun b hb ho => no b ho hb) (nm _ h2 a1) (nm _ h4 a3),
    h.cs2.any d.lead hf (fun g ty cs hb ht => hB g ty cs hb (ht.elim .inl (fun h => .inr (.inl h)))) (fun b hb ho => no b ho hb) (nm _ h3 a2) (nm _ h5 a4), h.ok1, h.ok2, h.kk, h.z1, h.z2,
    ⟨s, z, x, y, hl.fr hf (hB _ _ _ hl (.inr (.inl rfl)))⟩, ⟨s', z', x', y', hr.fr hf (hB _ _ _ hr (.inr (.inl rfl)))⟩, h.low, h.high⟩

theorem PtIs.maps {d : PtD} {w : World} {T t m n c c' lo hi} (h : PtIs d w T t m n c c' lo hi) : ∀ b, Three d.ml d.mk1 d.mk2 b → lo ≤ b ∧ ∃ es clk, w.heap[b]? = some (.map es clk) := by
  rintro b (h1 | h1 | h1)
  · exact ⟨by rw [h1]; exact h.low.1, h.cs1.maps d.lead b (.inl h1)⟩
  · exact ⟨by rw [h1]; exact h.low.2.1, h.cs1.maps d.lead b (.inr h1)⟩
  · exact ⟨by rw [h1]; exact h.low.2.2, h.cs2.maps d.lead b (.inr h1)⟩

/-- what lifting the relation with a number answers -/
def LiftP (d : PtD) (T : Nat) (t : Ty) (m n c c' lo hi k : Nat) (w : World) (e : Ending) (w' : World) : Prop :=
  ∃ (P : Nat) (F : Cach), e = .returned (Ptr P) ∧ LtAt (sz1 m) (sz1 n) (numR m n k) F No w' t P ∧ LC (sz1 m) (sz1 n) (numR m n k) F No w' ∧ (∀ g, InF F g → w.heap.size ≤ g) ∧ Fr (Three d.ml d.mk1 d.mk2) w w' ∧ PtIs d w' T t m n c c' lo hi

set_option maxRecDepth 100000 in
set_option maxHeartbeats 4000000 in
theorem lift_any (d : PtD) (T : Nat) (t : Ty) (m n c c' lo hi k : Nat) (wr : World) (hP : PtIs d wr T t m n c c' lo hi) (hm1 : 1 ≤ m) (hm : m ≤ 3) (hn1 : 1 ≤ n) (hn : n ≤ 3) (hk1 : t.kn (sz1 m) = some c) (hk2 : t.kn (sz1 n) = some c') (hT : TZt wr) (hk : k < 2 ^ (m * n)) :
    Calls Tryd.prog 99 #[Ptr T, .int .i64 k] wr fun e w' => LiftP d T t m n c c' lo hi k wr e w' := by
  have HPT := Lib.hid hP
  have HTZ := Lib.hid hT
  have s2 : wr.cell? ⟨T, 2, none⟩ = some (.int .i64 m) := (HPT.out.blk.cell 2).trans rfl
  have s3 : wr.cell? ⟨T, 3, none⟩ = some (.int .i64 n) := (HPT.out.blk.cell 3).trans rfl
  have hNOK : NumOk m n k := numOk hm1 hm hn1 hn hk
  have SS : Hid (∀ W', Fr No wr W' → W'.cell? ⟨T, 2, none⟩ = some (.int .i64 m) ∧ W'.cell? ⟨T, 3, none⟩ = some (.int .i64 n) ∧ T < W'.heap.size) := fun W' hf => by
    have h2 := HPT.out.blk.fr hf (fun h => h)
    exact ⟨(h2.cell 2).trans rfl, (h2.cell 3).trans rfl, h2.lt⟩
  have RN : Hid (∀ W', Fr No wr W' → Calls Tryd.prog 53 #[.int .i64 m, .int .i64 n, .int .i64 k] W' fun e w' => ∃ A q cc, e = .returned (.tuple #[RV m n A q cc, .bool true]) ∧ Fr No W' w' ∧ Hid (Fr No wr w' ∧ OR w' wr.heap.size A q cc (numP m n k))) := fun W' hf => (implRelNumber W' m n k (HTZ.out.fr hf (fun h => h))).mono (fun e w' ⟨A, q, cc, h1, h2, h3⟩ => by
    rw [numO_eq hNOK] at h1 h3
    exact ⟨A, q, cc, h1, h2, hf.trans h2, h3.low hf.size⟩)
  have hd0 : Fr No wr wr.drew := (Fr.refl No wr).drew
  have hd1 : Fr No wr (wr.alloc (.cells #[.int .i64 0, .int .i64 0, .slice none 0 0] 32)).drew := ((Fr.refl No wr).alloc _).drew
  obtain ⟨_, _, l2⟩ := SS.out wr (Fr.refl _ _)
  have nT : T ≠ wr.heap.size := by omega
  have nT' : wr.heap.size ≠ T := by omega
  clear hP hT
  go_enter Tryd.func99, Tryd.ntmps99
  go_wp2_with fail
  rename_i Ks hKs
  suffices REST : Hid (∀ (kb : Nat) (A : Option Addr) (q cc : Nat) (V : World), Fr No wr V → Blk V kb 32 #[.int .i64 m, .int .i64 n, .slice A q cc] → OR V wr.heap.size A q cc (numP m n k) → wr.heap.size ≤ kb → Ks { tmps := #[Ptr T, Value.int IntKind.i64 ↑k, undef, undef, Value.pointer none, Value.pointer (some { block := kb, off := 0 }), Value.bool true, undef, undef, Value.tuple #[RV (↑m) (↑n) A q cc, Value.bool true], Ptr T, Value.pointer (some { block := T, off := 0 }), Value.pointer (some { block := T, off := 2 }), Value.int IntKind.i64 ↑m, Ptr T, Value.pointer (some { block := T, off := 0 }), Value.pointer (some { block := T, off := 3 }), Value.int IntKind.i64 ↑n, Value.int IntKind.i64 ↑k, Value.tuple #[RV (↑m) (↑n) A q cc, Value.bool true], RV (↑m) (↑n) A q cc, Value.bool true, undef, undef, undef, undef, undef, undef, undef, undef, undef, undef, undef, undef, undef, undef, undef, undef, undef, undef, undef, undef, undef, undef, undef, undef, undef], defers := [] } V) by
    clear hKs
    go_region_held3 (fun w' => w'.cell? ⟨T, 2, none⟩ = some (.int .i64 m) ∧ w'.cell? ⟨T, 3, none⟩ = some (.int .i64 n)) (go_keep)
      (first | (go_at_call 53; ((with_reducible refine (RN.out _ (by first | exact hd0 | exact hd1)).mono ?_); rintro e w2 ⟨A, q, cc, rfl, t6, HA⟩; obtain ⟨t2, t3, t5⟩ := SS.out w2 HA.out.1; first | (have hk6 := (Blk.drew (Blk.new wr 32 #[.int .i64 0, .int .i64 0, .slice none 0 0])).fr t6 (fun h => h); have x0 : w2.cell? ⟨wr.heap.size, 0, none⟩ = some (.int .i64 0) := (hk6.cell 0).trans rfl; have x1 : w2.cell? ⟨wr.heap.size, 1, none⟩ = some (.int .i64 0) := (hk6.cell 1).trans rfl; have x2 : w2.cell? ⟨wr.heap.size, 2, none⟩ = some (.slice none 0 0) := (hk6.cell 2).trans rfl; have y0 := hk6.frozen 0; have y1 := hk6.frozen 1; have y2 := hk6.frozen 2; have y3 := hk6.lt) | skip)))
    all_goals first
      | exact REST.out _ A q cc _ (HA.out.1.alloc _) (Blk.new _ _ _) (HA.out.2.no ((Fr.refl _ _).alloc _)) HA.out.1.size
      | (obtain ⟨j1, j2⟩ := ans_store (Nat.le_refl _) HA.out.1 hk6 HA.out.2 (Nat.le_refl _) (.int .i64 m) (.int .i64 n) (.slice A q cc); exact REST.out _ A q cc _ j1 (((hk6.set_ 0 _).set_ 1 _).set_ 2 _) j2 (Nat.le_refl _))
  intro kb A q cc V hfV hkb hor hkbl
  refine hKs _ _ ?_
  clear hKs nT nT' l2 hd0 hd1 s2 s3 RN SS
  obtain ⟨rfl, hown⟩ := hor
  have hpl := numP_len m n k
  have hmn : m * n ≤ 9 := Nat.le_trans (Nat.mul_le_mul hm hn) (by decide)
  have RD : Hid (∀ V', Fr No V V' → Calls Tryd.prog 114 #[RV m n A (numP m n k).length cc] V' fun e w' => ∃ b : Nat, e = .returned (Ptr b) ∧ Fr No V' w' ∧ Hid (Fr No V w' ∧ RelAt w' b m n V.heap.size (memR n (numP m n k)))) := fun V' hf => (readRelation_any V' m n A cc (numP m n k) ((OR.isl ⟨rfl, hown⟩).keep hf (fun _ h => h.elim)) (by omega)).mono (fun e w' ⟨h1, h2⟩ => by
    rcases h2 with ⟨l', r', b, e1, e2, _, rfl, h3, Rb, gs, h4, h5⟩ | ⟨hno, _⟩
    · have e1 : m = l' := by omega
      have e2 : n = r' := by omega
      subst e1 e2
      exact ⟨b, rfl, h1, hf.trans h1, Nat.le_trans hf.size h3, Rb, gs, h4, h5.base hf.size⟩
    · exact absurd (numP_ok hm1 hm hn1 hn) hno)
  have HFV := Lib.hid hfV
  have HKB := Lib.hid hkb
  have HKL := Lib.hid hkbl
  have SS : Hid (∀ W', Fr No V W' → W'.cell? ⟨T, 1, none⟩ = some (.int .i64 0) ∧ W'.cell? ⟨kb, 0, none⟩ = some (.int .i64 m) ∧ W'.cell? ⟨kb, 1, none⟩ = some (.int .i64 n) ∧ W'.cell? ⟨kb, 2, none⟩ = some (.slice A (numP m n k).length cc) ∧ T < W'.heap.size ∧ kb < W'.heap.size) := fun W' hf => by
    have h2 := (HPT.out.blk.fr HFV.out (fun h => h)).fr hf (fun h => h)
    have h3 := HKB.out.fr hf (fun h => h)
    exact ⟨(h2.cell 1).trans rfl, (h3.cell 0).trans rfl, (h3.cell 1).trans rfl, (h3.cell 2).trans rfl, h2.lt, h3.lt⟩
  have UPD : Hid (∀ (W' : World) (mr b : Nat), MapAt W' encI mr 0 (fun _ => none) → ∃ w6, (Instr.mapUpdate 152 (.map (some mr)) (.int .i64 0) (Ptr b)).run Tryd.prog W' = .ok () w6 ∧ Hid (Fr (One mr) W' w6 ∧ ∃ kk f, MapAt w6 encI mr kk f ∧ f 0 = some (Ptr b))) := fun W' mr b h => by
    obtain ⟨w6, h1, h2, h3, _⟩ := h.update (int_kind Tryd.underlying3) Tryd.underlying152 0 (Ptr b)
    exact ⟨w6, h1, (Fr.refl (One mr) W').turned h3 (.inl rfl), _, _, h2, updK_same _ _ _⟩
  have hmm := @run_makeMap Tryd.prog
  have hd0 : Fr No V V.drew := (Fr.refl No V).drew
  have hd1 : Fr No V (V.alloc (.map #[] 0)).drew := ((Fr.refl No V).alloc _).drew
  obtain ⟨s1, s2, s3, s4, s6, s7⟩ := SS.out V (Fr.refl _ _)
  generalize (numP m n k).length = ql at *
  clear hfV hkb hkbl hown hpl
  go_wp2_with fail
  rename_i Ks hKs
  have R2 : Hid (∀ (W' : World) (mr b : Nat) (w6 : World), Fr No V W' → RelAt W' b m n V.heap.size (memR n (numP m n k)) → MapAt W' encI mr 0 (fun _ => none) → (Fr (One mr) W' w6 ∧ ∃ kk f, MapAt w6 encI mr kk f ∧ f 0 = some (Ptr b)) → V.heap.size ≤ mr →
      Fr No V w6 ∧ RelAt w6 b m n V.heap.size (memR n (numP m n k)) ∧ (∃ kk f, MapAt w6 encI mr kk f ∧ f 0 = some (Ptr b)) ∧ V.heap.size ≤ mr) := by
    rintro W' mr b w6 h1 h2 ⟨es, clk, hm, _⟩ ⟨h4, h5⟩ h6
    exact ⟨h1.then_ h4 (fun i hi h => by have h : i = mr := h; omega), h2.frO h4 (fun g t cs hb _ h => by have h : g = mr := h; exact hb.ne_map hm h), h5, h6⟩
  suffices REST : Hid (∀ (mr b : Nat) (V6 : World), (Fr No V V6 ∧ RelAt V6 b m n V.heap.size (memR n (numP m n k)) ∧ (∃ kk f, MapAt V6 encI mr kk f ∧ f 0 = some (Ptr b)) ∧ V.heap.size ≤ mr) → Ks { tmps := #[Ptr T, Value.int IntKind.i64 ↑k, undef, undef, Value.pointer none, Value.pointer (some { block := kb, off := 0 }), Value.bool true, Value.map (some mr), undef, Value.tuple #[RV (↑m) (↑n) A ql cc, Value.bool true], Ptr T, Value.pointer (some { block := T, off := 0 }), Value.pointer (some { block := T, off := 2 }), Value.int IntKind.i64 ↑m, Ptr T, Value.pointer (some { block := T, off := 0 }), Value.pointer (some { block := T, off := 3 }), Value.int IntKind.i64 ↑n, Value.int IntKind.i64 ↑k, Value.tuple #[RV (↑m) (↑n) A ql cc, Value.bool true], RV (↑m) (↑n) A ql cc, Value.bool true, Value.map (some mr), Ptr T, Value.pointer (some { block := T, off := 0 }), Value.pointer (some { block := T, off := 1 }), Value.int IntKind.i64 0, Value.agg #[Value.int IntKind.i64 ↑m, Value.int IntKind.i64 ↑n, Value.slice A ql cc], Ptr b, Value.map (some mr), undef, undef, undef, undef, undef, undef, undef, undef, undef, undef, undef, undef, undef, undef, undef, undef, undef], defers := [] } V6) by
    clear hKs
    go_region_held3 (fun w' => w'.cell? ⟨T, 1, none⟩ = some (.int .i64 0) ∧ w'.cell? ⟨kb, 0, none⟩ = some (.int .i64 m) ∧ w'.cell? ⟨kb, 1, none⟩ = some (.int .i64 n) ∧ w'.cell? ⟨kb, 2, none⟩ = some (.slice A ql cc)) (go_keep)
      (first | (go_at_call 114; ((first | (with_reducible refine (RD.out _ hd0).mono ?_) | (with_reducible refine (RD.out _ hd1).mono ?_)); rintro e w5 ⟨b, rfl, t6, HB⟩; obtain ⟨z1, z2, z3, z4, z6, z7⟩ := SS.out w5 HB.out.1; (first | (have hma : MapAt w5 encI V.heap.size 0 (fun _ => none) := ((MapAt.made V encI).keep (w' := (V.alloc (.map #[] 0)).drew) rfl).keep (Fr.block t6 V.heap.size (by simp) (fun h => h)); obtain ⟨w6, hrun, H6⟩ := UPD.out w5 V.heap.size b hma; obtain ⟨y1, y2, y3, y4, y6, y7⟩ := SS.out w6 (HB.out.1.then_ H6.out.1 (fun i hi h => by have h : i = V.heap.size := h; omega))) | (have hma := MapAt.made w5 encI; obtain ⟨w6, hrun, H6⟩ := UPD.out (w5.alloc (.map #[] 0)) w5.heap.size b hma; obtain ⟨y1, y2, y3, y4, y6, y7⟩ := SS.out w6 ((HB.out.1.alloc _).then_ H6.out.1 (fun i hi h => by have h : i = w5.heap.size := h; have := Fr.size HB.out.1; omega)))))))
    all_goals first
      | exact REST.out V.heap.size b w6 (R2.out w5 V.heap.size b w6 HB.out.1 HB.out.2 hma H6.out (Nat.le_refl _))
      | exact REST.out w5.heap.size b w6 (R2.out (w5.alloc (.map #[] 0)) w5.heap.size b w6 (HB.out.1.alloc _) (HB.out.2.fr ((Fr.refl No w5).alloc _) (fun _ h => h.elim)) hma H6.out HB.out.1.size)
  rintro mr b V6 ⟨hf6, hrel, hmap, hmr⟩
  refine hKs _ _ ?_
  clear hKs R2 RD UPD hmm hd0 hd1 s1 s2 s3 s4 s6 s7 SS
  have hpt6 := (HPT.out.no HFV.out).no hf6
  have s4 : V6.cell? ⟨T, 4, none⟩ = some (Ptr d.c1) := (hpt6.blk.cell 4).trans rfl
  have s5 : V6.cell? ⟨T, 5, none⟩ = some (Ptr d.c2) := (hpt6.blk.cell 5).trans rfl
  have s7 := hpt6.blk.lt
  have HPT6 := Lib.hid hpt6
  have HF6 := Lib.hid (HFV.out.trans hf6)
  have HREL := Lib.hid hrel
  have HMAP := Lib.hid hmap
  have HMR : Hid (V.heap.size ≤ mr ∧ wr.heap.size ≤ V.heap.size) := ⟨hmr, HFV.out.size⟩
  clear hpt6 hf6 hrel hmap hmr
  go_wp2_with fail
  go_region_held3 (fun w' => w'.cell? ⟨T, 4, none⟩ = some (Ptr d.c1) ∧ w'.cell? ⟨T, 5, none⟩ = some (Ptr d.c2)) (go_keep) (fail)
  have hfa : Fr No V6 (V6.alloc (.cells #[.map (some mr), Ptr d.c1, Ptr d.c2] 156)).drew := ((Fr.refl No V6).alloc _).drew
  have hLb : Blk (V6.alloc (.cells #[.map (some mr), Ptr d.c1, Ptr d.c2] 156)).drew V6.heap.size 156 #[.map (some mr), Ptr d.c1, Ptr d.c2] := Blk.drew (Blk.new _ _ _)
  generalize (V6.alloc (.cells #[.map (some mr), Ptr d.c1, Ptr d.c2] 156)).drew = V8 at hfa hLb ⊢
  have hpt8 := HPT6.out.no hfa
  have hrel8 := HREL.out.fr hfa (fun _ h => h.elim)
  obtain ⟨_, Rb, gs, hrb, hrows⟩ := hrel8
  obtain ⟨kk, f, hm1', hm2'⟩ := HMAP.out
  have hm8 := hm1'.keep (hfa.block mr hm1'.lt (fun h => h))
  have hrl : RelsAt V8 mr V8.heap.size (sz1 m) (sz1 n) (numR m n k) := ⟨kk, f, hm8, fun i a a' e1 e2 => by
    obtain ⟨rfl, rfl⟩ := sz1_some e1
    obtain ⟨_, rfl⟩ := sz1_some e2
    exact ⟨b, Rb, gs, hm2', hrb, hrows.base (Nat.zero_le _), hrows.rows.lt⟩⟩
  have hLf : LfAt d.u d.ml d.mz1 d.mk1 d.c1 d.mz2 d.mk2 d.c2 V6.heap.size mr V8.heap.size d.L d.Q (sz1 m) (sz1 n) (numR m n k) V8 := ⟨hpt8.cs1, hpt8.cs2, hLb, hrl⟩
  have hmlow : d.ml < wr.heap.size ∧ d.mk1 < wr.heap.size ∧ d.mk2 < wr.heap.size := by
    obtain ⟨k1, f1, h1, _⟩ := HPT.out.cs1.kn
    obtain ⟨k2, f2, h2, _⟩ := HPT.out.cs2.kn
    exact ⟨HPT.out.cs1.q.map.lt, h1.lt, h2.lt⟩
  have hmr2 : wr.heap.size ≤ mr := Nat.le_trans HMR.out.2 HMR.out.1
  have hOk : LfOk d.ml d.mz1 d.mk1 d.mz2 d.mk2 mr d.own (sz1 m) (sz1 n) := ⟨hpt8.ok1, hpt8.ok2, hpt8.kk, hpt8.z1, hpt8.z2, by omega, by omega, by omega⟩
  have hF08 : Fr No wr V8 := HF6.out.trans hfa
  have hTZ8 := HTZ.out.fr hF08 (fun h => h)
  have hLC : LC (sz1 m) (sz1 n) (numR m n k) (fun _ => none) No V8 := ⟨fun g t h => (by cases h), hTZ8, rfl⟩
  have CALL := Lib.hid (ofl_any d.lead fresh_nd fresh_own hOk (sz1_sizes hm1 hm) t V8 d.kind (fun _ => none) c c' hLf hpt8.has hLC (fun g ⟨t, h⟩ => by cases h) (Nat.le_refl _) hk1 hk2)
  have HPT8 := Lib.hid hpt8
  have HF8 := Lib.hid hF08
  have HLF8 := Lib.hid hLf
  have s1 : V8.cell? ⟨T, 0, none⟩ = some (Ptr d.kind) := (hpt8.blk.cell 0).trans rfl
  clear hfa hLb hpt8 hrb hrows hm1' hm2' hm8 hrl hLf hmlow hmr2 hOk hF08 hTZ8 hLC s4 s5 s7 HPT6 HF6 HREL HMAP HMR HKB HKL HFV
  go_wp2_with fail
  refine CALL.out.mono ?_
  rintro e w9 ⟨P, F', rfl, hlt9, hlc9, hlf9, _, hF9, hf9⟩
  have hm9 := HLF8.out.maps d.lead
  have nm : ∀ g ty cs, Blk V8 g ty cs → ¬ Three d.ml d.mk1 d.mk2 g := fun g ty cs hb ht => by
    obtain ⟨es, clk, hm⟩ := hm9 g ht
    exact hb.ne_map hm rfl
  have hpt9 : PtIs d w9 T t m n c c' lo hi := by
    have h := HPT8.out
    obtain ⟨s, z, x, y, h1⟩ := h.sl
    obtain ⟨s', z', x', y', h2⟩ := h.sr
    exact ⟨h.blk.fr hf9 (nm _ _ _ h.blk), h.has, hlf9.a, hlf9.b, h.ok1, h.ok2, h.kk, h.z1, h.z2, ⟨s, z, x, y, h1.fr hf9 (nm _ _ _ h1)⟩, ⟨s', z', x', y', h2.fr hf9 (nm _ _ _ h2)⟩, h.low, h.high⟩
  have HE : Hid (LiftP d T t m n c c' lo hi k wr (.returned (Ptr P)) w9) := ⟨P, F', rfl, hlt9, hlc9, fun g hg => Nat.le_trans HF8.out.size (hF9 g hg), (HF8.out.mono (fun _ _ h => h.elim)).trans hf9, hpt9⟩
  clear hlt9 hlc9 hlf9 hF9 hf9 hm9 nm hpt9 CALL s1
  go_wp2_with fail
  go_ret
  exact HE.out

section
variable {μ ν : Nat → Option Nat} {ρ : Nat → Nat → Nat → Bool}
/-- kept where a block of another type is written -/
theorem LC.at {F : Cach} {Z : Nat → Prop} {w w' : World} {P : Nat} {τ : TypeId} {cs0 : Array Value} (h : LC μ ν ρ F Z w) (hP : Blk w P τ cs0) (h1 : τ ≠ 83) (h2 : τ ≠ 128) (hz : 0 ≠ P) (hf : Fr (One P) w w') : LC μ ν ρ F Z w' := by
  have nt : ∀ g ty cs', Blk w g ty cs' → ty ≠ τ → ¬ One P g := fun g ty cs' hg ht e => by
    have e : g = P := e
    subst e
    exact ht (hg.eq hP).1
  refine ⟨fun g t hg => ?_, h.tz.fr hf hz, h.tzF⟩
  obtain ⟨c, c', cs, q1, q2, h3, h4, h5⟩ := h.kept g t hg
  refine ⟨c, c', cs, q1, q2, h3.fr hf (nt _ _ _ h3 h1.symm), h4, fun i v hv => ?_⟩
  rcases h5 i v hv with h | ⟨g, ws, k1, k2, k3, k4⟩
  · exact .inl h
  · exact .inr ⟨g, ws, k1, k2.fr hf (nt _ _ _ k2 h2.symm), k3, k4⟩

/-- kept where rows of integers are written, too -/
theorem LtAt.frX {F : Cach} {Z T : Nat → Prop} {w w' : World} (hf : Fr T w w') (hT : ∀ g ty cs, Blk w g ty cs → (ty ≠ 83 ∨ F g = none) → ty ≠ 3 → ty ≠ 24 → ty ≠ 4 → ¬ T g) : ∀ {t : Ty} {p : Nat}, LtAt μ ν ρ F Z w t p → LtAt μ ν ρ F Z w' t p := by
  have nt : ∀ g ty cs', Blk w g ty cs' → (ty ≠ 83 ∧ ty ≠ 3 ∧ ty ≠ 24 ∧ ty ≠ 4) → ¬ T g := fun g ty cs' hg ht => hT g ty cs' hg (.inl ht.1) ht.2.1 ht.2.2.1 ht.2.2.2
  have rz : ∀ n Q v, RowZ Z w n Q v → RowZ Z w' n Q v := fun n Q v ⟨g, ws, h1, h2, h3, h4⟩ => ⟨g, ws, h1, h2.fr hf (nt _ _ _ h2 (by decide)), h3, h4⟩
  have fs : ∀ g f a b d, FsAt w g f a b d → FsAt w' g f a b d := fun g f a b d ⟨gl, gr, sz, s1, z1, p1, q1, s2, z2, p2, q2, h1, h2, h3⟩ => ⟨gl, gr, sz, s1, z1, p1, q1, s2, z2, p2, q2, h1.fr hf (nt _ _ _ h1 (by decide)), h2.fr hf (nt _ _ _ h2 (by decide)), h3.fr hf (nt _ _ _ h3 (by decide))⟩
  intro t
  induction t with
  | v i =>
    rintro p ⟨gl, gr, R, c, c', cs, h1, h2, h3, ⟨s, z, x, y, h4⟩, ⟨s', z', x', y', h5⟩, h6, h7, h8, h9⟩
    exact ⟨gl, gr, R, c, c', cs, h1, h2, h3.fr hf (nt _ _ _ h3 (by decide)), ⟨s, z, x, y, h4.fr hf (nt _ _ _ h4 (by decide))⟩, ⟨s', z', x', y', h5.fr hf (nt _ _ _ h5 (by decide))⟩, h6, h7.fr hf (hT _ _ _ h7 (.inr h6) (by decide) (by decide) (by decide)), h8, fun i v hv => rz _ _ _ (h9 i v hv)⟩
  | o =>
    rintro p ⟨gl, gr, R, c, c', cs, h1, h2, h3, ⟨s, z, x, y, h4⟩, ⟨s', z', x', y', h5⟩, h6, h7, h8, h9⟩
    exact ⟨gl, gr, R, c, c', cs, h1, h2, h3.fr hf (nt _ _ _ h3 (by decide)), ⟨s, z, x, y, h4.fr hf (nt _ _ _ h4 (by decide))⟩, ⟨s', z', x', y', h5.fr hf (nt _ _ _ h5 (by decide))⟩, h6, h7.fr hf (hT _ _ _ h7 (.inr h6) (by decide) (by decide) (by decide)), h8, fun i v hv => rz _ _ _ (h9 i v hv)⟩
  | n f l r ihl ihr =>
    rintro p ⟨gl, gr, p1, p2, R, a, b, c, a', b', c', h1, h2, h3, h4, h5, h6, h7, h8, h9, h10, h11, h12⟩
    exact ⟨gl, gr, p1, p2, R, a, b, c, a', b', c', h1, h2, h3, h4, h5, h6, h7.fr hf (nt _ _ _ h7 (by decide)), fs _ _ _ _ _ h8, fs _ _ _ _ _ h9, h10, ihl h11, ihr h12⟩
end

/-- what a round of a loop over lifted types keeps; X: rows that a round may change. A type without variables is lifted once, so a round is told of a relation that relates the same. -/
structure LfJ (l : Nat) (X : Nat → Prop) (d : PtD) (T : Nat) (t : Ty) (m n c c' lo hi : Nat) (J : Nat → World → Prop) (Jx : World → Prop) : Prop where
  rows : ∀ k W b, J k W → X b → RowBlk W b
  tab : ¬ X 0
  keep : ∀ k W W' X, J k W → Fr X W W' → (∀ b, X b → lo ≤ b ∧ ∃ es clk, W.heap[b]? = some (.map es clk)) → J k W'
  round : ∀ (k P Bk : Nat) (F : Cach) (R : Nat → Nat → Nat → Bool) (W : World), k < nrel t m n → J k W → l < Bk → Bk ≤ W.heap.size → (∀ g, InF F g → Bk ≤ g) → (∀ x y, relT (sz1 m) (sz1 n) R t x y = relT (sz1 m) (sz1 n) (numR m n k) t x y) → LtAt (sz1 m) (sz1 n) R F No W t P → LC (sz1 m) (sz1 n) R F No W →
    YieldAt Fence.wide 7 Tryd.prog l #[.int .i64 k, Ptr P] W fun e W' => (e = .returned (.bool true) ∧ J (k + 1) W' ∧ Fr (fun b => InF F b ∨ b = l ∨ X b) W W' ∧ (∃ r, W'.heap[l]? = some (.loop r)) ∧ LC (sz1 m) (sz1 n) R F No W') ∨ (e = .returned (.bool false) ∧ Jx W')

/-- the lifted type that a round hands on -/
def LiftedAt (l : Nat) (t : Ty) (m n k : Nat) (v : Value) (W : World) : Prop :=
  ∃ (P Bk : Nat) (F : Cach) (R : Nat → Nat → Nat → Bool), v = Ptr P ∧ l < Bk ∧ Bk ≤ W.heap.size ∧ (∀ g, InF F g → Bk ≤ g) ∧ (∀ x y, relT (sz1 m) (sz1 n) R t x y = relT (sz1 m) (sz1 n) (numR m n k) t x y) ∧ LtAt (sz1 m) (sz1 n) R F No W t P ∧ LC (sz1 m) (sz1 n) R F No W

theorem LiftedAt.next {l : Nat} {t : Ty} {m n k k' : Nat} {v : Value} {W : World} (h : LiftedAt l t m n k v W) (hv : addV [] t = []) : LiftedAt l t m n k' v W := by
  obtain ⟨P, Bk, F, R, h1, h2, h3, h4, h5, h6, h7⟩ := h
  have hf : ∀ i, ¬ t.has i := fun i hi => by
    have := (addV_mem t [] i).2 (.inr hi)
    rw [hv] at this
    cases this
  exact ⟨P, Bk, F, R, h1, h2, h3, h4, fun x y => relT_free hf x y, h6, h7⟩

set_option maxRecDepth 100000 in
set_option maxHeartbeats 4000000 in
theorem lifts_in (l B : Nat) (X : Nat → Prop) (d : PtD) (T : Nat) (t : Ty) (m n c c' lo hi : Nat) (J : Nat → World → Prop) (Jx : World → Prop) (hJ : LfJ l X d T t m n c c' lo hi J Jx) (ht : t.size ≤ 40) (hm1 : 1 ≤ m) (hm : m ≤ 3) (hn1 : 1 ≤ n) (hn : n ≤ 3) (hk1 : t.kn (sz1 m) = some c) (hk2 : t.kn (sz1 n) = some c')
    (w : World) (h0 : J 0 w) (hP : PtIs d w T t m n c c' lo hi) (hbox : Blk w B 70 #[Ptr T]) (hT : TZt w) (hl : hi ≤ l) (hlp : ∃ r, w.heap[l]? = some (.loop r)) (htz : 0 < hi) :
    CallsIn Fence.wide 8 Tryd.prog 98 #[.func (.yield l) #[] #[], Ptr B] w fun e W' => (∃ v, e = .returned v) ∧ (J (nrel t m n) W' ∨ Jx W') := by
  have VA := Lib.hid (vars_any w d.q d.mm d.ps d.D t d.kind hP.cs1.q.pool hP.has (by omega))
  have LIFT : Hid (∀ (W : World) (k : Nat), PtIs d W T t m n c c' lo hi → TZt W → k < nrel t m n → Calls Tryd.prog 99 #[Ptr T, .int .i64 k] W fun e w' => LiftP d T t m n c c' lo hi k W e w') := fun W k h1 h2 h3 => lift_any d T t m n c c' lo hi k W h1 hm1 hm hn1 hn hk1 hk2 h2 h3
  have HJ := Lib.hid hJ
  have H0 := Lib.hid h0
  have HP := Lib.hid hP
  have HBOX := Lib.hid hbox
  have HT := Lib.hid hT
  have HLP := Lib.hid hlp
  have hmn9 : m * n ≤ 9 := Nat.le_trans (Nat.mul_le_mul hm hn) (by decide)
  have HNR : Hid (nrel t m n ≤ 512) := by
    show _ ≤ _
    exact Nat.le_trans (Nat.pow_le_pow_right (by decide) hmn9) (by decide)
  have b0 : w.cell? ⟨B, 0, none⟩ = some (Ptr T) := (hbox.cell 0).trans rfl
  have c0 : w.cell? ⟨T, 0, none⟩ = some (Ptr d.kind) := (hP.blk.cell 0).trans rfl
  clear hJ h0 hP hbox hT hlp
  refine callsIn_of_wp Tryd.func98 rfl trivial ?_ rfl
  simp only [Tryd.ntmps98, List.size_toArray, List.length_cons, List.length_nil, Nat.reduceAdd, Nat.reduceSub, Array.replicate_succ, Array.replicate_zero, List.push_toArray, List.append_toArray, List.nil_append, List.cons_append]
  gi_wp2_with fail
  refine ⟨trivial, (callsIn_wide.2 VA.out).mono ?_⟩
  rintro e w1 ⟨A, xs, cc, rfl, _, hB, _, hva⟩
  have hf1 : Fr No w w1 := Fr.of_below hB (Nat.le_refl _) _
  have hlen := hva.1
  obtain ⟨same, hsame, hsv⟩ : ∃ same : Bool, ((xs.length : Int) == 0) = same ∧ (same = true → addV [] t = []) := by
    refine ⟨_, rfl, fun h => ?_⟩
    have h := eq_of_beq h
    have : xs.length = 0 := by omega
    rw [hlen] at this
    exact List.length_eq_zero_iff.1 this
  have HSV := Lib.hid hsv
  have HF1 := Lib.hid hf1
  have HJ1 : Hid (J 0 w1) := HJ.out.keep 0 w w1 No H0.out hf1 (fun _ h => h.elim)
  have hpt1 := HP.out.no hf1
  have HP1 := Lib.hid hpt1
  have HB1 := Lib.hid (HBOX.out.fr hf1 (fun h => h))
  have HT1 := Lib.hid (HT.out.fr hf1 (fun h => h))
  have HL1 : Hid (∃ r, w1.heap[l]? = some (.loop r)) := by
    obtain ⟨r, hr⟩ := HLP.out
    exact ⟨r, (hf1.block l (Array.getElem?_eq_some_iff.1 hr).1 (fun h => h)).trans hr⟩
  have b1 : w1.cell? ⟨B, 0, none⟩ = some (Ptr T) := (HB1.out.cell 0).trans rfl
  have c2 : w1.cell? ⟨T, 2, none⟩ = some (.int .i64 m) := (hpt1.blk.cell 2).trans rfl
  have c3 : w1.cell? ⟨T, 3, none⟩ = some (.int .i64 n) := (hpt1.blk.cell 3).trans rfl
  clear hf1 b0 c0 VA hB hva hlen hsv hpt1 H0 HP HBOX HT HLP
  gi_wp2_with fail
  rename_i Ks hKs
  refine wpIn_wide.2 ?_
  go_quiet (fail)
  have hsh : wrap64 (2 ^ (m * n)) = ((nrel t m n : Nat) : Int) := by
    have hm' : m = 1 ∨ m = 2 ∨ m = 3 := by omega
    have hn' : n = 1 ∨ n = 2 ∨ n = 3 := by omega
    rcases hm' with rfl | rfl | rfl <;> rcases hn' with rfl | rfl | rfl <;> simp [nrel, wrap64]
  rw [hsh]
  refine hKs _ _ ?_
  clear hKs Ks hsh b1 c2 c3
  have hf2 : Fr No w1 (w1.drewN nq) := (Fr.refl No w1).drewN nq
  have hj2 : J 0 (w1.drewN nq) := HJ.out.keep 0 w1 _ No HJ1.out hf2 (fun _ h => h.elim)
  have hpt2 := HP1.out.no hf2
  have hbx2 := HB1.out.fr hf2 (fun h => h)
  have htz2 := HT1.out.fr hf2 (fun h => h)
  have hl2 : ∃ r, (w1.drewN nq).heap[l]? = some (.loop r) := HL1.out
  generalize (w1.drewN nq) = w2 at hf2 hj2 hpt2 hbx2 htz2 hl2 ⊢
  have HJ2 := Lib.hid hj2
  have HP2 := Lib.hid hpt2
  have HB2 := Lib.hid hbx2
  have HT2 := Lib.hid htz2
  have HL2 := Lib.hid hl2
  clear hf2 hj2 hpt2 hbx2 htz2 hl2 HJ1 HP1 HB1 HT1 HL1 HF1 hsame
  have hnr := HNR.out
  generalize hNR : nrel t m n = NR at *
  have HNE := Lib.hid hNR
  clear hNR
  gi_wp2_with fail
  gi_loopg [4, 23] NR (fun gk v u W => ∃ k : Nat, k + gk = NR ∧ u = .int .i64 k ∧ ((v = .pointer none ∧ k = 0) ∨ (∃ k0, LiftedAt l t m n k0 v W ∧ (same = false ∨ k0 = k))) ∧ J k W ∧ PtIs d W T t m n c c' lo hi ∧ Blk W B 70 #[Ptr T] ∧ TZt W ∧ ∃ r, W.heap[l]? = some (.loop r))
  case atStart => exact ⟨0, by omega, rfl, .inl ⟨rfl, rfl⟩, HJ2.out, HP2.out, HB2.out, HT2.out, HL2.out⟩
  case round =>
    obtain ⟨k, hk, rfl, hv, hj, hpt, hbx, htz', hlr⟩ := hrel
    have HJK := Lib.hid hj
    have HPT := Lib.hid hpt
    have HBX := Lib.hid hbx
    have HTZ := Lib.hid htz'
    have HLR := Lib.hid hlr
    clear hj hpt hbx htz' hlr HJ2 HP2 HB2 HT2 HL2
    by_cases hlt : k < NR
    · have hkI : (k : Int) < (NR : Int) := by omega
      have STEP : Hid (∀ (v : Value) (W : World), LiftedAt l t m n k v W → J k W → PtIs d W T t m n c c' lo hi → Blk W B 70 #[Ptr T] → TZt W → (∃ r, W.heap[l]? = some (.loop r)) → ∃ P : Nat, v = Ptr P ∧ YieldAt Fence.wide 7 Tryd.prog l #[.int .i64 k, Ptr P] W fun e W' => (e = .returned (.bool true) ∧ Hid (LiftedAt l t m n k v W' ∧ J (k + 1) W' ∧ PtIs d W' T t m n c c' lo hi ∧ Blk W' B 70 #[Ptr T] ∧ TZt W' ∧ ∃ r, W'.heap[l]? = some (.loop r))) ∨ (e = .returned (.bool false) ∧ Hid (Jx W'))) := by
        rintro v W ⟨P, Bk, F, R, rfl, hlB, hBs, hFB, hRE, hLT, hLC⟩ hjW hptW hbxW htzW hlW
        refine ⟨P, rfl, (HJ.out.round k P Bk F R W (by rw [HNE.out]; exact hlt) hjW hlB hBs hFB hRE hLT hLC).mono ?_⟩
        rintro e W3 (⟨rfl, hj3, hf3, hl3, hlc3⟩ | ⟨rfl, hx⟩)
        · refine .inl ⟨rfl, ?_⟩
          obtain ⟨r, hr⟩ := hlW
          have hX9 : ∀ b, X b → RowBlk W b := fun b hb => HJ.out.rows k W b hjW hb
          have hX1 : ∀ b, (InF F b ∨ b = l ∨ X b) → hi ≤ b ∨ RowBlk W b := fun b hb => by
            rcases hb with hb | hb | hb
            · have := hFB b hb; left; omega
            · left; omega
            · exact .inr (hX9 b hb)
          have nB : ∀ g ty cs, Blk W g ty cs → (ty ≠ 83 ∨ F g = none) → ty ≠ 3 → ty ≠ 24 → ty ≠ 4 → ¬ (InF F g ∨ g = l ∨ X g) := fun g ty cs hb h1 h3 h4 h5 h => by
            rcases h with h | h | h
            · exact hLC.far g ty cs hb h1 (fun _ h => h) h
            · exact hb.ne_of hr (fun _ h => by cases h) h
            · exact (hX9 g h).ne hb h3 h4 h5 rfl
          have hpt3 := hptW.frX hf3 hX1 (fun g ty cs hb h => nB g ty cs hb (.inl (by rcases h with rfl | rfl | rfl <;> decide)) (by rcases h with rfl | rfl | rfl <;> decide) (by rcases h with rfl | rfl | rfl <;> decide) (by rcases h with rfl | rfl | rfl <;> decide))
          refine ⟨⟨P, Bk, F, R, rfl, hlB, Nat.le_trans hBs hf3.size, hFB, hRE, hLT.frX hf3 (fun g ty cs hb h1 h3 h4 h5 => nB g ty cs hb h1 h3 h4 h5), hlc3⟩, hj3, hpt3, hbxW.fr hf3 (nB _ _ _ hbxW (.inl (by decide)) (by decide) (by decide) (by decide)), htzW.fr hf3 ?_, hl3⟩
          rintro (⟨t, h⟩ | h | h)
          · rw [hLC.tzF] at h; cases h
          · omega
          · exact HJ.out.tab h
        · exact .inr ⟨rfl, hx⟩
      have LFT : Hid (Calls Tryd.prog 99 #[Ptr T, .int .i64 k] wr fun e w' => ∃ P : Nat, e = .returned (Ptr P) ∧ Hid (LiftedAt l t m n k (Ptr P) w' ∧ J k w' ∧ PtIs d w' T t m n c c' lo hi ∧ Blk w' B 70 #[Ptr T] ∧ TZt w' ∧ ∃ r, w'.heap[l]? = some (.loop r))) := by
        refine (LIFT.out wr k HPT.out HTZ.out hlt).mono ?_
        rintro e w' ⟨P, F, rfl, hlt', hlc', hF', hf', hpt'⟩
        have hm := HPT.out.maps
        have nm : ∀ g ty cs, Blk wr g ty cs → ¬ Three d.ml d.mk1 d.mk2 g := fun g ty cs hb ht => by
          obtain ⟨_, es, clk, hm⟩ := hm g ht
          exact hb.ne_map hm rfl
        obtain ⟨r, hr⟩ := HLR.out
        have hlB := (Array.getElem?_eq_some_iff.1 hr).1
        refine ⟨P, rfl, ⟨P, wr.heap.size, F, _, rfl, hlB, hf'.size, hF', fun _ _ => rfl, hlt', hlc'⟩, HJ.out.keep k wr w' _ HJK.out hf' hm, hpt', HBX.out.fr hf' (nm _ _ _ HBX.out), hlc'.tz, r, (hf'.block l hlB (fun h => by obtain ⟨_, es, clk, hm⟩ := hm l h; rw [hr] at hm; cases hm)).trans hr⟩
      have NXT : Hid (∀ v W, LiftedAt l t m n k v W → ∃ k0, LiftedAt l t m n k0 v W ∧ (same = false ∨ k0 = k + 1)) := fun v W h => by
        cases same
        · exact ⟨k, h, .inl rfl⟩
        · exact ⟨k + 1, h.next (HSV.out rfl), .inr rfl⟩
      have s0 : wr.cell? ⟨B, 0, none⟩ = some (Ptr T) := (HBX.out.cell 0).trans rfl
      rcases hv with ⟨rfl, hk0⟩ | ⟨k0, hla, hs⟩
      · clear hk0
        gi_wp2_with fail
        refine ⟨trivial, (callsIn_wide.2 LFT.out).mono ?_⟩
        rintro e w9 ⟨P, rfl, H9⟩
        obtain ⟨P1, hP1, fn, tmps, assign, body, hy, hR⟩ := STEP.out (Ptr P) w9 H9.out.1 H9.out.2.1 H9.out.2.2.1 H9.out.2.2.2.1 H9.out.2.2.2.2.1 H9.out.2.2.2.2.2
        injection hP1 with hP1
        injection hP1 with hP1
        injection hP1 with hP1
        subst hP1
        gi_wp2_with fail
        refine hR.mono ?_
        rintro e W3 (⟨rfl, H3⟩ | ⟨rfl, HX⟩)
        · clear hy hR
          gi_wp2_with fail
          go_roundg (NR - (k + 1))
          case measure => omega
          case rel => exact ⟨k + 1, by omega, by go_num, .inr (NXT.out _ _ H3.out.1), H3.out.2⟩
        · clear hy hR
          gi_wp2_with fail
          refine bodyPost_ret (results_none rfl _ _ _) rfl ?_
          exact ⟨⟨_, rfl⟩, .inr HX.out⟩
      · obtain ⟨P0, hp0⟩ : ∃ P0, u4 = Ptr P0 := by
          obtain ⟨P, _, _, _, h, _⟩ := hla
          exact ⟨P, h⟩
        subst hp0
        have HLA := Lib.hid hla
        clear hla
        cases same
        · clear hs
          gi_wp2_with fail
          refine ⟨trivial, (callsIn_wide.2 LFT.out).mono ?_⟩
          rintro e w9 ⟨P, rfl, H9⟩
          obtain ⟨P1, hP1, fn, tmps, assign, body, hy, hR⟩ := STEP.out (Ptr P) w9 H9.out.1 H9.out.2.1 H9.out.2.2.1 H9.out.2.2.2.1 H9.out.2.2.2.2.1 H9.out.2.2.2.2.2
          injection hP1 with hP1
          injection hP1 with hP1
          injection hP1 with hP1
          subst hP1
          gi_wp2_with fail
          refine hR.mono ?_
          rintro e W3 (⟨rfl, H3⟩ | ⟨rfl, HX⟩)
          · clear hy hR
            gi_wp2_with fail
            go_roundg (NR - (k + 1))
            case measure => omega
            case rel => exact ⟨k + 1, by omega, by go_num, .inr (NXT.out _ _ H3.out.1), H3.out.2⟩
          · clear hy hR
            gi_wp2_with fail
            refine bodyPost_ret (results_none rfl _ _ _) rfl ?_
            exact ⟨⟨_, rfl⟩, .inr HX.out⟩
        · obtain rfl : k = k0 := hs.elim (fun h => by cases h) Eq.symm
          clear hs
          gi_wp2_with fail
          obtain ⟨P1, hP1, fn, tmps, assign, body, hy, hR⟩ := STEP.out (Ptr P0) wr HLA.out HJK.out HPT.out HBX.out HTZ.out HLR.out
          injection hP1 with hP1
          injection hP1 with hP1
          injection hP1 with hP1
          subst hP1
          gi_wp2_with fail
          refine hR.mono ?_
          rintro e W3 (⟨rfl, H3⟩ | ⟨rfl, HX⟩)
          · clear hy hR
            gi_wp2_with fail
            go_roundg (NR - (k + 1))
            case measure => omega
            case rel => exact ⟨k + 1, by omega, by go_num, .inr (NXT.out _ _ H3.out.1), H3.out.2⟩
          · clear hy hR
            gi_wp2_with fail
            refine bodyPost_ret (results_none rfl _ _ _) rfl ?_
            exact ⟨⟨_, rfl⟩, .inr HX.out⟩
    · have hkN : k = NR := by omega
      have HE : Hid (J (nrel t m n) wr) := by show J _ _; rw [HNE.out, ← hkN]; exact HJK.out
      have hnlt : ¬ (k : Int) < (NR : Int) := by omega
      clear hkN hv
      gi_wp2_with fail
      go_end0
      exact ⟨⟨_, rfl⟩, .inl HE.out⟩
end Go.Proofs.YtjgbihcnfhbalaaDoor
