/- The place behind a place. -/
import Derived.Test.YtnjgaenhjdjpfaaGreatDoorZip3
namespace Go.Proofs.YtnjgaenhjdjpfaaGreatDoor
open Go.RowKit Go.ChangeMaps

def NextP (T : Nat → Prop) (t : Ts) (fs : List ZF) (h : List UInt8) (k : Ts) (w : World) (e : Ending) (w' : World) : Prop :=
  (∃ q c' fs' h' a' d' k', e = .returned (.tuple #[.agg #[Ptr q, .pointer c'], .bool true]) ∧ Fr No w w' ∧ Tm w' (TN T w w') q h' a' d' k' ∧ ZM w' (TN T w w') c' fs' ∧ okZ t fs' (.cons h' a' d' k' .nil) ∧ befZ fs' = befZ fs + rx1 h k ∧ befN fs' = befN fs + 1) ∨
  (e = .returned (.tuple #[.agg #[.pointer none, .pointer none], .bool false]) ∧ Fr No w w' ∧ cR t = befZ fs + rx1 h k)

/-- the cells of the result -/
def RC (B : Nat) (w : World) : Prop := w.cell? ⟨B, 0, none⟩ = some (.pointer none) ∧ w.cell? ⟨B, 1, none⟩ = some (.pointer none) ∧ w.frozen? ⟨B, 0, none⟩ = false ∧ w.frozen? ⟨B, 1, none⟩ = false ∧ B < w.heap.size

theorem RC.of {B : Nat} {w : World} (h : Blk w B 66 #[.pointer none, .pointer none]) : RC B w := ⟨(h.cell 0).trans rfl, (h.cell 1).trans rfl, h.frozen 0, h.frozen 1, h.lt⟩

theorem down_next {w W0 : World} {T : Nat → Prop} {B : Nat} {t : Ts} {fs gs : List ZF} {h0 : List UInt8} {k0 : Ts} {p : Nat} {h a : List UInt8} {d : Nat} {k : Ts} {c : Option Addr} {j : Nat} (hf : Fr No w W0) (hB0 : w.heap.size ≤ B) (hB : Blk W0 B 66 #[.pointer none, .pointer none])
    (hT : ∀ b, T b → b < w.heap.size) (ht : Tm W0 T p h a d k) (hz : ZM W0 T c gs) (hj : j < k.len) (hk : k.len ≤ 5000) (hok : okZ t (⟨h, a, d, k, j⟩ :: gs) (k.one j)) (hbz : befZ (⟨h, a, d, k, j⟩ :: gs) = befZ fs + rx1 h0 k0) (hbn : befN (⟨h, a, d, k, j⟩ :: gs) = befN fs + 1) :
    Calls Tryz.prog 91 #[.agg #[Ptr p, .pointer c], .int .i64 (j : Int)] W0 fun e w3 => ∃ q b, e = .returned (.agg #[Ptr q, Ptr b]) ∧ Fr No W0 w3 ∧ RC B w3 ∧
      Hid (∀ v0 v1, NextP T t fs h0 k0 w (.returned (.tuple #[.agg #[Ptr q, Ptr b], .bool true])) ((w3.setCell ⟨B, 0, none⟩ v0).setCell ⟨B, 1, none⟩ v1)) := by
  refine (down_any W0 T p h a d k c gs j ht hz (fun b hb => Nat.lt_of_lt_of_le (hT b hb) hf.size) hj hk).mono ?_
  rintro e w3 ⟨q, b, h', a', d', k', rfl, g1, g2, g3, g4⟩
  refine ⟨q, b, rfl, g1, RC.of (hB.fr g1 (fun h => h)), fun v0 v1 => .inl ?_⟩
  have hall := hf.trans g1
  have hz3 : ((w3.setCell ⟨B, 0, none⟩ v0).setCell ⟨B, 1, none⟩ v1).heap.size = w3.heap.size := by simp [World.setCell]
  have hs0 := hf.size
  have hlB := hB.lt
  have hTT : ∀ x, TN T W0 w3 x → TN T w ((w3.setCell ⟨B, 0, none⟩ v0).setCell ⟨B, 1, none⟩ v1) x := fun x hx => hx.imp (fun h => h) (fun h => ⟨by omega, by rw [hz3]; exact h.2⟩)
  have hh : ∀ x, TN T W0 w3 x → ((w3.setCell ⟨B, 0, none⟩ v0).setCell ⟨B, 1, none⟩ v1).heap[x]? = w3.heap[x]? := fun x hx => by
    have hne : x ≠ B := by
      rcases hx with hx | hx
      · have := hT x hx; omega
      · omega
    rw [Below.heap_setCell _ ⟨B, 1, none⟩ _ _ hne, Below.heap_setCell _ ⟨B, 0, none⟩ _ _ hne]
  refine ⟨q, some ⟨b, 0, none⟩, ⟨h, a, d, k, j⟩ :: gs, h', a', d', k', rfl, (hall.setCell (p := ⟨B, 0, none⟩) (.inr hB0) v0).setCell (p := ⟨B, 1, none⟩) (.inr hB0) v1, g3.mono hTT hh, g4.mono hTT hh, ?_, hbz, hbn⟩
  rw [← one_of_nth _ _ _ _ _ _ g2]
  exact hok

set_option maxRecDepth 100000 in
set_option maxHeartbeats 4000000 in
theorem next_any (w : World) (T : Nat → Prop) (t : Ts) (p : Nat) (h a : List UInt8) (d : Nat) (k : Ts) (c : Option Addr) (fs : List ZF) (ht : Tm w T p h a d k) (hz : ZM w T c fs) (hok : okZ t fs (.cons h a d k .nil)) (hw : WfT t) (hsz : t.size ≤ 5000) (hT : ∀ b, T b → b < w.heap.size) :
    Calls Tryz.prog 64 #[.agg #[Ptr p, .pointer c]] w fun e w' => NextP T t fs h k w e w' := by
  have hks : ∀ {gs : List ZF} {x : Ts}, okZ t gs x → x.size ≤ t.size := by
    intro gs
    induction gs with
    | nil => intro x h; rw [h]; exact Nat.le_refl _
    | cons f gs ih =>
      intro x h
      have h1 := ih h.2.2
      have h2 : x.size ≤ f.k.size := by
        rw [← h.1]
        have : ∀ (k : Ts) (j : Nat), (k.one j).size ≤ k.size := by
          intro k
          induction k with
          | nil => intro j; exact Nat.le_refl _
          | cons h a d k r _ ih =>
            intro j
            cases j with
            | zero => simp only [Ts.one, Ts.size]; omega
            | succ j => have := ih j; simp only [Ts.one, Ts.size]; omega
        exact this _ _
      simp only [Ts.size] at h1
      omega
  have hkl : ∀ {gs : List ZF} {f : ZF} {x : Ts}, okZ t (f :: gs) x → f.k.len ≤ 5000 := fun {gs f x} h => by
    have h1 := hks h.2.2
    have h2 := Ts.len_size f.k
    simp only [Ts.size] at h1
    omega
  have hk0 : k.len ≤ 5000 := by
    have h1 := hks hok
    have h2 := Ts.len_size k
    simp only [Ts.size] at h1
    omega
  obtain ⟨hp, A, cA, hbk, hsl⟩ := ht.open_
  obtain ⟨W, hW⟩ : ∃ W, W = (w.alloc (.cells #[Ptr p, .pointer c] 66)).alloc (.cells #[.pointer none, .pointer none] 66) := ⟨_, rfl⟩
  have hfw : Fr No w W := by rw [hW]; exact ((Fr.refl _ _).alloc _).alloc _
  have b0 : Blk W w.heap.size 66 #[Ptr p, .pointer c] := by rw [hW]; exact (Blk.new _ _ _).alloc _
  have b1 : Blk W (w.heap.size + 1) 66 #[.pointer none, .pointer none] := by rw [hW]; exact Blk.new_at _ _ _ (by simp)
  obtain ⟨B1, hB1⟩ : ∃ z, w.heap.size + 1 = z := ⟨_, rfl⟩
  rw [hB1] at b1
  have hbW := hbk.fr hfw (fun h => h)
  have c00 : W.cell? ⟨w.heap.size, 0, none⟩ = some (Ptr p) := (b0.cell 0).trans rfl
  have c01 : W.cell? ⟨w.heap.size, 1, none⟩ = some (.pointer c) := (b0.cell 1).trans rfl
  have c3 : W.cell? ⟨p, 3, none⟩ = some (.slice A k.len cA) := (hbW.cell 3).trans rfl
  have l0 := b0.lt
  have lp := hbW.lt
  have hlk : (k.len : Int) ≤ 5000 := by omega
  have HTW : ∀ (W0 : World), Fr No w W0 → ∀ b, T b → W0.heap[b]? = w.heap[b]? := fun W0 hf b hb => hf.block b (hT b hb) (fun h => h)
  have HBB := Lib.hid b1
  have HFW := Lib.hid hfw
  have HWF := Lib.hid hw
  have HKL : Hid (∀ (gs : List ZF) (f : ZF) (x : Ts), okZ t (f :: gs) x → f.k.len ≤ 5000) := fun gs f x h => hkl h
  have HT := Lib.hid hT
  have HZ := Lib.hid hz
  have HHT := Lib.hid HTW
  have hle1 : w.heap.size ≤ B1 := by omega
  obtain ⟨kl, HKE⟩ : ∃ z, Hid (k.len = z) := ⟨_, rfl⟩
  by_cases h0 : 0 < k.len
  · have hpos : (0 : Int) < (kl : Int) := by have := HKE.out; omega
    have hd := hok.down h0
    have CALL : Hid (Calls Tryz.prog 91 #[.agg #[Ptr p, .pointer c], .int .i64 0] W fun e w3 => ∃ q b, e = .returned (.agg #[Ptr q, Ptr b]) ∧ Fr No W w3 ∧ RC B1 w3 ∧
      Hid (∀ v0 v1, NextP T t fs h k w (.returned (.tuple #[.agg #[Ptr q, Ptr b], .bool true])) ((w3.setCell ⟨B1, 0, none⟩ v0).setCell ⟨B1, 1, none⟩ v1))) :=
      down_next hfw hle1 b1 hT (ht.mono (fun _ h => h) (HTW W hfw)) (hz.mono (fun _ h => h) (HTW W hfw)) h0 hk0 hd.1 hd.2.1 hd.2.2
    rw [HKE.out] at c3
    clear ht hz hok hw hsz hT hks hkl hbk hsl hfw b0 b1 hbW HTW h0 hd hlk hk0
    subst hB1
    subst hW
    go_enter Tryz.func64, Tryz.ntmps64
    go_wp2_with fail
    refine CALL.out.mono ?_
    rintro e w3 ⟨q, b, rfl, hf3, ⟨r0, r1, r2, r3, r4⟩, FIN⟩
    clear hf3
    go_wp2_with fail
    refine bodyPost_ret (v := .tuple #[.agg #[Ptr q, Ptr b], .bool true]) (by simp [results, Tryz.results64, go_sem, cell_set_same r0, cell_set_next r1]) rfl ?_
    exact FIN.out _ _
  · have hk0' : k.len = 0 := by omega
    have hpos : ¬ (0 : Int) < (kl : Int) := by have := HKE.out; omega
    obtain ⟨e1, e2, e3⟩ := leaf_rx (okZ.wf hw hok) hk0'
    rw [HKE.out] at c3
    have START : Hid (∃ x, okZ t fs x ∧ befZ fs + cR x = befZ fs + rx1 h k ∧ befN fs + x.nods = befN fs + 1) := ⟨_, hok, by rw [e2, e1], by rw [e3]⟩
    clear ht hz hok hw hsz hT hks hkl hbk hsl hfw b0 b1 hbW HTW h0 hlk hk0 e1 e2 e3 hk0'
    subst hB1
    subst hW
    go_enter Tryz.func64, Tryz.ntmps64
    go_wp2_with fail
    generalize ((w.alloc (.cells #[Ptr p, .pointer c] 66)).alloc (.cells #[.pointer none, .pointer none] 66)) = W at *
    go_loopg [4] fs.length (fun g v wr => ∃ (cn : Option Addr) (gs : List ZF) (x : Ts), v = .pointer cn ∧ gs.length = g ∧ Fr No W wr ∧ ZM wr T cn gs ∧ okZ t gs x ∧ befZ gs + cR x = befZ fs + rx1 h k ∧ befN gs + x.nods = befN fs + 1)
    case atStart =>
      obtain ⟨x, s1, s2, s3⟩ := START.out
      exact ⟨c, fs, x, rfl, rfl, Fr.refl _ _, HZ.out.mono (fun _ h => h) (HHT.out W HFW.out), s1, s2, s3⟩
    case round =>
      obtain ⟨cn, gs, x, rfl, hgl, hfr, hzm, hokx, hbz, hbn⟩ := hrel
      cases gs with
      | nil =>
        obtain rfl : cn = none := hzm
        have hcr : cR t = befZ fs + rx1 h k := by
          have e : x = t := hokx
          rw [e] at hbz
          simpa [befZ] using hbz
        have rc := RC.of (HBB.out.fr hfr (fun h => h))
        obtain ⟨r0, r1, r2, r3, r4⟩ := rc
        have FIN : Hid (∀ v0 v1, NextP T t fs h k w (.returned (.tuple #[.agg #[.pointer none, .pointer none], .bool false])) ((wr.setCell ⟨w.heap.size + 1, 0, none⟩ v0).setCell ⟨w.heap.size + 1, 1, none⟩ v1)) := fun v0 v1 =>
          .inr ⟨rfl, ((HFW.out.trans hfr).setCell (p := ⟨w.heap.size + 1, 0, none⟩) (.inr hle1) v0).setCell (p := ⟨w.heap.size + 1, 1, none⟩) (.inr hle1) v1, hcr⟩
        clear hgl hfr hokx hbz hbn hcr START
        go_wp2_with fail
        refine bodyPost_ret (v := .tuple #[.agg #[.pointer none, .pointer none], .bool false]) (by simp [results, Tryz.results64, go_sem, cell_set_same r0, cell_set_next r1]) rfl ?_
        exact FIN.out _ _
      | cons f gs =>
        obtain ⟨b, pw, cn', rfl, hTb, hbb, htw, hzm'⟩ := hzm
        obtain ⟨_, A2, cA2, hbp, _⟩ := htw.open_
        have d0 : wr.cell? ⟨b, 0, none⟩ = some (Ptr pw) := (hbb.cell 0).trans rfl
        have d1 : wr.cell? ⟨b, 1, none⟩ = some (.int .i64 (f.j : Int)) := (hbb.cell 1).trans rfl
        have d2 : wr.cell? ⟨b, 2, none⟩ = some (.pointer cn') := (hbb.cell 2).trans rfl
        have d3 : wr.cell? ⟨pw, 3, none⟩ = some (.slice A2 f.k.len cA2) := (hbp.cell 3).trans rfl
        have ld := hbb.lt
        have lpw := hbp.lt
        have hfk : f.k.len ≤ 5000 := HKL.out _ _ _ hokx
        have hjl := hokx.2.1
        have i1 : (f.k.len : Int) ≤ 5000 := by omega
        have i2 : (f.j : Int) < (f.k.len : Int) := by omega
        have i3 : (0 : Int) ≤ (f.j : Int) := by omega
        have HHB := Lib.hid (HBB.out.fr hfr (fun h => h))
        have hfall : Fr No w wr := HFW.out.trans hfr
        by_cases hjn : f.j + 1 < f.k.len
        · have i4 : (f.j : Int) + 1 < (f.k.len : Int) := by omega
          obtain ⟨s1, s2, s3⟩ := hokx.side hjn
          have CALL : Hid (∀ n, Calls Tryz.prog 91 #[.agg #[Ptr pw, .pointer cn'], .int .i64 (IntKind.i64.wrap ((f.j : Int) + 1))] (wr.drewN n) fun e w3 => ∃ q b', e = .returned (.agg #[Ptr q, Ptr b']) ∧
              (w3.cell? ⟨b, 0, none⟩ = some (Ptr pw) ∧ w3.cell? ⟨b, 1, none⟩ = some (.int .i64 (f.j : Int)) ∧ w3.cell? ⟨b, 2, none⟩ = some (.pointer cn')) ∧ RC (w.heap.size + 1) w3 ∧
              Hid (∀ v0 v1, NextP T t fs h k w (.returned (.tuple #[.agg #[Ptr q, Ptr b'], .bool true])) ((w3.setCell ⟨w.heap.size + 1, 0, none⟩ v0).setCell ⟨w.heap.size + 1, 1, none⟩ v1))) := by
            intro n
            have hfn : Fr No wr (wr.drewN n) := (Fr.refl No wr).drewN n
            have h1 := down_next (t := t) (fs := fs) (h0 := h) (k0 := k) (hfall.trans hfn) hle1 (HHB.out.fr hfn (fun h => h)) HT.out (htw.mono (fun _ h => h) (fun _ _ => rfl)) (ZM.mono (w := wr) (w' := wr.drewN n) (T := T) (T' := T) (fun _ h => h) (fun _ _ => rfl) hzm') hjn hfk s1 (by rw [s2]; exact hbz) (by rw [s3]; exact hbn)
            rw [show ((f.j + 1 : Nat) : Int) = IntKind.i64.wrap ((f.j : Int) + 1) from by rw [IntWalk.i64_in _ (by omega)]; omega] at h1
            refine h1.mono ?_
            rintro e w3 ⟨q, b', rfl, g1, g2, g3⟩
            have hg := hfn.trans g1
            exact ⟨q, b', rfl, ⟨(hg.cell (p := ⟨b, 0, none⟩) ld (fun h => h)).trans d0, (hg.cell (p := ⟨b, 1, none⟩) ld (fun h => h)).trans d1, (hg.cell (p := ⟨b, 2, none⟩) ld (fun h => h)).trans d2⟩, g2, g3⟩
          have m1 : b ≠ (w.heap.size + 1) := by have := HT.out b hTb; omega
          have m2 : (w.heap.size + 1) ≠ b := fun e => m1 e.symm
          clear hgl hfr hokx hbz hbn hzm' htw hbb hbp s1 s2 s3 START hfall hfk hjl
          go_wp2_with fail
          go_quiet (fail)
          go_wp2_with fail
          go_region_held3 (fun w' => w'.cell? ⟨b, 0, none⟩ = some (Ptr pw) ∧ w'.cell? ⟨b, 1, none⟩ = some (.int .i64 (f.j : Int)) ∧ w'.cell? ⟨b, 2, none⟩ = some (.pointer cn')) (go_keep)
            (first | (go_at_call 91; ((with_reducible refine (CALL.out _).mono ?_); rintro e w3 ⟨q, b', rfl, ⟨s0, s1, s2⟩, ⟨r0, r1, r2, r3, r4⟩, FIN⟩)))
          go_wp2_with fail
          refine bodyPost_ret (v := .tuple #[.agg #[Ptr q, Ptr b'], .bool true]) (by simp [results, Tryz.results64, go_sem, cell_set_same r0, cell_set_next r1]) rfl ?_
          exact FIN.out _ _
        · have hje : f.j + 1 = f.k.len := by omega
          have i4 : ¬ (f.j : Int) + 1 < (f.k.len : Int) := by omega
          obtain ⟨s1, s2⟩ := hokx.climb hje
          have REL : Hid (∀ n, ∃ (cn : Option Addr) (gs' : List ZF) (x : Ts), Value.pointer cn' = .pointer cn ∧ gs'.length = gs.length ∧ Fr No W (wr.drewN n) ∧ ZM (wr.drewN n) T cn gs' ∧ okZ t gs' x ∧ befZ gs' + cR x = befZ fs + rx1 h k ∧ befN gs' + x.nods = befN fs + 1) := fun n =>
            ⟨cn', gs, f.node, rfl, rfl, hfr.drewN n, ZM.mono (w := wr) (w' := wr.drewN n) (T := T) (T' := T) (fun _ h => h) (fun _ _ => rfl) hzm', hokx.2.2, by rw [← s1]; exact hbz, by rw [← s2]; exact hbn⟩
          have HG : Hid (gs.length < gk) := by show _ < _; simp only [List.length_cons] at hgl; omega
          clear hgl hfr hokx hbz hbn hzm' htw hbb hbp s1 s2 START hfall hfk hjl hje
          go_wp2_with fail
          go_quiet (fail)
          go_wp2_with fail
          go_roundg gs.length
          case measure => exact HG.out
          case rel => exact REL.out _
end Go.Proofs.YtnjgaenhjdjpfaaGreatDoor
