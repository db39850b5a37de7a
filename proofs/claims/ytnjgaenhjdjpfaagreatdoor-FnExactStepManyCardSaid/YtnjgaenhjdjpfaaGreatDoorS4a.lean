/- A step at the redex with an index: l4At of the model. -/
import Derived.Test.YtnjgaenhjdjpfaaGreatDoorS4p
import Derived.Deep.CutRange
import Derived.Deep.AppendLies
namespace Go.Proofs.YtnjgaenhjdjpfaaGreatDoor
open Go.RowKit Go.ChangeMaps

theorem run_append_zero {P : Program} (w : World) (t ty e : TypeId) (i : TypeInfo) (ht : P.underlying t = some (.slice e)) (hi : P.info? e = some i) (g : Nat) (A : Option Addr) (c : Nat) :
    (Builtin.append_ #[t, t] ty #[.slice (some ⟨g, 0, none⟩) 0 0, .slice A 0 c]).run P w = .ok (.slice (some ⟨g, 0, none⟩) 0 0) w := by
  cases A <;> simp [Builtin.append_, run_underlying ht, sizeOf, typeInfo, hi, Builtin.lenOf, Builtin.firstCells, storeCells, loadCells, loadCellsFrom]

/-- an empty row appended to an empty one, at a step of a region that draws -/
theorem step_append_zero {P : Program} {w : World} {ops : Array Oper} {o : Oper} {a : Act} {K : Act → World → Prop} {Q : Exit → Act → World → Prop} {E : Prop} (hgd : o.guard = none) (s x : Operand) (t : TypeId)
    (ho : o.op = .call { callee := .builtin .append, args := #[s, x], argTypes := #[t, t] }) (e : Nat) (i : TypeInfo) (q1 : P.underlying t = some (.slice e)) (q2 : P.info? e = some i) (g : Nat) (A : Option Addr) (c : Nat)
    (hs : a.eval s = .slice (some ⟨g, 0, none⟩) 0 0) (hx : a.eval x = .slice A 0 c) (h : K (a.put o.dst (.slice (some ⟨g, 0, none⟩) 0 0)) w) :
    if Region.wanted o (yielded ops a.tmps) = true then Oper.wp P o a w K Q else E := by
  have hw : Region.wanted o (yielded ops a.tmps) = true := by simp [Region.wanted, hgd]
  rw [if_pos hw]
  have hr := run_append_zero (P := P) w t o.type e i q1 q2 g A c
  unfold Oper.wp execOp
  simp only [ho, resolve, invoke, builtin, List.map_toArray, List.map_cons, List.map_nil, Sem.run_bind, Sem.run_pure, Result.andThen_ok, hs, hx, hr]
  exact h

theorem own_zero {W : World} {base b : Nat} (h : Blk W b 40 #[]) (hb : base ≤ b) : W.ownsRow base 40 2 (.slice (some ⟨b, 0, none⟩) 0 0) 0 [] :=
  ⟨rfl, .inr ⟨b, 0, #[], rfl, hb, h, Nat.le_refl _, Nat.zero_le _, rfl, rfl⟩⟩

theorem rg_new {w1 w4 : World} {T : Nat → Prop} {f : Fo} {L G cc : Nat} {ys : List Value} (hL : f.len = L) (hT : ∀ b, T b → b < w1.heap.size) (hel : Elems w1 T f ys) (hown : w4.ownsRow w1.heap.size 40 2 (.slice (some ⟨G, 0, none⟩) L cc) L ys) (hf : Fr No w1 w4) :
    RG w1 T f G cc L w4.heap.size (w4.alloc (.cells #[.string ⟨#[]⟩, .slice (some ⟨G, 0, none⟩) L cc] 40)) := by
  have hfa : Fr No w1 (w4.alloc (.cells #[.string ⟨#[]⟩, .slice (some ⟨G, 0, none⟩) L cc] 40)) := hf.alloc _
  have hGl := hown.lt G rfl
  exact ⟨hfa, Blk.new _ _ _, ⟨ys, hown.alloc _, hel.mono (fun b hb => .inl hb) (fun b hb => hfa.block b (hT b hb) (fun h => h))⟩, hL, ⟨hf.size, by omega⟩⟩

theorem rg_set {w1 w4 : World} {T : Nat → Prop} {f : Fo} {L G cc ob : Nat} {ys : List Value} (hL : f.len = L) (hT : ∀ b, T b → b < w1.heap.size) (hel : Elems w1 T f ys) (hown : w4.ownsRow w1.heap.size 40 2 (.slice (some ⟨G, 0, none⟩) L cc) L ys) (hf : Fr No w1 w4)
    (hb : Blk w4 ob 40 #[S [], .slice none 0 0]) (h1 : w1.heap.size ≤ ob) (h2 : ob ≠ G) :
    RG w1 T f G cc L ob ((w4.setCell ⟨ob, 0, none⟩ (.string ⟨#[]⟩)).setCell ⟨ob, 1, none⟩ (.slice (some ⟨G, 0, none⟩) L cc)) := by
  have hfa : Fr No w1 ((w4.setCell ⟨ob, 0, none⟩ (.string ⟨#[]⟩)).setCell ⟨ob, 1, none⟩ (.slice (some ⟨G, 0, none⟩) L cc)) := (hf.setCell (p := ⟨ob, 0, none⟩) (.inr h1) _).setCell (p := ⟨ob, 1, none⟩) (.inr h1) _
  have hfo : Fr (fun b => b = ob) w4 ((w4.setCell ⟨ob, 0, none⟩ (.string ⟨#[]⟩)).setCell ⟨ob, 1, none⟩ (.slice (some ⟨G, 0, none⟩) L cc)) := Fr.setCell (S := fun b => b = ob) (Fr.setCell (S := fun b => b = ob) (Fr.refl (fun b => b = ob) w4) (p := ⟨ob, 0, none⟩) (.inl rfl) _) (p := ⟨ob, 1, none⟩) (.inl rfl) _
  refine ⟨hfa, (hb.set_ 0 _).set_ 1 _, ⟨ys, own_fr hown hfo (fun b e => ?_), hel.mono (fun b hb => .inl hb) (fun b hb => hfa.block b (hT b hb) (fun h => h))⟩, hL, ⟨h1, h2⟩⟩
  simp only [Value.ownBlock, Option.some.injEq] at e
  omega

/-- what the loop over the parts keeps -/
structure AtI (h : List UInt8) (whole r F0 : Fo) (g0 : Bool) (n0 C0 j n : Nat) (pre : Fo) : Prop where
  len : pre.len = j + 1
  all : pre.app (r.from_ j) = whole
  tos : F0 = pre.app (atU (r.from_ j) (.kids h [] (j + 1)) n)
  gr : g0 = grU (r.from_ j) (.kids h [] (j + 1)) n
  cnt : n0 + cU (r.from_ j) (.kids h [] (j + 1)) = n + C0
  le : n ≤ n0

theorem AtI.on {h : List UInt8} {whole r F0 : Fo} {g0 : Bool} {n0 C0 j n : Nat} {pre : Fo} (H : AtI h whole r F0 g0 n0 C0 j n pre) {a' : List UInt8} {k' : Fo} (e : r.nth j = some (a', k')) (hn : innB h (j + 1) = true → cT a' k' ≤ n) :
    AtI h whole r F0 g0 n0 C0 (j + 1) (n - (if innB h (j + 1) = true then cT a' k' else 0)) (pre.snoc a' k') := by
  have h1 := at_on (b := []) e hn
  have h2 := cU_step (h := h) (b := []) (i := j + 1) e
  have h3 := H.cnt
  have h4 := H.le
  refine ⟨by rw [Fo.len_snoc, H.len], by rw [Fo.snoc_app, ← Fo.from_nth r j a' k' e]; exact H.all, by rw [Fo.snoc_app, ← h1.1]; exact H.tos, H.gr.trans h1.2, ?_, by omega⟩
  rw [h2] at h3
  by_cases hi : innB h (j + 1) = true
  · have := hn hi
    rw [if_pos hi] at h3 ⊢
    omega
  · rw [if_neg hi] at h3 ⊢
    omega

theorem AtI.here {h : List UInt8} {whole r F0 : Fo} {g0 : Bool} {n0 C0 j n : Nat} {pre : Fo} (H : AtI h whole r F0 g0 n0 C0 j n pre) {a' : List UInt8} {k' : Fo} (e : r.nth j = some (a', k')) (hi : innB h (j + 1) = true) (hn : n < cT a' k') :
    F0 = (pre.snoc (atA k' n) (atK k' n)).app (r.from_ (j + 1)) ∧ g0 = grT k' n ∧ n0 < C0 := by
  have h1 := at_here (b := []) e hi hn
  have h2 := cU_step (h := h) (b := []) (i := j + 1) e
  have h3 := H.cnt
  refine ⟨by rw [Fo.snoc_app, ← h1.1]; exact H.tos, H.gr.trans h1.2, ?_⟩
  rw [h2, if_pos hi] at h3
  omega

theorem AtI.end_ {h : List UInt8} {whole r F0 : Fo} {g0 : Bool} {n0 C0 j n : Nat} {pre : Fo} (H : AtI h whole r F0 g0 n0 C0 j n pre) (hl : r.len = j) : n0 = n + C0 := by
  have h3 := H.cnt
  rw [← hl, Fo.from_len] at h3
  simpa [cU] using h3

theorem at_start {h : List UInt8} {k0 r : Fo} {m : Nat} (hq : ¬ (rxF (.cons h k0 r) = true ∧ m = 0)) :
    atA (.cons h k0 r) m = [] ∧ AtI h (.cons h k0 r) r (atK (.cons h k0 r) m) (grT (.cons h k0 r) m) (m - rxN (.cons h k0 r)) (cU (r.from_ 0) (.kids h [] 1)) 0 (m - rxN (.cons h k0 r)) (.cons h k0 .nil) := by
  refine ⟨by simp only [atA, if_neg hq], rfl, by rw [Fo.from_zero]; rfl, ?_, ?_, rfl, Nat.le_refl _⟩
  · simp only [atK, if_neg hq, Fo.from_zero]
    rfl
  · simp only [grT, if_neg hq, Fo.from_zero]
    rfl

theorem ct_node (h : List UInt8) (k0 r : Fo) : cT [] (.cons h k0 r) = rxN (.cons h k0 r) + cU (r.from_ 0) (.kids h [] 1) := by
  rw [Fo.from_zero]
  rfl

def AtSaid (k : Fo) : Prop := ∀ (a : List UInt8) (A : Option Addr) (c : Nat) (w : World) (T : Nat → Prop) (m : Nat), (m : Int) ≤ 9223372036854775807 → OkT a k → treeSize a k ≤ 300 → (∀ b, T b → b < w.heap.size) → Sl w T A k →
  Calls Tryz.prog 29 #[.agg #[S a, .slice A k.len c], .int .i64 (m : Int)] w fun e w' => AtP T a k m w e w'

theorem at_fin {w w1 W : World} {T : Nat → Prop} {f : Fo} {G : Nat} (hT : ∀ b, T b → b < w.heap.size) (hl : w.heap.size + 1 < w1.heap.size) (hs : Sl W (fun b => T b ∨ (w1.heap.size ≤ b ∧ b < W.heap.size)) (some ⟨G, 0, none⟩) f) (v0 v1 : Value) :
    Sl ((W.setCell ⟨w.heap.size + 1, 0, none⟩ v0).setCell ⟨w.heap.size + 1, 1, none⟩ v1) (TN T w ((W.setCell ⟨w.heap.size + 1, 0, none⟩ v0).setCell ⟨w.heap.size + 1, 1, none⟩ v1)) (some ⟨G, 0, none⟩) f := by
  have hz : ((W.setCell ⟨w.heap.size + 1, 0, none⟩ v0).setCell ⟨w.heap.size + 1, 1, none⟩ v1).heap.size = W.heap.size := by simp [World.setCell]
  refine hs.mono (fun b hb => hb.imp (fun h => h) (fun hb => ⟨by omega, by rw [hz]; exact hb.2⟩)) (fun b hb => ?_)
  have hb1 : b ≠ w.heap.size + 1 := by
    rcases hb with hb | hb
    · have := hT b hb; omega
    · omega
  rw [Below.heap_setCell _ ⟨w.heap.size + 1, 1, none⟩ _ _ hb1, Below.heap_setCell _ ⟨w.heap.size + 1, 0, none⟩ _ _ hb1]

theorem sl_alloc {w W : World} {T : Nat → Prop} {A : Option Addr} {f : Fo} (hT : ∀ b, T b → b < w.heap.size) (hl : w.heap.size ≤ W.heap.size) (hs : Sl W (TN T w W) A f) (X : Obj) : Sl (W.alloc X) (TN T w (W.alloc X)) A f := by
  refine hs.mono (fun b hb => hb.imp (fun h => h) (fun hb => ⟨hb.1, Nat.lt_of_lt_of_le hb.2 ((Fr.refl No W).alloc X).size⟩)) (fun b hb => ((Fr.refl No W).alloc X).block b ?_ (fun h => h))
  rcases hb with hb | hb
  · exact Nat.lt_of_lt_of_le (hT b hb) hl
  · exact hb.2

theorem at_res {w3 : World} {b G : Nat} {u0 u1 : Value} (hne : b ≠ G) (h0 : w3.cell? ⟨b, 0, none⟩ = some u0) (h1 : w3.cell? ⟨b, 1, none⟩ = some u1) (hl : b < w3.heap.size) (x y v0 v1 : Value) (o1 o2 : Nat) (X : Obj) :
    (((((w3.setCell ⟨G, o1, none⟩ x).setCell ⟨G, o2, none⟩ y).setCell ⟨b, 0, none⟩ v0).setCell ⟨b, 1, none⟩ v1).alloc X).cell? ⟨b, 0, none⟩ = some v0 ∧
    (((((w3.setCell ⟨G, o1, none⟩ x).setCell ⟨G, o2, none⟩ y).setCell ⟨b, 0, none⟩ v0).setCell ⟨b, 1, none⟩ v1).alloc X).cell? ⟨b, 1, none⟩ = some v1 := by
  have far : ∀ o, ((w3.setCell ⟨G, o1, none⟩ x).setCell ⟨G, o2, none⟩ y).cell? ⟨b, o, none⟩ = w3.cell? ⟨b, o, none⟩ := fun o => by
    rw [World.cell?_setCell_other _ _ _ _ (by simp), World.cell?_setCell_other _ _ _ _ (by simp)]
  have z : b < ((((w3.setCell ⟨G, o1, none⟩ x).setCell ⟨G, o2, none⟩ y).setCell ⟨b, 0, none⟩ v0).setCell ⟨b, 1, none⟩ v1).heap.size := by simpa [World.setCell] using hl
  have y0 := (far 0).trans h0
  have y1 := (far 1).trans h1
  refine ⟨(((Fr.refl No _).alloc X).cell (p := ⟨b, 0, none⟩) z (fun h => h)).trans ?_, (((Fr.refl No _).alloc X).cell (p := ⟨b, 1, none⟩) z (fun h => h)).trans (cell_set_next y1 _ _)⟩
  exact (World.cell?_setCell_other _ ⟨b, 1, none⟩ ⟨b, 0, none⟩ _ (by simp)).trans (cell_set_same y0 _)

set_option maxRecDepth 100000 in
set_option maxHeartbeats 8000000 in
theorem at4_node (h : List UInt8) (k0 r : Fo) (hN : ∀ a' k' j, (Fo.cons h k0 r).nth j = some (a', k') → AtSaid k') (A : Option Addr) (c : Nat) (w : World) (T : Nat → Prop) (m : Nat) (hm63 : (m : Int) ≤ 9223372036854775807) (ho : OkT [] (.cons h k0 r)) (hs : (Fo.cons h k0 r).size ≤ 300) (hT : ∀ b, T b → b < w.heap.size) (hA : Sl w T A (.cons h k0 r)) :
    Calls Tryz.prog 29 #[.agg #[S [], .slice A (Fo.cons h k0 r).len c], .int .i64 (m : Int)] w fun e w' => AtP T [] (.cons h k0 r) m w e w' := by
  have HN := Lib.hid hN
  clear hN
  have htm := ho.tm
  simp only [isTm, if_true, isTms, Bool.and_eq_true] at htm
  obtain ⟨hsn, htm⟩ := htm
  have hrl := isTms_len _ _ htm
  have hsl := shape_short h
  have hs1 : 1 ≤ (shapeOf h).length := by
    cases hq : shapeOf h with
    | nil => rw [hq] at hsn; cases hsn
    | cons => simp
  clear htm hsn
  have hrz : r.size ≤ 300 := by simp only [Fo.size] at hs; omega
  obtain ⟨M, HM⟩ : ∃ M, Hid (M = (shapeOf h).length) := ⟨_, rfl⟩
  obtain ⟨L, HL⟩ : ∃ L, Hid ((Fo.cons h k0 r).len = L) := ⟨_, rfl⟩
  have HLM : Hid (L = M + 1) := by
    have h1 := HL.out
    have h2 := HM.out
    show L = M + 1
    simp only [Fo.len] at h1
    omega
  have HRL : Hid (r.len = M) := by
    have h2 := HM.out
    show r.len = M
    omega
  rw [← HM.out] at hsl hs1
  have hL4 : (L : Int) ≤ 4 := by have := HLM.out; omega
  have hL1 : (1 : Int) ≤ (L : Int) := by have := HLM.out; omega
  rw [HL.out]
  clear hrl
  obtain ⟨gA, oA, ys, rfl, hgT, hel, hcs⟩ : ∃ b o ys, A = some ⟨b, o, none⟩ ∧ T b ∧ Elems w T (.cons h k0 r) ys ∧ ∀ j u, ys[j]? = some u → w.cell? ⟨b, o + j, none⟩ = some u := by
    rcases hA with h0 | h0
    · simp [Fo.len] at h0
    · exact h0
  have HOK := Lib.hid ho
  have HT := Lib.hid hT
  have HA := Lib.hid hA
  have HSZ := Lib.hid hs
  obtain ⟨i0, hi0, hz0, hz1, hz2⟩ := info_parts info_tree
  have hyl := hel.length
  obtain ⟨rb, HRB⟩ : ∃ z, Hid (rxF (.cons h k0 r) = z) := ⟨_, rfl⟩
  obtain ⟨gb, HGB⟩ : ∃ z, Hid (grF (.cons h k0 r) = z) := ⟨_, rfl⟩
  -- the boxes of the parameter and of the result
  have RX : Hid (Calls Tryz.prog 44 #[.agg #[S [], .slice (some ⟨gA, oA, none⟩) L c]] ((w.alloc (.cells #[S [], .slice (some ⟨gA, oA, none⟩) L c] 40)).alloc (.cells #[S [], .slice none 0 0] 40)) fun e w1 => e = .returned (.bool rb) ∧
      Hid (Fr No w w1) ∧ Hid (Blk w1 w.heap.size 40 #[S [], .slice (some ⟨gA, oA, none⟩) L c]) ∧ Hid (Blk w1 (w.heap.size + 1) 40 #[S [], .slice none 0 0])) := by
    have hf2 : Fr No w ((w.alloc (.cells #[S [], .slice (some ⟨gA, oA, none⟩) L c] 40)).alloc (.cells #[S [], .slice none 0 0] 40)) := ((Fr.refl _ _).alloc _).alloc _
    have b1 : Blk ((w.alloc (.cells #[S [], .slice (some ⟨gA, oA, none⟩) L c] 40)).alloc (.cells #[S [], .slice none 0 0] 40)) w.heap.size 40 #[S [], .slice (some ⟨gA, oA, none⟩) L c] := (Blk.new _ _ _).alloc _
    have b2 : Blk ((w.alloc (.cells #[S [], .slice (some ⟨gA, oA, none⟩) L c] 40)).alloc (.cells #[S [], .slice none 0 0] 40)) (w.heap.size + 1) 40 #[S [], .slice none 0 0] := Blk.new_at _ _ _ (by simp)
    have h0 := redex4_any _ T [] _ c (.cons h k0 r) HOK.out (hA.fr hT hf2) (fun b hb => Nat.lt_of_lt_of_le (hT b hb) hf2.size)
    have e : rxB [] (.cons h k0 r) = rb := HRB.out
    rw [e, HL.out] at h0
    refine h0.mono ?_
    rintro e w1 ⟨rfl, hf⟩
    exact ⟨rfl, hf2.trans hf, b1.fr hf (fun h => h), b2.fr hf (fun h => h)⟩
  obtain ⟨CT, HCT⟩ : ∃ z, Hid (cT [] (.cons h k0 r) = z) := ⟨_, rfl⟩
  obtain ⟨mi, HMI⟩ : ∃ z, Hid ((m : Int) = z) := ⟨_, rfl⟩
  have hmi1 : 0 ≤ mi := by have := HMI.out; omega
  have hmi2 : mi ≤ 9223372036854775807 := by have := HMI.out; omega
  rw [HMI.out]
  clear hs hA ho hT hm63 hmi1
  obtain ⟨C0, HC0⟩ : ∃ z, Hid (cU (r.from_ 0) (.kids h [] 1) = z) := ⟨_, rfl⟩
  obtain ⟨F0, HF0⟩ : ∃ z, Hid (atK (.cons h k0 r) m = z) := ⟨_, rfl⟩
  obtain ⟨g0, HG0⟩ : ∃ z, Hid (grT (.cons h k0 r) m = z) := ⟨_, rfl⟩
  cases rb
  · have HQ : Hid (¬ (rxF (.cons h k0 r) = true ∧ m = 0)) := by
      intro hq
      have := HRB.out
      rw [hq.1] at this
      cases this
    have HRN : Hid (rxN (.cons h k0 r) = 0) := by show _ = _; simp [rxN, HRB.out]
    obtain ⟨n0, HN0⟩ : ∃ n0, Hid (m - rxN (.cons h k0 r) = n0) := ⟨_, rfl⟩
    have hmn : mi = (n0 : Int) := by have h1 := HN0.out; have h2 := HMI.out; rw [HRN.out] at h1; omega
    subst hmn
    have HMN : Hid (m = n0 + rxN (.cons h k0 r)) := by have h1 := HN0.out; rw [HRN.out] at h1; show _ = _; rw [HRN.out]; omega
    have hn63 : (n0 : Int) ≤ 9223372036854775807 := hmi2
    have hn00 : (0 : Int) ≤ (n0 : Int) := by omega
    clear hmi2
    go_enter Tryz.func29, Tryz.ntmps29
    go_wp2_with fail
    refine RX.out.mono ?_
    rintro e w1 ⟨rfl, HFW, HBX, HBZ⟩
    have c0 : w1.cell? ⟨w.heap.size, 0, none⟩ = some (S []) := (HBX.out.cell 0).trans rfl
    have c1 : w1.cell? ⟨w.heap.size, 1, none⟩ = some (.slice (some ⟨gA, oA, none⟩) L c) := (HBX.out.cell 1).trans rfl
    have cl := HBX.out.lt
    have zl := HBZ.out.lt
    have HZL := Lib.hid zl
    have HTW : Hid (∀ b, T b → b < w1.heap.size) := fun b hb => Nat.lt_of_lt_of_le (HT.out b hb) HFW.out.size
    have HC2 : Hid (∀ u ∈ ys, u.oneCell' = true) := hel.one
    have HYL : Hid (ys.length = L * 2) := by show _ = _; rw [hyl, HL.out]
    have bnd : (0 + L) * 40 ≤ 140737488355328 := by omega
    have bnd2 : 0 + L ≤ maxLen := by unfold maxLen; omega
    have HCS : ∀ (W : World), Fr No w1 W → Hid (∀ (j : Nat) (u : Value), ys[j]? = some u → W.cell? ((⟨gA, oA, none⟩ : Addr).add j) = some u) := fun W hf => by
      intro j u hj
      rw [addr_add]
      exact (hf.cell (p := ⟨gA, oA + j, none⟩) (HTW.out gA hgT) (fun h => h)).trans ((HFW.out.cell (p := ⟨gA, oA + j, none⟩) (HT.out gA hgT) (fun h => h)).trans (hcs j u hj))
    have hL0 : 0 < L := by omega
    have HEL : Hid (Elems w1 T (.cons h k0 r) ys) := hel.mono (fun b hb => hb) (fun b hb => HFW.out.block b (HT.out b hb) (fun h => h))
    have n1 : w.heap.size ≠ w1.heap.size := by omega
    have n2 : w1.heap.size ≠ w.heap.size := by omega
    have n3 : w.heap.size ≠ w1.heap.size + 1 := by omega
    have n4 : w1.heap.size + 1 ≠ w.heap.size := by omega
    have CELL : Hid (∀ w', Fr No w1 w' → w'.cell? ⟨w.heap.size, 0, none⟩ = some (S []) ∧ w'.cell? ⟨w.heap.size, 1, none⟩ = some (.slice (some ⟨gA, oA, none⟩) L c)) := fun w' hf =>
      ⟨((HBX.out.fr hf (fun h => h)).cell 0).trans rfl, ((HBX.out.fr hf (fun h => h)).cell 1).trans rfl⟩
    go_wp2_with fail
    go_cut [7] from 12 to 29 (fun s7 wx => ∃ G cc ob, s7 = .pointer (some ⟨ob, 0, none⟩) ∧ Hid (RG w1 T (.cons h k0 r) G cc L ob wx))
    case first =>
      go_region_held3 (fun w' => w'.cell? ⟨w.heap.size, 0, none⟩ = some (S []) ∧ w'.cell? ⟨w.heap.size, 1, none⟩ = some (.slice (some ⟨gA, oA, none⟩) L c)) (go_keep)
        (first | (refine step_append_lies _ (by rfl) _ _ _ (by rfl) w1.heap.size 40 i0 (.agg #[.string ⟨#[]⟩, .slice none 0 0]) 2 40 Tryz.underlying38 hi0 hz0 hz1 hz2 (by rfl) (by decide) _ 0 [] (by rfl) (own_zero (by first | exact Blk.new_at _ _ _ (by simp) | exact (Blk.new_at _ _ _ (by simp)).alloc _) (by first | (simp; done) | (simp; omega))) ⟨gA, oA, none⟩ L c ys (by rfl) HYL.out (HCS _ (by repeat (first | exact Fr.refl _ _ | apply Fr.alloc | apply Fr.drew))).out HC2.out hL0 bnd2 bnd (by first | (simp; done) | (simp; omega)) _ rfl ?_; intro g4 cap4 w4 hown4 hgrow4 hat4 hlt4; have hf4 := Fr.grown (S := No) (a := w1) (by repeat (first | exact Fr.refl _ _ | apply Fr.alloc | apply Fr.drew)) hgrow4 (fun k hk => .inr (by simp [Value.ownBlock] at hk; omega)); obtain ⟨k0', k1'⟩ := CELL.out w4 hf4; simp only [Nat.zero_add, List.nil_append] at hown4; first | (have ob4 : Blk w4 (w1.heap.size + 1) 40 #[S [], .slice none 0 0] := (Blk.new_at _ _ _ (by simp)).keep (hgrow4.block _ (by simp) (by simp [Value.ownBlock])); have b0 : w4.cell? ⟨w1.heap.size + 1, 0, none⟩ = some (S []) := (ob4.cell 0).trans rfl; have b1 : w4.cell? ⟨w1.heap.size + 1, 1, none⟩ = some (.slice none 0 0) := (ob4.cell 1).trans rfl; have b2 := ob4.frozen 0; have b3 := ob4.frozen 1; have b4 := ob4.lt; have HR4 := Lib.hid (rg_set HL.out HTW.out HEL.out hown4 hf4 ob4 (by omega) (by simp [Value.ownBlock] at hat4; omega))) | (have ob4 : Blk w4 w1.heap.size 40 #[S [], .slice none 0 0] := ((Blk.new_at _ _ _ (by simp)).alloc _).keep (hgrow4.block _ (by simp <;> omega) (by simp [Value.ownBlock])); have b0 : w4.cell? ⟨w1.heap.size, 0, none⟩ = some (S []) := (ob4.cell 0).trans rfl; have b1 : w4.cell? ⟨w1.heap.size, 1, none⟩ = some (.slice none 0 0) := (ob4.cell 1).trans rfl; have b2 := ob4.frozen 0; have b3 := ob4.frozen 1; have b4 := ob4.lt; have HR4 := Lib.hid (rg_set HL.out HTW.out HEL.out hown4 hf4 ob4 (by omega) (by simp [Value.ownBlock] at hat4; omega))) | (have HR4 := Lib.hid (rg_new HL.out HTW.out HEL.out hown4 hf4)); clear hown4 hgrow4 hat4 hf4))
      all_goals (go_wp2_with fail; go_meet; exact ⟨g4, cap4, _, rfl, HR4⟩)
    case rest =>
    obtain ⟨G, cc, ob, rfl, HRF⟩ := hcut
    clear hel hcs hyl HCS CELL HEL HC2 HYL bnd bnd2 n1 n2 n3 n4 hi0 hz0 hz1 hz2 c0 c1 cl zl hL0
    go_wp2_with fail
    have HS0 : Hid (atA (.cons h k0 r) m = [] ∧ AtI h (.cons h k0 r) r F0 g0 n0 C0 0 n0 (.cons h k0 .nil)) := by
      have := at_start HQ.out
      rw [HF0.out, HG0.out, HN0.out, HC0.out] at this
      exact this
    go_loopw [1, 8] (fun v u wr => ∃ (j n : Nat) (pre : Fo), j ≤ M ∧ u = .int .i64 ((j + 1 : Nat) : Int) ∧ v = .int .i64 (n : Int) ∧ RG w1 T (.cons h k0 r) G cc L ob wr ∧ AtI h (.cons h k0 r) r F0 g0 n0 C0 j n pre) (fun _ u _ => M + 1 - (intOf u).toNat)
    case atStart => exact ⟨0, n0, .cons h k0 .nil, Nat.zero_le _, rfl, rfl, HRF.out, HS0.out.2⟩
    case round =>
      obtain ⟨j, n, pre, hj, rfl, rfl, hrf, hin⟩ := hrel
      have HRJ := Lib.hid hrf
      have HI := Lib.hid hin
      clear hrf hin HRF
      have hg := HRJ.out.gw
      have hob2 := HRJ.out.ne
      have hzl := HZL.out
      have hn1 : (0 : Int) ≤ (n : Int) := by omega
      have hn2 : (n : Int) ≤ 9223372036854775807 := by have := HI.out.le; omega
      have ALLC : Hid (∀ w', Fr No wr w' → w'.cell? ⟨w.heap.size, 0, none⟩ = some (S []) ∧ w'.cell? ⟨w.heap.size, 1, none⟩ = some (.slice (some ⟨gA, oA, none⟩) L c) ∧ w.heap.size < w'.heap.size ∧ w'.cell? ⟨ob, 0, none⟩ = some (S []) ∧ w'.cell? ⟨ob, 1, none⟩ = some (.slice (some ⟨G, 0, none⟩) L cc) ∧ ob < w'.heap.size ∧
          w'.cell? ⟨w.heap.size + 1, 0, none⟩ = some (S []) ∧ w'.cell? ⟨w.heap.size + 1, 1, none⟩ = some (.slice none 0 0) ∧ w'.frozen? ⟨w.heap.size + 1, 0, none⟩ = false ∧ w'.frozen? ⟨w.heap.size + 1, 1, none⟩ = false ∧ w.heap.size + 1 < w'.heap.size) := by
        intro w' hf
        have d0 := (HBX.out.fr HRJ.out.fr (fun h => h)).fr hf (fun h => h)
        have d1 := HRJ.out.out.fr hf (fun h => h)
        have d3 := (HBZ.out.fr HRJ.out.fr (fun h => h)).fr hf (fun h => h)
        exact ⟨(d0.cell 0).trans rfl, (d0.cell 1).trans rfl, d0.lt, (d1.cell 0).trans rfl, (d1.cell 1).trans rfl, d1.lt, (d3.cell 0).trans rfl, (d3.cell 1).trans rfl, d3.frozen 0, d3.frozen 1, d3.lt⟩
      obtain ⟨c0, c1, cl, o0, o1, ol, r0, r1, f0, f1, rl⟩ := ALLC.out wr (Fr.refl _ _)
      have hnG : w.heap.size ≠ G := by omega
      have hnG1 : w.heap.size + 1 ≠ G := by omega
      have hnG2 : G ≠ w.heap.size + 1 := by omega
      have hnO : ob ≠ G := hob2.2
      have hnO1 : ob ≠ w.heap.size + 1 := by omega
      by_cases hlt : j < M
      · have hjc : (j : Int) + 1 < (L : Int) := by have := HLM.out; omega
        have hjn : j + 1 < L := by have := HLM.out; omega
        have hTr : ∀ b, T b → b < wr.heap.size := fun b hb => Nat.lt_of_lt_of_le (HTW.out b hb) HRJ.out.fr.size
        have hKr : ∀ b, T b → wr.heap[b]? = w.heap[b]? := fun b hb => (HRJ.out.fr.block b (HTW.out b hb) (fun h => h)).trans (HFW.out.block b (HT.out b hb) (fun h => h))
        have hAr : Sl wr T (some ⟨gA, oA, none⟩) (.cons h k0 r) := HA.out.mono (fun _ h => h) hKr
        obtain ⟨g', o', a', k', A2, c2, hAe, hgT', hn, q0, q1, hsl'⟩ := hAr.nth (j := j + 1) (by rw [HL.out, HLM.out]; omega)
        obtain ⟨rfl, rfl⟩ : gA = g' ∧ oA = o' := by
          simp only [Option.some.injEq, Addr.mk.injEq, and_true] at hAe
          exact hAe
        have hnr : r.nth j = some (a', k') := hn
        have hlg := block_lt q0
        obtain ⟨b, hbj⟩ : ∃ b, (shapeOf h)[j]? = some b := ⟨_, List.getElem?_eq_getElem (by rw [← HM.out]; exact hlt)⟩
        have hin : innB h (j + 1) = b := by
          unfold innB
          rw [show j + 1 - 1 = j by omega, hbj]
          cases b <;> rfl
        have IN : Hid (Calls Tryz.prog 47 #[.agg #[S [], .slice (some ⟨gA, oA, none⟩) L c], .int .i64 ((j + 1 : Nat) : Int)] wr fun e w' => e = .returned (.bool b) ∧ Fr No wr w') :=
          HL.out ▸ inner_any wr T [] h k0 r _ c (j + 1) b (by omega) hbj hAr
        cases b
        · have HON := Lib.hid (HI.out.on hnr (fun e => by rw [hin] at e; cases e))
          rw [hin] at HON
          have HSK : Hid (∀ w', Fr No wr w' → ∃ (j' n' : Nat) (pre' : Fo), j' ≤ M ∧ Value.int .i64 ((j : Int) + 1 + 1) = .int .i64 ((j' + 1 : Nat) : Int) ∧ Value.int .i64 (n : Int) = .int .i64 (n' : Int) ∧ RG w1 T (.cons h k0 r) G cc L ob w' ∧ AtI h (.cons h k0 r) r F0 g0 n0 C0 j' n' pre') := fun w' hf =>
            ⟨j + 1, n, _, by omega, by go_num, rfl, HRJ.out.keep HTW.out hf, HON.out⟩
          clear hin hn hnr hbj hAr hsl' hTr hKr HON
          go_wp2_with fail
          refine IN.out.mono ?_
          rintro e w2 ⟨rfl, hf1⟩
          have HF1 := Lib.hid hf1
          clear hf1
          go_wp2_with fail
          go_roundw
          case rel => exact HSK.out _ HF1.out
          case measure => simp [intOf]; omega
        · have hok := HOK.out.part hnr hin
          have hz := Fo.nth_size hnr
          have HNE : Hid (gA ≠ G) := by
            have := HTW.out gA hgT
            show _ ≠ _
            omega
          have hAll := HI.out.all
          rw [Fo.from_nth r j a' k' hnr] at hAll
          have HRJ1 : Hid (RG w1 T (pre.app (.cons a' k' (r.from_ (j + 1)))) G cc L ob wr) := by
            have := HRJ.out
            rw [← hAll] at this
            exact this
          obtain ⟨k2l, HKK⟩ : ∃ z, Hid (k'.len = z) := ⟨_, rfl⟩
          have CALL : Hid (∀ (w' : World), Fr No wr w' → Calls Tryz.prog 29 #[.agg #[S a', .slice A2 k2l c2], .int .i64 (n : Int)] w' fun e w3 => Hid (Fr No wr w3) ∧
              ((∃ x5 A5 l5 c5 okb, e = .returned (.tuple #[.agg #[S x5, .slice A5 l5 c5], .int .i64 (-1), .bool okb]) ∧
                (∃ u v, w3.cell? ⟨G, (j + 1) * 2, none⟩ = some u ∧ w3.cell? ⟨G, (j + 1) * 2 + 1, none⟩ = some v ∧ w3.frozen? ⟨G, (j + 1) * 2, none⟩ = false ∧ w3.frozen? ⟨G, (j + 1) * 2 + 1, none⟩ = false ∧ G < w3.heap.size) ∧
                Hid (∀ X v0 v1, AtP T [] (.cons h k0 r) m w (.returned (.tuple #[.agg #[S [], .slice (some ⟨G, 0, none⟩) L cc], .int .i64 (-1), .bool okb])) (((((w3.setCell ⟨G, (j + 1) * 2, none⟩ (S x5)).setCell ⟨G, (j + 1) * 2 + 1, none⟩ (.slice A5 l5 c5)).setCell ⟨w.heap.size + 1, 0, none⟩ v0).setCell ⟨w.heap.size + 1, 1, none⟩ v1).alloc X))) ∨
               (∃ x5 A5 l5 c5 n', e = .returned (.tuple #[.agg #[S x5, .slice A5 l5 c5], .int .i64 ((n' : Nat) : Int), .bool false]) ∧ (0 : Int) ≤ ((n' : Nat) : Int) ∧
                Hid (∀ w', Fr No wr w' → ∃ (j' n2 : Nat) (pre' : Fo), j' ≤ M ∧ Value.int .i64 ((j : Int) + 1 + 1) = .int .i64 ((j' + 1 : Nat) : Int) ∧ Value.int .i64 (n' : Int) = .int .i64 (n2 : Int) ∧ RG w1 T (.cons h k0 r) G cc L ob w' ∧ AtI h (.cons h k0 r) r F0 g0 n0 C0 j' n2 pre')))) := by
            intro w' hf
            have hTw : ∀ b, T b → b < w'.heap.size := fun b hb => Nat.lt_of_lt_of_le (hTr b hb) hf.size
            have h0 := HN.out a' k' (j + 1) hn a' A2 c2 w' T n hn2 hok (by omega) hTw (hsl'.mono (fun _ h => h) (fun b hb => hf.block b (hTr b hb) (fun h => h)))
            rw [HKK.out] at h0
            refine h0.mono ?_
            rintro e w3 ⟨hf3, hcase⟩
            have hfr3 := hf.trans hf3
            refine ⟨Lib.hid hfr3, ?_⟩
            have hr3 := HRJ1.out.keep HTW.out hfr3
            have hG2 := HRJ1.out.gw
            have hs2 := hf.size
            have hs3 := HRJ1.out.fr.size
            have SL : ∃ u v, w3.cell? ⟨G, (j + 1) * 2, none⟩ = some u ∧ w3.cell? ⟨G, (j + 1) * 2 + 1, none⟩ = some v ∧ w3.frozen? ⟨G, (j + 1) * 2, none⟩ = false ∧ w3.frozen? ⟨G, (j + 1) * 2 + 1, none⟩ = false ∧ G < w3.heap.size := hr3.slot hjn
            have FRX : ∀ X x5 A5 l5 c5 v0 v1, Fr No w (((((w3.setCell ⟨G, (j + 1) * 2, none⟩ (S x5)).setCell ⟨G, (j + 1) * 2 + 1, none⟩ (.slice A5 l5 c5)).setCell ⟨w.heap.size + 1, 0, none⟩ v0).setCell ⟨w.heap.size + 1, 1, none⟩ v1).alloc X) := by
              intro X x5 A5 l5 c5 v0 v1
              have q0 := (HFW.out.trans HRJ.out.fr).trans hfr3
              have q1 := q0.setCell (p := ⟨G, (j + 1) * 2, none⟩) (.inr (by show w.heap.size ≤ G; omega)) (S x5)
              have q2 := q1.setCell (p := ⟨G, (j + 1) * 2 + 1, none⟩) (.inr (by show w.heap.size ≤ G; omega)) (.slice A5 l5 c5)
              have q3 := q2.setCell (p := ⟨w.heap.size + 1, 0, none⟩) (.inr (by show w.heap.size ≤ w.heap.size + 1; omega)) v0
              exact (q3.setCell (p := ⟨w.heap.size + 1, 1, none⟩) (.inr (by show w.heap.size ≤ w.heap.size + 1; omega)) v1).alloc X
            have LT : n < cT a' k' → m < cT [] (.cons h k0 r) := fun hlt => by
              have h1 := (HI.out.here hnr hin hlt).2.2
              have h2 := ct_node h k0 r
              rw [HC0.out] at h2
              have h3 := HMN.out
              omega
            have GT : n < cT a' k' → grT (.cons h k0 r) m = grT k' n := fun hlt => by
              rw [HG0.out]
              exact (HI.out.here hnr hin hlt).2.1
            rcases hcase with ⟨hlt, hgf, A5, c5, rfl, g2⟩ | ⟨hlt, hgf, x5, A5, l5, c5, rfl⟩ | ⟨hge, x5, A5, l5, c5, rfl⟩
            · refine .inl ⟨_, _, _, _, _, rfl, SL, fun X v0 v1 => ⟨FRX _ _ _ _ _ _ _, .inl ⟨LT hlt, (GT hlt).trans hgf, some ⟨G, 0, none⟩, cc, ?_, ?_⟩⟩⟩
              · have hr4 := (hr3.put (a' := atA k' n) (k' := atK k' n) (A' := A5) (c' := c5) HTW.out (g2.mono (fun b hb => hb.imp (fun h => h) (fun hb => ⟨by omega, hb.2, by omega⟩)) (fun _ _ => rfl))).len
                rw [← (HI.out.here hnr hin hlt).1] at hr4
                rw [HS0.out.1, HF0.out, hr4]
              · have hp := hr3.put (a' := atA k' n) (k' := atK k' n) (A' := A5) (c' := c5) HTW.out (g2.mono (fun b hb => hb.imp (fun h => h) (fun hb => ⟨by omega, hb.2, by omega⟩)) (fun _ _ => rfl))
                rw [← (HI.out.here hnr hin hlt).1, HI.out.len] at hp
                rw [HF0.out]
                exact sl_alloc HT.out (by have := HFW.out.size; have := HRJ.out.fr.size; have := hfr3.size; simp [World.setCell]; omega) (at_fin HT.out HZL.out hp.done v0 v1) X
            · exact .inl ⟨_, _, _, _, _, rfl, SL, fun X v0 v1 => ⟨FRX _ _ _ _ _ _ _, .inr (.inl ⟨LT hlt, (GT hlt).trans hgf, _, _, _, _, rfl⟩)⟩⟩
            · refine .inr ⟨x5, A5, l5, c5, n - cT a' k', ?_, by omega, fun w4 hf4 => ⟨j + 1, n - cT a' k', pre.snoc a' k', by omega, by go_num, rfl, HRJ.out.keep HTW.out hf4, ?_⟩⟩
              · have : (n : Int) - (cT a' k' : Nat) = ((n - cT a' k' : Nat) : Int) := by omega
                rw [this]
              · have := HI.out.on hnr (fun _ => hge)
                rw [if_pos hin] at this
                exact this
          have HSQ : Hid (∀ w', Fr No wr w' → w'.cell? ⟨gA, oA + (j + 1) * 2, none⟩ = some (S a') ∧ w'.cell? ⟨gA, oA + (j + 1) * 2 + 1, none⟩ = some (.slice A2 k2l c2) ∧ gA < w'.heap.size) := fun w' hf =>
            ⟨(hf.cell (p := ⟨gA, oA + (j + 1) * 2, none⟩) hlg (fun h => h)).trans q0, by rw [← HKK.out]; exact (hf.cell (p := ⟨gA, oA + (j + 1) * 2 + 1, none⟩) hlg (fun h => h)).trans q1, Nat.lt_of_lt_of_le hlg hf.size⟩
          have hnQ := HNE.out
          clear hin hn hnr hbj hok hAr hsl' hTr hKr hz q0 q1 hAll
          go_wp2_with fail
          refine IN.out.mono ?_
          rintro e w2 ⟨rfl, hf1⟩
          have HF1 := Lib.hid hf1
          obtain ⟨d0, d1, dl, e0, e1, el, d4, d5, d6, d7, d8⟩ := ALLC.out w2 hf1
          obtain ⟨p0, p1, pl⟩ := HSQ.out w2 hf1
          clear hf1
          go_wp2_with fail
          refine (CALL.out w2 HF1.out).mono ?_
          rintro e w3 ⟨HF3, ⟨x5, A5, l5, c5, okb, rfl, ⟨su, sv, s0, s1, s2, s3, s4⟩, FIN⟩ | ⟨x5, A5, l5, c5, n', rfl, hn0, HSK⟩⟩
          · obtain ⟨t0, t1, tl, u0, u1, ul, u4, u5, u6, u7, u8⟩ := ALLC.out w3 HF3.out
            go_wp2_with fail
            obtain ⟨z0, z1⟩ := at_res hnG1 u4 u5 u8 (S x5) (.slice A5 l5 c5) (S []) (.slice (some ⟨G, 0, none⟩) L cc) ((j + 1) * 2) ((j + 1) * 2 + 1) (.cells #[S x5, .slice A5 l5 c5] 40)
            refine bodyPost_ret (v := .tuple #[.agg #[S [], .slice (some ⟨G, 0, none⟩) L cc], .int .i64 (-1), .bool okb]) (by simp [results, Tryz.results29, go_sem, z0, z1]) rfl ?_
            exact FIN.out _ _ _
          · go_wp2_with fail
            go_roundw
            case rel => exact HSK.out _ (HF3.out.alloc _)
            case measure => simp [intOf]; omega
      · have hjm : j = M := by omega
        have hjc : ¬ (j : Int) + 1 < (L : Int) := by have := HLM.out; omega
        have FIN : Hid (∀ v0 v1, AtP T [] (.cons h k0 r) m w (.returned (.tuple #[.agg #[S [], .slice (some ⟨gA, oA, none⟩) L c], .int .i64 (n : Int), .bool false])) ((wr.setCell ⟨w.heap.size + 1, 0, none⟩ v0).setCell ⟨w.heap.size + 1, 1, none⟩ v1)) := by
          intro v0 v1
          have h1 := HI.out.end_ (HRL.out.trans hjm.symm)
          have h2 := ct_node h k0 r
          rw [HC0.out] at h2
          have h3 := HMN.out
          refine ⟨((HFW.out.trans HRJ.out.fr).setCell (p := ⟨w.heap.size + 1, 0, none⟩) (.inr (by show w.heap.size ≤ w.heap.size + 1; omega)) v0).setCell (p := ⟨w.heap.size + 1, 1, none⟩) (.inr (by show w.heap.size ≤ w.heap.size + 1; omega)) v1, .inr (.inr ⟨by omega, [], some ⟨gA, oA, none⟩, L, c, ?_⟩)⟩
          have : (m : Int) - (cT [] (.cons h k0 r) : Nat) = (n : Int) := by omega
          rw [this]
        clear hjm
        go_wp2_with fail
        refine bodyPost_ret (v := .tuple #[.agg #[S [], .slice (some ⟨gA, oA, none⟩) L c], .int .i64 (n : Int), .bool false]) (by simp [results, Tryz.results29, go_sem, cell_set_same r0, cell_set_next r1]) rfl ?_
        exact FIN.out _ _
  · have HRN : Hid (rxN (.cons h k0 r) = 1) := by show _ = _; simp [rxN, HRB.out]
    by_cases hm0 : m = 0
    · have HM0 := Lib.hid hm0
      have hmn : mi = 0 := by have h2 := HMI.out; omega
      subst hmn
      clear hm0 hmi2
      have HLT : Hid (m < cT [] (.cons h k0 r)) := by
        show _ < _
        have h1 := ct_node h k0 r
        have h2 := HRN.out
        have h3 := HM0.out
        omega
      have HGT : Hid (grT (.cons h k0 r) m = gb) := by
        show _ = _
        unfold grT
        rw [if_pos ⟨HRB.out, HM0.out⟩]
        exact HGB.out
      have HAT : Hid (atA (.cons h k0 r) m = rdFA (.cons h k0 r) ∧ atK (.cons h k0 r) m = rdFK (.cons h k0 r)) := by
        show _ ∧ _
        unfold atA atK
        rw [if_pos ⟨HRB.out, HM0.out⟩, if_pos ⟨HRB.out, HM0.out⟩]
        exact ⟨rfl, rfl⟩
      have GR : Hid (∀ w1, Fr No w w1 → Calls Tryz.prog 45 #[.agg #[S [], .slice (some ⟨gA, oA, none⟩) L c]] w1 fun e w2 => e = .returned (.bool gb) ∧ Fr No w1 w2) := fun w1 hf => by
        have h0 := grows_any w1 T _ c (.cons h k0 r) HOK.out HRB.out HSZ.out (HA.out.fr HT.out hf) (fun b hb => Nat.lt_of_lt_of_le (HT.out b hb) hf.size)
        rw [HGB.out, HL.out] at h0
        exact h0
      have TU : Hid (∀ w1, Fr No w w1 → Calls Tryz.prog 46 #[.agg #[S [], .slice (some ⟨gA, oA, none⟩) L c]] w1 fun e w2 => TurnP T (rdFA (.cons h k0 r)) (rdFK (.cons h k0 r)) w1 e w2) := fun w1 hf => by
        have h0 := turn_any w1 T _ c (.cons h k0 r) HOK.out HRB.out HSZ.out (HA.out.fr HT.out hf) (fun b hb => Nat.lt_of_lt_of_le (HT.out b hb) hf.size)
        rw [HL.out] at h0
        exact h0
      cases gb
      · go_enter Tryz.func29, Tryz.ntmps29
        go_wp2_with fail
        refine RX.out.mono ?_
        rintro e w1 ⟨rfl, HFW, HBX, HBZ⟩
        have c0 : w1.cell? ⟨w.heap.size, 0, none⟩ = some (S []) := (HBX.out.cell 0).trans rfl
        have c1 : w1.cell? ⟨w.heap.size, 1, none⟩ = some (.slice (some ⟨gA, oA, none⟩) L c) := (HBX.out.cell 1).trans rfl
        have cl := HBX.out.lt
        go_wp2_with fail
        refine (GR.out w1 HFW.out).mono ?_
        rintro e w2 ⟨rfl, hf2⟩
        have HFW2 := Lib.hid (HFW.out.trans hf2)
        have bx := HBX.out.fr hf2 (fun h => h)
        have HBZ2 := Lib.hid (HBZ.out.fr hf2 (fun h => h))
        have d0 : w2.cell? ⟨w.heap.size, 0, none⟩ = some (S []) := (bx.cell 0).trans rfl
        have d1 : w2.cell? ⟨w.heap.size, 1, none⟩ = some (.slice (some ⟨gA, oA, none⟩) L c) := (bx.cell 1).trans rfl
        have dl := bx.lt
        clear hf2 bx
        go_wp2_with fail
        refine (TU.out w2 HFW2.out).mono ?_
        rintro e w3 ⟨A5, c5, rfl, hf3, hsl3⟩
        have bz := HBZ2.out.fr hf3 (fun h => h)
        have r0 : w3.cell? ⟨w.heap.size + 1, 0, none⟩ = some (S []) := (bz.cell 0).trans rfl
        have r1 : w3.cell? ⟨w.heap.size + 1, 1, none⟩ = some (.slice none 0 0) := (bz.cell 1).trans rfl
        have f0 := bz.frozen 0
        have f1 := bz.frozen 1
        have rl := bz.lt
        obtain ⟨a5, HA5⟩ : ∃ z, Hid (rdFA (.cons h k0 r) = z) := ⟨_, rfl⟩
        obtain ⟨K5, HK5⟩ : ∃ z, Hid (rdFK (.cons h k0 r) = z) := ⟨_, rfl⟩
        obtain ⟨k5, HKL5⟩ : ∃ z, Hid (K5.len = z) := ⟨_, rfl⟩
        rw [HA5.out, HK5.out] at HAT
        rw [HK5.out] at hsl3
        rw [HA5.out, HK5.out, HKL5.out]
        have FIN : Hid (∀ v0 v1, AtP T [] (.cons h k0 r) m w (.returned (.tuple #[.agg #[S a5, .slice A5 k5 c5], .int .i64 (-1), .bool true])) ((w3.setCell ⟨w.heap.size + 1, 0, none⟩ v0).setCell ⟨w.heap.size + 1, 1, none⟩ v1)) := by
          intro v0 v1
          have hz : ((w3.setCell ⟨w.heap.size + 1, 0, none⟩ v0).setCell ⟨w.heap.size + 1, 1, none⟩ v1).heap.size = w3.heap.size := by simp [World.setCell]
          have hf := HFW2.out.trans hf3
          have l1 := HBZ2.out.lt
          refine ⟨(hf.setCell (p := ⟨w.heap.size + 1, 0, none⟩) (.inr (by show w.heap.size ≤ w.heap.size + 1; omega)) v0).setCell (p := ⟨w.heap.size + 1, 1, none⟩) (.inr (by show w.heap.size ≤ w.heap.size + 1; omega)) v1, .inl ⟨HLT.out, HGT.out, A5, c5, by rw [HAT.out.1, HAT.out.2, HKL5.out], ?_⟩⟩
          rw [HAT.out.2]
          refine hsl3.mono (fun b hb => hb.imp (fun h => h) (fun hb => ⟨by have := HFW2.out.size; omega, by rw [hz]; exact hb.2⟩)) (fun b hb => ?_)
          have hb1 : b ≠ w.heap.size + 1 := by
            rcases hb with hb | hb
            · have := HT.out b hb; omega
            · have := hb.1; omega
          rw [Below.heap_setCell _ ⟨w.heap.size + 1, 1, none⟩ _ _ hb1, Below.heap_setCell _ ⟨w.heap.size + 1, 0, none⟩ _ _ hb1]
        clear hf3 hsl3 bz d0 d1 dl c0 c1 cl
        go_wp2_with fail
        refine bodyPost_ret (v := .tuple #[.agg #[S a5, .slice A5 k5 c5], .int .i64 (-1), .bool true]) (by simp [results, Tryz.results29, go_sem, cell_set_same r0, cell_set_next r1]) rfl ?_
        exact FIN.out _ _
      · go_enter Tryz.func29, Tryz.ntmps29
        go_wp2_with fail
        refine RX.out.mono ?_
        rintro e w1 ⟨rfl, HFW, HBX, HBZ⟩
        have c0 : w1.cell? ⟨w.heap.size, 0, none⟩ = some (S []) := (HBX.out.cell 0).trans rfl
        have c1 : w1.cell? ⟨w.heap.size, 1, none⟩ = some (.slice (some ⟨gA, oA, none⟩) L c) := (HBX.out.cell 1).trans rfl
        have cl := HBX.out.lt
        go_wp2_with fail
        refine (GR.out w1 HFW.out).mono ?_
        rintro e w2 ⟨rfl, hf2⟩
        have HFW2 := Lib.hid (HFW.out.trans hf2)
        have bx := HBX.out.fr hf2 (fun h => h)
        have bz := HBZ.out.fr hf2 (fun h => h)
        have d0 : w2.cell? ⟨w.heap.size, 0, none⟩ = some (S []) := (bx.cell 0).trans rfl
        have d1 : w2.cell? ⟨w.heap.size, 1, none⟩ = some (.slice (some ⟨gA, oA, none⟩) L c) := (bx.cell 1).trans rfl
        have dl := bx.lt
        have r0 : w2.cell? ⟨w.heap.size + 1, 0, none⟩ = some (S []) := (bz.cell 0).trans rfl
        have r1 : w2.cell? ⟨w.heap.size + 1, 1, none⟩ = some (.slice none 0 0) := (bz.cell 1).trans rfl
        have f0 := bz.frozen 0
        have f1 := bz.frozen 1
        have rl := bz.lt
        have FIN : Hid (∀ v0 v1, AtP T [] (.cons h k0 r) m w (.returned (.tuple #[.agg #[S [], .slice (some ⟨gA, oA, none⟩) L c], .int .i64 (-1), .bool false])) ((w2.setCell ⟨w.heap.size + 1, 0, none⟩ v0).setCell ⟨w.heap.size + 1, 1, none⟩ v1)) := by
          intro v0 v1
          exact ⟨(HFW2.out.setCell (p := ⟨w.heap.size + 1, 0, none⟩) (.inr (by show w.heap.size ≤ w.heap.size + 1; omega)) v0).setCell (p := ⟨w.heap.size + 1, 1, none⟩) (.inr (by show w.heap.size ≤ w.heap.size + 1; omega)) v1, .inr (.inl ⟨HLT.out, HGT.out, _, _, _, _, rfl⟩)⟩
        clear hf2 bx bz c0 c1 cl
        go_wp2_with fail
        refine bodyPost_ret (v := .tuple #[.agg #[S [], .slice (some ⟨gA, oA, none⟩) L c], .int .i64 (-1), .bool false]) (by simp [results, Tryz.results29, go_sem, cell_set_same r0, cell_set_next r1]) rfl ?_
        exact FIN.out _ _
    · have HQ : Hid (¬ (rxF (.cons h k0 r) = true ∧ m = 0)) := fun hq => hm0 hq.2
      obtain ⟨n0, HN0⟩ : ∃ n0, Hid (m - rxN (.cons h k0 r) = n0) := ⟨_, rfl⟩
      have HMN : Hid (m = n0 + rxN (.cons h k0 r)) := by have h1 := HN0.out; rw [HRN.out] at h1; show _ = _; rw [HRN.out]; omega
      have hmi0 : ¬ mi = 0 := by have h2 := HMI.out; omega
      have hmi1 : (1 : Int) ≤ mi := by have h2 := HMI.out; omega
      have hwr : IntKind.i64.wrap (mi - 1) = (n0 : Int) := by
        have h1 := HN0.out
        have h2 := HMI.out
        rw [HRN.out] at h1
        rw [IntWalk.i64_in _ (by omega)]
        omega
      have hn63 : (n0 : Int) ≤ 9223372036854775807 := by have h1 := HN0.out; have h2 := HMI.out; omega
      have hn00 : (0 : Int) ≤ (n0 : Int) := by omega
      clear hm0
      go_enter Tryz.func29, Tryz.ntmps29
      go_wp2_with fail
      refine RX.out.mono ?_
      rintro e w1 ⟨rfl, HFW, HBX, HBZ⟩
      have c0 : w1.cell? ⟨w.heap.size, 0, none⟩ = some (S []) := (HBX.out.cell 0).trans rfl
      have c1 : w1.cell? ⟨w.heap.size, 1, none⟩ = some (.slice (some ⟨gA, oA, none⟩) L c) := (HBX.out.cell 1).trans rfl
      have cl := HBX.out.lt
      have zl := HBZ.out.lt
      have HZL := Lib.hid zl
      have HTW : Hid (∀ b, T b → b < w1.heap.size) := fun b hb => Nat.lt_of_lt_of_le (HT.out b hb) HFW.out.size
      have HC2 : Hid (∀ u ∈ ys, u.oneCell' = true) := hel.one
      have HYL : Hid (ys.length = L * 2) := by show _ = _; rw [hyl, HL.out]
      have bnd : (0 + L) * 40 ≤ 140737488355328 := by omega
      have bnd2 : 0 + L ≤ maxLen := by unfold maxLen; omega
      have HCS : ∀ (W : World), Fr No w1 W → Hid (∀ (j : Nat) (u : Value), ys[j]? = some u → W.cell? ((⟨gA, oA, none⟩ : Addr).add j) = some u) := fun W hf => by
        intro j u hj
        rw [addr_add]
        exact (hf.cell (p := ⟨gA, oA + j, none⟩) (HTW.out gA hgT) (fun h => h)).trans ((HFW.out.cell (p := ⟨gA, oA + j, none⟩) (HT.out gA hgT) (fun h => h)).trans (hcs j u hj))
      have hL0 : 0 < L := by omega
      have HEL : Hid (Elems w1 T (.cons h k0 r) ys) := hel.mono (fun b hb => hb) (fun b hb => HFW.out.block b (HT.out b hb) (fun h => h))
      have n1 : w.heap.size ≠ w1.heap.size := by omega
      have n2 : w1.heap.size ≠ w.heap.size := by omega
      have n3 : w.heap.size ≠ w1.heap.size + 1 := by omega
      have n4 : w1.heap.size + 1 ≠ w.heap.size := by omega
      have CELL : Hid (∀ w', Fr No w1 w' → w'.cell? ⟨w.heap.size, 0, none⟩ = some (S []) ∧ w'.cell? ⟨w.heap.size, 1, none⟩ = some (.slice (some ⟨gA, oA, none⟩) L c)) := fun w' hf =>
        ⟨((HBX.out.fr hf (fun h => h)).cell 0).trans rfl, ((HBX.out.fr hf (fun h => h)).cell 1).trans rfl⟩
      go_wp2_with fail
      go_cut [7] from 12 to 29 (fun s7 wx => ∃ G cc ob, s7 = .pointer (some ⟨ob, 0, none⟩) ∧ Hid (RG w1 T (.cons h k0 r) G cc L ob wx))
      case first =>
        go_region_held3 (fun w' => w'.cell? ⟨w.heap.size, 0, none⟩ = some (S []) ∧ w'.cell? ⟨w.heap.size, 1, none⟩ = some (.slice (some ⟨gA, oA, none⟩) L c)) (go_keep)
          (first | (refine step_append_lies _ (by rfl) _ _ _ (by rfl) w1.heap.size 40 i0 (.agg #[.string ⟨#[]⟩, .slice none 0 0]) 2 40 Tryz.underlying38 hi0 hz0 hz1 hz2 (by rfl) (by decide) _ 0 [] (by rfl) (own_zero (by first | exact Blk.new_at _ _ _ (by simp) | exact (Blk.new_at _ _ _ (by simp)).alloc _) (by first | (simp; done) | (simp; omega))) ⟨gA, oA, none⟩ L c ys (by rfl) HYL.out (HCS _ (by repeat (first | exact Fr.refl _ _ | apply Fr.alloc | apply Fr.drew))).out HC2.out hL0 bnd2 bnd (by first | (simp; done) | (simp; omega)) _ rfl ?_; intro g4 cap4 w4 hown4 hgrow4 hat4 hlt4; have hf4 := Fr.grown (S := No) (a := w1) (by repeat (first | exact Fr.refl _ _ | apply Fr.alloc | apply Fr.drew)) hgrow4 (fun k hk => .inr (by simp [Value.ownBlock] at hk; omega)); obtain ⟨k0', k1'⟩ := CELL.out w4 hf4; simp only [Nat.zero_add, List.nil_append] at hown4; first | (have ob4 : Blk w4 (w1.heap.size + 1) 40 #[S [], .slice none 0 0] := (Blk.new_at _ _ _ (by simp)).keep (hgrow4.block _ (by simp) (by simp [Value.ownBlock])); have b0 : w4.cell? ⟨w1.heap.size + 1, 0, none⟩ = some (S []) := (ob4.cell 0).trans rfl; have b1 : w4.cell? ⟨w1.heap.size + 1, 1, none⟩ = some (.slice none 0 0) := (ob4.cell 1).trans rfl; have b2 := ob4.frozen 0; have b3 := ob4.frozen 1; have b4 := ob4.lt; have HR4 := Lib.hid (rg_set HL.out HTW.out HEL.out hown4 hf4 ob4 (by omega) (by simp [Value.ownBlock] at hat4; omega))) | (have ob4 : Blk w4 w1.heap.size 40 #[S [], .slice none 0 0] := ((Blk.new_at _ _ _ (by simp)).alloc _).keep (hgrow4.block _ (by simp <;> omega) (by simp [Value.ownBlock])); have b0 : w4.cell? ⟨w1.heap.size, 0, none⟩ = some (S []) := (ob4.cell 0).trans rfl; have b1 : w4.cell? ⟨w1.heap.size, 1, none⟩ = some (.slice none 0 0) := (ob4.cell 1).trans rfl; have b2 := ob4.frozen 0; have b3 := ob4.frozen 1; have b4 := ob4.lt; have HR4 := Lib.hid (rg_set HL.out HTW.out HEL.out hown4 hf4 ob4 (by omega) (by simp [Value.ownBlock] at hat4; omega))) | (have HR4 := Lib.hid (rg_new HL.out HTW.out HEL.out hown4 hf4)); clear hown4 hgrow4 hat4 hf4))
        all_goals (go_wp2_with fail; go_meet; exact ⟨g4, cap4, _, rfl, HR4⟩)
      case rest =>
      obtain ⟨G, cc, ob, rfl, HRF⟩ := hcut
      clear hel hcs hyl HCS CELL HEL HC2 HYL bnd bnd2 n1 n2 n3 n4 hi0 hz0 hz1 hz2 c0 c1 cl zl hL0
      go_wp2_with fail
      have HS0 : Hid (atA (.cons h k0 r) m = [] ∧ AtI h (.cons h k0 r) r F0 g0 n0 C0 0 n0 (.cons h k0 .nil)) := by
        have := at_start HQ.out
        rw [HF0.out, HG0.out, HN0.out, HC0.out] at this
        exact this
      go_loopw [1, 8] (fun v u wr => ∃ (j n : Nat) (pre : Fo), j ≤ M ∧ u = .int .i64 ((j + 1 : Nat) : Int) ∧ v = .int .i64 (n : Int) ∧ RG w1 T (.cons h k0 r) G cc L ob wr ∧ AtI h (.cons h k0 r) r F0 g0 n0 C0 j n pre) (fun _ u _ => M + 1 - (intOf u).toNat)
      case atStart => exact ⟨0, n0, .cons h k0 .nil, Nat.zero_le _, rfl, rfl, HRF.out, HS0.out.2⟩
      case round =>
        obtain ⟨j, n, pre, hj, rfl, rfl, hrf, hin⟩ := hrel
        have HRJ := Lib.hid hrf
        have HI := Lib.hid hin
        clear hrf hin HRF
        have hg := HRJ.out.gw
        have hob2 := HRJ.out.ne
        have hzl := HZL.out
        have hn1 : (0 : Int) ≤ (n : Int) := by omega
        have hn2 : (n : Int) ≤ 9223372036854775807 := by have := HI.out.le; omega
        have ALLC : Hid (∀ w', Fr No wr w' → w'.cell? ⟨w.heap.size, 0, none⟩ = some (S []) ∧ w'.cell? ⟨w.heap.size, 1, none⟩ = some (.slice (some ⟨gA, oA, none⟩) L c) ∧ w.heap.size < w'.heap.size ∧ w'.cell? ⟨ob, 0, none⟩ = some (S []) ∧ w'.cell? ⟨ob, 1, none⟩ = some (.slice (some ⟨G, 0, none⟩) L cc) ∧ ob < w'.heap.size ∧
            w'.cell? ⟨w.heap.size + 1, 0, none⟩ = some (S []) ∧ w'.cell? ⟨w.heap.size + 1, 1, none⟩ = some (.slice none 0 0) ∧ w'.frozen? ⟨w.heap.size + 1, 0, none⟩ = false ∧ w'.frozen? ⟨w.heap.size + 1, 1, none⟩ = false ∧ w.heap.size + 1 < w'.heap.size) := by
          intro w' hf
          have d0 := (HBX.out.fr HRJ.out.fr (fun h => h)).fr hf (fun h => h)
          have d1 := HRJ.out.out.fr hf (fun h => h)
          have d3 := (HBZ.out.fr HRJ.out.fr (fun h => h)).fr hf (fun h => h)
          exact ⟨(d0.cell 0).trans rfl, (d0.cell 1).trans rfl, d0.lt, (d1.cell 0).trans rfl, (d1.cell 1).trans rfl, d1.lt, (d3.cell 0).trans rfl, (d3.cell 1).trans rfl, d3.frozen 0, d3.frozen 1, d3.lt⟩
        obtain ⟨c0, c1, cl, o0, o1, ol, r0, r1, f0, f1, rl⟩ := ALLC.out wr (Fr.refl _ _)
        have hnG : w.heap.size ≠ G := by omega
        have hnG1 : w.heap.size + 1 ≠ G := by omega
        have hnG2 : G ≠ w.heap.size + 1 := by omega
        have hnO : ob ≠ G := hob2.2
        have hnO1 : ob ≠ w.heap.size + 1 := by omega
        by_cases hlt : j < M
        · have hjc : (j : Int) + 1 < (L : Int) := by have := HLM.out; omega
          have hjn : j + 1 < L := by have := HLM.out; omega
          have hTr : ∀ b, T b → b < wr.heap.size := fun b hb => Nat.lt_of_lt_of_le (HTW.out b hb) HRJ.out.fr.size
          have hKr : ∀ b, T b → wr.heap[b]? = w.heap[b]? := fun b hb => (HRJ.out.fr.block b (HTW.out b hb) (fun h => h)).trans (HFW.out.block b (HT.out b hb) (fun h => h))
          have hAr : Sl wr T (some ⟨gA, oA, none⟩) (.cons h k0 r) := HA.out.mono (fun _ h => h) hKr
          obtain ⟨g', o', a', k', A2, c2, hAe, hgT', hn, q0, q1, hsl'⟩ := hAr.nth (j := j + 1) (by rw [HL.out, HLM.out]; omega)
          obtain ⟨rfl, rfl⟩ : gA = g' ∧ oA = o' := by
            simp only [Option.some.injEq, Addr.mk.injEq, and_true] at hAe
            exact hAe
          have hnr : r.nth j = some (a', k') := hn
          have hlg := block_lt q0
          obtain ⟨b, hbj⟩ : ∃ b, (shapeOf h)[j]? = some b := ⟨_, List.getElem?_eq_getElem (by rw [← HM.out]; exact hlt)⟩
          have hin : innB h (j + 1) = b := by
            unfold innB
            rw [show j + 1 - 1 = j by omega, hbj]
            cases b <;> rfl
          have IN : Hid (Calls Tryz.prog 47 #[.agg #[S [], .slice (some ⟨gA, oA, none⟩) L c], .int .i64 ((j + 1 : Nat) : Int)] wr fun e w' => e = .returned (.bool b) ∧ Fr No wr w') :=
            HL.out ▸ inner_any wr T [] h k0 r _ c (j + 1) b (by omega) hbj hAr
          cases b
          · have HON := Lib.hid (HI.out.on hnr (fun e => by rw [hin] at e; cases e))
            rw [hin] at HON
            have HSK : Hid (∀ w', Fr No wr w' → ∃ (j' n' : Nat) (pre' : Fo), j' ≤ M ∧ Value.int .i64 ((j : Int) + 1 + 1) = .int .i64 ((j' + 1 : Nat) : Int) ∧ Value.int .i64 (n : Int) = .int .i64 (n' : Int) ∧ RG w1 T (.cons h k0 r) G cc L ob w' ∧ AtI h (.cons h k0 r) r F0 g0 n0 C0 j' n' pre') := fun w' hf =>
              ⟨j + 1, n, _, by omega, by go_num, rfl, HRJ.out.keep HTW.out hf, HON.out⟩
            clear hin hn hnr hbj hAr hsl' hTr hKr HON
            go_wp2_with fail
            refine IN.out.mono ?_
            rintro e w2 ⟨rfl, hf1⟩
            have HF1 := Lib.hid hf1
            clear hf1
            go_wp2_with fail
            go_roundw
            case rel => exact HSK.out _ HF1.out
            case measure => simp [intOf]; omega
          · have hok := HOK.out.part hnr hin
            have hz := Fo.nth_size hnr
            have HNE : Hid (gA ≠ G) := by
              have := HTW.out gA hgT
              show _ ≠ _
              omega
            have hAll := HI.out.all
            rw [Fo.from_nth r j a' k' hnr] at hAll
            have HRJ1 : Hid (RG w1 T (pre.app (.cons a' k' (r.from_ (j + 1)))) G cc L ob wr) := by
              have := HRJ.out
              rw [← hAll] at this
              exact this
            obtain ⟨k2l, HKK⟩ : ∃ z, Hid (k'.len = z) := ⟨_, rfl⟩
            have CALL : Hid (∀ (w' : World), Fr No wr w' → Calls Tryz.prog 29 #[.agg #[S a', .slice A2 k2l c2], .int .i64 (n : Int)] w' fun e w3 => Hid (Fr No wr w3) ∧
                ((∃ x5 A5 l5 c5 okb, e = .returned (.tuple #[.agg #[S x5, .slice A5 l5 c5], .int .i64 (-1), .bool okb]) ∧
                  (∃ u v, w3.cell? ⟨G, (j + 1) * 2, none⟩ = some u ∧ w3.cell? ⟨G, (j + 1) * 2 + 1, none⟩ = some v ∧ w3.frozen? ⟨G, (j + 1) * 2, none⟩ = false ∧ w3.frozen? ⟨G, (j + 1) * 2 + 1, none⟩ = false ∧ G < w3.heap.size) ∧
                  Hid (∀ X v0 v1, AtP T [] (.cons h k0 r) m w (.returned (.tuple #[.agg #[S [], .slice (some ⟨G, 0, none⟩) L cc], .int .i64 (-1), .bool okb])) (((((w3.setCell ⟨G, (j + 1) * 2, none⟩ (S x5)).setCell ⟨G, (j + 1) * 2 + 1, none⟩ (.slice A5 l5 c5)).setCell ⟨w.heap.size + 1, 0, none⟩ v0).setCell ⟨w.heap.size + 1, 1, none⟩ v1).alloc X))) ∨
                 (∃ x5 A5 l5 c5 n', e = .returned (.tuple #[.agg #[S x5, .slice A5 l5 c5], .int .i64 ((n' : Nat) : Int), .bool false]) ∧ (0 : Int) ≤ ((n' : Nat) : Int) ∧
                  Hid (∀ w', Fr No wr w' → ∃ (j' n2 : Nat) (pre' : Fo), j' ≤ M ∧ Value.int .i64 ((j : Int) + 1 + 1) = .int .i64 ((j' + 1 : Nat) : Int) ∧ Value.int .i64 (n' : Int) = .int .i64 (n2 : Int) ∧ RG w1 T (.cons h k0 r) G cc L ob w' ∧ AtI h (.cons h k0 r) r F0 g0 n0 C0 j' n2 pre')))) := by
              intro w' hf
              have hTw : ∀ b, T b → b < w'.heap.size := fun b hb => Nat.lt_of_lt_of_le (hTr b hb) hf.size
              have h0 := HN.out a' k' (j + 1) hn a' A2 c2 w' T n hn2 hok (by omega) hTw (hsl'.mono (fun _ h => h) (fun b hb => hf.block b (hTr b hb) (fun h => h)))
              rw [HKK.out] at h0
              refine h0.mono ?_
              rintro e w3 ⟨hf3, hcase⟩
              have hfr3 := hf.trans hf3
              refine ⟨Lib.hid hfr3, ?_⟩
              have hr3 := HRJ1.out.keep HTW.out hfr3
              have hG2 := HRJ1.out.gw
              have hs2 := hf.size
              have hs3 := HRJ1.out.fr.size
              have SL : ∃ u v, w3.cell? ⟨G, (j + 1) * 2, none⟩ = some u ∧ w3.cell? ⟨G, (j + 1) * 2 + 1, none⟩ = some v ∧ w3.frozen? ⟨G, (j + 1) * 2, none⟩ = false ∧ w3.frozen? ⟨G, (j + 1) * 2 + 1, none⟩ = false ∧ G < w3.heap.size := hr3.slot hjn
              have FRX : ∀ X x5 A5 l5 c5 v0 v1, Fr No w (((((w3.setCell ⟨G, (j + 1) * 2, none⟩ (S x5)).setCell ⟨G, (j + 1) * 2 + 1, none⟩ (.slice A5 l5 c5)).setCell ⟨w.heap.size + 1, 0, none⟩ v0).setCell ⟨w.heap.size + 1, 1, none⟩ v1).alloc X) := by
                intro X x5 A5 l5 c5 v0 v1
                have q0 := (HFW.out.trans HRJ.out.fr).trans hfr3
                have q1 := q0.setCell (p := ⟨G, (j + 1) * 2, none⟩) (.inr (by show w.heap.size ≤ G; omega)) (S x5)
                have q2 := q1.setCell (p := ⟨G, (j + 1) * 2 + 1, none⟩) (.inr (by show w.heap.size ≤ G; omega)) (.slice A5 l5 c5)
                have q3 := q2.setCell (p := ⟨w.heap.size + 1, 0, none⟩) (.inr (by show w.heap.size ≤ w.heap.size + 1; omega)) v0
                exact (q3.setCell (p := ⟨w.heap.size + 1, 1, none⟩) (.inr (by show w.heap.size ≤ w.heap.size + 1; omega)) v1).alloc X
              have LT : n < cT a' k' → m < cT [] (.cons h k0 r) := fun hlt => by
                have h1 := (HI.out.here hnr hin hlt).2.2
                have h2 := ct_node h k0 r
                rw [HC0.out] at h2
                have h3 := HMN.out
                omega
              have GT : n < cT a' k' → grT (.cons h k0 r) m = grT k' n := fun hlt => by
                rw [HG0.out]
                exact (HI.out.here hnr hin hlt).2.1
              rcases hcase with ⟨hlt, hgf, A5, c5, rfl, g2⟩ | ⟨hlt, hgf, x5, A5, l5, c5, rfl⟩ | ⟨hge, x5, A5, l5, c5, rfl⟩
              · refine .inl ⟨_, _, _, _, _, rfl, SL, fun X v0 v1 => ⟨FRX _ _ _ _ _ _ _, .inl ⟨LT hlt, (GT hlt).trans hgf, some ⟨G, 0, none⟩, cc, ?_, ?_⟩⟩⟩
                · have hr4 := (hr3.put (a' := atA k' n) (k' := atK k' n) (A' := A5) (c' := c5) HTW.out (g2.mono (fun b hb => hb.imp (fun h => h) (fun hb => ⟨by omega, hb.2, by omega⟩)) (fun _ _ => rfl))).len
                  rw [← (HI.out.here hnr hin hlt).1] at hr4
                  rw [HS0.out.1, HF0.out, hr4]
                · have hp := hr3.put (a' := atA k' n) (k' := atK k' n) (A' := A5) (c' := c5) HTW.out (g2.mono (fun b hb => hb.imp (fun h => h) (fun hb => ⟨by omega, hb.2, by omega⟩)) (fun _ _ => rfl))
                  rw [← (HI.out.here hnr hin hlt).1, HI.out.len] at hp
                  rw [HF0.out]
                  exact sl_alloc HT.out (by have := HFW.out.size; have := HRJ.out.fr.size; have := hfr3.size; simp [World.setCell]; omega) (at_fin HT.out HZL.out hp.done v0 v1) X
              · exact .inl ⟨_, _, _, _, _, rfl, SL, fun X v0 v1 => ⟨FRX _ _ _ _ _ _ _, .inr (.inl ⟨LT hlt, (GT hlt).trans hgf, _, _, _, _, rfl⟩)⟩⟩
              · refine .inr ⟨x5, A5, l5, c5, n - cT a' k', ?_, by omega, fun w4 hf4 => ⟨j + 1, n - cT a' k', pre.snoc a' k', by omega, by go_num, rfl, HRJ.out.keep HTW.out hf4, ?_⟩⟩
                · have : (n : Int) - (cT a' k' : Nat) = ((n - cT a' k' : Nat) : Int) := by omega
                  rw [this]
                · have := HI.out.on hnr (fun _ => hge)
                  rw [if_pos hin] at this
                  exact this
            have HSQ : Hid (∀ w', Fr No wr w' → w'.cell? ⟨gA, oA + (j + 1) * 2, none⟩ = some (S a') ∧ w'.cell? ⟨gA, oA + (j + 1) * 2 + 1, none⟩ = some (.slice A2 k2l c2) ∧ gA < w'.heap.size) := fun w' hf =>
              ⟨(hf.cell (p := ⟨gA, oA + (j + 1) * 2, none⟩) hlg (fun h => h)).trans q0, by rw [← HKK.out]; exact (hf.cell (p := ⟨gA, oA + (j + 1) * 2 + 1, none⟩) hlg (fun h => h)).trans q1, Nat.lt_of_lt_of_le hlg hf.size⟩
            have hnQ := HNE.out
            clear hin hn hnr hbj hok hAr hsl' hTr hKr hz q0 q1 hAll
            go_wp2_with fail
            refine IN.out.mono ?_
            rintro e w2 ⟨rfl, hf1⟩
            have HF1 := Lib.hid hf1
            obtain ⟨d0, d1, dl, e0, e1, el, d4, d5, d6, d7, d8⟩ := ALLC.out w2 hf1
            obtain ⟨p0, p1, pl⟩ := HSQ.out w2 hf1
            clear hf1
            go_wp2_with fail
            refine (CALL.out w2 HF1.out).mono ?_
            rintro e w3 ⟨HF3, ⟨x5, A5, l5, c5, okb, rfl, ⟨su, sv, s0, s1, s2, s3, s4⟩, FIN⟩ | ⟨x5, A5, l5, c5, n', rfl, hn0, HSK⟩⟩
            · obtain ⟨t0, t1, tl, u0, u1, ul, u4, u5, u6, u7, u8⟩ := ALLC.out w3 HF3.out
              go_wp2_with fail
              obtain ⟨z0, z1⟩ := at_res hnG1 u4 u5 u8 (S x5) (.slice A5 l5 c5) (S []) (.slice (some ⟨G, 0, none⟩) L cc) ((j + 1) * 2) ((j + 1) * 2 + 1) (.cells #[S x5, .slice A5 l5 c5] 40)
              refine bodyPost_ret (v := .tuple #[.agg #[S [], .slice (some ⟨G, 0, none⟩) L cc], .int .i64 (-1), .bool okb]) (by simp [results, Tryz.results29, go_sem, z0, z1]) rfl ?_
              exact FIN.out _ _ _
            · go_wp2_with fail
              go_roundw
              case rel => exact HSK.out _ (HF3.out.alloc _)
              case measure => simp [intOf]; omega
        · have hjm : j = M := by omega
          have hjc : ¬ (j : Int) + 1 < (L : Int) := by have := HLM.out; omega
          have FIN : Hid (∀ v0 v1, AtP T [] (.cons h k0 r) m w (.returned (.tuple #[.agg #[S [], .slice (some ⟨gA, oA, none⟩) L c], .int .i64 (n : Int), .bool false])) ((wr.setCell ⟨w.heap.size + 1, 0, none⟩ v0).setCell ⟨w.heap.size + 1, 1, none⟩ v1)) := by
            intro v0 v1
            have h1 := HI.out.end_ (HRL.out.trans hjm.symm)
            have h2 := ct_node h k0 r
            rw [HC0.out] at h2
            have h3 := HMN.out
            refine ⟨((HFW.out.trans HRJ.out.fr).setCell (p := ⟨w.heap.size + 1, 0, none⟩) (.inr (by show w.heap.size ≤ w.heap.size + 1; omega)) v0).setCell (p := ⟨w.heap.size + 1, 1, none⟩) (.inr (by show w.heap.size ≤ w.heap.size + 1; omega)) v1, .inr (.inr ⟨by omega, [], some ⟨gA, oA, none⟩, L, c, ?_⟩)⟩
            have : (m : Int) - (cT [] (.cons h k0 r) : Nat) = (n : Int) := by omega
            rw [this]
          clear hjm
          go_wp2_with fail
          refine bodyPost_ret (v := .tuple #[.agg #[S [], .slice (some ⟨gA, oA, none⟩) L c], .int .i64 (n : Int), .bool false]) (by simp [results, Tryz.results29, go_sem, cell_set_same r0, cell_set_next r1]) rfl ?_
          exact FIN.out _ _

set_option maxRecDepth 100000 in
set_option maxHeartbeats 2000000 in
theorem at4_atom (a : List UInt8) (he : a ≠ []) (A : Option Addr) (c : Nat) (w : World) (T : Nat → Prop) (m : Nat) (_hm63 : (m : Int) ≤ 9223372036854775807) (ho : OkT a .nil) (hT : ∀ b, T b → b < w.heap.size) (hA : Sl w T A .nil) :
    Calls Tryz.prog 29 #[.agg #[S a, .slice A 0 c], .int .i64 (m : Int)] w fun e w' => AtP T a .nil m w e w' := by
  have e1 : cT a .nil = 0 := by simp [cT, he]
  have RX : Hid (Calls Tryz.prog 44 #[.agg #[S a, .slice A 0 c]] ((w.alloc (.cells #[S a, .slice A 0 c] 40)).alloc (.cells #[S [], .slice none 0 0] 40)) fun e w1 => e = .returned (.bool false) ∧
      Hid (Fr No w w1) ∧ Hid (Blk w1 w.heap.size 40 #[S a, .slice A 0 c]) ∧ Hid (Blk w1 (w.heap.size + 1) 40 #[S [], .slice none 0 0])) := by
    have hf2 : Fr No w ((w.alloc (.cells #[S a, .slice A 0 c] 40)).alloc (.cells #[S [], .slice none 0 0] 40)) := ((Fr.refl _ _).alloc _).alloc _
    have b1 : Blk ((w.alloc (.cells #[S a, .slice A 0 c] 40)).alloc (.cells #[S [], .slice none 0 0] 40)) w.heap.size 40 #[S a, .slice A 0 c] := (Blk.new _ _ _).alloc _
    have b2 : Blk ((w.alloc (.cells #[S a, .slice A 0 c] 40)).alloc (.cells #[S [], .slice none 0 0] 40)) (w.heap.size + 1) 40 #[S [], .slice none 0 0] := Blk.new_at _ _ _ (by simp)
    refine (redex4_any _ T a A c .nil ho (hA.fr hT hf2) (fun b hb => Nat.lt_of_lt_of_le (hT b hb) hf2.size)).mono ?_
    rintro e w1 ⟨rfl, hf⟩
    exact ⟨by simp [rxB, he], hf2.trans hf, b1.fr hf (fun h => h), b2.fr hf (fun h => h)⟩
  obtain ⟨i0, hi0, hz0, hz1, hz2⟩ := info_parts info_tree
  have HE := Lib.hid e1
  clear _hm63 ho hT hA he e1
  obtain ⟨mi, HMI⟩ : ∃ z, Hid ((m : Int) = z) := ⟨_, rfl⟩
  rw [HMI.out]
  go_enter Tryz.func29, Tryz.ntmps29
  go_wp2_with fail
  refine RX.out.mono ?_
  rintro e w1 ⟨rfl, HFW, HBX, HBZ⟩
  have c0 : w1.cell? ⟨w.heap.size, 0, none⟩ = some (S a) := (HBX.out.cell 0).trans rfl
  have c1 : w1.cell? ⟨w.heap.size, 1, none⟩ = some (.slice A 0 c) := (HBX.out.cell 1).trans rfl
  have cl := HBX.out.lt
  have zl := HBZ.out.lt
  have n1 : w.heap.size ≠ w1.heap.size := by omega
  have n2 : w1.heap.size ≠ w.heap.size := by omega
  have n3 : w.heap.size ≠ w1.heap.size + 1 := by omega
  have n4 : w1.heap.size + 1 ≠ w.heap.size := by omega
  go_wp2_with fail
  go_cut [7] from 12 to 29 (fun s7 wx => ∃ ob, s7 = .pointer (some ⟨ob, 0, none⟩) ∧ Hid (Fr No w1 wx))
  case first =>
    go_region_held3 (fun w' => w'.cell? ⟨w.heap.size, 0, none⟩ = some (S a) ∧ w'.cell? ⟨w.heap.size, 1, none⟩ = some (.slice A 0 c)) (go_keep)
      (first | (refine step_append_zero (by rfl) _ _ _ (by rfl) 40 i0 Tryz.underlying38 hi0 _ A c (by rfl) (by rfl) ?_))
    all_goals (go_wp2_with fail; go_meet; exact ⟨_, rfl, by repeat (first | exact Fr.refl _ _ | apply Fr.alloc | apply Fr.drew)⟩)
  case rest =>
  obtain ⟨ob, rfl, HF4⟩ := hcut
  have hf4 := HF4.out
  generalize wc = W4 at hf4 HF4 ⊢
  clear n1 n2 n3 n4 zl
  have bx := HBX.out.fr hf4 (fun h => h)
  have bz := HBZ.out.fr hf4 (fun h => h)
  have d0 : W4.cell? ⟨w.heap.size, 0, none⟩ = some (S a) := (bx.cell 0).trans rfl
  have d1 : W4.cell? ⟨w.heap.size, 1, none⟩ = some (.slice A 0 c) := (bx.cell 1).trans rfl
  have dl := bx.lt
  have r0 : W4.cell? ⟨w.heap.size + 1, 0, none⟩ = some (S []) := (bz.cell 0).trans rfl
  have r1 : W4.cell? ⟨w.heap.size + 1, 1, none⟩ = some (.slice none 0 0) := (bz.cell 1).trans rfl
  have f0 := bz.frozen 0
  have f1 := bz.frozen 1
  have rl := bz.lt
  have FIN : Hid (∀ v0 v1, AtP T a .nil m w (.returned (.tuple #[.agg #[S a, .slice A 0 c], .int .i64 mi, .bool false])) ((W4.setCell ⟨w.heap.size + 1, 0, none⟩ v0).setCell ⟨w.heap.size + 1, 1, none⟩ v1)) := by
    intro v0 v1
    refine ⟨((HFW.out.trans hf4).setCell (p := ⟨w.heap.size + 1, 0, none⟩) (.inr (by show w.heap.size ≤ w.heap.size + 1; omega)) v0).setCell (p := ⟨w.heap.size + 1, 1, none⟩) (.inr (by show w.heap.size ≤ w.heap.size + 1; omega)) v1, .inr (.inr ⟨by rw [HE.out]; exact Nat.zero_le _, a, A, 0, c, ?_⟩)⟩
    have : (m : Int) - ((cT a .nil : Nat) : Int) = mi := by rw [HE.out]; have := HMI.out; omega
    rw [this]
  clear hf4 bx bz c0 c1 cl hz0 hz1 hz2
  go_wp2_with fail
  go_loopw [1, 8] (fun v i wr => v = .int .i64 mi ∧ i = .int .i64 1 ∧ wr = W4) (fun _ _ _ => 0)
  case atStart => exact ⟨rfl, rfl, rfl⟩
  case round =>
    obtain ⟨rfl, rfl, rfl⟩ := hrel
    go_wp2_with fail
    refine bodyPost_ret (v := .tuple #[.agg #[S a, .slice A 0 c], .int .i64 mi, .bool false]) (by simp [results, Tryz.results29, go_sem, cell_set_same r0, cell_set_next r1]) rfl ?_
    exact FIN.out _ _

theorem at4_any (N : Nat) : ∀ k : Fo, SizeOf.sizeOf k < N → AtSaid k := by
  induction N with
  | zero => intro k h; omega
  | succ N ih =>
    intro k hN a A c w T m hm ho hs hT hA
    by_cases he : a = []
    · subst he
      have e2 : treeSize [] k = k.size := by simp [treeSize]
      rw [e2] at hs
      cases k with
      | nil => have := ho.tm; simp [isTm, isTms] at this
      | cons g k0 r => exact at4_node g k0 r (fun a' k' j hn => ih k' (by have := Fo.nth_small _ j a' k' hn; omega)) A c w T m hm ho hs hT hA
    · obtain rfl := ho.at_ he
      exact at4_atom a he A c w T m hm ho hT hA

theorem at4_said : At4Said := fun k a A c w T m hm ho hs hT hA => at4_any _ k (Nat.lt_succ_self _) a A c w T m hm ho hs hT hA
end Go.Proofs.YtnjgaenhjdjpfaaGreatDoor
