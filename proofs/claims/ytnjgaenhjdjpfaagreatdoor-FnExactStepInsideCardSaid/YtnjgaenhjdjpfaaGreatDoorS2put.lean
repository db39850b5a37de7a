/- A row of trees that the model copies and writes part by part. · The model's putting of a term for a name. · The model's putting of a term for a name, with bound names renamed: l2Apart with two others, l2Sub. · l2Sub of the model. -/
import Derived.Test.YtnjgaenhjdjpfaaGreatDoorS2canon
import Derived.Deep.RegionHeld3
import Derived.Deep.RegionWith
import Derived.Test.YtnjgaenhjdjpfaaGreatDoorTrn
import Derived.Laws.OwnMore
/- A row of trees that the model copies and writes part by part. -/
namespace Go.Proofs.YtnjgaenhjdjpfaaGreatDoor
open Go.RowKit Go.ChangeMaps

/-- the copied row behind a world, and the tree around it -/
structure RG (W : World) (T : Nat → Prop) (f : Fo) (G cc L ob : Nat) (wr : World) : Prop where
  fr : Fr No W wr
  out : Blk wr ob 40 #[S [], .slice (some ⟨G, 0, none⟩) L cc]
  own : ∃ xs, wr.ownsRow W.heap.size 40 2 (.slice (some ⟨G, 0, none⟩) L cc) L xs ∧ Elems wr (fun b => T b ∨ (W.heap.size ≤ b ∧ b < wr.heap.size ∧ b ≠ G)) f xs
  len : f.len = L
  ne : W.heap.size ≤ ob ∧ ob ≠ G

theorem RG.gw {W : World} {T : Nat → Prop} {f : Fo} {G cc L ob : Nat} {wr : World} (h : RG W T f G cc L ob wr) : W.heap.size ≤ G ∧ G < wr.heap.size := by
  obtain ⟨xs, h1, _⟩ := h.own
  exact h1.lt G rfl

theorem RG.keep {W : World} {T : Nat → Prop} {f : Fo} {G cc L ob : Nat} {wr w' : World} (hT : ∀ b, T b → b < W.heap.size) (h : RG W T f G cc L ob wr) (hf : Fr No wr w') : RG W T f G cc L ob w' := by
  have hg := h.gw
  obtain ⟨xs, h1, h2⟩ := h.own
  refine ⟨h.fr.trans hf, h.out.fr hf (fun e => e), ⟨xs, own_fr h1 hf (fun b hb e => e), ?_⟩, h.len, h.ne⟩
  refine h2.mono (fun b hb => hb.imp (fun h => h) (fun hb => ⟨hb.1, Nat.lt_of_lt_of_le hb.2.1 hf.size, hb.2.2⟩)) (fun b hb => ?_)
  rcases hb with hb | hb
  · exact hf.block b (Nat.lt_of_lt_of_le (hT b hb) h.fr.size) (fun e => e)
  · exact hf.block b hb.2.1 (fun e => e)

/-- one part is written -/
theorem RG.put {W : World} {T : Nat → Prop} {pre rest : Fo} {a a' : List UInt8} {k k' : Fo} {G cc L ob : Nat} {A' : Option Addr} {c' : Nat} {wr : World} (hT : ∀ b, T b → b < W.heap.size) (h : RG W T (pre.app (.cons a k rest)) G cc L ob wr)
    (hs : Sl wr (fun b => T b ∨ (W.heap.size ≤ b ∧ b < wr.heap.size ∧ b ≠ G)) A' k') :
    RG W T ((pre.snoc a' k').app rest) G cc L ob ((wr.setCell ⟨G, pre.len * 2, none⟩ (S a')).setCell ⟨G, pre.len * 2 + 1, none⟩ (.slice A' k'.len c')) := by
  have hg := h.gw
  obtain ⟨xs, h1, h2⟩ := h.own
  have hne := h.ne
  obtain ⟨o1, g1⟩ := h1.stored (pre.len * 2) (S a')
  obtain ⟨o2, g2⟩ := o1.stored (pre.len * 2 + 1) (.slice A' k'.len c')
  have hh : ∀ b, b < wr.heap.size → b ≠ G → ((wr.setCell ⟨G, pre.len * 2, none⟩ (S a')).setCell ⟨G, pre.len * 2 + 1, none⟩ (.slice A' k'.len c')).heap[b]? = wr.heap[b]? := fun b hb hne => by
    have e1 : b < (wr.setCell ⟨G, pre.len * 2, none⟩ (S a')).heap.size := Nat.lt_of_lt_of_le hb g1.size
    rw [g2.block b e1 (fun e => hne (by injection e)), g1.block b hb (fun e => hne (by injection e))]
  have hsz : ((wr.setCell ⟨G, pre.len * 2, none⟩ (S a')).setCell ⟨G, pre.len * 2 + 1, none⟩ (.slice A' k'.len c')).heap.size = wr.heap.size := by simp [World.setCell]
  refine ⟨(h.fr.setCell (p := ⟨G, pre.len * 2, none⟩) (.inr (by show _ ≤ G; omega)) _).setCell (p := ⟨G, pre.len * 2 + 1, none⟩) (.inr (by show _ ≤ G; omega)) _, h.out.keep (hh _ h.out.lt hne.2), ⟨_, o2, ?_⟩, ?_, h.ne⟩
  · rw [Fo.snoc_app]
    have hT' : ∀ b, (T b ∨ (W.heap.size ≤ b ∧ b < wr.heap.size ∧ b ≠ G)) → b < wr.heap.size ∧ b ≠ G := fun b hb => by
      rcases hb with hb | hb
      · have := hT b hb; have := h.fr.size; exact ⟨by omega, by omega⟩
      · exact hb.2
    refine Elems.mono (fun b hb => ?_) (fun b hb => ?_) (Elems.set_ hs pre h2)
    · rw [hsz]; exact hb
    · exact hh b (hT' b hb).1 (hT' b hb).2
  · rw [Fo.len_snoc_app, ← h.len, Fo.len_app, Fo.len_app]
    rfl

/-- the row behind all parts -/
theorem RG.done {W : World} {T : Nat → Prop} {f : Fo} {G cc L ob : Nat} {wr : World} (h : RG W T f G cc L ob wr) : Sl wr (fun b => T b ∨ (W.heap.size ≤ b ∧ b < wr.heap.size)) (some ⟨G, 0, none⟩) f := by
  have hg := h.gw
  obtain ⟨xs, h1, h2⟩ := h.own
  right
  refine ⟨G, 0, xs, rfl, .inr ⟨by omega, hg.2⟩, h2.mono (fun b hb => hb.imp (fun h => h) (fun hb => ⟨hb.1, hb.2.1⟩)) (fun _ _ => rfl), fun j u hj => ?_⟩
  have := h1.cells (g := G) rfl j u hj
  rw [addr_add] at this
  exact this

/-- two cells of the row -/
theorem RG.slot {W : World} {T : Nat → Prop} {f : Fo} {G cc L ob : Nat} {wr : World} (h : RG W T f G cc L ob wr) {i : Nat} (hi : i < L) :
    ∃ u v, wr.cell? ⟨G, i * 2, none⟩ = some u ∧ wr.cell? ⟨G, i * 2 + 1, none⟩ = some v ∧ wr.frozen? ⟨G, i * 2, none⟩ = false ∧ wr.frozen? ⟨G, i * 2 + 1, none⟩ = false ∧ G < wr.heap.size := by
  obtain ⟨xs, h1, h2⟩ := h.own
  have hl := h2.length
  rw [h.len] at hl
  refine ⟨xs[i * 2]'(by omega), xs[i * 2 + 1]'(by omega), ?_, ?_, h1.frozenAt _, h1.frozenAt _, h.gw.2⟩
  · rw [h1.cellAt _ (by omega), List.getElem?_eq_getElem]
  · rw [h1.cellAt _ (by omega), List.getElem?_eq_getElem]

/-- the row's own block, empty, behind a world -/
theorem rg_own (W : World) : (W.alloc (.cells #[] 40)).ownsRow W.heap.size 40 2 (.slice (some ⟨W.heap.size, 0, none⟩) 0 0) 0 [] :=
  ⟨rfl, .inr ⟨W.heap.size, 0, #[], rfl, Nat.le_refl _, heap_alloc_new W _, Nat.le_refl _, Nat.zero_le _, rfl, rfl⟩⟩

/-- the copy is made -/
theorem rg_start {W : World} {T : Nat → Prop} {f : Fo} {L : Nat} {ys : List Value} (hL : f.len = L) (hl0 : L ≠ 0) (hT : ∀ b, T b → b < W.heap.size) (hel : Elems W T f ys) {v' : Value} {w2 : World}
    (hown : w2.ownsRow W.heap.size 40 2 v' (0 + L) ([] ++ ys)) (hg : (W.alloc (.cells #[] 40)).grownBy w2 (Value.slice (some ⟨W.heap.size, 0, none⟩) 0 0).ownBlock) :
    ∃ G cc, v' = .slice (some ⟨G, 0, none⟩) L cc ∧ Fr No W w2 ∧ RG W T f G cc L w2.heap.size (w2.alloc (.cells #[.string ⟨#[]⟩, .slice (some ⟨G, 0, none⟩) L cc] 40)) := by
  rw [Nat.zero_add, List.nil_append] at hown
  obtain ⟨G, cc, rfl⟩ : ∃ G cc, v' = .slice (some ⟨G, 0, none⟩) L cc := by
    rcases hown.2 with ⟨_, h0⟩ | ⟨G, cap, cur, hv, _⟩
    · exact absurd h0 hl0
    · exact ⟨G, cap, hv⟩
  have hGl := hown.lt G rfl
  have hf2 : Fr No W w2 := ((Fr.refl _ W).alloc _).grown hg (fun b hb => .inr (by simp only [Value.ownBlock, Option.some.injEq] at hb; omega))
  have hfa : Fr No W (w2.alloc (.cells #[.string ⟨#[]⟩, .slice (some ⟨G, 0, none⟩) L cc] 40)) := hf2.alloc _
  refine ⟨G, cc, rfl, hf2, hfa, Blk.new _ _ _, ⟨ys, hown.alloc _, ?_⟩, hL, ⟨hf2.size, by omega⟩⟩
  exact hel.mono (fun b hb => .inl hb) (fun b hb => hfa.block b (hT b hb) (fun h => h))
end Go.Proofs.YtnjgaenhjdjpfaaGreatDoor

/- The model's putting of a term for a name. -/
namespace Go.Proofs.YtnjgaenhjdjpfaaGreatDoor
open Go.RowKit Go.ChangeMaps

def PfP (T : Nat → Prop) (a' : List UInt8) (k' : Fo) (w : World) (e : Ending) (w' : World) : Prop :=
  ∃ A c, e = .returned (.agg #[S a', .slice A k'.len c]) ∧ Fr No w w' ∧ Sl w' (TN T w w') A k'

def PfSaid (x ba : List UInt8) (bk : Fo) (k : Fo) : Prop := ∀ (a : List UInt8) (A : Option Addr) (c : Nat) (w : World) (T : Nat → Prop) (BA : Option Addr) (bc : Nat),
  isTm a k = true → (a ≠ [] → k = .nil) → k.wf → treeSize a k ≤ 5000 → (∀ b, T b → b < w.heap.size) → Sl w T A k → Sl w T BA bk →
  Calls Tryz.prog 96 #[.agg #[S a, .slice A k.len c], S x, .agg #[S ba, .slice BA bk.len bc]] w fun e w' => PfP T (ptA x ba a) (ptK x ba bk a k) w e w'

theorem pf_step (x ba : List UInt8) (bk : Fo) {f : Fo} {j i : Nat} {a h b : List UInt8} {k : Fo} (hx : x ≠ []) (e : f.nth j = some (a, k)) :
    ptF x ba bk (f.from_ j) (.kids h b i) = if innB h i = true ∧ bndB h b i ≠ x then .cons (ptA x ba a) (ptK x ba bk a k) (ptF x ba bk (f.from_ (j + 1)) (.kids h b (i + 1))) else .cons a k (ptF x ba bk (f.from_ (j + 1)) (.kids h b (i + 1))) := by
  rw [Fo.from_nth f j a k e]
  simp only [ptF]
  by_cases hq : innB h i = true ∧ bndB h b i ≠ x
  · rw [if_pos hq, if_pos hq]
    unfold ptA ptK
    by_cases ha : a = []
    · subst ha
      rw [if_pos rfl, if_neg (fun e => hx e.symm), if_pos rfl]
    · rw [if_neg ha, if_neg ha]
      by_cases hax : a = x
      · rw [if_pos hax, if_pos hax, if_pos hax]
      · rw [if_neg hax, if_neg hax, if_neg hax]
  · rw [if_neg hq, if_neg hq]

set_option maxRecDepth 100000 in
set_option maxHeartbeats 1000000 in
theorem pf_atom (x ba : List UInt8) (bk : Fo) (a : List UInt8) (A : Option Addr) (c : Nat) (w : World) (T : Nat → Prop) (BA : Option Addr) (bc : Nat) (ha : a ≠ []) (hT : ∀ b, T b → b < w.heap.size) (hB : Sl w T BA bk) :
    Calls Tryz.prog 96 #[.agg #[S a, .slice A 0 c], S x, .agg #[S ba, .slice BA bk.len bc]] w fun e w' => PfP T (ptA x ba a) (ptK x ba bk a .nil) w e w' := by
  have hae : a.isEmpty = false := by cases a; exact absurd rfl ha; rfl
  obtain ⟨kl, HKL⟩ : ∃ z, Hid (bk.len = z) := ⟨_, rfl⟩
  have FIN : Hid (∀ (wr : World) (r : Value), Fr No w wr → (a = x → r = .agg #[S ba, .slice BA kl bc]) → (a ≠ x → r = .agg #[S a, .slice A 0 c]) →
      PfP T (ptA x ba a) (ptK x ba bk a .nil) w (.returned r) wr) := by
    intro wr r hf2 h1 h2
    by_cases hax : a = x
    · have e1 : ptA x ba a = ba := by simp [ptA, hax]
      have e2 : ptK x ba bk a .nil = bk := by simp only [ptK, if_neg ha, if_pos hax]
      rw [h1 hax, e1, e2]
      exact ⟨BA, bc, by rw [HKL.out], hf2, hB.mono (fun b hb => .inl hb) (fun b hb => hf2.block b (hT b hb) (fun h => h))⟩
    · have e1 : ptA x ba a = a := by simp [ptA, hax]
      have e2 : ptK x ba bk a .nil = .nil := by simp only [ptK, if_neg ha, if_neg hax]
      rw [h2 hax, e1, e2]
      exact ⟨A, c, rfl, hf2, .inl rfl⟩
  rw [HKL.out]
  clear hT hB
  by_cases hax : a = x
  · have n1 : (a == x) = true := beq_iff_eq.2 hax
    have HQ := Lib.hid hax
    clear hax
    go_enter Tryz.func96, Tryz.ntmps96
    go_wp2_with fail
    refine bodyPost_ret (v := .agg #[S ba, .slice BA kl bc]) (by simp [results, Tryz.results96, go_sem]) rfl ?_
    exact FIN.out _ _ ((((Fr.refl _ _).alloc _).alloc _).alloc _) (fun _ => rfl) (fun h => absurd HQ.out h)
  · have n1 : (a == x) = false := beq_eq_false_iff_ne.2 hax
    have HQ := Lib.hid hax
    clear hax
    go_enter Tryz.func96, Tryz.ntmps96
    go_wp2_with fail
    refine bodyPost_ret (v := .agg #[S a, .slice A 0 c]) (by simp [results, Tryz.results96, go_sem]) rfl ?_
    exact FIN.out _ _ ((((Fr.refl _ _).alloc _).alloc _).alloc _) (fun h => absurd h HQ.out) (fun _ => rfl)

set_option maxRecDepth 100000 in
set_option maxHeartbeats 4000000 in
theorem pf_node (x ba : List UInt8) (bk : Fo) (hxn : x ≠ []) (h : List UInt8) (k0 r : Fo) (hN : ∀ a' k' j, (Fo.cons h k0 r).nth j = some (a', k') → PfSaid x ba bk k') (A : Option Addr) (c : Nat) (w : World) (T : Nat → Prop) (BA : Option Addr) (bc : Nat)
    (htm : isTms none (.cons h k0 r) = true) (hwf : (Fo.cons h k0 r).wf) (hs : (Fo.cons h k0 r).size ≤ 5000) (hT : ∀ b, T b → b < w.heap.size) (hA : Sl w T A (.cons h k0 r)) (hB : Sl w T BA bk) :
    Calls Tryz.prog 96 #[.agg #[S [], .slice A (Fo.cons h k0 r).len c], S x, .agg #[S ba, .slice BA bk.len bc]] w fun e w' => PfP T [] (ptF x ba bk (.cons h k0 r) .top) w e w' := by
  have HN := Lib.hid hN
  clear hN
  simp only [isTms, Bool.and_eq_true] at htm
  obtain ⟨hsn, htm⟩ := htm
  have hrl := isTms_len _ _ htm
  have hsl := shape_short h
  have hs1 : 1 ≤ (shapeOf h).length := by
    cases hq : shapeOf h with
    | nil => rw [hq] at hsn; cases hsn
    | cons => simp
  have hne : shapeOf h ≠ [] := by intro e; rw [e] at hs1; simp at hs1
  have HTMS := Lib.hid htm
  clear htm hsn
  have hrz : 1 + r.size ≤ (Fo.cons h k0 r).size := by
    simp only [Fo.size, if_neg (shape_head hne).1]
    omega
  obtain ⟨n, nk, r', HR⟩ : ∃ n nk r', Hid (r = .cons n nk r') := by
    cases r with
    | nil => simp [Fo.len] at hrl; omega
    | cons n nk r' => exact ⟨n, nk, r', rfl⟩
  have hn1 : Hid (hd1 r = n) := by rw [HR.out]; exact rfl
  obtain ⟨m, HM⟩ : ∃ m, Hid (m = (shapeOf h).length) := ⟨_, rfl⟩
  obtain ⟨L, HL⟩ : ∃ L, Hid ((Fo.cons h k0 r).len = L) := ⟨_, rfl⟩
  have HLM : Hid (L = m + 1) := by
    have h1 := HL.out
    have h2 := HM.out
    show L = m + 1
    simp only [Fo.len] at h1
    omega
  have HRL : Hid (r.len = m) := by
    have h2 := HM.out
    show r.len = m
    omega
  rw [← HM.out] at hsl hs1
  have hL4 : (L : Int) ≤ 4 := by have := HLM.out; omega
  have hL1 : (1 : Int) ≤ (L : Int) := by have := HLM.out; omega
  rw [HL.out]
  clear hrl
  obtain ⟨gA, oA, ys, rfl, hgT, hel, hcs⟩ : ∃ b o ys, A = some ⟨b, o, none⟩ ∧ T b ∧ Elems w T (.cons h k0 r) ys ∧ ∀ j u, ys[j]? = some u → w.cell? ⟨b, o + j, none⟩ = some u := by
    rcases hA with h0 | h0
    · simp [Fo.len] at h0
    · exact h0
  have HWF := Lib.hid hwf
  have HSZ := Lib.hid hs
  have HT := Lib.hid hT
  have HA := Lib.hid hA
  have HB := Lib.hid hB
  obtain ⟨kl, HKL⟩ : ∃ z, Hid (bk.len = z) := ⟨_, rfl⟩
  rw [HKL.out]
  obtain ⟨F0, HF0⟩ : ∃ z, Hid (ptF x ba bk (.cons h k0 r) .top = z) := ⟨_, rfl⟩
  rw [HF0.out]
  -- the copy of the parts
  obtain ⟨i0, hi0, hz0, hz1, hz2⟩ := info_parts info_tree
  have hyl := hel.length
  obtain ⟨W0, hW0⟩ : ∃ W0, W0 = ((w.alloc (.cells #[S [], .slice (some ⟨gA, oA, none⟩) L c] 40)).alloc (.cells #[S ba, .slice BA kl bc] 40)).alloc (.cells #[S [], .slice none 0 0] 40) := ⟨_, rfl⟩
  have hwz : W0.heap.size = w.heap.size + 3 := by rw [hW0]; simp
  have hfw0 : Fr No w W0 := by rw [hW0]; exact (((Fr.refl _ _).alloc _).alloc _).alloc _
  have hbx : Blk W0 w.heap.size 40 #[S [], .slice (some ⟨gA, oA, none⟩) L c] := by rw [hW0]; exact ((Blk.new _ _ _).alloc _).alloc _
  have hby : Blk W0 (w.heap.size + 1) 40 #[S ba, .slice BA kl bc] := by rw [hW0]; exact (Blk.new_at _ _ _ (by simp)).alloc _
  have hbz : Blk W0 (w.heap.size + 2) 40 #[S [], .slice none 0 0] := by rw [hW0]; exact Blk.new_at _ _ _ (by simp)
  have HTW : Hid (∀ b, T b → b < W0.heap.size) := fun b hb => Nat.lt_of_lt_of_le (hT b hb) hfw0.size
  have helW : Elems W0 T (.cons h k0 r) ys := hel.mono (fun b hb => hb) (fun b hb => hfw0.block b (hT b hb) (fun h => h))
  have HO : Hid ((W0.alloc (.cells #[] 40)).ownsRow (w.heap.size + 3) 40 2 (.slice (some ⟨w.heap.size + 3, 0, none⟩) 0 0) 0 []) := by
    have := rg_own W0
    rw [hwz] at this
    exact this
  have HC1 : Hid (∀ (o2 : Obj) (j : Nat) (u : Value), ys[j]? = some u → (W0.alloc o2).cell? ((⟨gA, oA, none⟩ : Addr).add j) = some u) := by
    intro o2 j u hj
    rw [addr_add]
    have hf : Fr No w (W0.alloc o2) := hfw0.alloc o2
    exact (hf.cell (p := ⟨gA, oA + j, none⟩) (hT gA hgT) (fun h => h)).trans (hcs j u hj)
  have HC2 : Hid (∀ u ∈ ys, u.oneCell' = true) := hel.one
  have HYL : Hid (ys.length = L * 2) := by show _ = _; rw [hyl, HL.out]
  have bnd : (0 + L) * 40 ≤ 140737488355328 := by omega
  have bnd2 : 0 + L ≤ maxLen := by unfold maxLen; omega
  have HC5 : Hid (∀ (o2 : Obj), w.heap.size + 3 ≤ (W0.alloc o2).heap.size) := fun o2 => by simp; omega
  have ARM : Hid (∀ (V : Value) (v' : Value) (w2 : World), V = .slice (some ⟨w.heap.size + 3, 0, none⟩) 0 0 → w2.ownsRow (w.heap.size + 3) 40 2 v' (0 + L) ([] ++ ys) → (W0.alloc (.cells #[] 40)).grownBy w2 V.ownBlock →
      ∃ G cc, v' = .slice (some ⟨G, 0, none⟩) L cc ∧ Hid (RG W0 T (.cons h k0 r) G cc L w2.heap.size (w2.alloc (.cells #[.string ⟨#[]⟩, .slice (some ⟨G, 0, none⟩) L cc] 40)))) := by
    intro V v' w2 hV hown hg
    subst hV
    rw [← hwz] at hown hg
    obtain ⟨G, cc, e1, _, e3⟩ := rg_start HL.out (by omega) HTW.out helW hown hg
    exact ⟨G, cc, e1, e3⟩
  have HBX := Lib.hid hbx
  have HBY := Lib.hid hby
  have HBZ := Lib.hid hbz
  have HFW0 := Lib.hid hfw0
  have HWZ := Lib.hid hwz
  clear hwf hs hT hA hB hel hcs hyl hne hbx hby hbz hfw0 helW hwz
  subst hW0
  go_enter Tryz.func96, Tryz.ntmps96
  go_wp2_with (at_builtin; go_must (refine wpList_append_own_at _ rfl _ _ 38 rfl (w.heap.size + 3) 40 i0 (.agg #[.string ⟨#[]⟩, .slice none 0 0]) 2 40 Tryz.underlying38 hi0 hz0 hz1 hz2 rfl (by decide) _ 0 [] rfl HO.out ⟨gA, oA, none⟩ L c ys rfl HYL.out (HC1.out _) HC2.out bnd2 bnd (HC5.out _) ?_); intro v' w2 hown' hgrow _ hloc; obtain ⟨G, cc, rfl, HRF⟩ := ARM.out _ v' w2 rfl hown' hgrow; clear hown' hgrow hloc)
  obtain ⟨ob, hob⟩ : ∃ ob, ob = w2.heap.size := ⟨_, rfl⟩
  rw [← hob] at HRF ⊢
  generalize (w2.alloc (.cells #[.string ⟨#[]⟩, .slice (some ⟨G, 0, none⟩) L cc] 40)) = W at HRF ⊢
  clear hob ARM HO HC1 HC2 HC5 HYL bnd bnd2 hi0 hz0 hz1 hz2
  generalize (((w.alloc (.cells #[S [], .slice (some ⟨gA, oA, none⟩) L c] 40)).alloc (.cells #[S ba, .slice BA kl bc] 40)).alloc (.cells #[S [], .slice none 0 0] 40)) = W0 at *
  have HS0 : Hid (F0 = (Fo.cons h k0 .nil).app (ptF x ba bk (r.from_ 0) (.kids h n 1))) := by
    show _ = _
    rw [← HF0.out, Fo.from_zero, ← hn1.out]
    rfl
  go_loopw [8] (fun u wr => ∃ (j : Nat) (pre : Fo), j ≤ m ∧ u = .int .i64 ((j + 1 : Nat) : Int) ∧ pre.len = j + 1 ∧ RG W0 T (pre.app (r.from_ j)) G cc L ob wr ∧
      F0 = pre.app (ptF x ba bk (r.from_ j) (.kids h n (j + 1)))) (fun u _ => m + 1 - (intOf u).toNat)
  case atStart => exact ⟨0, .cons h k0 .nil, Nat.zero_le _, rfl, rfl, by rw [Fo.from_zero]; exact HRF.out, HS0.out⟩
  case round =>
    obtain ⟨j, pre, hj, rfl, hpl, hrf, hrel⟩ := hrel
    have HRJ := Lib.hid hrf
    have HREL := Lib.hid hrel
    have HPL := Lib.hid hpl
    clear hrf hrel hpl HS0 HRF
    have hg := HRJ.out.gw
    have hwz := HWZ.out
    have hob2 := HRJ.out.ne
    have ALLC : Hid (∀ w', Fr No wr w' → w'.cell? ⟨w.heap.size, 0, none⟩ = some (S []) ∧ w'.cell? ⟨w.heap.size, 1, none⟩ = some (.slice (some ⟨gA, oA, none⟩) L c) ∧ w.heap.size < w'.heap.size ∧ w'.cell? ⟨ob, 0, none⟩ = some (S []) ∧ w'.cell? ⟨ob, 1, none⟩ = some (.slice (some ⟨G, 0, none⟩) L cc) ∧ ob < w'.heap.size ∧
        w'.cell? ⟨w.heap.size + 1, 0, none⟩ = some (S ba) ∧ w'.cell? ⟨w.heap.size + 1, 1, none⟩ = some (.slice BA kl bc) ∧ w.heap.size + 1 < w'.heap.size ∧
        w'.cell? ⟨w.heap.size + 2, 0, none⟩ = some (S []) ∧ w'.cell? ⟨w.heap.size + 2, 1, none⟩ = some (.slice none 0 0) ∧ w'.frozen? ⟨w.heap.size + 2, 0, none⟩ = false ∧ w'.frozen? ⟨w.heap.size + 2, 1, none⟩ = false ∧ w.heap.size + 2 < w'.heap.size) := by
      intro w' hf
      have d0 := (HBX.out.fr HRJ.out.fr (fun h => h)).fr hf (fun h => h)
      have d1 := HRJ.out.out.fr hf (fun h => h)
      have d2 := (HBY.out.fr HRJ.out.fr (fun h => h)).fr hf (fun h => h)
      have d3 := (HBZ.out.fr HRJ.out.fr (fun h => h)).fr hf (fun h => h)
      exact ⟨(d0.cell 0).trans rfl, (d0.cell 1).trans rfl, d0.lt, (d1.cell 0).trans rfl, (d1.cell 1).trans rfl, d1.lt, (d2.cell 0).trans rfl, (d2.cell 1).trans rfl, d2.lt, (d3.cell 0).trans rfl, (d3.cell 1).trans rfl, d3.frozen 0, d3.frozen 1, d3.lt⟩
    obtain ⟨c0, c1, cl, o0, o1, ol, y0, y1, yl, r0, r1, f0, f1, rl⟩ := ALLC.out wr (Fr.refl _ _)
    have hnG : w.heap.size ≠ G := by omega
    have hnG1 : w.heap.size + 1 ≠ G := by omega
    have hnO : ob ≠ G := hob2.2
    by_cases hlt : j < m
    · have hjc : (j : Int) + 1 < (L : Int) := by have := HLM.out; omega
      have hjn : j + 1 < L := by have := HLM.out; omega
      have hTr : ∀ b, T b → b < wr.heap.size := fun b hb => Nat.lt_of_lt_of_le (HTW.out b hb) HRJ.out.fr.size
      have hKr : ∀ b, T b → wr.heap[b]? = w.heap[b]? := fun b hb => (HRJ.out.fr.block b (HTW.out b hb) (fun h => h)).trans (HFW0.out.block b (HT.out b hb) (fun h => h))
      have hAr : Sl wr T (some ⟨gA, oA, none⟩) (.cons h k0 r) := HA.out.mono (fun _ h => h) hKr
      have hBr : Sl wr T BA bk := HB.out.mono (fun _ h => h) hKr
      obtain ⟨g', o', a', k', A2, c2, hAe, hgT', hn, q0, q1, hsl'⟩ := hAr.nth (j := j + 1) (by rw [HL.out, HLM.out]; omega)
      obtain ⟨rfl, rfl⟩ : gA = g' ∧ oA = o' := by
        simp only [Option.some.injEq, Addr.mk.injEq, and_true] at hAe
        exact hAe
      have hnr : r.nth j = some (a', k') := hn
      have hlg := block_lt q0
      obtain ⟨b, hbj⟩ : ∃ b, (shapeOf h)[j]? = some b := ⟨_, List.getElem?_eq_getElem (by rw [← HM.out]; exact hlt)⟩
      have hok := isTms_at r _ j a' k' b HTMS.out hnr hbj
      have hin : innB h (j + 1) = b := by
        unfold innB
        rw [show j + 1 - 1 = j by omega, hbj]
        cases b <;> rfl
      have IN : Hid (Calls Tryz.prog 47 #[.agg #[S [], .slice (some ⟨gA, oA, none⟩) L c], .int .i64 ((j + 1 : Nat) : Int)] wr fun e w' => e = .returned (.bool b) ∧ Fr No wr w') :=
        HL.out ▸ inner_any wr T [] h k0 r _ c (j + 1) b (by omega) hbj hAr
      have hfj := Fo.from_nth r j a' k' hnr
      have HRJ1 : Hid (RG W0 T (pre.app (.cons a' k' (r.from_ (j + 1)))) G cc L ob wr) := by
        have := HRJ.out
        rw [hfj] at this
        exact this
      have hst := pf_step x ba bk (h := h) (b := n) (i := j + 1) hxn hnr
      rw [hin] at hst
      have SKIP : ¬ (b = true ∧ bndB h n (j + 1) ≠ x) → Hid (∀ w', Fr No wr w' → ∃ (j' : Nat) (pre' : Fo), j' ≤ m ∧ Value.int .i64 ((j : Int) + 1 + 1) = .int .i64 ((j' + 1 : Nat) : Int) ∧ pre'.len = j' + 1 ∧ RG W0 T (pre'.app (r.from_ j')) G cc L ob w' ∧ F0 = pre'.app (ptF x ba bk (r.from_ j') (.kids h n (j' + 1)))) := by
        intro hq w' hf
        refine ⟨j + 1, pre.snoc a' k', by omega, by go_num, by rw [Fo.len_snoc, HPL.out], ?_, ?_⟩
        · rw [Fo.snoc_app]; exact HRJ1.out.keep HTW.out hf
        · rw [Fo.snoc_app, HREL.out, hst, if_neg hq]
      have BD : Hid (∀ w', Fr No wr w' → Calls Tryz.prog 88 #[.agg #[S [], .slice (some ⟨gA, oA, none⟩) L c], .int .i64 ((j + 1 : Nat) : Int)] w' fun e w2 => e = .returned (S (bndB h n (j + 1))) ∧ Fr No w' w2) := fun w' hf => by
        have h1 := hAr.fr hTr hf
        generalize HR.out = hr
        have h2 := HL.out
        revert h2 h1
        rw [hr]
        intro h1 h2
        rw [← h2]
        exact bound_any w' T [] h n k0 nk r' _ c (j + 1) h1
      cases b
      · have HSK := SKIP (fun e => by cases e.1)
        clear hst hin hn hnr hbj hok hAr hBr hsl' SKIP BD hTr hKr
        go_wp2_with fail
        refine IN.out.mono ?_
        rintro e w1 ⟨rfl, hf1⟩
        have HF1 := Lib.hid hf1
        clear hf1
        go_wp2_with fail
        go_roundw
        case rel => exact HSK.out _ HF1.out
        case measure => simp [intOf]; omega
      · by_cases hbx : bndB h n (j + 1) = x
        · have HSK := SKIP (fun e => e.2 hbx)
          have nbx : (bndB h n (j + 1) == x) = true := beq_iff_eq.2 hbx
          generalize bndB h n (j + 1) = bd at BD nbx
          clear hst hin hn hnr hbj hok hAr hBr hsl' SKIP hTr hKr hbx
          go_wp2_with fail
          refine IN.out.mono ?_
          rintro e w1 ⟨rfl, hf1⟩
          have HF1 := Lib.hid hf1
          obtain ⟨d0, d1, dl, e0, e1, el, _⟩ := ALLC.out w1 hf1
          clear hf1
          go_wp2_with fail
          refine (BD.out w1 HF1.out).mono ?_
          rintro e w2 ⟨rfl, hf2⟩
          have HF2 := Lib.hid hf2
          clear hf2
          go_wp2_with fail
          go_roundw
          case rel => exact HSK.out _ (HF1.out.trans HF2.out)
          case measure => simp [intOf]; omega
        · have nbx : (bndB h n (j + 1) == x) = false := beq_eq_false_iff_ne.2 hbx
          rw [if_pos ⟨rfl, hbx⟩] at hst
          have hz := Fo.nth_size hnr
          have hw1 := (Fo.wf_nth _ _ _ _ HWF.out hn)
          have HQ : Hid (gA ≠ G) := by
            have := HRJ.out.gw
            have := HTW.out gA hgT
            show _ ≠ _
            omega
          obtain ⟨a5, HA5⟩ : ∃ z, Hid (ptA x ba a' = z) := ⟨_, rfl⟩
          obtain ⟨K2, HK2⟩ : ∃ z, Hid (ptK x ba bk a' k' = z) := ⟨_, rfl⟩
          obtain ⟨k5, HK5⟩ : ∃ z, Hid (K2.len = z) := ⟨_, rfl⟩
          obtain ⟨k2l, HKK⟩ : ∃ z, Hid (k'.len = z) := ⟨_, rfl⟩
          rw [HA5.out, HK2.out] at hst
          have HE : Hid (F0 = (pre.snoc a5 K2).app (ptF x ba bk (r.from_ (j + 1)) (.kids h n (j + 1 + 1)))) := by
            show _ = _
            rw [Fo.snoc_app, HREL.out, hst]
          have CALL : Hid (∀ (w' : World), Fr No wr w' → Calls Tryz.prog 96 #[.agg #[S a', .slice A2 k2l c2], S x, .agg #[S ba, .slice BA kl bc]] w' fun e w3 => ∃ A5 c5, e = .returned (.agg #[S a5, .slice A5 k5 c5]) ∧
              (∃ u v, w3.cell? ⟨G, (j + 1) * 2, none⟩ = some u ∧ w3.cell? ⟨G, (j + 1) * 2 + 1, none⟩ = some v ∧ w3.frozen? ⟨G, (j + 1) * 2, none⟩ = false ∧ w3.frozen? ⟨G, (j + 1) * 2 + 1, none⟩ = false ∧ G < w3.heap.size ∧ w3.cell? ⟨ob, 1, none⟩ = some (.slice (some ⟨G, 0, none⟩) L cc) ∧ ob < w3.heap.size) ∧
              Hid (RG W0 T ((pre.snoc a5 K2).app (r.from_ (j + 1))) G cc L ob ((w3.setCell ⟨G, (j + 1) * 2, none⟩ (S a5)).setCell ⟨G, (j + 1) * 2 + 1, none⟩ (.slice A5 k5 c5)))) := by
            intro w' hf
            have hTw : ∀ b, T b → b < w'.heap.size := fun b hb => Nat.lt_of_lt_of_le (hTr b hb) hf.size
            have h0 := HN.out a' k' (j + 1) hn a' A2 c2 w' T BA bc hok hw1.1 hw1.2 (by have := HSZ.out; unfold treeSize at hz ⊢; omega) hTw (hsl'.mono (fun _ h => h) (fun b hb => hf.block b (hTr b hb) (fun h => h))) (hBr.mono (fun _ h => h) (fun b hb => hf.block b (hTr b hb) (fun h => h)))
            rw [HKK.out, HKL.out, HA5.out, HK2.out] at h0
            refine h0.mono ?_
            rintro e w3 ⟨A5, c5, rfl, g1, g2⟩
            rw [HK5.out]
            have hf3 := hf.trans g1
            have hr1 := HRJ1.out.keep HTW.out hf3
            have hgw := HRJ1.out.gw
            have hp := hr1.put (a' := a5) (k' := K2) (A' := A5) (c' := c5) HTW.out (g2.mono (fun b hb => hb.imp (fun h => h) (fun hb => ⟨by have := HRJ1.out.fr.size; have := hf.size; omega, hb.2, by have := hf.size; omega⟩)) (fun _ _ => rfl))
            rw [HPL.out, HK5.out] at hp
            obtain ⟨su, sv, s0, s1, s2, s3, s4⟩ := hr1.slot hjn
            exact ⟨A5, c5, rfl, ⟨su, sv, s0, s1, s2, s3, s4, (hr1.out.cell 1).trans rfl, hr1.out.lt⟩, hp⟩
          have HSQ : Hid (∀ w', Fr No wr w' → w'.cell? ⟨gA, oA + (j + 1) * 2, none⟩ = some (S a') ∧ w'.cell? ⟨gA, oA + (j + 1) * 2 + 1, none⟩ = some (.slice A2 k2l c2) ∧ gA < w'.heap.size) := fun w' hf =>
            ⟨(hf.cell (p := ⟨gA, oA + (j + 1) * 2, none⟩) hlg (fun h => h)).trans q0, by rw [← HKK.out]; exact (hf.cell (p := ⟨gA, oA + (j + 1) * 2 + 1, none⟩) hlg (fun h => h)).trans q1, Nat.lt_of_lt_of_le hlg hf.size⟩
          generalize bndB h n (j + 1) = bd at BD nbx
          have hnQ := HQ.out
          clear hst hin hn hnr hbj hok hAr hBr hsl' SKIP hTr hKr hbx hz hw1 q0 q1 hfj
          go_wp2_with fail
          refine IN.out.mono ?_
          rintro e w1 ⟨rfl, hf1⟩
          have HF1 := Lib.hid hf1
          obtain ⟨d0, d1, dl, e0, e1, el, d4, d5, d6, _⟩ := ALLC.out w1 hf1
          clear hf1
          go_wp2_with fail
          refine (BD.out w1 HF1.out).mono ?_
          rintro e w2 ⟨rfl, hf2⟩
          have hf12 := HF1.out.trans hf2
          obtain ⟨u0, u1, ul, v0, v1, vl, u4, u5, u6, _⟩ := ALLC.out w2 hf12
          obtain ⟨p0, p1, pl⟩ := HSQ.out w2 hf12
          have hf3d : Fr No wr w2.drew := hf12.drew
          clear hf2 hf12
          go_wp2_with fail
          go_region_with (first | (go_at_call 96; (with_reducible refine (CALL.out _ hf3d).mono ?_); rintro e w5 ⟨A5, c5, rfl, ⟨u, v, s0, s1, s2, s3, s4, s5, s6⟩, HRN⟩))
          all_goals go_wp2_with fail
          all_goals go_roundw
          all_goals first
            | exact ⟨j + 1, pre.snoc a5 K2, by omega, by go_num, by rw [Fo.len_snoc, HPL.out], HRN.out, HE.out⟩
            | (simp [intOf]; omega)
    · have hjm : j = m := by omega
      have hjc : ¬ (j : Int) + 1 < (L : Int) := by have := HLM.out; omega
      have FIN : Hid (∀ v0 v1, PfP T [] F0 w (.returned (.agg #[S [], .slice (some ⟨G, 0, none⟩) L cc])) ((wr.setCell ⟨w.heap.size + 2, 0, none⟩ v0).setCell ⟨w.heap.size + 2, 1, none⟩ v1)) := by
        intro v0 v1
        have hrf := HRJ.out
        have e1 := HREL.out
        have hfl : r.from_ j = .nil := by rw [hjm, ← HRL.out, Fo.from_len]
        rw [hfl] at hrf e1
        have e2 : F0 = pre := by rw [e1]; simp only [ptF, Fo.app_nil]
        rw [Fo.app_nil] at hrf
        have hl := hrf.len
        rw [e2]
        refine ⟨_, cc, by rw [← hl], ((HFW0.out.trans hrf.fr).setCell (p := ⟨w.heap.size + 2, 0, none⟩) (.inr (by show w.heap.size ≤ w.heap.size + 2; omega)) v0).setCell (p := ⟨w.heap.size + 2, 1, none⟩) (.inr (by show w.heap.size ≤ w.heap.size + 2; omega)) v1, ?_⟩
        have hd := hrf.done
        refine hd.mono (fun b hb => hb.imp (fun h => h) (fun hb => ⟨by omega, by simp only [World.setCell]; simpa using hb.2⟩)) (fun b hb => ?_)
        have hb1 : b ≠ w.heap.size + 2 := by
          rcases hb with hb | hb
          · have := HT.out b hb; omega
          · omega
        rw [Below.heap_setCell _ ⟨w.heap.size + 2, 1, none⟩ _ _ hb1, Below.heap_setCell _ ⟨w.heap.size + 2, 0, none⟩ _ _ hb1]
      clear hjm
      go_wp2_with fail
      refine bodyPost_ret (v := .agg #[S [], .slice (some ⟨G, 0, none⟩) L cc]) (by simp [results, Tryz.results96, go_sem, cell_set_same r0, cell_set_next r1]) rfl ?_
      exact FIN.out _ _

theorem pf_any (x ba : List UInt8) (bk : Fo) (hxn : x ≠ []) (N : Nat) : ∀ k : Fo, SizeOf.sizeOf k < N → PfSaid x ba bk k := by
  induction N with
  | zero => intro k h; omega
  | succ N ih =>
    intro k hN a A c w T BA bc htm hat hwf hs hT hA hB
    by_cases he : a = []
    · subst he
      have h2 : isTms none k = true := by simpa [isTm] using htm
      have e2 : treeSize [] k = k.size := by simp [treeSize]
      have e3 : ptK x ba bk [] k = ptF x ba bk k .top := by simp [ptK]
      have e4 : ptA x ba [] = [] := by simp only [ptA, if_neg (fun e : [] = x => hxn e.symm)]
      rw [e2] at hs
      rw [e3, e4]
      cases k with
      | nil => cases h2
      | cons h k0 r => exact pf_node x ba bk hxn h k0 r (fun a' k' j hn => ih k' (by have := Fo.nth_small _ j a' k' hn; omega)) A c w T BA bc h2 hwf hs hT hA hB
    · obtain rfl := hat he
      exact pf_atom x ba bk a A c w T BA bc he hT hB
end Go.Proofs.YtnjgaenhjdjpfaaGreatDoor

/- The model's putting of a term for a name, with bound names renamed: l2Apart with two others, l2Sub. -/
namespace Go.Proofs.YtnjgaenhjdjpfaaGreatDoor
open Go.RowKit Go.ChangeMaps

/-- a row appended to an own row: the row may be nil -/
theorem append_row {P : Program} {w : World} {ops : Array Oper} {rest : List Oper} {o : Oper} {a : Act} {Q : Exit → Act → World → Prop} (hgd : o.guard = none) (s x : Operand) (t : TypeId)
    (ho : o.op = .call { callee := .builtin .append, args := #[s, x], argTypes := #[t, t] }) (base e : Nat) (i : TypeInfo) (z : Value) (size bytes : Nat) (q1 : P.underlying t = some (.slice e)) (q2 : P.info? e = some i) (q3 : i.zero = some z)
    (q4 : i.size = size) (q5 : i.bytes = bytes) (q6 : z.cells.size = size) (q7 : 0 < size) (v : Value) (n : Nat) (xs : List Value) (hs : a.eval s = v) (hown : w.ownsRow base e size v n xs)
    (base2 : Nat) (v2 : Value) (m : Nat) (ys : List Value) (hx : a.eval x = v2) (hown2 : w.ownsRow base2 e size v2 m ys) (h1 : ∀ u ∈ ys, u.oneCell' = true) (b1 : n + m ≤ maxLen) (b2 : (n + m) * bytes ≤ 140737488355328) (b3 : base ≤ w.heap.size)
    (h : ∀ v' w', w'.ownsRow base e size v' (n + m) (xs ++ ys) → w.grownBy w' v.ownBlock → (v'.ownBlock = v.ownBlock ∨ v'.ownBlock = some w.heap.size) → wpList P ops Q rest (a.put o.dst v') w') : wpList P ops Q (o :: rest) a w := by
  have hl := hown2.1
  rcases hown2.2 with ⟨e1, e2⟩ | ⟨g, cap, cur, e1, _⟩
  · subst e1; subst e2
    rw [Nat.zero_mul] at hl
    obtain rfl : ys = [] := List.length_eq_zero_iff.1 hl
    have hr := run_append_owned_none (P := P) (w := w) base t o.type e i size q1 q2 v n xs hown
    have hn := h v w (by rw [List.append_nil]; exact hown) ⟨rfl, rfl, rfl, Nat.le_refl _, fun _ _ _ => rfl⟩ (.inl rfl)
    refine wpList_plain hgd fun K hK => ?_
    unfold Oper.wp execOp
    simp only [ho, resolve, invoke, builtin, List.map_toArray, List.map_cons, List.map_nil, Sem.run_bind, Sem.run_pure, Result.andThen_ok, hs, hx, hr]
    exact hK _ _ hn
  · subst e1
    exact wpList_append_own_at _ hgd s x t ho base e i z size bytes q1 q2 q3 q4 q5 q6 q7 v n xs hs hown ⟨g, 0, none⟩ m cap ys hx hl (hown2.cells rfl) h1 b1 b2 b3 (fun v' w' c1 c2 _ c3 => h v' w' c1 c2 c3)

/-- the free names of a term, in a new row -/
theorem free_fresh (wr : World) (T : Nat → Prop) (a : List UInt8) (A : Option Addr) (c : Nat) (k : Fo) (htm : isTm a k = true) (hs : treeSize a k ≤ 390) (hT : ∀ b, T b → b < wr.heap.size) (hA : Sl wr T A k) :
    Calls Tryz.prog 61 #[.agg #[S a, .slice A k.len c], .slice (some ⟨wr.heap.size, 0, none⟩) 0 0, .slice (some ⟨wr.heap.size + 1, 0, none⟩) 0 0] ((wr.alloc (.cells #[] 9)).alloc (.cells #[] 9)) fun e w' =>
      ∃ V vc, e = .returned (.slice V (fsT a k [] []).length vc) ∧ Fr No wr w' ∧ w'.ownsRow wr.heap.size 9 1 (.slice V (fsT a k [] []).length vc) (fsT a k [] []).length ((fsT a k [] []).map S) := by
  have hfa : Fr No wr ((wr.alloc (.cells #[] 9)).alloc (.cells #[] 9)) := (((Fr.refl _ _).alloc _).alloc _)
  have hown : ((wr.alloc (.cells #[] 9)).alloc (.cells #[] 9)).ownsRow wr.heap.size 9 1 (.slice (some ⟨wr.heap.size + 1, 0, none⟩) 0 0) 0 [] := by
    have := own_empty (wr.alloc (.cells #[] 9)) wr.heap.size (by simp) _ rfl
    rw [World.size_alloc] at this
    exact this
  have e0 := fs_any _ k (Nat.lt_succ_self _) a A c _ T wr.heap.size (some ⟨wr.heap.size + 1, 0, none⟩) 0 [] (some ⟨wr.heap.size, 0, none⟩) 0 [] htm (by omega) (by simp; omega) (by simp; omega) hfa.size
    (fun b hb => ⟨Nat.lt_of_lt_of_le (hT b hb) hfa.size, fun e => by simp only [Value.ownBlock, Option.some.injEq] at e; have := hT b hb; omega⟩) (hA.fr hT hfa) (BSl.empty _ _ (by simp; omega)) (fun g o e e2 => by
      simp only [Option.some.injEq, Addr.mk.injEq, and_true] at e
      simp only [Value.ownBlock, Option.some.injEq] at e2
      omega) hown
  refine e0.mono ?_
  rintro e w' ⟨V, vc, rfl, g1, g2, _⟩
  refine ⟨V, vc, rfl, hfa.then_ g1 (fun i hi e => ?_), g2⟩
  simp only [Value.ownBlock, Option.some.injEq] at e
  omega

theorem rnF_le2 {tk : List (List UInt8)} {k : Fo} (h : isTms none k = true) (hk : k.wf) (hs : (cv k (.parts [])).size + tk.length ≤ 990) (hf : FrIn tk (cv k (.parts []))) : (rnF tk k (.top [] []) 0).2 ≤ 1000 := by
  have hend : (rnT tk (cv k (.parts [])) (if bindsB (hd1 k) then fsh tk 0 + 1 else 0)).2 ≤ 1000 := by
    have h1 := rnT_bound tk (.cons (ndH [] k) (ndA [] [] k) (ndD [] []) (cv k (.parts [])) .nil)
    have hlen := top_len [] hk h
    have eG : rnG tk (ndH [] k) (cv k (.parts [])) 0 = if bindsB (hd1 k) then fsh tk 0 + 1 else 0 := by
      simp only [rnG, if_neg hlen, ndH, if_true]
    simp only [rnT, eG, Ts.size] at h1
    revert h1
    split <;> split <;> intro h1 <;> omega
  have q1 := ((rn_eq tk k hk).2.1 [] [] 0 (rinv_nil tk 0) h hf hend).1
  rw [q1] at hend
  exact hend

theorem fs_name {x : List UInt8} (hx : isName x = true) : fsT x .nil [] [] = [x] := by
  have hne := (name_bytes hx).1
  simp [fsT, hne, hx]

set_option maxRecDepth 100000 in
set_option maxHeartbeats 4000000 in
/-- bound names renamed, apart from the free names of the term, of another one and a name -/
theorem apart2_any (w : World) (T : Nat → Prop) (a : List UInt8) (A : Option Addr) (c : Nat) (k : Fo) (h : OkT a k) (hs : treeSize a k ≤ 300) (hT : ∀ b, T b → b < w.heap.size) (hA : Sl w T A k)
    (ba : List UInt8) (BA : Option Addr) (bc : Nat) (bk : Fo) (hb : OkT ba bk) (hsb : treeSize ba bk ≤ 300) (hB : Sl w T BA bk) (x : List UInt8) (hx : isName x = true) (G cc : Nat)
    (g0 : w.cell? ⟨G, 0, none⟩ = some (S ba)) (g1 : w.cell? ⟨G, 1, none⟩ = some (.slice BA bk.len bc)) (g2 : w.cell? ⟨G, 2, none⟩ = some (S x)) (g3 : w.cell? ⟨G, 3, none⟩ = some (.slice none 0 0)) :
    Calls Tryz.prog 36 #[.agg #[S a, .slice A k.len c], .slice (some ⟨G, 0, none⟩) 2 cc] w fun e w' => ApP T (sbTk x a k ba bk) a k w e w' := by
  have hlG := block_lt g0
  obtain ⟨ls, HLS⟩ : ∃ ls : Nat → List (List UInt8), Hid (ls 0 = fvs a k ∧ ls 1 = fvs a k ++ fvs ba bk ∧ ls 2 = sbTk x a k ba bk) := ⟨fun j => if j = 0 then fvs a k else if j = 1 then fvs a k ++ fvs ba bk else sbTk x a k ba bk, rfl, rfl, rfl⟩
  have l1 := fvs_len h.tm h.at_ h.wf
  have l2 := fvs_len hb.tm hb.at_ hb.wf
  have htk : (sbTk x a k ba bk).length = (fvs a k).length + (fvs ba bk).length + 1 := by simp [sbTk]; omega
  have HLEN : Hid (∀ j, j ≤ 2 → (ls j).length ≤ 601) := by
    intro j hj
    obtain ⟨e0, e1, e2⟩ := HLS.out
    match j, hj with
    | 0, _ => rw [e0]; omega
    | 1, _ => rw [e1, List.length_append]; omega
    | 2, _ => rw [e2]; omega
  have hfin : FrIn (sbTk x a k ba bk) (nd [] a k) := (frIn_fvs h).mono (fun y hy => List.mem_append_left _ (List.mem_append_left _ hy))
  have hend : (rnR (sbTk x a k ba bk) a k [] [] 0).2 ≤ 4000 := by
    unfold rnR
    split
    · rename_i ha
      subst ha
      have h1 := h.size []
      have htm := h.tm
      simp only [nd, Ts.size] at h1
      have := rnF_le2 (tk := sbTk x [] k ba bk) (by simpa [isTm] using htm) h.wf (by omega) hfin.2.1
      omega
    · exact Nat.zero_le _
  have b0 := (Blk.new w 40 #[S a, .slice A k.len c]).alloc (.cells #[S [], .slice none 0 0] 40)
  have b1 : Blk ((w.alloc (.cells #[S a, .slice A k.len c] 40)).alloc (.cells #[S [], .slice none 0 0] 40)) (w.heap.size + 1) 40 #[S [], .slice none 0 0] := Blk.new_at _ _ _ (by simp)
  have hf0 : Fr No w ((w.alloc (.cells #[S a, .slice A k.len c] 40)).alloc (.cells #[S [], .slice none 0 0] 40)) := ((Fr.refl _ _).alloc _).alloc _
  have hsz0 : ((w.alloc (.cells #[S a, .slice A k.len c] 40)).alloc (.cells #[S [], .slice none 0 0] 40)).heap.size = w.heap.size + 2 := by simp
  -- the two others
  have PART : Hid (∀ j, j < 2 → ∃ a' A' c' k', Hid (ls (j + 1) = ls j ++ fsT a' k' [] []) ∧ isTm a' k' = true ∧ treeSize a' k' ≤ 390 ∧ w.cell? ⟨G, j * 2, none⟩ = some (S a') ∧ w.cell? ⟨G, j * 2 + 1, none⟩ = some (.slice A' k'.len c') ∧ Sl w T A' k') := by
    intro j hj
    obtain ⟨e0, e1, e2⟩ := HLS.out
    match j, hj with
    | 0, _ => exact ⟨ba, BA, bc, bk, by show _ = _; rw [e0, e1]; rfl, hb.tm, by omega, g0, g1, hB⟩
    | 1, _ =>
      have hne := (name_bytes hx).1
      refine ⟨x, none, 0, .nil, by show _ = _; rw [e1, e2, fs_name hx]; rfl, by simp [isTm, hne, isAtomTm, hx], by simp [treeSize, hne], g2, g3, .inl rfl⟩
  have HT := Lib.hid hT
  have HA := Lib.hid hA
  have HOK := Lib.hid h
  have HSZ := Lib.hid hs
  have HEND := Lib.hid hend
  have HTKL : Hid ((sbTk x a k ba bk).length ≤ 601) := by show _ ≤ _; omega
  obtain ⟨kl, HKL⟩ : ∃ z, Hid (k.len = z) := ⟨_, rfl⟩
  rw [HKL.out] at b0 b1 hf0 hsz0 ⊢
  obtain ⟨K, HK⟩ : ∃ z, Hid (cnK (sbTk x a k ba bk) a k = z) := ⟨_, rfl⟩
  have HRK : Hid ((rnR (sbTk x a k ba bk) a k [] [] 0).1 = K) := by show _ = _; rw [rnR_nil, ← HK.out]
  obtain ⟨tk, HTKE⟩ : ∃ z, Hid (sbTk x a k ba bk = z) := ⟨_, rfl⟩
  rw [HTKE.out] at HK HRK HEND HTKL ⊢
  have HLE : Hid (ls 2 = tk) := by show _ = _; rw [HLS.out.2.2, HTKE.out]
  have HLZ : Hid (ls 0 = fsT a k [] []) := HLS.out.1
  obtain ⟨i0, hi0, hz0, hz1, hz2⟩ := info_parts info_str
  clear hT hA h hs hb hsb hB hx hfin hend l1 l2 htk HLS g0 g1 g2 g3 HTKE
  go_enter Tryz.func36, Tryz.ntmps36
  go_wp2_with fail
  generalize ((w.alloc (.cells #[S a, .slice A kl c] 40)).alloc (.cells #[S [], .slice none 0 0] 40)) = W at b0 b1 hf0 hsz0 ⊢
  have HFW := Lib.hid hf0
  have HB0 := Lib.hid b0
  have HB1 := Lib.hid b1
  have HS0 := Lib.hid hsz0
  have c0 : W.cell? ⟨w.heap.size, 0, none⟩ = some (S a) := (b0.cell 0).trans rfl
  have HTW : Hid (∀ b, T b → b < W.heap.size) := fun b hb => by have := HT.out b hb; omega
  have FREE : Hid (Calls Tryz.prog 61 #[.agg #[S a, .slice A kl c], .slice (some ⟨w.heap.size + 2, 0, none⟩) 0 0, .slice (some ⟨w.heap.size + 2 + 1, 0, none⟩) 0 0] ((W.alloc (.cells #[] 9)).alloc (.cells #[] 9)) fun e w' =>
      ∃ V vc, e = .returned (.slice V (ls 0).length vc) ∧ Fr No W w' ∧ w'.ownsRow (w.heap.size + 2) 9 1 (.slice V (ls 0).length vc) (ls 0).length ((ls 0).map S)) := by
    have hAW : Sl W T A k := HA.out.mono (fun _ h => h) (fun b hb => hf0.block b (HT.out b hb) (fun h => h))
    have e0 := free_fresh W T a A c k HOK.out.tm (by have := HSZ.out; omega) HTW.out hAW
    rw [hsz0, HKL.out, ← HLZ.out] at e0
    exact e0
  clear b0 b1 hf0
  go_wp2_with fail
  refine FREE.out.mono ?_
  rintro e w4 ⟨V, vc, rfl, hf4, ho4⟩
  have HF4 := Lib.hid hf4
  have HO4 := Lib.hid ho4
  clear hf4 ho4
  go_wp2_with fail
  go_loopw [5, 6] (fun f v wr => ∃ (j : Nat) (V : Option Addr) (vc : Nat), j ≤ 2 ∧ v = .int .i64 j ∧ f = .slice V (ls j).length vc ∧ Fr No W wr ∧ wr.ownsRow (w.heap.size + 2) 9 1 (.slice V (ls j).length vc) (ls j).length ((ls j).map S)) (fun _ v _ => 2 - (intOf v).toNat)
  case atStart => exact ⟨0, V, vc, by omega, rfl, rfl, HF4.out, HO4.out⟩
  case round =>
    obtain ⟨j, Vj, vj, hj, rfl, rfl, hfr, how⟩ := hrel
    have HFR := Lib.hid hfr
    have HOW := Lib.hid how
    clear hfr how HF4 HO4
    have hsr := HFR.out.size
    by_cases hlt : j < 2
    · have hji : (j : Int) < 2 := by omega
      obtain ⟨a', A', c', k', hls, htm', hs', q0, q1, hsl'⟩ := PART.out j hlt
      have hfw : Fr No w wr := HFW.out.trans HFR.out
      have q0' : wr.cell? ⟨G, j * 2, none⟩ = some (S a') := (hfw.cell (p := ⟨G, j * 2, none⟩) hlG (fun h => h)).trans q0
      have q1' : wr.cell? ⟨G, j * 2 + 1, none⟩ = some (.slice A' k'.len c') := (hfw.cell (p := ⟨G, j * 2 + 1, none⟩) hlG (fun h => h)).trans q1
      have hlr : G < wr.heap.size := Nat.lt_of_lt_of_le hlG hfw.size
      obtain ⟨ys, HYS⟩ : ∃ z, Hid (fsT a' k' [] [] = z) := ⟨_, rfl⟩
      obtain ⟨k2, HK2⟩ : ∃ z, Hid (k'.len = z) := ⟨_, rfl⟩
      have CALL : Hid (Calls Tryz.prog 61 #[.agg #[S a', .slice A' k2 c'], .slice (some ⟨wr.heap.size, 0, none⟩) 0 0, .slice (some ⟨wr.heap.size + 1, 0, none⟩) 0 0] ((wr.alloc (.cells #[] 9)).alloc (.cells #[] 9)) fun e w' =>
          ∃ V vc, e = .returned (.slice V ys.length vc) ∧ Fr No wr w' ∧ w'.ownsRow wr.heap.size 9 1 (.slice V ys.length vc) ys.length (ys.map S)) := by
        have e0 := free_fresh wr T a' A' c' k' htm' hs' (fun b hb => Nat.lt_of_lt_of_le (HTW.out b hb) hsr) (hsl'.mono (fun _ h => h) (fun b hb => hfw.block b (HT.out b hb) (fun h => h)))
        rw [HYS.out, HK2.out] at e0
        exact e0
      rw [HYS.out] at hls
      rw [HK2.out] at q1'
      have hyl : (ls j).length + ys.length ≤ 601 := by
        have := HLEN.out (j + 1) hlt
        rw [hls.out, List.length_append] at this
        exact this
      have bnd1 : (ls j).length + ys.length ≤ maxLen := by unfold maxLen; omega
      have bnd2 : ((ls j).length + ys.length) * 16 ≤ 140737488355328 := by omega
      have HYC : Hid (∀ u ∈ ys.map S, u.oneCell' = true) := by
        intro u hu
        obtain ⟨y, _, rfl⟩ := List.mem_map.1 hu
        rfl
      have MORE : Hid (∀ (w2 w3 : World) v', Fr No wr w2 → w3.ownsRow (w.heap.size + 2) 9 1 v' ((ls j).length + ys.length) ((ls j).map S ++ ys.map S) → w2.grownBy w3 (Value.slice Vj (ls j).length vj).ownBlock → 
          ∃ V5 c5, v' = .slice V5 (ls (j + 1)).length c5 ∧ Fr No W w3 ∧ w3.ownsRow (w.heap.size + 2) 9 1 (.slice V5 (ls (j + 1)).length c5) (ls (j + 1)).length ((ls (j + 1)).map S)) := by
        intro w2 w3 v' hf2 h1 h2
        obtain ⟨V5, c5, rfl⟩ := own_form h1
        have el : (ls (j + 1)).length = (ls j).length + ys.length := by rw [hls.out, List.length_append]
        have em : (ls (j + 1)).map S = (ls j).map S ++ ys.map S := by rw [hls.out, List.map_append]
        rw [el, em]
        refine ⟨V5, c5, rfl, (HFR.out.trans hf2).grown h2 (fun b hb => .inr ?_), h1⟩
        have hg := HOW.out.lt b hb
        omega
      have HB : Hid (∀ w2 : World, Fr No wr w2 → w.heap.size + 2 ≤ w2.heap.size) := fun w2 hf => by have := hf.size; show _ ≤ _; omega
      have KEEP : Hid (∀ w2 : World, Fr No wr w2 → w2.ownsRow (w.heap.size + 2) 9 1 (.slice Vj (ls j).length vj) (ls j).length ((ls j).map S)) := fun w2 hf => own_fr HOW.out hf (fun _ _ h => h)
      generalize (ls j).length = lj at *
      obtain ⟨lj1, HL1⟩ : ∃ z, Hid ((ls (j + 1)).length = z) := ⟨_, rfl⟩
      rw [HL1.out] at MORE
      clear hls htm' hs' q0 q1 hsl' hfw hyl
      go_wp2_with fail
      refine CALL.out.mono ?_
      rintro e w2 ⟨V2, v2, rfl, hf2, ho2⟩
      have HF2 := Lib.hid hf2
      have HO2 := Lib.hid ho2
      clear hf2 ho2
      go_wp2_with (at_builtin; go_must (refine append_row rfl _ _ 53 rfl (w.heap.size + 2) 9 i0 (.string ⟨#[]⟩) 1 16 Tryz.underlying53 hi0 hz0 hz1 hz2 rfl (by decide) _ lj _ rfl (KEEP.out _ HF2.out) _ _ ys.length _ rfl HO2.out HYC.out bnd1 bnd2 (HB.out _ HF2.out) ?_); intro v' w3 hown' hgrow _; obtain ⟨V5, c5, rfl, hf5, ho5⟩ := MORE.out _ _ v' HF2.out hown' hgrow; have HF5 := Lib.hid hf5; have HO5 := Lib.hid ho5; clear hown' hgrow hf5 ho5)
      go_roundw
      case rel => exact ⟨j + 1, V5, c5, hlt, by go_num, by rw [HL1.out], HF5.out, by rw [HL1.out]; exact HO5.out⟩
      case measure => simp [intOf]; omega
    · have hj2 : j = 2 := by omega
      have hji : ¬ (j : Int) < 2 := by omega
      have how2 := HOW.out
      rw [hj2, HLE.out] at how2
      have eL : (ls j).length = tk.length := by rw [hj2, HLE.out]
      rw [eL]
      have HO := Lib.hid how2
      clear how2 eL HOW hj2
      have d0 := HB0.out.fr HFR.out (fun h => h)
      have d1 := HB1.out.fr HFR.out (fun h => h)
      have e0 : wr.cell? ⟨w.heap.size, 0, none⟩ = some (S a) := (d0.cell 0).trans rfl
      have e1 : wr.cell? ⟨w.heap.size, 1, none⟩ = some (.slice A kl c) := (d0.cell 1).trans rfl
      have el := d0.lt
      have RN : Hid (Calls Tryz.prog 62 #[.agg #[S a, .slice A kl c], .slice (some ⟨wr.heap.size, 0, none⟩) 0 0, .slice (some ⟨wr.heap.size + 1, 0, none⟩) 0 0, Ptr (wr.heap.size + 1 + 1)] (((wr.alloc (.cells #[] 9)).alloc (.cells #[] 9)).alloc (.cells #[.slice Vj tk.length vj, .int .i64 0] 85)) fun e w' =>
          ∃ A5 c5, e = .returned (.agg #[S a, .slice A5 K.len c5]) ∧ (w'.cell? ⟨w.heap.size + 1, 0, none⟩ = some (S []) ∧ w'.cell? ⟨w.heap.size + 1, 1, none⟩ = some (.slice none 0 0) ∧ w'.frozen? ⟨w.heap.size + 1, 0, none⟩ = false ∧ w'.frozen? ⟨w.heap.size + 1, 1, none⟩ = false ∧ w.heap.size + 1 < w'.heap.size) ∧
            Hid (∀ v0 v1, ApP T tk a k w (.returned (.agg #[S a, .slice A5 K.len c5])) ((w'.setCell ⟨w.heap.size + 1, 0, none⟩ v0).setCell ⟨w.heap.size + 1, 1, none⟩ v1))) := by
        have hfa : Fr No wr (((wr.alloc (.cells #[] 9)).alloc (.cells #[] 9)).alloc (.cells #[.slice Vj tk.length vj, .int .i64 0] 85)) := ((((Fr.refl _ _).alloc _).alloc _).alloc _)
        have hfw0 : Fr No w wr := HFW.out.trans HFR.out
        have hfw : Fr No w (((wr.alloc (.cells #[] 9)).alloc (.cells #[] 9)).alloc (.cells #[.slice Vj tk.length vj, .int .i64 0] 85)) := hfw0.trans hfa
        have h5 := rf_any _ k (Nat.lt_succ_self _) a A c _ T (wr.heap.size + 1 + 1) Vj vj tk 0 (some ⟨wr.heap.size, 0, none⟩) 0 [] (some ⟨wr.heap.size + 1, 0, none⟩) 0 [] HOK.out.tm HOK.out.at_ HOK.out.wf (by have := HSZ.out; omega) rfl (by have := HSZ.out; simp only [List.length_nil]; omega) (fun b hb => ⟨Nat.lt_of_lt_of_le (HT.out b hb) hfw.size, by have := HT.out b hb; omega⟩)
          (HA.out.mono (fun _ h => h) (fun b hb => hfw.block b (HT.out b hb) (fun h => h))) (Blk.new_at _ _ _ (by simp)) ((SSl.of_own HO.out).frT (T := No) hfa (fun _ _ _ h => h)) (fun b o e => by subst e; have := (HO.out.lt b rfl).2; omega) (by have := HTKL.out; omega)
          (BSl.empty _ _ (by simp <;> omega)) (fun b o e => by simp only [Option.some.injEq, Addr.mk.injEq, and_true] at e; omega) (BSl.empty _ _ (by simp <;> omega)) (fun b o e => by simp only [Option.some.injEq, Addr.mk.injEq, and_true] at e; omega) HEND.out
        rw [HKL.out, HRK.out, rnA_nil] at h5
        refine h5.mono ?_
        rintro e w' ⟨A5, c5, rfl, g1, g2, g3⟩
        have d2 := (d1.fr hfa (fun h => h)).fr g1 (fun e => by unfold One at e; omega)
        refine ⟨A5, c5, rfl, ⟨(d2.cell 0).trans rfl, (d2.cell 1).trans rfl, d2.frozen 0, d2.frozen 1, d2.lt⟩, fun v0 v1 => ?_⟩
        have hfw' : Fr No w w' := hfw.then_ g1 (fun i hi e => by unfold One at e; omega)
        rw [ApP, HK.out]
        refine ⟨A5, c5, rfl, (hfw'.setCell (p := ⟨w.heap.size + 1, 0, none⟩) (.inr (Nat.le_succ _)) v0).setCell (p := ⟨w.heap.size + 1, 1, none⟩) (.inr (Nat.le_succ _)) v1, ?_⟩
        refine g3.mono (fun b hb => hb.imp (fun h => h) (fun hb => ⟨by have := hfw.size; omega, by simp only [World.setCell]; simpa using hb.2⟩)) (fun b hb => ?_)
        have hb1 : b ≠ w.heap.size + 1 := by
          rcases hb with hb | hb
          · have := HT.out b hb; omega
          · have := hb.1; simp at this; omega
        rw [Below.heap_setCell _ ⟨w.heap.size + 1, 1, none⟩ _ _ hb1, Below.heap_setCell _ ⟨w.heap.size + 1, 0, none⟩ _ _ hb1]
      clear d0 d1
      go_wp2_with fail
      refine RN.out.mono ?_
      rintro e w6 ⟨A5, c5, rfl, ⟨r0, r1, f0, f1, rl⟩, HFIN⟩
      go_wp2_with fail
      refine bodyPost_ret (v := .agg #[S a, .slice A5 K.len c5]) (by simp [results, Tryz.results36, go_sem, cell_set_same r0, cell_set_next r1]) rfl ?_
      exact HFIN.out _ _
end Go.Proofs.YtnjgaenhjdjpfaaGreatDoor

/- l2Sub of the model. -/
namespace Go.Proofs.YtnjgaenhjdjpfaaGreatDoor
open Go.RowKit Go.ChangeMaps

def SubP (T : Nat → Prop) (x : List UInt8) (a : List UInt8) (k : Fo) (ba : List UInt8) (bk : Fo) (w : World) (e : Ending) (w' : World) : Prop :=
  ∃ A c, e = .returned (.agg #[S (sbA x ba a), .slice A (sbK x a k ba bk).len c]) ∧ Fr No w w' ∧ Sl w' (TN T w w') A (sbK x a k ba bk)

set_option maxRecDepth 100000 in
set_option maxHeartbeats 4000000 in
theorem sub_any (w : World) (T : Nat → Prop) (a : List UInt8) (A : Option Addr) (c : Nat) (k : Fo) (h : OkT a k) (hs : treeSize a k ≤ 300) (hT : ∀ b, T b → b < w.heap.size) (hA : Sl w T A k)
    (ba : List UInt8) (BA : Option Addr) (bc : Nat) (bk : Fo) (hb : OkT ba bk) (hsb : treeSize ba bk ≤ 300) (hB : Sl w T BA bk) (x : List UInt8) (hx : isName x = true) :
    Calls Tryz.prog 73 #[.agg #[S a, .slice A k.len c], S x, .agg #[S ba, .slice BA bk.len bc]] w fun e w' => SubP T x a k ba bk w e w' := by
  obtain ⟨W, hW⟩ : ∃ W, W = ((w.alloc (.cells #[S a, .slice A k.len c] 40)).alloc (.cells #[S ba, .slice BA bk.len bc] 40)).alloc (.cells #[S [], .slice none 0 0] 40) := ⟨_, rfl⟩
  have hfw : Fr No w W := by rw [hW]; exact (((Fr.refl _ _).alloc _).alloc _).alloc _
  have b0 : Blk W w.heap.size 40 #[S a, .slice A k.len c] := by rw [hW]; exact ((Blk.new _ _ _).alloc _).alloc _
  have b1 : Blk W (w.heap.size + 1) 40 #[S ba, .slice BA bk.len bc] := by rw [hW]; exact (Blk.new_at _ _ _ (by simp)).alloc _
  have b2 : Blk W (w.heap.size + 2) 40 #[S [], .slice none 0 0] := by rw [hW]; exact Blk.new_at _ _ _ (by simp)
  have hwz : W.heap.size = w.heap.size + 3 := by rw [hW]; simp
  obtain ⟨W2, hW2⟩ : ∃ W2, W2 = (W.alloc (.cells #[S ba, .slice BA bk.len bc, S x, .slice none 0 0] 40)).drew := ⟨_, rfl⟩
  have hf2 : Fr No W W2 := by rw [hW2]; exact ((Fr.refl No W).alloc _).drew
  have bg : Blk W2 W.heap.size 40 #[S ba, .slice BA bk.len bc, S x, .slice none 0 0] := by rw [hW2]; exact (Blk.new _ _ _).drew
  have hfw2 := hfw.trans hf2
  have l1 := fvs_len h.tm h.at_ h.wf
  have l2 := fvs_len hb.tm hb.at_ hb.wf
  have htk : (sbTk x a k ba bk).length = (fvs a k).length + (fvs ba bk).length + 1 := by simp [sbTk]; omega
  have hc : CnOk (sbTk x a k ba bk) a k := cn_ok2 h (by omega) ((frIn_fvs h).mono (fun y hy => List.mem_append_left _ (List.mem_append_left _ hy)))
  have hxne := (name_bytes hx).1
  obtain ⟨K5, HK5⟩ : ∃ z, Hid (cnK (sbTk x a k ba bk) a k = z) := ⟨_, rfl⟩
  obtain ⟨k5, HK5L⟩ : ∃ z, Hid (K5.len = z) := ⟨_, rfl⟩
  obtain ⟨a6, HA6⟩ : ∃ z, Hid (sbA x ba a = z) := ⟨_, rfl⟩
  obtain ⟨K6, HK6⟩ : ∃ z, Hid (sbK x a k ba bk = z) := ⟨_, rfl⟩
  obtain ⟨k6, HK6L⟩ : ∃ z, Hid (K6.len = z) := ⟨_, rfl⟩
  have hTk : ∀ w', Fr No w w' → ∀ b, T b → w'.heap[b]? = w.heap[b]? := fun w' hf b hb => hf.block b (hT b hb) (fun h => h)
  obtain ⟨kl, HKL⟩ : ∃ z, Hid (k.len = z) := ⟨_, rfl⟩
  obtain ⟨bl, HBL⟩ : ∃ z, Hid (bk.len = z) := ⟨_, rfl⟩
  have AP : Hid (∀ w', w' = W2 → Calls Tryz.prog 36 #[.agg #[S a, .slice A kl c], .slice (some ⟨W.heap.size, 0, none⟩) 2 2] w' fun e w3 =>
      ∃ A5 c5, e = .returned (.agg #[S a, .slice A5 k5 c5]) ∧
        (w3.cell? ⟨w.heap.size, 0, none⟩ = some (S a) ∧ w3.cell? ⟨w.heap.size, 1, none⟩ = some (.slice A kl c) ∧ w3.cell? ⟨w.heap.size + 1, 0, none⟩ = some (S ba) ∧ w3.cell? ⟨w.heap.size + 1, 1, none⟩ = some (.slice BA bl bc) ∧
          w3.cell? ⟨w.heap.size + 2, 0, none⟩ = some (S []) ∧ w3.cell? ⟨w.heap.size + 2, 1, none⟩ = some (.slice none 0 0) ∧ w3.frozen? ⟨w.heap.size + 2, 0, none⟩ = false ∧ w3.frozen? ⟨w.heap.size + 2, 1, none⟩ = false ∧ w.heap.size + 2 < w3.heap.size) ∧
        Hid (Calls Tryz.prog 96 #[.agg #[S a, .slice A5 k5 c5], S x, .agg #[S ba, .slice BA bl bc]] w3 fun e w4 =>
          ∃ A6 c6, e = .returned (.agg #[S a6, .slice A6 k6 c6]) ∧ (w4.cell? ⟨w.heap.size, 0, none⟩ = some (S a) ∧ w4.cell? ⟨w.heap.size, 1, none⟩ = some (.slice A kl c) ∧ w4.cell? ⟨w.heap.size + 1, 0, none⟩ = some (S ba) ∧ w4.cell? ⟨w.heap.size + 1, 1, none⟩ = some (.slice BA bl bc) ∧
          w4.cell? ⟨w.heap.size + 2, 0, none⟩ = some (S []) ∧ w4.cell? ⟨w.heap.size + 2, 1, none⟩ = some (.slice none 0 0) ∧ w4.frozen? ⟨w.heap.size + 2, 0, none⟩ = false ∧ w4.frozen? ⟨w.heap.size + 2, 1, none⟩ = false ∧ w.heap.size + 2 < w4.heap.size) ∧
            Hid (∀ v0 v1, SubP T x a k ba bk w (.returned (.agg #[S a6, .slice A6 k6 c6])) ((w4.setCell ⟨w.heap.size + 2, 0, none⟩ v0).setCell ⟨w.heap.size + 2, 1, none⟩ v1)))) := by
    intro w' hw'
    rw [← HKL.out, ← HBL.out, hw']
    have h1 := apart2_any W2 T a A c k h hs (fun b hb => Nat.lt_of_lt_of_le (hT b hb) hfw2.size) (hA.mono (fun _ h => h) (hTk _ hfw2)) ba BA bc bk hb hsb (hB.mono (fun _ h => h) (hTk _ hfw2)) x hx W.heap.size 2
      ((bg.cell 0).trans rfl) ((bg.cell 1).trans rfl) ((bg.cell 2).trans rfl) ((bg.cell 3).trans rfl)
    refine h1.mono ?_
    rintro e w3 ⟨A5, c5, rfl, g1, g2⟩
    rw [HK5.out] at g2 ⊢
    have d0 := (b0.fr hf2 (fun h => h)).fr g1 (fun h => h)
    have d1 := (b1.fr hf2 (fun h => h)).fr g1 (fun h => h)
    have d2 := (b2.fr hf2 (fun h => h)).fr g1 (fun h => h)
    refine ⟨A5, c5, by rw [HK5L.out], ⟨(d0.cell 0).trans rfl, (d0.cell 1).trans rfl, (d1.cell 0).trans rfl, (d1.cell 1).trans rfl, (d2.cell 0).trans rfl, (d2.cell 1).trans rfl, d2.frozen 0, d2.frozen 1, d2.lt⟩, ?_⟩
    have hf3 := hfw2.trans g1
    have hT3 : ∀ b, TN T W2 w3 b → b < w3.heap.size := fun b hb => hb.elim (fun h => Nat.lt_of_lt_of_le (hT b h) hf3.size) (fun h => h.2)
    have hz5 : treeSize a K5 ≤ 300 := by rw [← HK5.out, hc.size]; exact hs
    have h2 := pf_any x ba bk hxne _ K5 (Nat.lt_succ_self _) a A5 c5 w3 (TN T W2 w3) BA bc (by rw [← HK5.out]; exact hc.tm) (by rw [← HK5.out]; exact hc.at_) (by rw [← HK5.out]; exact hc.wf) (by omega) hT3 g2 (hB.mono (fun _ h => .inl h) (hTk _ hf3))
    rw [HK5L.out] at h2
    refine Lib.hid (h2.mono ?_)
    rintro e w4 ⟨A6, c6, rfl, p1, p2⟩
    have ea : ptA x ba a = a6 := HA6.out
    have ek : ptK x ba bk a K5 = K6 := by rw [← HK6.out, ← HK5.out]; rfl
    rw [ek] at p2
    have q0 := d0.fr p1 (fun h => h)
    have q1 := d1.fr p1 (fun h => h)
    have q2 := d2.fr p1 (fun h => h)
    refine ⟨A6, c6, by rw [ea, ek, HK6L.out], ⟨(q0.cell 0).trans rfl, (q0.cell 1).trans rfl, (q1.cell 0).trans rfl, (q1.cell 1).trans rfl, (q2.cell 0).trans rfl, (q2.cell 1).trans rfl, q2.frozen 0, q2.frozen 1, q2.lt⟩, fun v0 v1 => ?_⟩
    have hf4 := hf3.trans p1
    rw [SubP, HA6.out, HK6.out]
    refine ⟨A6, c6, by rw [HK6L.out], (hf4.setCell (p := ⟨w.heap.size + 2, 0, none⟩) (.inr (by show w.heap.size ≤ w.heap.size + 2; omega)) v0).setCell (p := ⟨w.heap.size + 2, 1, none⟩) (.inr (by show w.heap.size ≤ w.heap.size + 2; omega)) v1, ?_⟩
    have hs2 := hf2.size
    have hs3 := g1.size
    refine p2.mono (fun b hb => ?_) (fun b hb => ?_)
    · have hz : ((w4.setCell ⟨w.heap.size + 2, 0, none⟩ v0).setCell ⟨w.heap.size + 2, 1, none⟩ v1).heap.size = w4.heap.size := by simp [World.setCell]
      rcases hb with (hb | hb) | hb
      · exact .inl hb
      · exact .inr ⟨by omega, by rw [hz]; have := p1.size; omega⟩
      · exact .inr ⟨by omega, by rw [hz]; exact hb.2⟩
    · have hb1 : b ≠ w.heap.size + 2 := by
        rcases hb with (hb | hb) | hb
        · have := hT b hb; omega
        · omega
        · omega
      rw [Below.heap_setCell _ ⟨w.heap.size + 2, 1, none⟩ _ _ hb1, Below.heap_setCell _ ⟨w.heap.size + 2, 0, none⟩ _ _ hb1]
  have c00 : W.cell? ⟨w.heap.size, 0, none⟩ = some (S a) := (b0.cell 0).trans rfl
  have c01 : W.cell? ⟨w.heap.size, 1, none⟩ = some (.slice A k.len c) := (b0.cell 1).trans rfl
  have c10 : W.cell? ⟨w.heap.size + 1, 0, none⟩ = some (S ba) := (b1.cell 0).trans rfl
  have c11 : W.cell? ⟨w.heap.size + 1, 1, none⟩ = some (.slice BA bk.len bc) := (b1.cell 1).trans rfl
  have c20 : W.cell? ⟨w.heap.size + 2, 0, none⟩ = some (S []) := (b2.cell 0).trans rfl
  have c21 : W.cell? ⟨w.heap.size + 2, 1, none⟩ = some (.slice none 0 0) := (b2.cell 1).trans rfl
  have f20 := b2.frozen 0
  have f21 := b2.frozen 1
  have l20 := b2.lt
  rw [HKL.out] at c01 hW ⊢
  rw [HBL.out] at c11 hW hW2 ⊢
  have HW2 := Lib.hid hW2
  have HW := Lib.hid hW
  clear h hs hT hA hb hsb hB hx hfw b0 b1 b2 hf2 bg hfw2 l1 l2 htk hc hxne hTk hW2 hW hwz
  obtain ⟨B1, hB1⟩ : ∃ z, w.heap.size + 1 = z := ⟨_, rfl⟩
  obtain ⟨B2, hB2⟩ : ∃ z, w.heap.size + 2 = z := ⟨_, rfl⟩
  have n1 : w.heap.size ≠ B2 := by omega
  have n2 : B1 ≠ B2 := by omega
  have n3 : B2 ≠ w.heap.size := by omega
  have n4 : B2 ≠ B1 := by omega
  have hB3 : w.heap.size + 1 + 1 = B2 := hB2
  rw [hB1, hB2] at AP
  rw [hB1] at c10 c11
  rw [hB2] at c20 c21 f20 f21 l20
  have HB1 := Lib.hid hB1
  have HB3 := Lib.hid hB3
  clear hB1 hB2 hB3
  go_enter Tryz.func73, Tryz.ntmps73
  go_wp2_with fail
  rw [← HW.out, HB3.out, HB1.out]
  go_region_held3 (fun w' => w'.cell? ⟨w.heap.size, 0, none⟩ = some (S a) ∧ w'.cell? ⟨w.heap.size, 1, none⟩ = some (.slice A kl c) ∧ w'.cell? ⟨B1, 0, none⟩ = some (S ba) ∧ w'.cell? ⟨B1, 1, none⟩ = some (.slice BA bl bc)) (go_keep)
    (first
      | (go_at_call 36; ((with_reducible refine (AP.out _ HW2.out.symm).mono ?_); rintro e w3 ⟨A5, c5, rfl, ⟨s0, s1, s2, s3, s4, s5, s6, s7, s8⟩, HPT⟩))
      | (go_at_call 96; ((with_reducible refine HPT.out.mono ?_); rintro e w4 ⟨A6, c6, rfl, ⟨t0, t1, t2, t3, t4, t5, t6, t7, t8⟩, FIN⟩)))
  go_wp2_with fail
  refine bodyPost_ret (v := .agg #[S a6, .slice A6 k6 c6]) (by simp [results, Tryz.results73, go_sem, cell_set_same t4, cell_set_next t5]) rfl ?_
  exact FIN.out _ _
end Go.Proofs.YtnjgaenhjdjpfaaGreatDoor
