/- Free names of the model; TermFree of both. · Free names of the model's terms: terms that have parts. · TermFree of the program and of the model. · The law TermFree. -/
import Derived.Test.YtnjgaenhjdjpfaaGreatDoorTfree
import Derived.Test.YtnjgaenhjdjpfaaGreatDoorLawT2
import Derived.Test.YtnjgaenhjdjpfaaGreatDoorS2term
import Derived.Test.YtnjgaenhjdjpfaaGreatDoorMark
/- Free names of the model; TermFree of both. -/
namespace Go.Proofs.YtnjgaenhjdjpfaaGreatDoor
open Go.RowKit Go.ChangeMaps

theorem SSl.fr {w w' : World} {A : Option Addr} {xs : List (List UInt8)} {T : Nat → Prop} (h : SSl w A xs) (hf : Fr T w w') (hT : ∀ g o, A = some ⟨g, o, none⟩ → ¬ T g) : SSl w' A xs := by
  intro j x hj
  obtain ⟨g, o, e, hc⟩ := h j x hj
  exact ⟨g, o, e, (hf.cell (p := ⟨g, o + j, none⟩) (block_lt hc) (hT g o e)).trans hc⟩

theorem own_empty (w : World) (B : Nat) (h : B ≤ w.heap.size) (o : Obj) (ho : o = .cells #[] 9) : (w.alloc o).ownsRow B 9 1 (.slice (some ⟨w.heap.size, 0, none⟩) 0 0) 0 [] := by
  subst ho
  exact ⟨rfl, .inr ⟨w.heap.size, 0, #[], rfl, h, heap_alloc_new w _, Nat.le_refl _, Nat.zero_le _, rfl, rfl⟩⟩

/-- the bound names lie in a block that is there -/
def BSl (w : World) (A : Option Addr) (bd : List (List UInt8)) : Prop := SSl w A bd ∧ ∃ g o, A = some ⟨g, o, none⟩ ∧ g < w.heap.size

theorem BSl.fr {w w' : World} {A : Option Addr} {xs : List (List UInt8)} {T : Nat → Prop} (h : BSl w A xs) (hf : Fr T w w') (hT : ∀ g o, A = some ⟨g, o, none⟩ → ¬ T g) : BSl w' A xs := by
  obtain ⟨h1, g, o, e, h2⟩ := h
  exact ⟨h1.fr hf hT, g, o, e, Nat.lt_of_lt_of_le h2 hf.size⟩

set_option maxHeartbeats 1000000 in
theorem with_any (w : World) (A : Option Addr) (bd : List (List UInt8)) (c : Nat) (x : List UInt8) (g1 : Nat) (hb : BSl w A bd) (hx : w.cell? ⟨g1, 0, none⟩ = some (S x)) (hl : bd.length ≤ 100000) :
    Calls Tryz.prog 89 #[.slice A bd.length c, .slice (some ⟨g1, 0, none⟩) 1 1] w fun e w' => ∃ A' c', e = .returned (.slice A' (bd ++ [x]).length c') ∧ BSl w' A' (bd ++ [x]) ∧ (∀ g o, A' = some ⟨g, o, none⟩ → w.heap.size ≤ g) ∧ Fr No w w' := by
  obtain ⟨hsl, g, o, rfl, hg⟩ := hb
  obtain ⟨i0, hi0, hz0, hz1, hz2⟩ := info_parts info_str
  have hg1 := block_lt hx
  have HO : Hid (∀ ob : Obj, ob = .cells #[] 9 → (w.alloc ob).ownsRow w.heap.size 9 1 (.slice (some ⟨w.heap.size, 0, none⟩) 0 0) 0 []) := fun ob e => own_empty w _ (Nat.le_refl _) ob e
  have HC1 : Hid (∀ ob : Obj, ∀ (j : Nat) (u : Value), (bd.map S)[j]? = some u → (w.alloc ob).cell? ((⟨g, o, none⟩ : Addr).add j) = some u) := by
    intro ob j u hj
    rw [List.getElem?_map] at hj
    obtain ⟨y, hy, rfl⟩ := Option.map_eq_some_iff.1 hj
    obtain ⟨g', o', e, hc⟩ := (hsl.fr (T := No) ((Fr.refl _ w).alloc ob) (fun _ _ _ h => h)) j y hy
    simp only [Option.some.injEq, Addr.mk.injEq, and_true] at e
    obtain ⟨rfl, rfl⟩ := e
    rw [addr_add]
    exact hc
  have HC2 : Hid (∀ u ∈ bd.map S, u.oneCell' = true) := by
    intro u hu
    obtain ⟨y, _, rfl⟩ := List.mem_map.1 hu
    rfl
  have HL1 : Hid ((bd.map S).length = bd.length * 1) := by refine Lib.hid ?_; rw [List.length_map, Nat.mul_one]
  have HC3 : Hid (∀ u ∈ [S x], u.oneCell' = true) := by
    intro u hu
    simp at hu
    rw [hu]; rfl
  have bnd : (0 + bd.length) * 16 ≤ 140737488355328 := by omega
  have bnd2 : 0 + bd.length ≤ maxLen := by unfold maxLen; omega
  have bnd3 : (0 + bd.length + 1) * 16 ≤ 140737488355328 := by omega
  have bnd4 : 0 + bd.length + 1 ≤ maxLen := by unfold maxLen; omega
  have HB : Hid (∀ ob : Obj, w.heap.size ≤ (w.alloc ob).heap.size) := fun ob => by simp
  have SECOND : Hid (∀ (ob : Obj) (v' : Value) (w2 : World), w2.ownsRow w.heap.size 9 1 v' (0 + bd.length) ([] ++ bd.map S) → (w.alloc ob).grownBy w2 (some w.heap.size) →
      Fr No w w2 ∧ (∀ (j : Nat) (u : Value), [S x][j]? = some u → w2.cell? ((⟨g1, 0, none⟩ : Addr).add j) = some u)) := by
    intro ob v' w2 h1 h2
    have hf : Fr No w w2 := ((Fr.refl _ w).alloc ob).grown h2 (fun b hb => .inr (by injection hb with hb; omega))
    refine ⟨hf, fun j u hj => ?_⟩
    match j, hj with
    | 0, hj =>
      simp at hj
      subst hj
      exact (hf.cell (p := ⟨g1, 0, none⟩) hg1 (fun h => h)).trans hx
  have FIN : Hid (∀ (v1 v' : Value) (w2 w3 : World), Fr No w w2 → w2.ownsRow w.heap.size 9 1 v1 (0 + bd.length) ([] ++ bd.map S) → w3.ownsRow w.heap.size 9 1 v' (0 + bd.length + 1) ([] ++ bd.map S ++ [S x]) → w2.grownBy w3 v1.ownBlock →
      ∃ A' c', Ending.returned v' = .returned (.slice A' (bd ++ [x]).length c') ∧ BSl w3 A' (bd ++ [x]) ∧ (∀ g o, A' = some ⟨g, o, none⟩ → w.heap.size ≤ g) ∧ Fr No w w3) := by
    intro v1 v' w2 w3 hf h0 h1 h2
    obtain ⟨A', c', rfl⟩ := own_form h1
    have e1 : [] ++ bd.map S ++ [S x] = (bd ++ [x]).map S := by simp
    have e2 : (bd ++ [x]).length = 0 + bd.length + 1 := by simp
    rw [e1, ← e2] at h1
    refine ⟨A', c', by rw [e2], ⟨SSl.of_own h1, ?_⟩, ?_, hf.grown h2 (fun b hb => .inr (h0.lt b hb).1)⟩
    · rcases h1.2 with ⟨_, hn⟩ | ⟨g2, cap, cur, hv, _⟩
      · simp at hn
      · injection hv with e1 e2 e3
        exact ⟨g2, 0, e1, (h1.lt g2 (by rw [e1]; rfl)).2⟩
    · intro g2 o2 e
      exact (h1.lt g2 (by rw [e]; rfl)).1
  clear hsl hx
  go_enter Tryz.func89, Tryz.ntmps89
  go_wp2_with (first | (at_builtin; (refine wpList_append_own_at _ rfl _ _ 53 rfl w.heap.size 9 i0 (.string ⟨#[]⟩) 1 16 Tryz.underlying53 hi0 hz0 hz1 hz2 rfl (by decide) _ 0 [] rfl (HO.out _ rfl) ⟨g, o, none⟩ bd.length c (bd.map S) rfl HL1.out (HC1.out _) HC2.out bnd2 bnd (HB.out _) ?_); intro v' w2 hown' hgrow _ hloc; obtain ⟨hf2, hnx⟩ := SECOND.out _ v' w2 hown' hgrow; have HOW := Lib.hid hown'; have HF2 := Lib.hid hf2; have hb2 : Hid (w.heap.size ≤ w2.heap.size) := hf2.size; have HNX := Lib.hid hnx; clear hown' hgrow hloc hf2 hnx) | (at_builtin; go_must (refine wpList_append_own_at _ rfl _ _ 53 rfl w.heap.size 9 i0 (.string ⟨#[]⟩) 1 16 Tryz.underlying53 hi0 hz0 hz1 hz2 rfl (by decide) _ (0 + bd.length) ([] ++ bd.map S) rfl HOW.out ⟨g1, 0, none⟩ 1 1 [S x] rfl rfl HNX.out HC3.out bnd4 bnd3 hb2.out ?_); intro v3 w3 hown3 hgrow3 _ hloc3; have HF := Lib.hid (FIN.out _ v3 w2 w3 HF2.out HOW.out hown3 hgrow3); clear hown3 hgrow3 hloc3))
  go_ret
  exact HF.out

def FsSaid (k : Fo) : Prop := ∀ (a : List UInt8) (A : Option Addr) (c : Nat) (w : World) (T : Nat → Prop) (B : Nat) (V : Option Addr) (vc : Nat) (l : List (List UInt8)) (VB : Option Addr) (vb : Nat) (bd : List (List UInt8)),
  isTm a k = true → treeSize a k ≤ 5000 → l.length + treeSize a k ≤ 100000 → bd.length + treeSize a k ≤ 100000 → B ≤ w.heap.size → (∀ b, T b → b < w.heap.size ∧ (Value.slice V l.length vc).ownBlock ≠ some b) → Sl w T A k →
  BSl w VB bd → (∀ g o, VB = some ⟨g, o, none⟩ → (Value.slice V l.length vc).ownBlock ≠ some g) → w.ownsRow B 9 1 (.slice V l.length vc) l.length (l.map S) →
  Calls Tryz.prog 61 #[.agg #[S a, .slice A k.len c], .slice VB bd.length vb, .slice V l.length vc] w fun e w' => AddL B (fsT a k bd l) w (.slice V l.length vc) e w'

set_option maxRecDepth 100000 in
set_option maxHeartbeats 1000000 in
theorem fs_atom (k : Fo) (a : List UInt8) (A : Option Addr) (c : Nat) (w : World) (B : Nat) (V : Option Addr) (vc : Nat) (l : List (List UInt8)) (VB : Option Addr) (vb : Nat) (bd : List (List UInt8)) (ha : a ≠ []) (hal : a.length ≤ 6000)
    (hl : l.length ≤ 100000) (hbl : bd.length ≤ 100000) (hB : B ≤ w.heap.size) (hb : BSl w VB bd) (ho : w.ownsRow B 9 1 (.slice V l.length vc) l.length (l.map S)) :
    Calls Tryz.prog 61 #[.agg #[S a, .slice A k.len c], .slice VB bd.length vb, .slice V l.length vc] w fun e w' => AddL B (fsT a k bd l) w (.slice V l.length vc) e w' := by
  have hae : a.isEmpty = false := by cases a; exact absurd rfl ha; rfl
  have HF : Hid (fsT a k bd l = if isName a = false ∨ a ∈ bd ∨ a ∈ l then l else l ++ [a]) := by
    refine Lib.hid ?_
    unfold fsT
    rw [if_neg ha]
  have NM := Lib.hid (fun w => name2_any a w hal)
  have HO := Lib.hid ho
  have HB := Lib.hid hB
  have b0 := Blk.new w 40 #[S a, .slice A k.len c]
  have SAME : Hid (∀ o : Obj, (isName a = false ∨ a ∈ bd ∨ a ∈ l) → AddL B (fsT a k bd l) w (.slice V l.length vc) (.returned (.slice V l.length vc)) (w.alloc o)) := by
    intro o h
    rw [HF.out, if_pos h]
    exact ⟨V, vc, rfl, (Fr.refl _ w).alloc o, HO.out.alloc o, .inl rfl⟩
  have HBD : Hid (∀ o : Obj, Calls Tryz.prog 87 #[.slice VB bd.length vb, S a] (w.alloc o) fun e w' => HasS bd a (w.alloc o) e w') := fun o => has_any _ VB bd vb a (hb.1.fr (T := No) ((Fr.refl _ w).alloc o) (fun _ _ _ h => h)) (by omega)
  have HLI : Hid (∀ o : Obj, Calls Tryz.prog 87 #[.slice V l.length vc, S a] (w.alloc o) fun e w' => HasS l a (w.alloc o) e w') := fun o => has_any _ V l vc a (SSl.of_own (ho.alloc o)) (by omega)
  have c0 : (w.alloc (.cells #[S a, .slice A k.len c] 40)).cell? ⟨w.heap.size, 0, none⟩ = some (S a) := (b0.cell 0).trans rfl
  clear ho hB hb b0 ha
  generalize k.len = kl at *
  go_enter Tryz.func61, Tryz.ntmps61
  go_wp2_with fail
  refine (NM.out _).mono ?_
  rintro e w' ⟨rfl, rfl⟩
  rcases hq : isName a with _ | _
  · have HS := Lib.hid (SAME.out (.cells #[S a, .slice A kl c] 40) (.inl hq))
    clear hq
    go_wp2_with fail
    go_ret
    exact HS.out
  have HQ := Lib.hid hq
  clear hq
  go_wp2_with fail
  refine (HBD.out _).mono ?_
  rintro e w' ⟨bb, rfl, hbb, rfl⟩
  cases bb
  rotate_left
  · have HS := Lib.hid (SAME.out (.cells #[S a, .slice A kl c] 40) (.inr (.inl (hbb.1 rfl))))
    clear hbb
    go_wp2_with fail
    go_ret
    exact HS.out
  have N1 : Hid (a ∉ bd) := fun h => by have := hbb.2 h; cases this
  clear hbb
  go_wp2_with fail
  refine (HLI.out _).mono ?_
  rintro e w' ⟨bb, rfl, hbb, rfl⟩
  cases bb
  rotate_left
  · have HS := Lib.hid (SAME.out (.cells #[S a, .slice A kl c] 40) (.inr (.inr (hbb.1 rfl))))
    clear hbb
    go_wp2_with fail
    go_ret
    exact HS.out
  have N2 : Hid (a ∉ l) := fun h => by have := hbb.2 h; cases this
  clear hbb
  have HE : Hid (fsT a k bd l = l ++ [a]) := by
    refine Lib.hid ?_
    rw [HF.out, if_neg]
    rintro (h | h | h)
    · rw [HQ.out] at h; cases h
    · exact N1.out h
    · exact N2.out h
  obtain ⟨i0, hi0, hz0, hz1, hz2⟩ := info_parts info_str
  have HOA : Hid (∀ o o' : Obj, ((w.alloc o).alloc o').ownsRow B 9 1 (.slice V l.length vc) l.length (l.map S)) := fun o o' => (HO.out.alloc o).alloc o'
  have HC1 : Hid (∀ o : Obj, ∀ (j : Nat) (u : Value), [S a][j]? = some u → ((w.alloc o).alloc (.cells #[S a] 9)).cell? ((⟨w.heap.size + 1, 0, none⟩ : Addr).add j) = some u) := fun o => cells_new (w := w.alloc o) (by simp) [S a] 9
  have HC2 : Hid (∀ u ∈ [S a], u.oneCell' = true) := by
    intro u hu
    simp at hu
    rw [hu]; rfl
  have HC5 : Hid (∀ o o' : Obj, B ≤ ((w.alloc o).alloc o').heap.size) := fun o o' => by have := HB.out; simp; omega
  have bnd : (l.length + 1) * 16 ≤ 140737488355328 := by omega
  have bnd2 : l.length + 1 ≤ maxLen := by unfold maxLen; omega
  have FIN : Hid (∀ (o o' : Obj) (v' : Value) (w2 : World), w2.ownsRow B 9 1 v' (l.length + 1) (l.map S ++ [S a]) → ((w.alloc o).alloc o').grownBy w2 (Value.slice V l.length vc).ownBlock →
      (v'.ownBlock = (Value.slice V l.length vc).ownBlock ∨ v'.ownBlock = some ((w.alloc o).alloc o').heap.size) → AddL B (fsT a k bd l) w (.slice V l.length vc) (.returned v') w2) := by
    intro o o' v' w2 h1 h2 h3
    rw [HE.out]
    exact AddL.snoc (((Fr.refl _ w).alloc o).alloc o') h1 h2 h3
  go_wp2_with (at_builtin; go_must (refine wpList_append_own_at _ rfl _ _ 53 rfl B 9 i0 (.string ⟨#[]⟩) 1 16 Tryz.underlying53 hi0 hz0 hz1 hz2 rfl (by decide) _ l.length (l.map S) rfl (HOA.out _ _) ⟨w.heap.size + 1, 0, none⟩ 1 1 [S a] rfl rfl (HC1.out _) HC2.out bnd2 bnd (HC5.out _ _) ?_); intro v' w2 hown' hgrow _ hloc; have HG := Lib.hid (FIN.out _ _ v' w2 hown' hgrow hloc); clear hown' hgrow hloc)
  go_ret
  exact HG.out
end Go.Proofs.YtnjgaenhjdjpfaaGreatDoor

/- Free names of the model's terms: terms that have parts. -/
namespace Go.Proofs.YtnjgaenhjdjpfaaGreatDoor
open Go.RowKit Go.ChangeMaps

theorem fs_step {f : Fo} {j i : Nat} {a h b : List UInt8} {k : Fo} {bd l : List (List UInt8)} (e : f.nth j = some (a, k)) : fsU (f.from_ j) (.kids bd h b i) l = fsU (f.from_ (j + 1)) (.kids bd h b (i + 1)) (if innB h i = true then fsT a k (inB bd h b i) l else l) := by
  rw [Fo.from_nth f j a k e]
  rfl

theorem fst_len (a : List UInt8) (k : Fo) (bd l : List (List UInt8)) : (fsT a k bd l).length ≤ l.length + treeSize a k := by
  unfold fsT treeSize
  by_cases ha : a = []
  · rw [if_pos ha, if_pos ha]
    exact fs_len k _ l
  · rw [if_neg ha, if_neg ha]
    split <;> simp

set_option maxRecDepth 100000 in
set_option maxHeartbeats 2000000 in
theorem fs_node (h : List UInt8) (k0 r : Fo) (hN : ∀ a' k' j, (Fo.cons h k0 r).nth j = some (a', k') → FsSaid k') (A : Option Addr) (c : Nat) (w : World) (T : Nat → Prop) (B : Nat) (V : Option Addr) (vc : Nat) (l : List (List UInt8)) (VB : Option Addr) (vb : Nat) (bd : List (List UInt8))
    (htm : isTms none (.cons h k0 r) = true) (hs : (Fo.cons h k0 r).size ≤ 5000) (hls : l.length + (Fo.cons h k0 r).size ≤ 100000) (hbs : bd.length + (Fo.cons h k0 r).size ≤ 100000) (hB : B ≤ w.heap.size) (hT : ∀ b, T b → b < w.heap.size ∧ (Value.slice V l.length vc).ownBlock ≠ some b) (hA : Sl w T A (.cons h k0 r))
    (hbd : BSl w VB bd) (hbv : ∀ g o, VB = some ⟨g, o, none⟩ → (Value.slice V l.length vc).ownBlock ≠ some g) (ho : w.ownsRow B 9 1 (.slice V l.length vc) l.length (l.map S)) :
    Calls Tryz.prog 61 #[.agg #[S [], .slice A (Fo.cons h k0 r).len c], .slice VB bd.length vb, .slice V l.length vc] w fun e w' => AddL B (fsU (.cons h k0 r) (.top bd) l) w (.slice V l.length vc) e w' := by
  have HN := Lib.hid hN
  clear hN
  simp only [isTms, Bool.and_eq_true] at htm
  obtain ⟨hsn, htm⟩ := htm
  have hrl := isTms_len _ _ htm
  have hsl := shape_short h
  have hs1 : 1 ≤ (shapeOf h).length := by
    cases hq : shapeOf h with
    | nil => rw [hq] at hsn; cases hsn
    | cons => simp
  have HTM := Lib.hid htm
  clear htm hsn
  have hrz : 1 + r.size ≤ (Fo.cons h k0 r).size := by
    have hh : h ≠ [] := by
      rintro rfl
      have : shapeOf [] = [] := rfl
      rw [this] at hs1; simp at hs1
    simp only [Fo.size, if_neg hh]
    omega
  obtain ⟨res, HRES⟩ : ∃ t, Hid (fsU r (.kids bd h (hd1 r) 1) l = t) := ⟨_, rfl⟩
  rw [show fsU (.cons h k0 r) (.top bd) l = res from HRES.out]
  obtain ⟨n, nk, r', HR⟩ : ∃ n nk r', Hid (r = .cons n nk r') := by
    cases r with
    | nil => simp [Fo.len] at hrl; omega
    | cons n nk r' => exact ⟨n, nk, r', rfl⟩
  have hn1 : Hid (hd1 r = n) := by rw [HR.out]; exact rfl
  obtain ⟨m, HM⟩ : ∃ m, Hid (m = (shapeOf h).length) := ⟨_, rfl⟩
  obtain ⟨L, HL⟩ : ∃ L, Hid ((Fo.cons h k0 r).len = L) := ⟨_, rfl⟩
  have HLM : Hid (L = m + 1) := by
    have h1 := HL.out
    have h2 := HM.out
    show L = m + 1
    simp only [Fo.len] at h1
    omega
  have HRL : Hid (r.len = m) := by
    have h2 := HM.out
    show r.len = m
    omega
  rw [← HM.out] at hsl hs1
  rw [HL.out]
  clear hrl
  have b0 := Blk.new w 40 #[S [], .slice A L c]
  have HB := Lib.hid hB
  have HT := Lib.hid hT
  have HA := Lib.hid hA
  have HO := Lib.hid ho
  have HBD := Lib.hid hbd
  have HBV := Lib.hid hbv
  have HVL : Hid (∀ b, (Value.slice V l.length vc).ownBlock = some b → b < w.heap.size) := fun b hb => (ho.lt b hb).2
  obtain ⟨bl, HBL⟩ : ∃ bl, Hid (bd.length = bl) := ⟨_, rfl⟩
  rw [HBL.out]
  have hbl : bl + (Fo.cons h k0 r).size ≤ 100000 := by have := HBL.out; omega
  clear hB hT hA ho hbd hbv hbs
  go_enter Tryz.func61, Tryz.ntmps61
  go_wp2_with fail
  go_loopw [2, 7] (fun v i wr => ∃ (j : Nat) (l' : List (List UInt8)) (A' : Option Addr) (c' : Nat), j ≤ m ∧ i = .int .i64 ((j + 1 : Nat) : Int) ∧ v = .slice A' l'.length c' ∧ fsU (r.from_ j) (.kids bd h (hd1 r) (j + 1)) l' = res ∧ l'.length ≤ l.length + r.sizeTo j ∧
      Fr (fun b => (Value.slice V l.length vc).ownBlock = some b) w wr ∧ Blk wr w.heap.size 40 #[S [], .slice A L c] ∧ wr.ownsRow B 9 1 (.slice A' l'.length c') l'.length (l'.map S) ∧
      ((Value.slice A' l'.length c').ownBlock = (Value.slice V l.length vc).ownBlock ∨ ∀ b, (Value.slice A' l'.length c').ownBlock = some b → w.heap.size + 1 ≤ b)) (fun _ i _ => m + 1 - (intOf i).toNat)
  case atStart => exact ⟨0, l, V, vc, Nat.zero_le _, rfl, rfl, by rw [Fo.from_zero]; exact HRES.out, by omega, (Fr.refl _ _).alloc _, b0, HO.out.alloc _, .inl rfl⟩
  case round =>
    obtain ⟨j, l', A', c', hj, rfl, rfl, hsum, hll, hfr, hb, hown, hloc⟩ := hrel
    have HS := Lib.hid hsum
    have HW := Lib.hid hown
    have HLO := Lib.hid hloc
    have HLL := Lib.hid hll
    have HFR := Lib.hid hfr
    have HBK := Lib.hid hb
    have HNB : Hid (∀ b, b < w.heap.size + 1 → (Value.slice V l.length vc).ownBlock ≠ some b → (Value.slice A' l'.length c').ownBlock ≠ some b) := by
      intro b hb hv e
      rcases hloc with h1 | h1
      · exact hv (h1 ▸ e)
      · have := h1 b e; omega
    have HBX : Hid ((Value.slice A' l'.length c').ownBlock ≠ some w.heap.size) := HNB.out _ (by omega) (fun e => by have := HVL.out _ e; omega)
    have c1 : wr.cell? ⟨w.heap.size, 1, none⟩ = some (.slice A L c) := (hb.cell 1).trans rfl
    have c0 : wr.cell? ⟨w.heap.size, 0, none⟩ = some (S []) := (hb.cell 0).trans rfl
    have hlw := hb.lt
    clear hsum hown hloc hll hfr hb
    by_cases hlt : j < m
    · have HTw : Hid (∀ b, T b → b < wr.heap.size ∧ (Value.slice A' l'.length c').ownBlock ≠ some b) := fun b hb => ⟨Nat.lt_of_lt_of_le (HT.out b hb).1 HFR.out.size, HNB.out b (by have := (HT.out b hb).1; omega) (HT.out b hb).2⟩
      have hAr : Sl wr T A (.cons h k0 r) := HA.out.mono (fun _ h => h) (fun b hb => HFR.out.block b (HT.out b hb).1 (HT.out b hb).2)
      obtain ⟨g, o, a', k', A2, c2, rfl, hg, hn, q0, q1, hsl'⟩ := hAr.nth (j := j + 1) (by rw [HL.out, HLM.out]; omega)
      have hnr : r.nth j = some (a', k') := hn
      have hlg := block_lt q0
      obtain ⟨b, hbj⟩ : ∃ b, (shapeOf h)[j]? = some b := ⟨_, List.getElem?_eq_getElem (by rw [← HM.out]; exact hlt)⟩
      have hok := isTms_at r _ j a' k' b HTM.out hnr hbj
      have hst := fs_step (h := h) (b := hd1 r) (i := j + 1) (bd := bd) (l := l') hnr
      have hin : innB h (j + 1) = b := by
        unfold innB
        rw [show j + 1 - 1 = j by omega, hbj]
        cases b <;> rfl
      rw [hin] at hst
      have hz := Fo.nth_size hnr
      have hzs := Fo.sizeTo_succ r j a' k' hnr
      have hzl := Fo.sizeTo_le r (j + 1)
      have IN : Hid (Calls Tryz.prog 47 #[.agg #[S [], .slice (some ⟨g, o, none⟩) L c], .int .i64 ((j + 1 : Nat) : Int)] wr fun e w' => e = .returned (.bool b) ∧ Fr No wr w') :=
        HL.out ▸ inner_any wr T [] h k0 r _ c (j + 1) b (by omega) hbj hAr
      have hjc : (j : Int) + 1 < (L : Int) := by have := HLM.out; omega
      have hjn : j + 1 < L := by have := HLM.out; omega
      cases b
      · have HTT : Hid (fsU (r.from_ (j + 1)) (.kids bd h (hd1 r) (j + 1 + 1)) l' = res) := by
          have := HS.out
          rw [hst] at this
          exact this
        have HZ : Hid (l'.length ≤ l.length + r.sizeTo (j + 1)) := by
          have := HLL.out
          show _ ≤ _
          omega
        clear hst hin hz hzs hzl hn hnr hbj hok
        go_wp2_with fail
        refine IN.out.mono ?_
        rintro e w1 ⟨rfl, hf1⟩
        have REL : Hid (Fr (fun b => (Value.slice V l.length vc).ownBlock = some b) w w1 ∧ Blk w1 w.heap.size 40 #[S [], .slice (some ⟨g, o, none⟩) L c] ∧ w1.ownsRow B 9 1 (.slice A' l'.length c') l'.length (l'.map S)) :=
          ⟨HFR.out.then_ hf1 (fun _ _ h => h.elim), HBK.out.fr hf1 (fun h => h), own_fr HW.out hf1 (fun _ _ h => h)⟩
        clear hf1
        go_wp2_with fail
        go_roundw
        case rel => exact ⟨j + 1, l', A', c', by omega, by go_num, rfl, HTT.out, HZ.out, REL.out.1, REL.out.2.1, REL.out.2.2, HLO.out⟩
        case measure => simp [intOf]; omega
      · have HTT : Hid (fsU (r.from_ (j + 1)) (.kids bd h (hd1 r) (j + 1 + 1)) (fsT a' k' (inB bd h (hd1 r) (j + 1)) l') = res) := by
          have := HS.out
          rw [hst] at this
          exact this
        have hfl := fst_len a' k' (inB bd h (hd1 r) (j + 1)) l'
        have HZ : Hid ((fsT a' k' (inB bd h (hd1 r) (j + 1)) l').length ≤ l.length + r.sizeTo (j + 1)) := by
          have := HLL.out
          show _ ≤ _
          omega
        have HOK : Hid (isTm a' k' = true) := hok
        have HNN := Lib.hid hn
        have HZS : Hid (treeSize a' k' ≤ 5000 ∧ l'.length + treeSize a' k' ≤ 100000 ∧ bd.length + 1 + treeSize a' k' ≤ 100000) := by
          have := HLL.out
          have := HBL.out
          refine Lib.hid ⟨?_, ?_, ?_⟩ <;> omega
        have HAR := Lib.hid hAr
        have HSL' := Lib.hid hsl'
        have BD : Hid (∀ w', Fr No wr w' → Calls Tryz.prog 88 #[.agg #[S [], .slice (some ⟨g, o, none⟩) L c], .int .i64 ((j + 1 : Nat) : Int)] w' fun e w2 => e = .returned (S (bndB h (hd1 r) (j + 1))) ∧ Fr No w' w2) := fun w' hf => by
          have h1 := HAR.out.fr (fun b hb => (HTw.out b hb).1) hf
          rw [hn1.out]
          have hr := HR.out
          clear hst
          have h2 := HL.out
          revert h2 h1
          rw [hr]
          intro h1
          intro h2; rw [← h2]; exact bound_any w' T [] h n k0 nk r' _ c (j + 1) h1
        -- what is called behind, with these bound names
        have CALL : Hid (∀ (w' : World) (Z : Option Addr) (zc : Nat), Fr No wr w' → BSl w' Z (inB bd h (hd1 r) (j + 1)) → (∀ g o, Z = some ⟨g, o, none⟩ → (Value.slice A' l'.length c').ownBlock ≠ some g) →
            Calls Tryz.prog 61 #[.agg #[S a', .slice A2 k'.len c2], .slice Z (inB bd h (hd1 r) (j + 1)).length zc, .slice A' l'.length c'] w' fun e w3 => ∃ A3 c3, e = .returned (.slice A3 (fsT a' k' (inB bd h (hd1 r) (j + 1)) l').length c3) ∧
              Fr (fun b => (Value.slice V l.length vc).ownBlock = some b) w w3 ∧ Blk w3 w.heap.size 40 #[S [], .slice (some ⟨g, o, none⟩) L c] ∧ w3.ownsRow B 9 1 (.slice A3 (fsT a' k' (inB bd h (hd1 r) (j + 1)) l').length c3) (fsT a' k' (inB bd h (hd1 r) (j + 1)) l').length ((fsT a' k' (inB bd h (hd1 r) (j + 1)) l').map S) ∧
              ((Value.slice A3 (fsT a' k' (inB bd h (hd1 r) (j + 1)) l').length c3).ownBlock = (Value.slice V l.length vc).ownBlock ∨ ∀ b, (Value.slice A3 (fsT a' k' (inB bd h (hd1 r) (j + 1)) l').length c3).ownBlock = some b → w.heap.size + 1 ≤ b)) := by
          intro w' Z zc hf hz1 hz2
          have hbl2 : (inB bd h (hd1 r) (j + 1)).length ≤ bd.length + 1 := by
            unfold inB
            split <;> simp
          refine (HN.out a' k' (j + 1) HNN.out a' A2 c2 w' T B A' c' l' Z zc _ HOK.out HZS.out.1 HZS.out.2.1 (by have := HZS.out.2.2; omega) (Nat.le_trans HB.out (Nat.le_trans HFR.out.size hf.size)) (fun b hb => ⟨Nat.lt_of_lt_of_le (HTw.out b hb).1 hf.size, (HTw.out b hb).2⟩) (HSL'.out.fr (fun b hb => (HTw.out b hb).1) hf) hz1 hz2 (own_fr HW.out hf (fun _ _ h => h))).mono ?_
          rintro e w3 ⟨A3, c3, rfl, g1, g2, g3⟩
          have hfw : Fr (fun b => (Value.slice V l.length vc).ownBlock = some b) w w' := HFR.out.then_ hf (fun _ _ h => h.elim)
          have hszw : w.heap.size + 1 ≤ w'.heap.size := Nat.le_trans hlw hf.size
          refine ⟨A3, c3, rfl, hfw.then_ g1 (fun i hi e => ?_), (HBK.out.fr hf (fun h => h)).fr g1 HBX.out, g2, ?_⟩
          · rcases HLO.out with h1 | h1
            · exact h1 ▸ e
            · have := h1 i e; omega
          · rcases g3 with g3 | g3
            · rcases HLO.out with h1 | h1
              · exact .inl (g3.trans h1)
              · exact .inr (fun b hb => h1 b (g3 ▸ hb))
            · exact .inr (fun b hb => Nat.le_trans hszw (g3 b hb))
        have q0' : ∀ w', Fr No wr w' → w'.cell? ⟨g, o + (j + 1) * 2, none⟩ = some (S a') := fun w' hf => (hf.cell (p := ⟨g, o + (j + 1) * 2, none⟩) hlg (fun h => h)).trans q0
        have q1' : ∀ w', Fr No wr w' → w'.cell? ⟨g, o + (j + 1) * 2 + 1, none⟩ = some (.slice A2 k'.len c2) := fun w' hf => (hf.cell (p := ⟨g, o + (j + 1) * 2 + 1, none⟩) hlg (fun h => h)).trans q1
        have Q0 := Lib.hid q0'
        have Q1 := Lib.hid q1'
        have CC : Hid (∀ w', Fr No wr w' → w'.cell? ⟨w.heap.size, 1, none⟩ = some (.slice (some ⟨g, o, none⟩) L c) ∧ w'.cell? ⟨w.heap.size, 0, none⟩ = some (S [])) := fun w' hf => ⟨((HBK.out.fr hf (fun h => h)).cell 1).trans rfl, ((HBK.out.fr hf (fun h => h)).cell 0).trans rfl⟩
        clear hst hin hz hzs hzl hfl hn hnr hbj hok hAr hsl' q0' q1'
        by_cases hbx : bndB h (hd1 r) (j + 1) = []
        · have HI : Hid (inB bd h (hd1 r) (j + 1) = bd) := by
            refine Lib.hid ?_
            unfold inB
            rw [if_pos hbx]
          rw [HI.out] at CALL HTT HZ
          rw [hbx] at BD
          clear hbx
          have CALL2 : Hid (∀ w', Fr No wr w' → Calls Tryz.prog 61 #[.agg #[S a', .slice A2 k'.len c2], .slice VB bl vb, .slice A' l'.length c'] w' fun e w3 => ∃ A3 c3, e = .returned (.slice A3 (fsT a' k' bd l').length c3) ∧
              Fr (fun b => (Value.slice V l.length vc).ownBlock = some b) w w3 ∧ Blk w3 w.heap.size 40 #[S [], .slice (some ⟨g, o, none⟩) L c] ∧ w3.ownsRow B 9 1 (.slice A3 (fsT a' k' bd l').length c3) (fsT a' k' bd l').length ((fsT a' k' bd l').map S) ∧
              ((Value.slice A3 (fsT a' k' bd l').length c3).ownBlock = (Value.slice V l.length vc).ownBlock ∨ ∀ b, (Value.slice A3 (fsT a' k' bd l').length c3).ownBlock = some b → w.heap.size + 1 ≤ b)) := by
            intro w' hf
            have hbw : BSl wr VB bd := HBD.out.fr HFR.out (fun g o e h => HBV.out g o e h)
            have := CALL.out w' VB vb hf (hbw.fr hf (fun _ _ _ h => h)) (fun g2 o2 e => ?_)
            · rw [HBL.out] at this
              exact this
            · obtain ⟨_, g3, o3, e3, h3⟩ := HBD.out
              rw [e3] at e
              simp only [Option.some.injEq, Addr.mk.injEq, and_true] at e
              obtain ⟨rfl, rfl⟩ := e
              exact HNB.out g3 (by omega) (HBV.out g3 o3 e3)
          clear CALL
          go_wp2_with fail
          refine IN.out.mono ?_
          rintro e w1 ⟨rfl, hf1⟩
          obtain ⟨d1, d0⟩ := CC.out w1 hf1
          go_wp2_with fail
          refine (BD.out w1 hf1).mono ?_
          rintro e w2 ⟨rfl, hf2⟩
          have hf12 := hf1.trans hf2
          obtain ⟨e1, e0⟩ := CC.out w2 hf12
          have t0 := Q0.out w2 hf12
          have t1 := Q1.out w2 hf12
          have hlg2 : g < w2.heap.size := Nat.lt_of_lt_of_le hlg hf12.size
          go_wp2_with fail
          refine (CALL2.out w2 hf12).mono ?_
          rintro e w3 ⟨A3, c3, rfl, k1, k2, k3, k4⟩
          have REL := Lib.hid (And.intro k1 (And.intro k2 (And.intro k3 k4)))
          clear k1 k2 k3 k4
          go_wp2_with fail
          go_roundw
          case rel => exact ⟨j + 1, _, A3, c3, by omega, by go_num, rfl, HTT.out, HZ.out, REL.out.1, REL.out.2.1, REL.out.2.2.1, REL.out.2.2.2⟩
          case measure => simp [intOf]; omega
        · obtain ⟨bd2, HI⟩ : ∃ z, Hid (inB bd h (hd1 r) (j + 1) = z) := ⟨_, rfl⟩
          rw [HI.out] at CALL HTT HZ
          have HI2 : Hid (bd2 = bd ++ [bndB h (hd1 r) (j + 1)]) := by
            have := HI.out
            unfold inB at this
            rw [if_neg hbx] at this
            exact this.symm
          clear HI
          generalize bndB h (hd1 r) (j + 1) = x at *
          have hxe : x.isEmpty = false := by cases x; exact absurd rfl hbx; rfl
          clear hbx
          have hbl3 : bd.length ≤ 100000 := by have := HBL.out; omega
          have WI : Hid (∀ (w' : World), Fr No wr w' → Calls Tryz.prog 89 #[.slice VB bl vb, .slice (some ⟨w'.heap.size, 0, none⟩) 1 1] (w'.alloc (.cells #[S x] 9)) fun e w4 => ∃ Z zc, e = .returned (.slice Z bd2.length zc) ∧ BSl w4 Z bd2 ∧ (∀ g o, Z = some ⟨g, o, none⟩ → (Value.slice A' l'.length c').ownBlock ≠ some g) ∧ Fr No wr w4) := by
            intro w' hf
            have hfa : Fr No wr (w'.alloc (.cells #[S x] 9)) := hf.alloc _
            have hbw : BSl wr VB bd := HBD.out.fr HFR.out (fun g o e h => HBV.out g o e h)
            have := with_any (w'.alloc (.cells #[S x] 9)) VB bd vb x w'.heap.size (hbw.fr hfa (fun _ _ _ h => h)) (by simp) hbl3
            rw [HBL.out] at this
            refine this.mono ?_
            rintro e w4 ⟨Z, zc, rfl, z1, z2, z3⟩
            rw [← HI2.out] at z1 ⊢
            refine ⟨Z, zc, rfl, z1, fun g2 o2 e2 e3 => ?_, hfa.trans z3⟩
            have h1 := z2 g2 o2 e2
            have h2 := (HW.out.lt g2 e3).2
            have h3 := hfa.size
            omega
          go_wp2_with fail
          refine IN.out.mono ?_
          rintro e w1 ⟨rfl, hf1⟩
          obtain ⟨d1, d0⟩ := CC.out w1 hf1
          go_wp2_with fail
          refine (BD.out w1 hf1).mono ?_
          rintro e w2 ⟨rfl, hf2⟩
          have hf12 := hf1.trans hf2
          obtain ⟨e1, e0⟩ := CC.out w2 hf12
          go_wp2_with fail
          refine (BD.out w2 hf12).mono ?_
          rintro e w3 ⟨rfl, hf3⟩
          have hf13 := hf12.trans hf3
          obtain ⟨f1, f0⟩ := CC.out w3 hf13
          go_wp2_with fail
          refine (WI.out w3 hf13).mono ?_
          rintro e w4 ⟨Z, zc, rfl, z1, z2, hf4⟩
          obtain ⟨y1, y0⟩ := CC.out w4 hf4
          have t0 := Q0.out w4 hf4
          have t1 := Q1.out w4 hf4
          have hlg2 : g < w4.heap.size := Nat.lt_of_lt_of_le hlg hf4.size
          have CALL4 := Lib.hid (CALL.out w4 Z zc hf4 z1 z2)
          clear z1 z2 CALL WI
          go_wp2_with fail
          refine CALL4.out.mono ?_
          rintro e w5 ⟨A3, c3, rfl, k1, k2, k3, k4⟩
          have REL := Lib.hid (And.intro k1 (And.intro k2 (And.intro k3 k4)))
          clear k1 k2 k3 k4
          go_wp2_with fail
          go_roundw
          case rel => exact ⟨j + 1, _, A3, c3, by omega, by go_num, rfl, HTT.out, HZ.out, REL.out.1, REL.out.2.1, REL.out.2.2.1, REL.out.2.2.2⟩
          case measure => simp [intOf]; omega
    · have hjl : j = m := by omega
      have HF : Hid (AddL B res w (.slice V l.length vc) (.returned (.slice A' l'.length c')) wr) := by
        have e1 := HS.out
        rw [hjl, ← HRL.out, Fo.from_len] at e1
        have e2 : res = l' := e1.symm
        rw [e2]
        refine ⟨A', c', rfl, HFR.out, HW.out, ?_⟩
        rcases HLO.out with h1 | h1
        · exact .inl h1
        · exact .inr (fun b hb => by have := h1 b hb; omega)
      have hjl2 : (L : Int) ≤ (j : Int) + 1 := by have := HLM.out; omega
      clear hjl
      go_wp2_with fail
      go_ret
      exact HF.out
end Go.Proofs.YtnjgaenhjdjpfaaGreatDoor

/- TermFree of the program and of the model. -/
namespace Go.Proofs.YtnjgaenhjdjpfaaGreatDoor
open Go.RowKit Go.ChangeMaps

theorem fs_any (N : Nat) : ∀ k : Fo, SizeOf.sizeOf k < N → FsSaid k := by
  induction N with
  | zero => intro k h; omega
  | succ N ih =>
    intro k hN a A c w T B V vc l VB vb bd htm hs hls hbs hB hT hA hbd hbv ho
    by_cases he : a = []
    · subst he
      have h2 : isTms none k = true := by simpa [isTm] using htm
      have e1 : fsT [] k bd l = fsU k (.top bd) l := by simp [fsT]
      have e2 : treeSize [] k = k.size := by simp [treeSize]
      rw [e1]
      rw [e2] at hs hls hbs
      cases k with
      | nil => cases h2
      | cons g k0 r => exact fs_node g k0 r (fun a' k' j hn => ih k' (by have := Fo.nth_small _ j a' k' hn; omega)) A c w T B V vc l VB vb bd h2 hs hls hbs hB hT hA hbd hbv ho
    · have h1 : isAtomTm a = true := by simpa [isTm, he] using htm
      have := (atom_bytes h1).2.2.2
      exact fs_atom k a A c w B V vc l VB vb bd he (by omega) (by omega) (by omega) hB hbd ho

def FreeIs (s : List UInt8) (xs : List (List UInt8)) (b : Bool) : Prop := (∃ a k, TmOk s a k ∧ xs = fsT a k [] [] ∧ b = true) ∨ ((∀ a k, ¬ TmOk s a k) ∧ xs = [] ∧ b = false)

theorem FreeIs.one {s : List UInt8} {xs xs' : List (List UInt8)} {b b' : Bool} (h : FreeIs s xs b) (h' : FreeIs s xs' b') : xs' = xs ∧ b' = b := by
  rcases h with ⟨a, k, i1, rfl, rfl⟩ | ⟨n1, rfl, rfl⟩ <;> rcases h' with ⟨a', k', i2, rfl, rfl⟩ | ⟨n2, rfl, rfl⟩
  · obtain ⟨rfl, rfl⟩ := i1.unique i2
    exact ⟨rfl, rfl⟩
  · exact absurd i1 (n2 a k)
  · exact absurd i2 (n1 a' k')
  · exact ⟨rfl, rfl⟩

theorem FreeIs.len {s : List UInt8} {xs : List (List UInt8)} {b : Bool} (h : FreeIs s xs b) : xs.length ≤ 900 := by
  rcases h with ⟨a, k, i1, rfl, rfl⟩ | ⟨n1, rfl, rfl⟩
  · have h1 := fst_len a k [] []
    have h2 := i1.2.2.2
    simp at h1
    omega
  · simp

def AnsFree (s : List UInt8) (w : World) (e : Ending) (w' : World) : Prop :=
  ∃ V vc b xs, e = .returned (.tuple #[.slice V xs.length vc, .bool b]) ∧ w'.ownsRow w.heap.size 9 1 (.slice V xs.length vc) xs.length (xs.map S) ∧ Fr No w w' ∧ FreeIs s xs b

theorem AnsFree.none_ {s : List UInt8} {w w1 : World} (hf : Fr No w w1) (hno : ∀ a k, ¬ TmOk s a k) : AnsFree s w (.returned (.tuple #[.slice (some ⟨w1.heap.size, 0, none⟩) 0 0, .bool false])) (w1.alloc (.cells #[] 9)) :=
  ⟨some ⟨w1.heap.size, 0, none⟩, 0, false, [], rfl, own_empty w1 _ hf.size _ rfl, hf.alloc _, .inr ⟨hno, rfl, rfl⟩⟩

set_option maxHeartbeats 1000000 in
theorem freeNames_any (w : World) (T : Nat → Prop) (h a : List UInt8) (d p : Nat) (k : Ts) (hs : k.size ≤ 5000) (hT : ∀ b, T b → b < w.heap.size) (ht : Tm w T p h a d k) :
    Calls Tryz.prog 32 #[Ptr p] w fun e w' => ∃ A c, e = .returned (.slice A (frN h a k []).length c) ∧ Fr No w w' ∧ w'.ownsRow w.heap.size 9 1 (.slice A (frN h a k []).length c) (frN h a k []).length ((frN h a k []).map S) := by
  have CALL : Hid (Calls Tryz.prog 54 #[.slice (some ⟨w.heap.size, 0, none⟩) 0 0, Ptr p] (w.alloc (.cells #[] 9)) fun e w' => ∃ A c, e = .returned (.slice A (frN h a k []).length c) ∧ Fr No w w' ∧ w'.ownsRow w.heap.size 9 1 (.slice A (frN h a k []).length c) (frN h a k []).length ((frN h a k []).map S)) := by
    have hfa : Fr No w (w.alloc (.cells #[] 9)) := (Fr.refl _ _).alloc _
    refine (free_all _ k (Nat.lt_succ_self _) h a d p _ T w.heap.size (some ⟨w.heap.size, 0, none⟩) 0 [] hs (by simp; omega) hfa.size (fun b hb => ⟨Nat.lt_of_lt_of_le (hT b hb) hfa.size, fun e => ?_⟩) (ht.mono (fun _ h => h) (fun b hb => hfa.block b (hT b hb) (fun h => h))) (own_empty w _ (Nat.le_refl _) _ rfl)).mono ?_
    · have := hT b hb
      simp only [Value.ownBlock, Option.some.injEq] at e
      omega
    · rintro e w' ⟨A, c, rfl, g1, g2, _⟩
      refine ⟨A, c, rfl, hfa.then_ g1 (fun i hi e => ?_), g2⟩
      simp only [Value.ownBlock, Option.some.injEq] at e
      omega
  clear ht hT
  generalize frN h a k [] = xs at *
  go_enter Tryz.func32, Tryz.ntmps32
  go_wp2_with fail
  refine CALL.out.mono ?_
  rintro e w1 ⟨A, c, rfl, g1, g2⟩
  have HG := Lib.hid (And.intro g1 g2)
  clear g1 g2
  go_wp2_with fail
  go_ret
  exact ⟨A, c, rfl, HG.out.1, HG.out.2⟩

end Go.Proofs.YtnjgaenhjdjpfaaGreatDoor

/- The law TermFree. -/
namespace Go.Proofs.YtnjgaenhjdjpfaaGreatDoor
open Go.RowKit Go.ChangeMaps

end Go.Proofs.YtnjgaenhjdjpfaaGreatDoor
