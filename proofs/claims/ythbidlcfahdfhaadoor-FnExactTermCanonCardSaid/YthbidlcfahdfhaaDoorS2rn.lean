/- The model's renaming: atoms; the row that it copies. -/
import Derived.Test.YthbidlcfahdfhaaDoorS2dec
import Derived.Test.YthbidlcfahdfhaaDoorS2free2
import Derived.Test.YthbidlcfahdfhaaDoorTrn
import Derived.Deep.RegionHeld
namespace Go.Proofs.YthbidlcfahdfhaaDoor
open Go.RowKit Go.ChangeMaps

/-- what the model makes of a tree, with the number of the next name -/
def rnR (tk : List (List UInt8)) (a : List UInt8) (k : Fo) (fr to : List (List UInt8)) (g : Nat) : Fo × Nat := if a = [] then rnF tk k (.top fr to) g else (k, g)

theorem rnF_mono (tk : List (List UInt8)) : ∀ (f : Fo) (m : Rm) (g : Nat), g ≤ (rnF tk f m g).2
  | .nil, _, _ => Nat.le_refl _
  | .cons h k r, .top fr to, g => by
    simp only [rnF]
    split
    · exact rnF_mono tk r _ g
    · exact rnF_mono tk r _ g
  | .cons x k r, .name fr to h, g => by
    have h1 := (fsh_spec tk g).1
    have h2 := rnF_mono tk r (.kids fr to h x (xnm (fsh tk g)) 0) (fsh tk g + 1)
    simp only [rnF]
    omega
  | .cons a k r, .kids fr to h b y i, g => by
    have h1 : g ≤ (if a = [] then (rnF tk k (.top (insB fr h b i) (insB to h y i)) g).2 else g) := by
      split
      · exact rnF_mono tk k _ g
      · exact Nat.le_refl _
    have h2 := rnF_mono tk r (.kids fr to h b y (i + 1)) (if a = [] then (rnF tk k (.top (insB fr h b i) (insB to h y i)) g).2 else g)
    simp only [rnF]
    omega

theorem rnF_len (tk : List (List UInt8)) : ∀ (f : Fo) (m : Rm) (g : Nat), (rnF tk f m g).1.len = f.len
  | .nil, _, _ => rfl
  | .cons h k r, .top fr to, g => by
    simp only [rnF]
    split <;> simp only [Fo.len, rnF_len tk r]
  | .cons x k r, .name fr to h, g => by simp only [rnF, Fo.len, rnF_len tk r]
  | .cons a k r, .kids fr to h b y i, g => by simp only [rnF, Fo.len, rnF_len tk r]

abbrev NmC (w : World) (m : Nat) (A : Option Addr) (l c g : Nat) : Prop := Blk w m 77 #[.slice A l c, .int .i64 (g : Int)]

def RfP (tk : List (List UInt8)) (m : Nat) (NA : Option Addr) (nc : Nat) (T : Nat → Prop) (a' : List UInt8) (k' : Fo) (G : Nat) (w : World) (e : Ending) (w' : World) : Prop :=
  ∃ A c, e = .returned (.agg #[S a', .slice A k'.len c]) ∧ Fr (One m) w w' ∧ NmC w' m NA tk.length nc G ∧ Sl w' (TN T w w') A k'

def RfSaid (k : Fo) : Prop := ∀ (a : List UInt8) (A : Option Addr) (c : Nat) (w : World) (T : Nat → Prop) (m : Nat) (NA : Option Addr) (nc : Nat) (tk : List (List UInt8)) (g : Nat) (VF : Option Addr) (vf : Nat) (fr : List (List UInt8)) (VT : Option Addr) (vt : Nat) (to : List (List UInt8)),
  isTm a k = true → (a ≠ [] → k = .nil) → k.wf → treeSize a k ≤ 5000 → fr.length = to.length → fr.length + treeSize a k ≤ 10000 → (∀ b, T b → b < w.heap.size ∧ b ≠ m) → Sl w T A k →
  NmC w m NA tk.length nc g → SSl w NA tk → (∀ b o, NA = some ⟨b, o, none⟩ → b ≠ m) → tk.length ≤ 1000 → BSl w VF fr → (∀ b o, VF = some ⟨b, o, none⟩ → b ≠ m) → BSl w VT to → (∀ b o, VT = some ⟨b, o, none⟩ → b ≠ m) → (rnR tk a k fr to g).2 ≤ 4000 →
  Calls Tryd.prog 61 #[.agg #[S a, .slice A k.len c], .slice VF fr.length vf, .slice VT to.length vt, Ptr m] w fun e w' => RfP tk m NA nc T (rnA fr to a) (rnR tk a k fr to g).1 (rnR tk a k fr to g).2 w e w'

set_option maxRecDepth 100000 in
set_option maxHeartbeats 1000000 in
theorem rf_atom (a : List UInt8) (A : Option Addr) (c : Nat) (w : World) (T : Nat → Prop) (m : Nat) (NA : Option Addr) (nc : Nat) (tk : List (List UInt8)) (g : Nat) (VF : Option Addr) (vf : Nat) (fr : List (List UInt8)) (VT : Option Addr) (vt : Nat) (to : List (List UInt8))
    (ha : a ≠ []) (hl : fr.length = to.length) (hfl : fr.length ≤ 10000) (hnm : NmC w m NA tk.length nc g) (hF : BSl w VF fr) (hTo : BSl w VT to) :
    Calls Tryd.prog 61 #[.agg #[S a, .slice A 0 c], .slice VF fr.length vf, .slice VT to.length vt, Ptr m] w fun e w' => RfP tk m NA nc T (rnA fr to a) .nil g w e w' := by
  have hae : a.isEmpty = false := by cases a; exact absurd rfl ha; rfl
  have b0 := (Blk.new w 36 #[S a, .slice A 0 c]).alloc (.cells #[S [], .slice none 0 0] 36)
  have b1 : Blk ((w.alloc (.cells #[S a, .slice A 0 c] 36)).alloc (.cells #[S [], .slice none 0 0] 36)) (w.heap.size + 1) 36 #[S [], .slice none 0 0] := Blk.new_at _ _ _ (by simp)
  have hf0 : Fr No w ((w.alloc (.cells #[S a, .slice A 0 c] 36)).alloc (.cells #[S [], .slice none 0 0] 36)) := ((Fr.refl _ _).alloc _).alloc _
  obtain ⟨n, hn⟩ : ∃ n, n = fr.length := ⟨_, rfl⟩
  have hnt : to.length = n := by omega
  have hl2 : (n : Int) ≤ 10000 := by omega
  have HNM := Lib.hid hnm
  have HF := Lib.hid hF
  have HTO := Lib.hid hTo
  have HITS : Hid (∀ j y, fr.reverse[j]? = some y → (∀ z ∈ fr.reverse.take j, z ≠ a) → y = a → ∃ y', to[n - 1 - j]? = some y' ∧ rnA fr to a = y') := by
    intro j y hj hno hy
    have hjl := (List.getElem?_eq_some_iff.1 hj).1
    have hjn : j < n := by simp at hjl; omega
    have hd : depOf a fr = some j := by
      unfold depOf
      rw [depR_skip a fr.reverse 0 j hno (by omega), List.drop_eq_getElem_cons hjl]
      have : fr.reverse[j] = a := by
        obtain ⟨_, e⟩ := List.getElem?_eq_some_iff.1 hj
        rw [e, hy]
      rw [depR, if_pos this]
      simp
    refine ⟨_, List.getElem?_eq_getElem (by omega), ?_⟩
    simp only [rnA, if_neg ha, hd]
    rw [List.getD_eq_getElem?_getD, show to.length - 1 - j = n - 1 - j by omega, List.getElem?_eq_getElem (by omega)]
    rfl
  have MISS : Hid ((∀ z ∈ fr.reverse.take n, z ≠ a) → rnA fr to a = a) := by
    intro h
    rw [hn, show fr.length = fr.reverse.length by simp, List.take_length] at h
    have hd : depOf a fr = none := depR_none a _ 0 h
    simp only [rnA, if_neg ha, hd]
  have CELL : Hid (∀ (w' : World) (j : Nat), Fr No w w' → j < n → ∃ g o y, VF = some ⟨g, o, none⟩ ∧ w'.cell? ⟨g, o + (n - 1 - j), none⟩ = some (S y) ∧ fr.reverse[j]? = some y) := by
    intro w' j hf hj
    obtain ⟨y, h1, h2⟩ := rev_at (bs := fr) (j := j) (by omega)
    obtain ⟨g, o, e, hc⟩ := (HF.out.1.frT hf (fun _ _ _ h => h)) _ _ h2
    exact ⟨g, o, y, e, by rw [hn]; exact hc, h1⟩
  have CELT : Hid (∀ (w' : World) (i : Nat) (y : List UInt8), Fr No w w' → to[i]? = some y → ∃ g o, VT = some ⟨g, o, none⟩ ∧ w'.cell? ⟨g, o + i, none⟩ = some (S y)) := by
    intro w' i y hf hj
    exact (HTO.out.1.frT hf (fun _ _ _ h => h)) i y hj
  have FIN : Hid (∀ (a' : List UInt8) (A' : Option Addr) (c' : Nat) (wr : World) (v0 v1 : Value), rnA fr to a = a' → Fr No w wr → RfP tk m NA nc T (rnA fr to a) .nil g w (.returned (.agg #[S a', .slice A' 0 c'])) ((wr.setCell ⟨w.heap.size + 1, 0, none⟩ v0).setCell ⟨w.heap.size + 1, 1, none⟩ v1)) := by
    intro a' A' c' wr v0 v1 e hf
    have hml := HNM.out.lt
    refine ⟨A', c', by rw [e]; rfl, ((hf.setCell (p := ⟨w.heap.size + 1, 0, none⟩) (.inr (Nat.le_succ _)) v0).setCell (p := ⟨w.heap.size + 1, 1, none⟩) (.inr (Nat.le_succ _)) v1).mono (fun _ _ h => h.elim), ?_, .inl rfl⟩
    exact ((HNM.out.fr hf (fun h => h)).far (p := ⟨w.heap.size + 1, 0, none⟩) (by show m ≠ w.heap.size + 1; omega) v0).far (p := ⟨w.heap.size + 1, 1, none⟩) (by show m ≠ w.heap.size + 1; omega) v1
  have FIND : Hid (∀ (a' : List UInt8) (A' : Option Addr) (c' : Nat) (wr : World) (v0 v1 : Value), rnA fr to a = a' → Fr No w wr → RfP tk m NA nc T (rnA fr to a) .nil g w (.returned (.agg #[S a', .slice A' 0 c'])) ((wr.drew.setCell ⟨w.heap.size + 1, 0, none⟩ v0).setCell ⟨w.heap.size + 1, 1, none⟩ v1)) :=
    fun a' A' c' wr v0 v1 e hf => FIN.out a' A' c' wr.drew v0 v1 e hf.drew
  rw [hnt, ← hn]
  clear hn hl hnm hF hTo ha hnt
  go_enter Tryd.func61, Tryd.ntmps61
  go_wp2_with fail
  generalize ((w.alloc (.cells #[S a, .slice A 0 c] 36)).alloc (.cells #[S [], .slice none 0 0] 36)) = W at b0 b1 hf0 ⊢
  go_loopw [9] (fun u wr => ∃ (j : Nat), j ≤ n ∧ u = .int .i64 ((n : Int) - 1 - j) ∧ (∀ z ∈ fr.reverse.take j, z ≠ a) ∧ Fr No W wr) (fun u _ => (intOf u + 1).toNat)
  case atStart => exact ⟨0, Nat.zero_le _, by simp, by simp, Fr.refl _ _⟩
  case round =>
    obtain ⟨j, hj, rfl, hno, hfr⟩ := hrel
    have HNO := Lib.hid hno
    have HFR := Lib.hid hfr
    have d0 := b0.fr hfr (fun h => h)
    have d1 := b1.fr hfr (fun h => h)
    have c0 : wr.cell? ⟨w.heap.size, 0, none⟩ = some (S a) := (d0.cell 0).trans rfl
    have c1 : wr.cell? ⟨w.heap.size, 1, none⟩ = some (.slice A 0 c) := (d0.cell 1).trans rfl
    have r0 : wr.cell? ⟨w.heap.size + 1, 0, none⟩ = some (S []) := (d1.cell 0).trans rfl
    have r1 : wr.cell? ⟨w.heap.size + 1, 1, none⟩ = some (.slice none 0 0) := (d1.cell 1).trans rfl
    have f0 := d1.frozen 0
    have f1 := d1.frozen 1
    have l0 := d0.lt
    have l1 := d1.lt
    clear hno hfr d0 d1
    by_cases hlt : j < n
    · obtain ⟨gg, o, y, rfl, hc, hy⟩ := CELL.out wr j (hf0.trans HFR.out) hlt
      have w2 : ((n : Int) - 1 - (j : Int)) = ((n - 1 - j : Nat) : Int) := by omega
      have hi : n - 1 - j < n := by omega
      have hlg := block_lt hc
      have HY := Lib.hid hy
      rw [w2]
      clear hy
      by_cases hya : y = a
      · obtain ⟨y', hy1, hy2⟩ := HITS.out j y HY.out HNO.out hya
        obtain ⟨gt, ot, rfl, hct⟩ := CELT.out wr _ y' (hf0.trans HFR.out) hy1
        have HE := Lib.hid hy2
        have hlgt := block_lt hct
        subst hya
        clear hy1 hy2
        go_wp2_with fail
        go_region
        all_goals go_wp2_with fail
        refine bodyPost_ret (v := .agg #[S y', .slice none 0 0]) (by simp [results, Tryd.results61, go_sem, cell_set_same r0, cell_set_next r1]) rfl ?_
        exact FIND.out _ _ _ _ _ _ HE.out (hf0.trans HFR.out)
      · have hne : (y == a) = false := by simpa using hya
        have HM := Lib.hid (not_more HNO.out HY.out hya)
        clear hya
        go_wp2_with fail
        go_region
        all_goals go_wp2_with fail
        go_roundw
        case rel => exact ⟨j + 1, by omega, congrArg (Value.int .i64) (by omega), HM.out, HFR.out.drew⟩
        case measure => simp [intOf]
    · have hjn : j = n := by omega
      subst hjn
      have HE := Lib.hid (MISS.out HNO.out)
      go_wp2_with fail
      refine bodyPost_ret (v := .agg #[S a, .slice A 0 c]) (by simp [results, Tryd.results61, go_sem, cell_set_same r0, cell_set_next r1]) rfl ?_
      exact FIN.out _ _ _ _ _ _ HE.out (hf0.trans HFR.out)

/- What is still to come; the row that the model copies. -/

def rmM (fr to : List (List UInt8)) (h b y : List UInt8) (j : Nat) : Rm := if bindsB h = true then (if j = 0 then .name fr to h else .kids fr to h b y (j - 1)) else .kids fr to h [] [] j

theorem rm_start (tk : List (List UInt8)) (fr to : List (List UInt8)) (h b y : List UInt8) (k0 r : Fo) (g : Nat) :
    rnF tk (.cons h k0 r) (.top fr to) g = (.cons h k0 (rnF tk r (rmM fr to h b y 0) g).1, (rnF tk r (rmM fr to h b y 0) g).2) := by
  by_cases hb : bindsB h = true
  · simp only [rnF, rmM, hb, if_true]
  · simp only [rnF, rmM, if_neg hb]

theorem rm_name (tk : List (List UInt8)) (fr to : List (List UInt8)) {h b y : List UInt8} {r : Fo} {a : List UInt8} {k : Fo} (hb : bindsB h = true) (e : r.nth 0 = some (a, k)) (g : Nat) :
    rnF tk (r.from_ 0) (rmM fr to h b y 0) g = (.cons (xnm (fsh tk g)) .nil (rnF tk (r.from_ 1) (rmM fr to h a (xnm (fsh tk g)) 1) (fsh tk g + 1)).1, (rnF tk (r.from_ 1) (rmM fr to h a (xnm (fsh tk g)) 1) (fsh tk g + 1)).2) := by
  rw [Fo.from_nth r 0 a k e]
  simp only [rmM, hb, if_true, rnF]
  rfl

theorem rm_kid (tk : List (List UInt8)) (fr to : List (List UInt8)) {h b y : List UInt8} {r : Fo} {j : Nat} {a : List UInt8} {k : Fo} (hsh : (shapeOf h)[j]? = some true) (hbn : bindsB h = true → b ≠ []) (e : r.nth j = some (a, k)) (g : Nat) (F T : List (List UInt8))
    (hF : F = if bndB h b (j + 1) = [] then fr else fr ++ [bndB h b (j + 1)]) (hT : T = if bndB h b (j + 1) = [] then to else to ++ [y]) :
    rnF tk (r.from_ j) (rmM fr to h b y j) g = (.cons (rnA F T a) (rnR tk a k F T g).1 (rnF tk (r.from_ (j + 1)) (rmM fr to h b y (j + 1)) (rnR tk a k F T g).2).1, (rnF tk (r.from_ (j + 1)) (rmM fr to h b y (j + 1)) (rnR tk a k F T g).2).2) := by
  rw [Fo.from_nth r j a k e]
  rcases shape_cases h with ⟨e0, _⟩ | ⟨hb, e0, hk1⟩ | ⟨hb, e0, hk1⟩
  · rw [e0] at hsh; simp at hsh
  · rw [e0] at hsh
    cases j with
    | zero => simp at hsh
    | succ i =>
      have hi : i < kidsOf h := by
        simp only [List.getElem?_cons_succ, List.getElem?_replicate] at hsh
        by_cases hi : i < kidsOf h
        · exact hi
        · rw [if_neg hi] at hsh; cases hsh
      have hbd := bnd_ins h b i hb hi
      have eF : insB fr h b i = F := by
        rw [hF, hbd]
        unfold insB
        by_cases hl : i + 1 = kidsOf h
        · rw [if_pos ⟨hb, hl⟩, if_pos hl, if_neg (hbn hb)]
        · rw [if_neg (fun h => hl h.2), if_neg hl, if_pos rfl]
      have eT : insB to h y i = T := by
        rw [hT, hbd]
        unfold insB
        by_cases hl : i + 1 = kidsOf h
        · rw [if_pos ⟨hb, hl⟩, if_pos hl, if_neg (hbn hb)]
        · rw [if_neg (fun h => hl h.2), if_neg hl, if_pos rfl]
      have em : rmM fr to h b y (i + 1) = .kids fr to h b y i := by simp [rmM, hb]
      have em2 : rmM fr to h b y (i + 1 + 1) = .kids fr to h b y (i + 1) := by simp [rmM, hb]
      rw [em, em2]
      simp only [rnF, eF, eT, rnR]
      by_cases ha : a = []
      · simp only [if_pos ha]
      · simp only [if_neg ha]
  · have hbd := bnd_none h b (j + 1) hb
    have eF : F = fr := by rw [hF, hbd, if_pos rfl]
    have eT : T = to := by rw [hT, hbd, if_pos rfl]
    have ei : ∀ (cs : List (List UInt8)) (z : List UInt8), insB cs h z j = cs := fun cs z => by simp [insB, hb]
    have em : ∀ j, rmM fr to h b y j = .kids fr to h [] [] j := fun j => by simp [rmM, hb]
    rw [em, em, eF, eT]
    simp only [rnF, ei, rnR]
    by_cases ha : a = []
    · simp only [if_pos ha]
    · simp only [if_neg ha]

theorem Fo.wf_nth : ∀ (f : Fo) (j : Nat) (a : List UInt8) (k : Fo), f.wf → f.nth j = some (a, k) → (a ≠ [] → k = .nil) ∧ k.wf
  | .nil, j, a, k, _, e => by cases e
  | .cons b q r, 0, a, k, hw, e => by
    simp only [Fo.nth, Option.some.injEq, Prod.mk.injEq] at e
    obtain ⟨rfl, rfl⟩ := e
    exact ⟨hw.1, hw.2.1⟩
  | .cons b q r, j + 1, a, k, hw, e => Fo.wf_nth r j a k hw.2.2 e

theorem Fo.len_snoc_app (f : Fo) (a : List UInt8) (k g : Fo) : ((f.snoc a k).app g).len = (f.app (.cons a k g)).len := by rw [snoc_app]

theorem Elems.set_ {w : World} {T : Nat → Prop} {a' : List UInt8} {k' : Fo} {A' : Option Addr} {c' : Nat} (h : Sl w T A' k') : ∀ (pre : Fo) {a : List UInt8} {k rest : Fo} {xs : List Value}, Elems w T (pre.app (.cons a k rest)) xs →
    Elems w T (pre.app (.cons a' k' rest)) ((xs.set (pre.len * 2) (S a')).set (pre.len * 2 + 1) (.slice A' k'.len c')) := by
  intro pre
  induction pre with
  | nil =>
    intro a k rest xs hx
    obtain ⟨A, c, xs', rfl, _, h2⟩ := hx
    exact ⟨A', c', xs', rfl, h, h2⟩
  | cons b q p _ ih =>
    intro a k rest xs hx
    obtain ⟨A, c, xs', rfl, h1, h2⟩ := hx
    refine ⟨A, c, _, ?_, h1, ih h2⟩
    have e1 : (Fo.cons b q p).len * 2 = p.len * 2 + 1 + 1 := by simp only [Fo.len]; omega
    rw [e1]
    rfl

/-- the copied row, and what is around it -/
structure RF (w : World) (m : Nat) (T : Nat → Prop) (f : Fo) (G cc L ob : Nat) (A : Option Addr) (c : Nat) (wr : World) : Prop where
  fr : Fr (One m) w wr
  bx : Blk wr w.heap.size 36 #[S [], .slice A L c]
  rs : Blk wr (w.heap.size + 1) 36 #[S [], .slice none 0 0]
  out : Blk wr ob 36 #[S [], .slice (some ⟨G, 0, none⟩) L cc]
  own : ∃ xs, wr.ownsRow (w.heap.size + 2) 36 2 (.slice (some ⟨G, 0, none⟩) L cc) L xs ∧ Elems wr (fun b => T b ∨ (w.heap.size + 2 ≤ b ∧ b < wr.heap.size ∧ b ≠ G)) f xs
  len : f.len = L
  ne : w.heap.size + 2 ≤ ob ∧ ob ≠ G

theorem RF.gw {w : World} {m : Nat} {T : Nat → Prop} {f : Fo} {G cc L ob : Nat} {A : Option Addr} {c : Nat} {wr : World} (h : RF w m T f G cc L ob A c wr) : w.heap.size + 2 ≤ G ∧ G < wr.heap.size := by
  obtain ⟨xs, h1, _⟩ := h.own
  exact h1.lt G rfl

theorem RF.keep {w : World} {m : Nat} {T : Nat → Prop} {f : Fo} {G cc L ob : Nat} {A : Option Addr} {c : Nat} {wr w' : World} (hm : m < w.heap.size) (hT : ∀ b, T b → b < w.heap.size ∧ b ≠ m) (h : RF w m T f G cc L ob A c wr) (hf : Fr (One m) wr w') : RF w m T f G cc L ob A c w' := by
  have hg := h.gw
  obtain ⟨xs, h1, h2⟩ := h.own
  have hne := h.ne
  refine ⟨h.fr.trans hf, h.bx.fr hf (fun e => by unfold One at e; omega), h.rs.fr hf (fun e => by unfold One at e; omega), h.out.fr hf (fun e => by unfold One at e; omega), ⟨xs, own_fr h1 hf (fun b hb e => by simp only [Value.ownBlock, Option.some.injEq] at hb; unfold One at e; omega), ?_⟩, h.len, h.ne⟩
  refine h2.mono (fun b hb => hb.imp (fun h => h) (fun hb => ⟨hb.1, Nat.lt_of_lt_of_le hb.2.1 hf.size, hb.2.2⟩)) (fun b hb => ?_)
  rcases hb with hb | hb
  · exact hf.block b (Nat.lt_of_lt_of_le (hT b hb).1 h.fr.size) (fun e => (hT b hb).2 e)
  · exact hf.block b hb.2.1 (fun e => by unfold One at e; omega)

/-- one part is written -/
theorem RF.put {w : World} {m : Nat} {T : Nat → Prop} {pre rest : Fo} {a a' : List UInt8} {k k' : Fo} {G cc L ob : Nat} {A A' : Option Addr} {c c' : Nat} {wr : World} (hT : ∀ b, T b → b < w.heap.size ∧ b ≠ m) (h : RF w m T (pre.app (.cons a k rest)) G cc L ob A c wr)
    (hs : Sl wr (fun b => T b ∨ (w.heap.size + 2 ≤ b ∧ b < wr.heap.size ∧ b ≠ G)) A' k') :
    RF w m T ((pre.snoc a' k').app rest) G cc L ob A c ((wr.setCell ⟨G, pre.len * 2, none⟩ (S a')).setCell ⟨G, pre.len * 2 + 1, none⟩ (.slice A' k'.len c')) := by
  have hg := h.gw
  obtain ⟨xs, h1, h2⟩ := h.own
  have hne := h.ne
  obtain ⟨o1, g1⟩ := h1.stored (pre.len * 2) (S a')
  obtain ⟨o2, g2⟩ := o1.stored (pre.len * 2 + 1) (.slice A' k'.len c')
  have hh : ∀ b, b < wr.heap.size → b ≠ G → ((wr.setCell ⟨G, pre.len * 2, none⟩ (S a')).setCell ⟨G, pre.len * 2 + 1, none⟩ (.slice A' k'.len c')).heap[b]? = wr.heap[b]? := fun b hb hne => by
    have e1 : b < (wr.setCell ⟨G, pre.len * 2, none⟩ (S a')).heap.size := Nat.lt_of_lt_of_le hb g1.size
    rw [g2.block b e1 (fun e => hne (by injection e)), g1.block b hb (fun e => hne (by injection e))]
  have hsz : ((wr.setCell ⟨G, pre.len * 2, none⟩ (S a')).setCell ⟨G, pre.len * 2 + 1, none⟩ (.slice A' k'.len c')).heap.size = wr.heap.size := by simp [World.setCell]
  refine ⟨(h.fr.setCell (p := ⟨G, pre.len * 2, none⟩) (.inr (by show _ ≤ G; omega)) _).setCell (p := ⟨G, pre.len * 2 + 1, none⟩) (.inr (by show _ ≤ G; omega)) _, h.bx.keep (hh _ h.bx.lt (by omega)), h.rs.keep (hh _ h.rs.lt (by omega)), h.out.keep (hh _ h.out.lt hne.2), ⟨_, o2, ?_⟩, ?_, h.ne⟩
  · rw [Fo.snoc_app]
    have hT' : ∀ b, (T b ∨ (w.heap.size + 2 ≤ b ∧ b < wr.heap.size ∧ b ≠ G)) → b < wr.heap.size ∧ b ≠ G := fun b hb => by
      rcases hb with hb | hb
      · have := (hT b hb).1; have := h.fr.size; exact ⟨by omega, by omega⟩
      · exact hb.2
    refine Elems.mono (fun b hb => ?_) (fun b hb => ?_) (Elems.set_ hs pre h2)
    · rw [hsz]; exact hb
    · exact hh b (hT' b hb).1 (hT' b hb).2
  · rw [Fo.len_snoc_app, ← h.len, Fo.len_app, Fo.len_app]
    rfl

/-- the row behind all parts -/
theorem RF.done {w : World} {m : Nat} {T : Nat → Prop} {f : Fo} {G cc L ob : Nat} {A : Option Addr} {c : Nat} {wr : World} (h : RF w m T f G cc L ob A c wr) : Sl wr (fun b => T b ∨ (w.heap.size + 2 ≤ b ∧ b < wr.heap.size)) (some ⟨G, 0, none⟩) f := by
  have hg := h.gw
  obtain ⟨xs, h1, h2⟩ := h.own
  right
  refine ⟨G, 0, xs, rfl, .inr ⟨by omega, hg.2⟩, h2.mono (fun b hb => hb.imp (fun h => h) (fun hb => ⟨hb.1, hb.2.1⟩)) (fun _ _ => rfl), fun j u hj => ?_⟩
  have := h1.cells (g := G) rfl j u hj
  rw [addr_add] at this
  exact this

/-- two cells of the row -/
theorem RF.slot {w : World} {m : Nat} {T : Nat → Prop} {f : Fo} {G cc L ob : Nat} {A : Option Addr} {c : Nat} {wr : World} (h : RF w m T f G cc L ob A c wr) {i : Nat} (hi : i < L) :
    ∃ u v, wr.cell? ⟨G, i * 2, none⟩ = some u ∧ wr.cell? ⟨G, i * 2 + 1, none⟩ = some v ∧ wr.frozen? ⟨G, i * 2, none⟩ = false ∧ wr.frozen? ⟨G, i * 2 + 1, none⟩ = false ∧ G < wr.heap.size := by
  obtain ⟨xs, h1, h2⟩ := h.own
  have hl := h2.length
  rw [h.len] at hl
  refine ⟨xs[i * 2]'(by omega), xs[i * 2 + 1]'(by omega), ?_, ?_, h1.frozenAt _, h1.frozenAt _, h.gw.2⟩
  · rw [h1.cellAt _ (by omega), List.getElem?_eq_getElem]
  · rw [h1.cellAt _ (by omega), List.getElem?_eq_getElem]

theorem keepD {W : World} {p : Addr} {v : Value} (h : W.cell? p = some v) : W.drew.cell? p = some v := h
theorem keepA {W : World} {p : Addr} {v : Value} {o : Obj} (h : W.cell? p = some v) : (W.alloc o).cell? p = some v := by
  rw [World.cell?_alloc_some _ _ _ (by rw [h]; rfl)]
  exact h
theorem new0 (W : World) (x : List UInt8) (t : TypeId) : (W.alloc (.cells #[S x] t)).cell? ⟨W.heap.size, 0, none⟩ = some (S x) := ((Blk.new W t #[S x]).cell 0).trans rfl
theorem new1 (W : World) (o : Obj) (x : List UInt8) (t : TypeId) : ((W.alloc o).alloc (.cells #[S x] t)).cell? ⟨W.heap.size + 1, 0, none⟩ = some (S x) :=
  ((Blk.new_at (W.alloc o) t #[S x] (g := W.heap.size + 1) (by simp)).cell 0).trans rfl

theorem shape_false {h : List UInt8} {j : Nat} (e : (shapeOf h)[j]? = some false) : bindsB h = true ∧ j = 0 := by
  rcases shape_cases h with ⟨e0, _⟩ | ⟨hb, e0, _⟩ | ⟨hb, e0, _⟩
  · rw [e0] at e; simp at e
  · refine ⟨hb, ?_⟩
    rw [e0] at e
    cases j with
    | zero => rfl
    | succ i =>
      simp only [List.getElem?_cons_succ, List.getElem?_replicate] at e
      split at e <;> cases e
  · rw [e0, List.getElem?_replicate] at e
    split at e <;> cases e

theorem bind_name {h : List UInt8} {r : Fo} (hb : bindsB h = true) (hs : isTms (some (shapeOf h)) r = true) : isName (hd1 r) = true := by
  rcases shape_cases h with ⟨e0, _⟩ | ⟨_, e0, _⟩ | ⟨hb2, _⟩
  · rw [e0] at hs
    cases hq : bindsB h with
    | false => rw [hq] at hb; cases hb
    | true =>
      have := kids_binds hq
      have : (shapeOf h).length - 1 = kidsOf h := by simp [kidsOf, hq]
      rw [e0] at this
      simp at this
      omega
  · rw [e0] at hs
    cases r with
    | nil => simp [isTms] at hs
    | cons a k q =>
      simp only [isTms, Bool.and_eq_true] at hs
      exact hs.1
  · rw [hb] at hb2; cases hb2
end Go.Proofs.YthbidlcfahdfhaaDoor
