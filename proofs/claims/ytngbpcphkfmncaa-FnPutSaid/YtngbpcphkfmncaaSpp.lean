/- How the model puts what two lists say. -/
import Derived.Test.YtngbpcphkfmncaaTpt
import Derived.Test.YtngbpcphkfmncaaMdl
namespace Go.Proofs.Ytngbpcphkfmncaa
open Go.RowKit Go.ChangeMaps

/-- trees read so far, in a row of the call's own; the trees lie elsewhere -/
def TreesAt (wr : World) (B : Nat) (j : Nat) (ts : List Ty) (V : Value) : Prop := ∃ xs, wr.ownsRow B 68 2 V j xs ∧ Elems wr (fun b => b < wr.heap.size ∧ V.ownBlock ≠ some b) (tysFo ts) xs

theorem TreesAt.fr {w w' : World} {B j : Nat} {ts : List Ty} {V : Value} (h : TreesAt w B j ts V) (hf : Fr No w w') : TreesAt w' B j ts V := by
  obtain ⟨xs, h1, h2⟩ := h
  exact ⟨xs, own_fr h1 hf (fun _ _ h => h), h2.mono (fun b hb => ⟨Nat.lt_of_lt_of_le hb.1 hf.size, hb.2⟩) (fun b hb => hf.block b hb.1 (fun h => h))⟩

theorem TreesAt.sl {w : World} {B j : Nat} {ts : List Ty} {A : Option Addr} {c : Nat} (h : TreesAt w B j ts (.slice A j c)) (hl : ts.length = j) : Sl w (Old w) A (tysFo ts) := by
  obtain ⟨xs, h1, h2⟩ := h
  by_cases h0 : (tysFo ts).len = 0
  · exact .inl h0
  · rcases h1.2 with ⟨_, hn⟩ | ⟨g, cap, cur, hv, _⟩
    · rw [tysFo_len] at h0; omega
    · injection hv with e1 e2 e3
      have hgl := (h1.lt g (by rw [e1]; rfl))
      refine .inr ⟨g, 0, xs, e1, hgl.2, h2.mono (fun b hb => hb.1) (fun _ _ => rfl), fun i u hi => ?_⟩
      have := h1.cells (g := g) (by rw [e1]; rfl) i u hi
      rw [addr_add] at this
      exact this

theorem trees_push {wd w5 : World} {B j : Nat} {ts : List Ty} {xs : List Value} {V V' : Value} {u : Ty} {A2 : Option Addr} {c2 : Nat} (_hown : wd.ownsRow B 68 2 V j xs)
    (hel : Elems wd (fun b => b < wd.heap.size ∧ V.ownBlock ≠ some b) (tysFo ts) xs) (hu : Sl wd (fun b => b < wd.heap.size ∧ V.ownBlock ≠ some b) A2 u.kids) (o : Obj)
    (h1 : w5.ownsRow B 68 2 V' (j + 1) (xs ++ [S u.atom, .slice A2 u.kids.len c2])) (h2 : (wd.alloc o).grownBy w5 V.ownBlock) (h3 : V'.ownBlock = V.ownBlock ∨ V'.ownBlock = some (wd.alloc o).heap.size) : TreesAt w5 B (j + 1) (ts ++ [u]) V' := by
  have hf : Fr (fun b => V.ownBlock = some b) wd w5 := ((Fr.refl _ wd).alloc o).grown h2 (fun k hk => .inl hk)
  have hT : ∀ b, (b < wd.heap.size ∧ V.ownBlock ≠ some b) → b < w5.heap.size ∧ V'.ownBlock ≠ some b := by
    intro b hb
    refine ⟨Nat.lt_of_lt_of_le hb.1 hf.size, fun e => ?_⟩
    rcases h3 with h3 | h3
    · exact hb.2 (h3 ▸ e)
    · rw [h3] at e
      injection e with e
      simp at e
      omega
  have hw : ∀ b, (b < wd.heap.size ∧ V.ownBlock ≠ some b) → w5.heap[b]? = wd.heap[b]? := fun b hb => hf.block b hb.1 hb.2
  refine ⟨_, h1, ?_⟩
  rw [tysFo_snoc]
  exact Elems.snoc (hu.mono hT hw) (hel.mono hT hw)

theorem bysOk_more {bs : List (List UInt8)} {j : Nat} {ts : List Ty} {b : List UInt8} {t : Ty} (h : BysOk bs j ts) (hb : bs[j]? = some b) (hi : Ty.Is b t) : BysOk bs (j + 1) (ts ++ [t]) := by
  refine ⟨by simp [h.1], fun i y hy hyb => ?_⟩
  by_cases he : i = j
  · subst he
    rw [hb] at hyb
    injection hyb with hyb
    subst hyb
    exact ⟨t, by rw [← h.1]; simp, hi⟩
  · obtain ⟨u, h1, h2⟩ := h.2 i y (by omega) hyb
    exact ⟨u, by rw [List.getElem?_append_left (by rw [h.1]; omega)]; exact h1, h2⟩

/-- names and types make a list -/
theorem put_of {ns bs : List (List UInt8)} {ts : List Ty} (h1 : NamesOk ns ns.length) (h2 : BysOk bs bs.length ts) (hl : ns.length = bs.length) (h26 : ns.length ≤ 26) : ∃ ms, PutIs ns bs ms ∧ ms.map Prod.snd = ts := by
  suffices H : ∀ j, j ≤ ns.length → ∃ ms, PutIs (ns.take j) (bs.take j) ms ∧ ms.map Prod.snd = ts.take j by
    obtain ⟨ms, h, e⟩ := H ns.length (Nat.le_refl _)
    rw [List.take_length, hl, List.take_length] at h
    refine ⟨ms, h, ?_⟩
    rw [e, hl, ← h2.1, List.take_length]
  intro j
  induction j with
  | zero => intro _; exact ⟨[], by simpa using PutIs.nil, by simp⟩
  | succ j ih =>
    intro hj
    obtain ⟨ms, h, e⟩ := ih (by omega)
    obtain ⟨x, hx⟩ : ∃ x, ns[j]? = some x := ⟨_, List.getElem?_eq_getElem (by omega)⟩
    obtain ⟨b, hb⟩ : ∃ z, bs[j]? = some z := ⟨_, List.getElem?_eq_getElem (by omega)⟩
    obtain ⟨⟨n, h25, rfl⟩, hno⟩ := h1 j x (by omega) hx
    obtain ⟨t, ht, hi⟩ := h2.2 j b (by omega) hb
    refine ⟨ms ++ [(n, t)], h.more hx hb h25 hi ?_ h26, ?_⟩
    · rw [asg_none]
      intro p hp e
      refine hno ?_
      rw [h.names]
      exact List.mem_map.2 ⟨p, hp, by rw [e]⟩
    · rw [List.map_append, e, List.take_add_one, ht]
      rfl

theorem kids_short (t : Ty) : t.kids.len ≤ 100000 ∧ t.kids.short := by
  induction t with
  | v n => exact ⟨by simp [Ty.kids, Fo.len], trivial⟩
  | o => exact ⟨by simp [Ty.kids, Fo.len], trivial⟩
  | n f l r hl hr => exact ⟨by simp [Ty.kids, Fo.len], by simp [Fo.len], trivial, hl.1, hl.2, hr.1, hr.2, trivial⟩

/-- a type's text in the model -/
theorem spec_wide (t : Ty) (hl : t.lets) (hsz : t.size ≤ 10000) (A : Option Addr) (c : Nat) (w : World) (T : Nat → Prop) (hT : ∀ b, T b → b < w.heap.size) (h : Sl w T A t.kids) :
    Calls Try.prog 41 #[.agg #[S t.atom, .slice A t.kids.len c]] w fun e w' => e = .returned (S t.text) ∧ Fr No w w' := by
  have hp := kids_short t
  have htt := text_tree t hl
  have hlen := t.length_text
  have := spec_text _ t.kids (Nat.lt_succ_self _) t.atom A c w T ((treeText t.atom t.kids).length + t.kids.cnt) (Nat.le_refl _) (by rw [htt]; have := kids_cnt t; omega) hp.1 hp.2 hT h
  rw [htt] at this
  exact this

theorem put_names {ns bs : List (List UInt8)} {ms : List (Nat × Ty)} (h : PutIs ns bs ms) {j : Nat} {x : List UInt8} (hx : ns[j]? = some x) : (∃ n, n < 25 ∧ x = [Ty.letter n]) ∧ x ∉ ns.take j := by
  obtain ⟨n, b, t, h25, hn, _, _, hno⟩ := h.at_ (List.getElem?_eq_some_iff.1 hx).1 (h.take j)
  rw [hx] at hn
  injection hn with hn
  refine ⟨⟨n, h25, hn⟩, fun hm => ?_⟩
  rw [(h.take j).names, hn] at hm
  obtain ⟨q, hq, e⟩ := List.mem_map.1 hm
  simp at e
  exact asg_none.1 hno q hq (Ty.letter_inj ((h.take j).ok q hq).1 h25 e)

set_option maxRecDepth 100000 in
set_option maxHeartbeats 2000000 in
theorem specPut (w : World) (s : List UInt8) (A A' : Option Addr) (ns bs : List (List UInt8)) (c c' : Nat) (hc : ns.length ≤ c) (hss : s.length ≤ maxLen) (hN : SSl w A ns) (hZ : SSl w A' bs) (hl : ns.length ≤ 1048576) (hl' : bs.length ≤ 1048576) (hs : ∀ x ∈ ns, x.length ≤ maxLen) (hs' : ∀ x ∈ bs, x.length ≤ maxLen) :
    Calls Try.prog 11 #[S s, .slice A ns.length c, .slice A' bs.length c'] w fun e w' => AnsPut s ns bs w e w' := by
  have b1 : (ns.length : Int) ≤ 1048576 := by omega
  have b2 : (bs.length : Int) ≤ 1048576 := by omega
  have HN := Lib.hid hN
  have HZ := Lib.hid hZ
  have HS := Lib.hid hs
  have HS' := Lib.hid hs'
  clear hN hZ hs hs'
  go_enter Try.func11, Try.ntmps11
  go_wp2_with fail
  refine (type_any s _ hss).mono ?_
  rintro e w1 ⟨hf1, hor⟩
  rcases hor with ⟨t, At, ct, hi, rfl, hsl⟩ | ⟨a0, At, mt, ct, hno, rfl⟩
  · by_cases hne : ns.length = bs.length
    · by_cases h26 : ns.length ≤ 26
      · have h26' : ¬ 26 < (ns.length : Int) := by omega
        have HNE := Lib.hid hne
        rw [← hne]
        have HI := Lib.hid hi
        have HSL : Hid (∀ w', Fr No w1 w' → Sl w' (Old w') At t.kids) := fun w' hf => (hsl.keepT (fun b hb => hb.2) hf).mono (fun b hb => Nat.lt_of_lt_of_le hb.2 hf.size) (fun _ _ => rfl)
        have HT : Hid (∀ w', Fr No (w1.alloc (.cells #[S t.atom, .slice At t.kids.len ct] 68)) w' → w'.cell? ⟨w1.heap.size, 0, none⟩ = some (S t.atom) ∧ w'.cell? ⟨w1.heap.size, 1, none⟩ = some (.slice At t.kids.len ct)) := by
          intro w' hf
          have := (Blk.new w1 68 #[S t.atom, .slice At t.kids.len ct]).fr hf (fun h => h)
          exact ⟨(this.cell 0).trans rfl, (this.cell 1).trans rfl⟩
        have hfa : Fr No w1 (w1.alloc (.cells #[S t.atom, .slice At t.kids.len ct] 68)) := (Fr.refl _ _).alloc _
        clear hne b2 hsl hi
        go_wp2_with fail
        generalize hW : w1.alloc (.cells #[S t.atom, .slice At t.kids.len ct] 68) = W at HT hfa ⊢
        have hWs : W.heap.size = w1.heap.size + 1 := by rw [← hW]; simp
        clear hW
        have HWS := Lib.hid hWs
        have HF1 := Lib.hid (hf1.trans hfa)
        have HFA := Lib.hid hfa
        have HROW : Hid (TreesAt (W.alloc (.cells #[] 68)) W.heap.size 0 [] (.slice (some ⟨W.heap.size, 0, none⟩) 0 0)) :=
          ⟨[], ⟨rfl, .inr ⟨W.heap.size, 0, #[], rfl, Nat.le_refl _, heap_alloc_new W _, Nat.le_refl _, Nat.zero_le _, rfl, rfl⟩⟩, rfl⟩
        have HFB : Hid (Fr No W (W.alloc (.cells #[] 68))) := (Fr.refl _ _).alloc _
        clear hWs hfa hf1
        go_wp2_with fail
        generalize W.alloc (.cells #[] 68) = W2 at HROW HFB ⊢
        go_loopw [10, 11] (fun v u wr => ∃ (j : Nat) (B : Option Addr) (bc : Nat) (ts : List Ty), j ≤ ns.length ∧ u = .int .i64 j ∧ v = .slice B j bc ∧ Fr No W wr ∧ TreesAt wr W.heap.size j ts (.slice B j bc) ∧ BysOk bs j ts ∧ NamesOk ns j) (fun _ u _ => ns.length - (intOf u).toNat)
        case atStart => exact ⟨0, _, _, [], Nat.zero_le _, rfl, rfl, HFB.out, (by have h := HROW.out; rw [HWS.out] at h ⊢; exact h), ⟨rfl, fun i x hi => by omega⟩, fun i x hi => by omega⟩
        case round =>
          obtain ⟨j, B, bc, ts, hj, rfl, rfl, hfr, hrow, hby, hnm⟩ := hrel
          have HF := Lib.hid hfr
          have HR := Lib.hid hrow
          have HBY := Lib.hid hby
          have HNM := Lib.hid hnm
          clear hfr hrow hby hnm HROW HFB
          have HFW := Lib.hid (HF1.out.trans HF.out)
          by_cases hlt : j < ns.length
          · obtain ⟨x, hxj⟩ : ∃ x, ns[j]? = some x := ⟨_, List.getElem?_eq_getElem hlt⟩
            obtain ⟨b, hbj⟩ : ∃ z, bs[j]? = some z := ⟨_, List.getElem?_eq_getElem (by rw [← HNE.out]; exact hlt)⟩
            obtain ⟨g, o, rfl, hc0⟩ := HN.out j x hxj
            obtain ⟨g', o', rfl, hc1⟩ := HZ.out j b hbj
            have CELL : Hid (∀ w', Fr No w w' → w'.cell? ⟨g, o + j, none⟩ = some (S x)) := fun w' hf => (hf.cell (p := ⟨g, o + j, none⟩) (block_lt hc0) (fun h => h)).trans hc0
            have hcb := (HFW.out.cell (p := ⟨g', o' + j, none⟩) (block_lt hc1) (fun h => h)).trans hc1
            have HX := Lib.hid hxj
            have HBJ := Lib.hid hbj
            have hbl := HS'.out b (List.mem_of_getElem? hbj)
            have VAR : Hid (∀ w', Calls Try.prog 39 #[S x] w' fun e w2 => e = .returned (.bool (isVar x)) ∧ w' = w2) := fun w' => var_any2 x w' (HS.out x (List.mem_of_getElem? hxj))
            have hlc : (j : Int) ≤ (c : Int) := by omega
            clear hc0 hc1 hxj hbj
            go_wp2_with fail
            refine (type_any b _ hbl).mono ?_
            rintro e w2 ⟨hf2, hor2⟩
            have HF2 := Lib.hid hf2
            clear hf2
            rcases hor2 with ⟨u, A2, c2, hiu, rfl, hslu⟩ | ⟨x2, A2, m2, c2, hno2, rfl⟩
            · have HIU := Lib.hid hiu
              have HSU := Lib.hid hslu
              have HFE : Hid (Fr No wr (w2.alloc (.cells #[S u.atom, .slice A2 u.kids.len c2] 68))) := HF2.out.alloc _
              have HBX : Hid (Blk (w2.alloc (.cells #[S u.atom, .slice A2 u.kids.len c2] 68)) w2.heap.size 68 #[S u.atom, .slice A2 u.kids.len c2]) := Blk.new _ _ _
              have HW2 : Hid ((w2.alloc (.cells #[S u.atom, .slice A2 u.kids.len c2] 68)).heap.size = w2.heap.size + 1 ∧ Fr No w2 (w2.alloc (.cells #[S u.atom, .slice A2 u.kids.len c2] 68))) := ⟨by simp, (Fr.refl _ _).alloc _⟩
              clear hiu hslu
              go_wp2_with fail
              generalize w2.alloc (.cells #[S u.atom, .slice A2 u.kids.len c2] 68) = w3 at HFE HBX HW2 ⊢
              have hcw := CELL.out w3 (HFW.out.trans HFE.out)
              have hfd : Fr No wr w3.drew := HFE.out.drew
              by_cases hv : isVar x = true
              · have HV := Lib.hid hv
                clear hv
                have HAS : Hid (∀ w', Fr No wr w' → Calls Try.prog 40 #[.slice (some ⟨g, o, none⟩) j c, S x] w' fun e w2 => ∃ b : Bool, e = .returned (.bool b) ∧ (b = true ↔ x ∈ ns.take j) ∧ w' = w2) := by
                  intro w' hf
                  have hss : SSl w' (some ⟨g, o, none⟩) (ns.take j) := by
                    intro i y hy
                    rw [List.getElem?_take] at hy
                    split at hy
                    · exact (HN.out.keep (HFW.out.trans hf) (fun _ h => h.elim)) i y hy
                    · cases hy
                  have := has_big w' (some ⟨g, o, none⟩) (ns.take j) c x hss (by rw [List.length_take]; omega)
                  rw [List.length_take, Nat.min_eq_left hj] at this
                  exact this
                have hcd := CELL.out w3.drew (HFW.out.trans hfd)
                go_region_held3 (fun w' => w'.cell? ⟨g, o + j, none⟩ = some (S x)) (go_keep)
                  (first | (go_at_call 39; ((with_reducible refine (VAR.out _).mono ?_); rintro e w4 ⟨rfl, rfl⟩; rw [HV.out]; have d0 := hcd)) | (go_at_call 40; ((with_reducible refine (HAS.out _ hfd).mono ?_); rintro e w5 ⟨bb, rfl, hb, rfl⟩; have HB := Lib.hid hb; clear hb)))
                cases bb
                · have HNM1 : Hid (NamesOk ns (j + 1)) := HNM.out.more HX.out ((var_iff x).1 HV.out) (fun h => by have := HB.out.2 h; cases this)
                  have HBY1 : Hid (BysOk bs (j + 1) (ts ++ [u])) := bysOk_more HBY.out HBJ.out HIU.out
                  obtain ⟨xs, hown0, hel0⟩ := HR.out.fr hfd
                  obtain ⟨i0, hi0, hz0, hz1, hz2⟩ := info_parts info_tree
                  have bx := HBX.out.drew
                  have x0 : w3.drew.cell? ⟨w2.heap.size, 0, none⟩ = some (S u.atom) := (bx.cell 0).trans rfl
                  have x1 : w3.drew.cell? ⟨w2.heap.size, 1, none⟩ = some (.slice A2 u.kids.len c2) := (bx.cell 1).trans rfl
                  have xl := bx.lt
                  have hvo : ∀ b, (Value.slice B j bc).ownBlock = some b → b < w2.heap.size := fun b hb => by
                    obtain ⟨xs', ho', _⟩ := HR.out
                    have := (ho'.lt b hb).2
                    have := HF2.out.size
                    omega
                  have HSU3 : Hid (Sl w3.drew (fun b => b < w3.drew.heap.size ∧ (Value.slice B j bc).ownBlock ≠ some b) A2 u.kids) := by
                    have hsz := HW2.out.1
                    have hfw : Fr No w2 w3.drew := HW2.out.2.drew
                    refine (HSU.out.keepT (fun b hb => hb.2) hfw).mono (fun b hb => ⟨Nat.lt_of_lt_of_le hb.2 hfw.size, fun e => ?_⟩) (fun _ _ => rfl)
                    obtain ⟨xs', ho', _⟩ := HR.out
                    have h1 := (ho'.lt b e).2
                    have h2 := hb.1
                    omega
                  have HOA : Hid (∀ o : Obj, (w3.drew.alloc o).ownsRow W.heap.size 68 2 (.slice B j bc) j xs) := fun o => hown0.alloc o
                  have HC1 : Hid (∀ (i : Nat) (v : Value), [S u.atom, Value.slice A2 u.kids.len c2][i]? = some v → (w3.drew.alloc (.cells #[S u.atom, .slice A2 u.kids.len c2] 68)).cell? ((⟨w3.drew.heap.size, 0, none⟩ : Addr).add i) = some v) := cells_new (w := w3.drew) rfl [S u.atom, Value.slice A2 u.kids.len c2] 68
                  have HC2 : Hid (∀ v ∈ [S u.atom, Value.slice A2 u.kids.len c2], v.oneCell' = true) := by
                    intro v hv
                    simp at hv
                    rcases hv with rfl | rfl <;> rfl
                  have hzw : W.heap.size ≤ w3.drew.heap.size := (HF.out.trans hfd).size
                  have HC5 : Hid (∀ o : Obj, W.heap.size ≤ (w3.drew.alloc o).heap.size) := fun o => by simp at hzw ⊢; omega
                  have bnd : (j + 1) * 40 ≤ 140737488355328 := by omega
                  have bnd2 : j + 1 ≤ maxLen := by unfold maxLen; omega
                  have HM : Hid (∀ (o : Obj) (V' : Value) (w5 : World), w5.ownsRow W.heap.size 68 2 V' (j + 1) (xs ++ [S u.atom, .slice A2 u.kids.len c2]) → (w3.drew.alloc o).grownBy w5 (Value.slice B j bc).ownBlock → (V'.ownBlock = (Value.slice B j bc).ownBlock ∨ V'.ownBlock = some (w3.drew.alloc o).heap.size) →
                      ∃ B' bc', V' = .slice B' (j + 1) bc' ∧ Fr No W w5 ∧ TreesAt w5 W.heap.size (j + 1) (ts ++ [u]) V') := by
                    intro o V' w5 h1 h2 h3
                    obtain ⟨B', bc', e⟩ := own_form h1
                    exact ⟨B', bc', e, ((HF.out.trans hfd).alloc o).grown h2 (fun k hk => .inr (hown0.lt k hk).1), trees_push hown0 hel0 HSU3.out o h1 h2 h3⟩
                  clear hown0 hel0 hzw hvo bx hcw hcd
                  go_wp2_with (at_builtin; go_must (refine wpList_append_own_at _ rfl _ _ 66 rfl W.heap.size 68 i0 (.agg #[.string ⟨#[]⟩, .slice none 0 0]) 2 40 Try.underlying66 hi0 hz0 hz1 hz2 rfl (by decide) _ j xs rfl (HOA.out _) ⟨w3.drew.heap.size, 0, none⟩ 1 1 [S u.atom, Value.slice A2 u.kids.len c2] rfl rfl HC1.out HC2.out bnd2 bnd (HC5.out _) ?_); intro v' w5 hown' hgrow _ hloc; obtain ⟨B', bc', rfl, hf5, htr5⟩ := HM.out _ v' w5 hown' hgrow hloc; have HT5 := Lib.hid htr5; clear hown' hgrow htr5 hloc)
                  go_roundw
                  case rel => exact ⟨j + 1, B', bc', _, by omega, by go_num, rfl, hf5, HT5.out, HBY1.out, HNM1.out⟩
                  case measure => simp [intOf]; omega
                · have HNO : Hid (∀ ms, ¬ PutIs ns bs ms) := fun ms h => (put_names h HX.out).2 (HB.out.1 rfl)
                  go_wp2_with fail
                  refine bodyPost_ret (v := .tuple #[S [], .bool false]) (by simp [results, Try.results11, go_sem]) rfl ?_
                  exact ⟨_, _, rfl, .inr ⟨fun t' ms' _ hp => (HNO.out ms' hp).elim, rfl, rfl⟩, HFW.out.trans hfd⟩
              · have HNO : Hid (∀ ms, ¬ PutIs ns bs ms) := fun ms h => hv ((var_iff x).2 (put_names h HX.out).1)
                have HV : Hid (isVar x = false) := Bool.eq_false_iff.2 hv
                clear hv
                refine wp_region_held_drew (S := (fun w' => w'.cell? ⟨g, o + j, none⟩ = some (S x))) (by kernel_rfl) ?hSB (fun hHeldB => ?_)
                case hSB => (first | exact hcw | (dsimp only; exact hcw))
                refine wpAnyH_take (i := 0) (v := ?vB0) (by simp only [List.getElem?_toArray, List.getElem?_cons_zero]; rfl) (by kernel_rfl) (by kernel_rfl) (by kernel_rfl) (by exact fun _ _ _ h => h) (Or.inl ⟨by rfl, ?hyB0⟩) (by assumption) ?restB0
                case hyB0 => (intro w hSw; (try dsimp only at hSw); go_simp; try with_reducible rfl)
                try simp only [Act.put, List.setIfInBounds_toArray, List.set_cons_zero, List.set_cons_succ]
                refine wpAnyH_take (i := 1) (v := ?vB1) (by simp only [List.getElem?_toArray, List.getElem?_cons_succ, List.getElem?_cons_zero]; rfl) (by kernel_rfl) (by kernel_rfl) (by kernel_rfl) (by exact fun _ _ _ h => h) (Or.inl ⟨by rfl, ?hyB1⟩) (by assumption) ?restB1
                case hyB1 => (intro w hSw; (try dsimp only at hSw); go_simp; try with_reducible rfl)
                try simp only [Act.put, List.setIfInBounds_toArray, List.set_cons_zero, List.set_cons_succ]
                refine wpAnyH_take (i := 2) (v := ?vB2) (by simp only [List.getElem?_toArray, List.getElem?_cons_succ, List.getElem?_cons_zero]; rfl) (by kernel_rfl) (by kernel_rfl) (by kernel_rfl) (by exact fun _ _ _ h => h) (Or.inl ⟨by rfl, ?hyB2⟩) (by assumption) ?restB2
                case hyB2 => (intro w hSw; (try dsimp only at hSw); go_simp; try with_reducible rfl)
                try simp only [Act.put, List.setIfInBounds_toArray, List.set_cons_zero, List.set_cons_succ]
                refine wpAnyH_take (i := 3) (v := ?vB3) (by simp only [List.getElem?_toArray, List.getElem?_cons_succ, List.getElem?_cons_zero]; rfl) (by kernel_rfl) (by kernel_rfl) (by kernel_rfl) (by exact fun _ _ _ h => h) (Or.inl ⟨by rfl, ?hyB3⟩) (by assumption) ?restB3
                case hyB3 => (intro w hSw; (try dsimp only at hSw); go_simp; try with_reducible rfl)
                try simp only [Act.put, List.setIfInBounds_toArray, List.set_cons_zero, List.set_cons_succ]
                refine wpAnyH_take (i := 4) (v := ?vB4) (by simp only [List.getElem?_toArray, List.getElem?_cons_succ, List.getElem?_cons_zero]; rfl) (by kernel_rfl) (by kernel_rfl) (by kernel_rfl) (by exact fun _ _ _ h => h) (Or.inl ⟨by rfl, ?hyB4⟩) (by assumption) ?restB4
                case hyB4 => (intro w hSw; (try dsimp only at hSw); go_simp; try with_reducible rfl)
                try simp only [Act.put, List.setIfInBounds_toArray, List.set_cons_zero, List.set_cons_succ]
                refine wpAnyH_take (i := 5) (v := ?vB5) (by simp only [List.getElem?_toArray, List.getElem?_cons_succ, List.getElem?_cons_zero]; rfl) (by kernel_rfl) (by kernel_rfl) (by kernel_rfl) (by exact fun _ _ _ h => h) (Or.inl ⟨by rfl, ?hyB5⟩) (by assumption) ?restB5
                case hyB5 => (intro w hSw; (try dsimp only at hSw); go_simp; try with_reducible rfl)
                try simp only [Act.put, List.setIfInBounds_toArray, List.set_cons_zero, List.set_cons_succ]
                refine wpAnyH_take (i := 6) (v := ?vB6) (by simp only [List.getElem?_toArray, List.getElem?_cons_succ, List.getElem?_cons_zero]; rfl) (by kernel_rfl) (by kernel_rfl) (by kernel_rfl) (by exact fun _ _ _ h => h) (Or.inl ⟨by rfl, ?hyB6⟩) (by assumption) ?restB6
                case hyB6 => (intro w hSw; (try dsimp only at hSw); go_simp; try with_reducible rfl)
                try simp only [Act.put, List.setIfInBounds_toArray, List.set_cons_zero, List.set_cons_succ]
                refine wpAnyH_ready (rs := [7]) (by kernel_rfl) (by simp) ?_
                refine AllReadyH.cons rfl (fun K hK => ?_) AllReadyH.nil
                go_simp
                (with_reducible refine (VAR.out _).mono ?_); rintro e w4 ⟨rfl, rfl⟩; rw [HV.out]
                refine hK.out _ _ ?hSB_1 (fun hHeldB_1 => ?_)
                case hSB_1 => exact hcw
                clear hK K hHeldB
                try simp only [Act.put, List.setIfInBounds_toArray, List.set_cons_zero, List.set_cons_succ]
                refine wpAnyH_take (i := 8) (v := ?vB8) (by simp only [List.getElem?_toArray, List.getElem?_cons_succ, List.getElem?_cons_zero]; rfl) (by kernel_rfl) (by kernel_rfl) (by kernel_rfl) (by exact fun _ _ _ h => h) (Or.inl ⟨by rfl, ?hyB8⟩) (by assumption) ?restB8
                case hyB8 => (intro w hSw; (try dsimp only at hSw); go_simp; try with_reducible rfl)
                try simp only [Act.put, List.setIfInBounds_toArray, List.set_cons_zero, List.set_cons_succ]
                refine wpAnyH_take (i := 9) (v := ?vB9) (by simp only [List.getElem?_toArray, List.getElem?_cons_succ, List.getElem?_cons_zero]; rfl) (by kernel_rfl) (by kernel_rfl) (by kernel_rfl) (by exact fun _ _ _ h => h) (Or.inl ⟨by rfl, ?hyB9⟩) (by assumption) ?restB9
                case hyB9 => (intro w hSw; (try dsimp only at hSw); go_simp; try with_reducible rfl)
                try simp only [Act.put, List.setIfInBounds_toArray, List.set_cons_zero, List.set_cons_succ]
                refine wpAnyH_take (i := 10) (v := ?vB10) (by simp only [List.getElem?_toArray, List.getElem?_cons_succ, List.getElem?_cons_zero]; rfl) (by kernel_rfl) (by kernel_rfl) (by kernel_rfl) (by exact fun _ _ _ h => h) (Or.inl ⟨by rfl, ?hyB10⟩) (by assumption) ?restB10
                case hyB10 => (intro w hSw; (try dsimp only at hSw); go_simp; try with_reducible rfl)
                try simp only [Act.put, List.setIfInBounds_toArray, List.set_cons_zero, List.set_cons_succ]
                refine wpAnyH_take (i := 11) (v := undef) (by simp only [List.getElem?_toArray, List.getElem?_cons_succ, List.getElem?_cons_zero]; rfl) (by kernel_rfl) (by kernel_rfl) (by kernel_rfl) (by exact fun _ _ _ h => h) (Or.inr ⟨by rfl, rfl⟩) (by assumption) ?_
                try simp only [Act.put, List.setIfInBounds_toArray, List.set_cons_zero, List.set_cons_succ]
                refine wpAnyH_take (i := 12) (v := undef) (by simp only [List.getElem?_toArray, List.getElem?_cons_succ, List.getElem?_cons_zero]; rfl) (by kernel_rfl) (by kernel_rfl) (by kernel_rfl) (by exact fun _ _ _ h => h) (Or.inr ⟨by rfl, rfl⟩) (by assumption) ?_
                try simp only [Act.put, List.setIfInBounds_toArray, List.set_cons_zero, List.set_cons_succ]
                refine wpAnyH_take (i := 13) (v := undef) (by simp only [List.getElem?_toArray, List.getElem?_cons_succ, List.getElem?_cons_zero]; rfl) (by kernel_rfl) (by kernel_rfl) (by kernel_rfl) (by exact fun _ _ _ h => h) (Or.inr ⟨by rfl, rfl⟩) (by assumption) ?_
                try simp only [Act.put, List.setIfInBounds_toArray, List.set_cons_zero, List.set_cons_succ]
                refine wpAnyH_take (i := 14) (v := undef) (by simp only [List.getElem?_toArray, List.getElem?_cons_succ, List.getElem?_cons_zero]; rfl) (by kernel_rfl) (by kernel_rfl) (by kernel_rfl) (by exact fun _ _ _ h => h) (Or.inr ⟨by rfl, rfl⟩) (by assumption) ?_
                try simp only [Act.put, List.setIfInBounds_toArray, List.set_cons_zero, List.set_cons_succ]
                refine wpAnyH_take (i := 15) (v := undef) (by simp only [List.getElem?_toArray, List.getElem?_cons_succ, List.getElem?_cons_zero]; rfl) (by kernel_rfl) (by kernel_rfl) (by kernel_rfl) (by exact fun _ _ _ h => h) (Or.inr ⟨by rfl, rfl⟩) (by assumption) ?_
                try simp only [Act.put, List.setIfInBounds_toArray, List.set_cons_zero, List.set_cons_succ]
                refine wpAnyH_take (i := 16) (v := undef) (by simp only [List.getElem?_toArray, List.getElem?_cons_succ, List.getElem?_cons_zero]; rfl) (by kernel_rfl) (by kernel_rfl) (by kernel_rfl) (by exact fun _ _ _ h => h) (Or.inr ⟨by rfl, rfl⟩) (by assumption) ?_
                try simp only [Act.put, List.setIfInBounds_toArray, List.set_cons_zero, List.set_cons_succ]
                refine wpAnyH_take (i := 17) (v := undef) (by simp only [List.getElem?_toArray, List.getElem?_cons_succ, List.getElem?_cons_zero]; rfl) (by kernel_rfl) (by kernel_rfl) (by kernel_rfl) (by exact fun _ _ _ h => h) (Or.inr ⟨by rfl, rfl⟩) (by assumption) ?_
                try simp only [Act.put, List.setIfInBounds_toArray, List.set_cons_zero, List.set_cons_succ]
                refine wpAnyH_take (i := 18) (v := undef) (by simp only [List.getElem?_toArray, List.getElem?_cons_succ, List.getElem?_cons_zero]; rfl) (by kernel_rfl) (by kernel_rfl) (by kernel_rfl) (by exact fun _ _ _ h => h) (Or.inr ⟨by rfl, rfl⟩) (by assumption) ?_
                try simp only [Act.put, List.setIfInBounds_toArray, List.set_cons_zero, List.set_cons_succ]
                refine wpAnyH_take (i := 19) (v := ?vB19) (by simp only [List.getElem?_toArray, List.getElem?_cons_succ, List.getElem?_cons_zero]; rfl) (by kernel_rfl) (by kernel_rfl) (by kernel_rfl) (by exact fun _ _ _ h => h) (Or.inl ⟨by rfl, ?hyB19⟩) (by assumption) ?restB19
                case hyB19 => (intro w hSw; (try dsimp only at hSw); go_simp; try with_reducible rfl)
                try simp only [Act.put, List.setIfInBounds_toArray, List.set_cons_zero, List.set_cons_succ]
                refine wpAnyH_done (by kernel_rfl) ?_ _
                go_wp2_with fail
                refine bodyPost_ret (v := .tuple #[S [], .bool false]) (by simp [results, Try.results11, go_sem]) rfl ?_
                exact ⟨_, _, rfl, .inr ⟨fun t' ms' _ hp => (HNO.out ms' hp).elim, rfl, rfl⟩, HFW.out.trans hfd⟩
            · have HNO : Hid (∀ ms, ¬ PutIs ns bs ms) := by
                intro ms h
                obtain ⟨n, b', t', h25, _, hb', hi', _⟩ := h.at_ hlt (h.take j)
                rw [HBJ.out] at hb'
                injection hb' with hb'
                subst hb'
                exact hno2 _ hi'
              have HFE : Hid (Fr No wr (w2.alloc (.cells #[S x2, .slice A2 m2 c2] 68))) := HF2.out.alloc _
              clear hno2
              go_wp2_with fail
              generalize w2.alloc (.cells #[S x2, .slice A2 m2 c2] 68) = w3 at HFE ⊢
              have hcw := CELL.out w3 (HFW.out.trans HFE.out)
              have hfd : Fr No wr w3.drew := HFE.out.drew
              refine wp_region_held_drew (S := (fun w' => w'.cell? ⟨g, o + j, none⟩ = some (S x))) (by kernel_rfl) ?hSA (fun hHeldA => ?_)
              case hSA => (first | exact hcw | (dsimp only; exact hcw))
              refine wpAnyH_take (i := 0) (v := ?vA0) (by simp only [List.getElem?_toArray, List.getElem?_cons_zero]; rfl) (by kernel_rfl) (by kernel_rfl) (by kernel_rfl) (by exact fun _ _ _ h => h) (Or.inl ⟨by rfl, ?hyA0⟩) (by assumption) ?restA0
              case hyA0 => (intro w hSw; (try dsimp only at hSw); go_simp; try with_reducible rfl)
              try simp only [Act.put, List.setIfInBounds_toArray, List.set_cons_zero, List.set_cons_succ]
              refine wpAnyH_take (i := 1) (v := ?vA1) (by simp only [List.getElem?_toArray, List.getElem?_cons_succ, List.getElem?_cons_zero]; rfl) (by kernel_rfl) (by kernel_rfl) (by kernel_rfl) (by exact fun _ _ _ h => h) (Or.inl ⟨by rfl, ?hyA1⟩) (by assumption) ?restA1
              case hyA1 => (intro w hSw; (try dsimp only at hSw); go_simp; try with_reducible rfl)
              try simp only [Act.put, List.setIfInBounds_toArray, List.set_cons_zero, List.set_cons_succ]
              refine wpAnyH_take (i := 2) (v := ?vA2) (by simp only [List.getElem?_toArray, List.getElem?_cons_succ, List.getElem?_cons_zero]; rfl) (by kernel_rfl) (by kernel_rfl) (by kernel_rfl) (by exact fun _ _ _ h => h) (Or.inl ⟨by rfl, ?hyA2⟩) (by assumption) ?restA2
              case hyA2 => (intro w hSw; (try dsimp only at hSw); go_simp; try with_reducible rfl)
              try simp only [Act.put, List.setIfInBounds_toArray, List.set_cons_zero, List.set_cons_succ]
              refine wpAnyH_take (i := 3) (v := undef) (by simp only [List.getElem?_toArray, List.getElem?_cons_succ, List.getElem?_cons_zero]; rfl) (by kernel_rfl) (by kernel_rfl) (by kernel_rfl) (by exact fun _ _ _ h => h) (Or.inr ⟨by rfl, rfl⟩) (by assumption) ?_
              try simp only [Act.put, List.setIfInBounds_toArray, List.set_cons_zero, List.set_cons_succ]
              refine wpAnyH_take (i := 4) (v := undef) (by simp only [List.getElem?_toArray, List.getElem?_cons_succ, List.getElem?_cons_zero]; rfl) (by kernel_rfl) (by kernel_rfl) (by kernel_rfl) (by exact fun _ _ _ h => h) (Or.inr ⟨by rfl, rfl⟩) (by assumption) ?_
              try simp only [Act.put, List.setIfInBounds_toArray, List.set_cons_zero, List.set_cons_succ]
              refine wpAnyH_take (i := 5) (v := undef) (by simp only [List.getElem?_toArray, List.getElem?_cons_succ, List.getElem?_cons_zero]; rfl) (by kernel_rfl) (by kernel_rfl) (by kernel_rfl) (by exact fun _ _ _ h => h) (Or.inr ⟨by rfl, rfl⟩) (by assumption) ?_
              try simp only [Act.put, List.setIfInBounds_toArray, List.set_cons_zero, List.set_cons_succ]
              refine wpAnyH_take (i := 6) (v := undef) (by simp only [List.getElem?_toArray, List.getElem?_cons_succ, List.getElem?_cons_zero]; rfl) (by kernel_rfl) (by kernel_rfl) (by kernel_rfl) (by exact fun _ _ _ h => h) (Or.inr ⟨by rfl, rfl⟩) (by assumption) ?_
              try simp only [Act.put, List.setIfInBounds_toArray, List.set_cons_zero, List.set_cons_succ]
              refine wpAnyH_take (i := 7) (v := undef) (by simp only [List.getElem?_toArray, List.getElem?_cons_succ, List.getElem?_cons_zero]; rfl) (by kernel_rfl) (by kernel_rfl) (by kernel_rfl) (by exact fun _ _ _ h => h) (Or.inr ⟨by rfl, rfl⟩) (by assumption) ?_
              try simp only [Act.put, List.setIfInBounds_toArray, List.set_cons_zero, List.set_cons_succ]
              refine wpAnyH_take (i := 8) (v := undef) (by simp only [List.getElem?_toArray, List.getElem?_cons_succ, List.getElem?_cons_zero]; rfl) (by kernel_rfl) (by kernel_rfl) (by kernel_rfl) (by exact fun _ _ _ h => h) (Or.inr ⟨by rfl, rfl⟩) (by assumption) ?_
              try simp only [Act.put, List.setIfInBounds_toArray, List.set_cons_zero, List.set_cons_succ]
              refine wpAnyH_take (i := 9) (v := ?vA9) (by simp only [List.getElem?_toArray, List.getElem?_cons_succ, List.getElem?_cons_zero]; rfl) (by kernel_rfl) (by kernel_rfl) (by kernel_rfl) (by exact fun _ _ _ h => h) (Or.inl ⟨by rfl, ?hyA9⟩) (by assumption) ?restA9
              case hyA9 => (intro w hSw; (try dsimp only at hSw); go_simp; try with_reducible rfl)
              try simp only [Act.put, List.setIfInBounds_toArray, List.set_cons_zero, List.set_cons_succ]
              refine wpAnyH_take (i := 10) (v := ?vA10) (by simp only [List.getElem?_toArray, List.getElem?_cons_succ, List.getElem?_cons_zero]; rfl) (by kernel_rfl) (by kernel_rfl) (by kernel_rfl) (by exact fun _ _ _ h => h) (Or.inl ⟨by rfl, ?hyA10⟩) (by assumption) ?restA10
              case hyA10 => (intro w hSw; (try dsimp only at hSw); go_simp; try with_reducible rfl)
              try simp only [Act.put, List.setIfInBounds_toArray, List.set_cons_zero, List.set_cons_succ]
              refine wpAnyH_take (i := 11) (v := undef) (by simp only [List.getElem?_toArray, List.getElem?_cons_succ, List.getElem?_cons_zero]; rfl) (by kernel_rfl) (by kernel_rfl) (by kernel_rfl) (by exact fun _ _ _ h => h) (Or.inr ⟨by rfl, rfl⟩) (by assumption) ?_
              try simp only [Act.put, List.setIfInBounds_toArray, List.set_cons_zero, List.set_cons_succ]
              refine wpAnyH_take (i := 12) (v := undef) (by simp only [List.getElem?_toArray, List.getElem?_cons_succ, List.getElem?_cons_zero]; rfl) (by kernel_rfl) (by kernel_rfl) (by kernel_rfl) (by exact fun _ _ _ h => h) (Or.inr ⟨by rfl, rfl⟩) (by assumption) ?_
              try simp only [Act.put, List.setIfInBounds_toArray, List.set_cons_zero, List.set_cons_succ]
              refine wpAnyH_take (i := 13) (v := undef) (by simp only [List.getElem?_toArray, List.getElem?_cons_succ, List.getElem?_cons_zero]; rfl) (by kernel_rfl) (by kernel_rfl) (by kernel_rfl) (by exact fun _ _ _ h => h) (Or.inr ⟨by rfl, rfl⟩) (by assumption) ?_
              try simp only [Act.put, List.setIfInBounds_toArray, List.set_cons_zero, List.set_cons_succ]
              refine wpAnyH_take (i := 14) (v := undef) (by simp only [List.getElem?_toArray, List.getElem?_cons_succ, List.getElem?_cons_zero]; rfl) (by kernel_rfl) (by kernel_rfl) (by kernel_rfl) (by exact fun _ _ _ h => h) (Or.inr ⟨by rfl, rfl⟩) (by assumption) ?_
              try simp only [Act.put, List.setIfInBounds_toArray, List.set_cons_zero, List.set_cons_succ]
              refine wpAnyH_take (i := 15) (v := undef) (by simp only [List.getElem?_toArray, List.getElem?_cons_succ, List.getElem?_cons_zero]; rfl) (by kernel_rfl) (by kernel_rfl) (by kernel_rfl) (by exact fun _ _ _ h => h) (Or.inr ⟨by rfl, rfl⟩) (by assumption) ?_
              try simp only [Act.put, List.setIfInBounds_toArray, List.set_cons_zero, List.set_cons_succ]
              refine wpAnyH_take (i := 16) (v := undef) (by simp only [List.getElem?_toArray, List.getElem?_cons_succ, List.getElem?_cons_zero]; rfl) (by kernel_rfl) (by kernel_rfl) (by kernel_rfl) (by exact fun _ _ _ h => h) (Or.inr ⟨by rfl, rfl⟩) (by assumption) ?_
              try simp only [Act.put, List.setIfInBounds_toArray, List.set_cons_zero, List.set_cons_succ]
              refine wpAnyH_take (i := 17) (v := undef) (by simp only [List.getElem?_toArray, List.getElem?_cons_succ, List.getElem?_cons_zero]; rfl) (by kernel_rfl) (by kernel_rfl) (by kernel_rfl) (by exact fun _ _ _ h => h) (Or.inr ⟨by rfl, rfl⟩) (by assumption) ?_
              try simp only [Act.put, List.setIfInBounds_toArray, List.set_cons_zero, List.set_cons_succ]
              refine wpAnyH_take (i := 18) (v := undef) (by simp only [List.getElem?_toArray, List.getElem?_cons_succ, List.getElem?_cons_zero]; rfl) (by kernel_rfl) (by kernel_rfl) (by kernel_rfl) (by exact fun _ _ _ h => h) (Or.inr ⟨by rfl, rfl⟩) (by assumption) ?_
              try simp only [Act.put, List.setIfInBounds_toArray, List.set_cons_zero, List.set_cons_succ]
              refine wpAnyH_take (i := 19) (v := ?vA19) (by simp only [List.getElem?_toArray, List.getElem?_cons_succ, List.getElem?_cons_zero]; rfl) (by kernel_rfl) (by kernel_rfl) (by kernel_rfl) (by exact fun _ _ _ h => h) (Or.inl ⟨by rfl, ?hyA19⟩) (by assumption) ?restA19
              case hyA19 => (intro w hSw; (try dsimp only at hSw); go_simp; try with_reducible rfl)
              try simp only [Act.put, List.setIfInBounds_toArray, List.set_cons_zero, List.set_cons_succ]
              refine wpAnyH_done (by kernel_rfl) ?_ _
              go_wp2_with fail
              refine bodyPost_ret (v := .tuple #[S [], .bool false]) (by simp [results, Try.results11, go_sem]) rfl ?_
              exact ⟨_, _, rfl, .inr ⟨fun t' ms' _ hp => (HNO.out ms' hp).elim, rfl, rfl⟩, HFW.out.trans hfd⟩
          · have hjl : j = ns.length := by omega
            subst hjl
            obtain ⟨ms, hput, hsnd⟩ := put_of HNM.out (HNE.out ▸ HBY.out) HNE.out h26
            have hts : ts.length = ns.length := HBY.out.1
            have hml : ms.length = ns.length := by rw [hput.names]; simp
            have HP := Lib.hid hput
            have hsl := HR.out.sl hts
            have hlets := HI.out.2.1
            have hszT := put_size t (asg ms) hput.sizes
            have hsz40 := HI.out.2.2
            have HLT : Hid ((t.put (asg ms)).lets) := hput.put_lets hlets
            have hlen := Ty.length_text (t.put (asg ms))
            have CALL : Hid (Calls Try.prog 42 #[.agg #[S t.atom, .slice At t.kids.len ct], .slice A ns.length c, .slice B ns.length bc] wr fun e w' => PutR (Old wr) ms t wr e w') :=
              put_t_any ms (fun p hp => (hput.ok p hp).1) (by omega) t hlets (Old wr) wr At A B ct c bc ns.length hml.symm (fun _ hb => hb) (HSL.out wr (HFA.out.trans HF.out)) (by rw [← names_of_put hput]; exact HN.out.keep HFW.out (fun _ h => h.elim)) (by rw [hsnd]; exact hsl)
            obtain ⟨c0, c1⟩ := HT.out wr HF.out
            clear hput hsl hsnd hts hml
            go_wp2_with fail
            refine CALL.out.mono ?_
            rintro e w4 ⟨A4, c4, rfl, hf4, hs4⟩
            have HF4 := Lib.hid (HFW.out.trans hf4)
            go_wp2_with fail
            refine (spec_wide (t.put (asg ms)) HLT.out (by omega) A4 c4 w4 (TN (Old wr) wr w4) (fun b hb => by rcases hb with hb | hb; exact Nat.lt_of_lt_of_le hb hf4.size; exact hb.2) hs4).mono ?_
            rintro e w5 ⟨rfl, hf5⟩
            have hl2 : (t.put (asg ms)).text.length ≤ maxLen := by unfold maxLen; omega
            have HF5 := Lib.hid (HF4.out.trans hf5)
            clear hlen hszT hf4 hf5 hs4
            go_wp2_with fail
            refine (specValid _ (t.put (asg ms)).text hl2).mono ?_
            rintro e w6 ⟨b6, rfl, hb6, hf6⟩
            have HB6 := Lib.hid hb6
            have HF6 := Lib.hid (HF5.out.trans hf6)
            clear hb6 hf6
            cases b6
            · have HNO : Hid (∀ t' ms', Ty.Is s t' → PutIs ns bs ms' → 40 < (t'.put (asg ms')).size) := by
                intro t' ms' h1 h2
                rw [h1.unique HI.out, h2.unique HP.out]
                refine Nat.lt_of_not_le fun h => ?_
                have := HB6.out.2 ⟨_, rfl, HLT.out, h⟩
                cases this
              go_wp2_with fail
              refine bodyPost_ret (v := .tuple #[S [], .bool false]) (by simp [results, Try.results11, go_sem]) rfl ?_
              exact ⟨_, _, rfl, .inr ⟨HNO.out, rfl, rfl⟩, HF6.out⟩
            · have HYES : Hid ((t.put (asg ms)).size ≤ 40) := by
                obtain ⟨u, hu⟩ := HB6.out.1 rfl
                have e : t.put (asg ms) = u := Ty.text_inj HLT.out hu.2.1 hu.1
                rw [e]
                exact hu.2.2
              generalize hq : t.put (asg ms) = q at *
              have HQ := Lib.hid hq
              clear hq
              go_wp2_with fail
              refine bodyPost_ret (v := .tuple #[S q.text, .bool true]) (by simp [results, Try.results11, go_sem]) rfl ?_
              exact ⟨_, _, rfl, .inl ⟨t, ms, HI.out, HP.out, by rw [HQ.out]; exact HYES.out, by rw [HQ.out], rfl⟩, HF6.out⟩
      · have h26' : 26 < (ns.length : Int) := by omega
        rw [← hne]
        have HF : Hid (∀ ms', ¬ PutIs ns bs ms') := fun ms h => h26 h.len.2
        have hfa : Fr No w (w1.alloc (.cells #[S t.atom, .slice At t.kids.len ct] 68)) := hf1.alloc _
        clear b2 hne h26 HN HZ HS HS' hsl hf1
        go_wp2_with fail
        refine bodyPost_ret (v := .tuple #[S [], .bool false]) (by simp [results, Try.results11, go_sem]) rfl ?_
        exact ⟨_, _, rfl, .inr ⟨fun t' ms' _ hp => (HF.out ms' hp).elim, rfl, rfl⟩, hfa⟩
    · have hd : ((ns.length : Int) == (bs.length : Int)) = false := beq_eq_false_iff_ne.2 (by omega)
      have HF : Hid (∀ ms', ¬ PutIs ns bs ms') := fun ms h => hne h.len.1
      have hfa : Fr No w (w1.alloc (.cells #[S t.atom, .slice At t.kids.len ct] 68)) := hf1.alloc _
      clear HN HZ HS HS' hsl hf1
      go_wp2_with fail
      refine bodyPost_ret (v := .tuple #[S [], .bool false]) (by simp [results, Try.results11, go_sem]) rfl ?_
      exact ⟨_, _, rfl, .inr ⟨fun t' ms' _ hp => (HF.out ms' hp).elim, rfl, rfl⟩, hfa⟩
  · have HNO := Lib.hid hno
    have hfa : Fr No w (w1.alloc (.cells #[S a0, .slice At mt ct] 68)) := hf1.alloc _
    clear HN HZ HS HS' hno hf1
    go_wp2_with fail
    refine bodyPost_ret (v := .tuple #[S [], .bool false]) (by simp [results, Try.results11, go_sem]) rfl ?_
    exact ⟨_, _, rfl, .inr ⟨fun t' ms' ht _ => (HNO.out t' ht).elim, rfl, rfl⟩, hfa⟩
end Go.Proofs.Ytngbpcphkfmncaa
