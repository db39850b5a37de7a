import Derived.Test.YtjkkjdmfhdoojaaSput2
namespace Go.Proofs.Ytjkkjdmfhdoojaa
open Go.RowKit Go.ChangeMaps

/-- the variables in order, under construction -/
def ByRow (wr : World) (B : Nat) (j : Nat) (ts : List Ty) (V : Value) : Prop := ∃ xs, wr.ownsRow B 54 2 V j xs ∧ Elems wr (fun _ => False) (tysFo ts) xs

theorem Elems.fr0 {w w' : World} {f : Fo} {xs : List Value} (h : Elems w (fun _ => False) f xs) : Elems w' (fun _ => False) f xs := h.mono (fun _ h => h) (fun _ h => h.elim)

theorem ByRow.fr {w w' : World} {B j : Nat} {ts : List Ty} {V : Value} {T : Nat → Prop} (h : ByRow w B j ts V) (hf : Fr T w w') (hs : ∀ b, V.ownBlock = some b → ¬ T b) : ByRow w' B j ts V := by
  obtain ⟨xs, h1, h2⟩ := h
  exact ⟨xs, own_fr h1 hf hs, h2.fr0⟩

theorem ByRow.sl {w : World} {B j : Nat} {ts : List Ty} {A : Option Addr} {c : Nat} (h : ByRow w B j ts (.slice A j c)) (T : Nat → Prop) (hT : ∀ b, B ≤ b → b < w.heap.size → T b) (hl : ts.length = j) : Sl w T A (tysFo ts) := by
  obtain ⟨xs, h1, h2⟩ := h
  by_cases h0 : (tysFo ts).len = 0
  · exact .inl h0
  · rcases h1.2 with ⟨_, hn⟩ | ⟨g, cap, cur, hv, _⟩
    · rw [tysFo_len] at h0; omega
    · injection hv with e1 e2 e3
      have hgl := (h1.lt g (by rw [e1]; rfl))
      refine .inr ⟨g, 0, xs, e1, hT g hgl.1 hgl.2, h2.mono (fun _ h => h.elim) (fun _ h => h.elim), fun i u hi => ?_⟩
      have := h1.cells (g := g) (by rw [e1]; rfl) i u hi
      rw [addr_add] at this
      exact this

theorem cms_snd_take (vs : List Nat) (j n : Nat) (h : vs[j]? = some n) : (cms (vs.take (j + 1))).map Prod.snd = (cms (vs.take j)).map Prod.snd ++ [.v j] := by
  rw [cms_take vs j n h]; simp

theorem names_cms (vs : List Nat) : namesOf (cms vs) = letS vs := by
  simp only [namesOf, letS]
  apply List.ext_getElem?
  intro i
  rw [List.getElem?_map, cms_get, List.getElem?_map]
  cases vs[i]? <;> simp

theorem cms_keys25 {vs : List Nat} (h : ∀ n ∈ vs, n < 25) : ∀ p ∈ cms vs, p.1 < 25 := by
  intro p hp
  obtain ⟨i, hi⟩ := List.getElem?_of_mem hp
  rw [cms_get] at hi
  rcases hv : vs[i]? with _ | x
  · rw [hv] at hi; cases hi
  · rw [hv] at hi
    simp at hi
    rw [← hi]
    exact h x (List.mem_of_getElem? hv)

def CanonR (t : Ty) (w : World) (e : Ending) (w' : World) : Prop :=
  ∃ A' c', e = .returned (.agg #[S t.canon.atom, .slice A' t.canon.kids.len c']) ∧ Fr No w w' ∧ Sl w' (Old w') A' t.canon.kids

set_option maxRecDepth 100000 in
set_option maxHeartbeats 1000000 in
theorem scanon_any (w : World) (T : Nat → Prop) (A : Option Addr) (c : Nat) (t : Ty) (hl : t.lets) (hsz : t.size ≤ 900) (hT : ∀ b, T b → b < w.heap.size) (hA : Sl w T A t.kids) :
    Calls Try.prog 58 #[.agg #[S t.atom, .slice A t.kids.len c]] w fun e w' => CanonR t w e w' := by
  have hv25 := addV_lt t [] (by simp) hl
  have hnd := addV_nodup t [] List.nodup_nil
  have hvl : (addV [] t).length ≤ 25 := vars_bound hl
  obtain ⟨vs, hvs⟩ : ∃ vs, vs = addV [] t := ⟨_, rfl⟩
  rw [← hvs] at hv25 hnd hvl
  have CALLV : Hid (Calls Try.prog 53 #[.agg #[S t.atom, .slice A t.kids.len c], .slice (some ⟨w.heap.size + 2, 0, none⟩) 0 0] (((w.alloc (.cells #[S t.atom, .slice A t.kids.len c] 54)).alloc (.cells #[S [], .slice none 0 0] 54)).alloc (.cells #[] 9)) fun e w' =>
      ∃ V vc, e = .returned (.slice V vs.length vc) ∧ Fr (fun b => b = w.heap.size + 2) (((w.alloc (.cells #[S t.atom, .slice A t.kids.len c] 54)).alloc (.cells #[S [], .slice none 0 0] 54)).alloc (.cells #[] 9)) w' ∧ SSl w' V (letS vs)) := by
    have hf2 : Fr No w (((w.alloc (.cells #[S t.atom, .slice A t.kids.len c] 54)).alloc (.cells #[S [], .slice none 0 0] 54)).alloc (.cells #[] 9)) := (((Fr.refl _ _).alloc _).alloc _).alloc _
    refine (sv_any t hl _ A c T w.heap.size (some ⟨w.heap.size + 2, 0, none⟩) 0 [] (by simp) (by simp; omega) hf2.size ?_ (hA.keepT hT hf2) ?_).mono ?_
    · intro b hb
      refine ⟨Nat.lt_of_lt_of_le (hT b hb) hf2.size, fun e => ?_⟩
      have := hT b hb
      simp only [Value.ownBlock, Option.some.injEq] at e
      omega
    · have := own_empty ((w.alloc (.cells #[S t.atom, .slice A t.kids.len c] 54)).alloc (.cells #[S [], .slice none 0 0] 54)) w.heap.size (by simp; omega) _ rfl
      simpa [letS] using this
    · rintro e w' ⟨V, vc, rfl, g1, g2, _⟩
      rw [← hvs] at g2 ⊢
      have hlen : (letS vs).length = vs.length := letS_len vs
      refine ⟨V, vc, by rw [hlen], g1.mono (fun b _ e => ?_), SSl.of_own g2⟩
      simp only [Value.ownBlock, Option.some.injEq] at e
      exact e.symm
  have b0 := ((Blk.new w 54 #[S t.atom, .slice A t.kids.len c]).alloc (.cells #[S [], .slice none 0 0] 54)).alloc (.cells #[] 9)
  have b1 : Blk (((w.alloc (.cells #[S t.atom, .slice A t.kids.len c] 54)).alloc (.cells #[S [], .slice none 0 0] 54)).alloc (.cells #[] 9)) (w.heap.size + 1) 54 #[S [], .slice none 0 0] := (Blk.new_at _ _ _ (by simp)).alloc _
  have hf2 : Fr No w (((w.alloc (.cells #[S t.atom, .slice A t.kids.len c] 54)).alloc (.cells #[S [], .slice none 0 0] 54)).alloc (.cells #[] 9)) := (((Fr.refl _ _).alloc _).alloc _).alloc _
  have hz2 : (((w.alloc (.cells #[S t.atom, .slice A t.kids.len c] 54)).alloc (.cells #[S [], .slice none 0 0] 54)).alloc (.cells #[] 9)).heap.size = w.heap.size + 3 := by simp
  have HZ2 := Lib.hid hz2
  have HVS := Lib.hid hvs
  clear hz2 hvs
  go_enter Try.func58, Try.ntmps58
  go_wp2_with fail
  generalize (((w.alloc (.cells #[S t.atom, .slice A t.kids.len c] 54)).alloc (.cells #[S [], .slice none 0 0] 54)).alloc (.cells #[] 9)) = W at *
  refine CALLV.out.mono ?_
  rintro e w3 ⟨V, vc, rfl, hf3, hss⟩
  have d0 := b0.fr hf3 (by omega)
  have d1 := b1.fr hf3 (by omega)
  have hf3' : Fr No w w3 := hf2.then_ hf3 (fun i hi e => by omega)
  have hz3 : w.heap.size + 3 ≤ w3.heap.size := by have := hf3.size; have := HZ2.out; omega
  have hA3 := hA.keepT hT hf3'
  clear b0 b1 CALLV hf2 hf3 HZ2 W
  have PUT : Hid (∀ (wr : World) (B : Option Addr) (bc : Nat), Fr No w3 wr → ByRow wr w3.heap.size vs.length ((cms vs).map Prod.snd) (.slice B vs.length bc) →
      Calls Try.prog 63 #[.agg #[S t.atom, .slice A t.kids.len c], .slice V vs.length vc, .slice B vs.length bc] wr fun e w' =>
        ∃ A' c', e = .returned (.agg #[S t.canon.atom, .slice A' t.canon.kids.len c']) ∧ Fr No w3 w' ∧ (∀ v0 v1, CanonR t w (.returned (.agg #[S t.canon.atom, .slice A' t.canon.kids.len c'])) ((w'.setCell ⟨w.heap.size + 1, 0, none⟩ v0).setCell ⟨w.heap.size + 1, 1, none⟩ v1))) := by
    intro wr B bc hf hby
    have hts : ((cms vs).map Prod.snd).length = vs.length := by simp [cms_len]
    have hsl := hby.sl (fun b => b < wr.heap.size ∧ b ≠ w.heap.size + 1) (fun b h1 h2 => ⟨h2, by omega⟩) hts
    have hz := hf.size
    refine (put_t_any (cms vs) (cms_keys25 hv25) (by rw [cms_len]; omega) t hl (fun b => b < wr.heap.size ∧ b ≠ w.heap.size + 1) wr A V B c vc bc vs.length (cms_len vs).symm (fun b hb => hb.1)
      ((hA3.keepT (fun b hb => by have := hT b hb; omega) hf).mono (fun b hb => ⟨by have := hT b hb; omega, by have := hT b hb; omega⟩) (fun _ _ => rfl)) (by rw [names_cms]; exact hss.fr hf) hsl).mono ?_
    rintro e w' ⟨A', c', rfl, g1, g2⟩
    have hc : t.put (asg (cms vs)) = t.canon := by rw [HVS.out]; rfl
    rw [hc] at g2 ⊢
    refine ⟨A', c', rfl, hf.trans g1, fun v0 v1 => ⟨A', c', rfl, ((hf3'.trans hf).trans g1).res (Nat.le_succ _), ?_⟩⟩
    refine Sl.res g2 ?_ ?_
    · rintro (h | h)
      · exact h.2 rfl
      · have := h.1; omega
    · rintro b (h | h)
      · have := g1.size; unfold Old; simp [World.setCell]; omega
      · unfold Old; simp [World.setCell]; omega
  have r00 : w3.heap.size < (w3.alloc (.cells #[] 54)).heap.size := by simp
  have hrow : ByRow (w3.alloc (.cells #[] 54)) w3.heap.size 0 ((cms (vs.take 0)).map Prod.snd) (.slice (some ⟨w3.heap.size, 0, none⟩) 0 0) :=
    ⟨[], ⟨rfl, .inr ⟨w3.heap.size, 0, #[], rfl, by omega, heap_alloc_new w3 _, Nat.le_refl _, Nat.zero_le _, rfl, rfl⟩⟩, rfl⟩
  have hfA : Fr No w3 (w3.alloc (.cells #[] 54)) := (Fr.refl _ _).alloc _
  have HROW := Lib.hid hrow
  clear hrow r00 hss hA3
  go_wp2_with fail
  generalize w3.alloc (.cells #[] 54) = W at HROW hfA ⊢
  go_loopw [4, 5] (fun v u wr => ∃ (j : Nat) (B : Option Addr) (bc : Nat), j ≤ vs.length ∧ u = .int .i64 j ∧ v = .slice B j bc ∧ Fr No w3 wr ∧ ByRow wr w3.heap.size j ((cms (vs.take j)).map Prod.snd) (.slice B j bc)) (fun _ u _ => vs.length - (intOf u).toNat)
  case atStart => exact ⟨0, _, _, Nat.zero_le _, rfl, rfl, hfA, HROW.out⟩
  case round =>
    obtain ⟨j, B, bc, hj, rfl, rfl, hfr, hby⟩ := hrel
    have HBY := Lib.hid hby
    clear hby HROW
    by_cases hlt : j < vs.length
    · have hj25 : j < 25 := by omega
      obtain ⟨n, hn⟩ : ∃ n, vs[j]? = some n := ⟨_, List.getElem?_eq_getElem hlt⟩
      go_wp2_with fail
      refine (letter_any j hj25 wr).mono ?_
      rintro e w4 ⟨rfl, hf4⟩
      obtain ⟨xs, hown0, hel0⟩ := HBY.out.fr hf4 (fun _ _ h => h)
      obtain ⟨i0, hi0, hz0, hz1, hz2⟩ := info_parts info_tree
      have HOA : Hid (∀ o : Obj, (w4.alloc o).ownsRow w3.heap.size 54 2 (.slice B j bc) j xs) := fun o => hown0.alloc o
      have HC1 : Hid (∀ (i : Nat) (u : Value), [S [Ty.letter j], Value.slice none 0 0][i]? = some u → (w4.alloc (.cells #[S [Ty.letter j], .slice none 0 0] 54)).cell? ((⟨w4.heap.size, 0, none⟩ : Addr).add i) = some u) := cells_new (w := w4) rfl [S [Ty.letter j], .slice none 0 0] 54
      have HC2 : Hid (∀ u ∈ [S [Ty.letter j], Value.slice none 0 0], u.oneCell' = true) := by
        intro u hu
        simp at hu
        rcases hu with rfl | rfl <;> rfl
      have hzw : w3.heap.size ≤ w4.heap.size := by have := hfr.size; have := hf4.size; omega
      have HC5 : Hid (∀ o : Obj, w3.heap.size ≤ (w4.alloc o).heap.size) := fun o => by simp; omega
      have bnd : (j + 1) * 40 ≤ 140737488355328 := by omega
      have bnd2 : j + 1 ≤ maxLen := by unfold maxLen; omega
      have HM : Hid (∀ V' w5 o, w5.ownsRow w3.heap.size 54 2 V' (j + 1) (xs ++ [S [Ty.letter j], .slice none 0 0]) → (w4.alloc o).grownBy w5 (Value.slice B j bc).ownBlock →
          ∃ B' bc', V' = .slice B' (j + 1) bc' ∧ Fr No w3 w5 ∧ ByRow w5 w3.heap.size (j + 1) ((cms (vs.take (j + 1))).map Prod.snd) V') := by
        intro V' w5 o h1 h2
        obtain ⟨B', bc', e⟩ := own_form h1
        refine ⟨B', bc', e, ?_, _, h1, ?_⟩
        · exact ((hfr.trans hf4).alloc o).grown h2 (fun k hk => .inr (hown0.lt k hk).1)
        · rw [cms_snd_take vs j n hn, tysFo_snoc]
          exact Elems.snoc (A := none) (c := 0) (k := (Ty.v j).kids) (.inl rfl) hel0.fr0
      clear hown0 hel0 hn hzw HBY hf4
      go_wp2_with (at_builtin; go_must (refine wpList_append_own_at _ rfl _ _ 52 rfl w3.heap.size 54 i0 (.agg #[.string ⟨#[]⟩, .slice none 0 0]) 2 40 Try.underlying52 hi0 hz0 hz1 hz2 rfl (by decide) _ j xs rfl (HOA.out _) ⟨w4.heap.size, 0, none⟩ 1 1 [S [Ty.letter j], .slice none 0 0] rfl rfl HC1.out HC2.out bnd2 bnd (HC5.out _) ?_); intro v' w5 hown' hgrow _ _; obtain ⟨B', bc', rfl, hf5, hby5⟩ := HM.out v' w5 _ hown' hgrow; have HB5 := Lib.hid hby5; clear hown' hgrow hby5)
      go_roundw
      case rel => exact ⟨j + 1, B', bc', by omega, by go_num, rfl, hf5, HB5.out⟩
      case measure => simp [intOf]; omega
    · have hjl : j = vs.length := by omega
      subst hjl
      have CALL : Hid (Calls Try.prog 63 #[.agg #[S t.atom, .slice A t.kids.len c], .slice V vs.length vc, .slice B vs.length bc] wr fun e w' =>
        ∃ A' c', e = .returned (.agg #[S t.canon.atom, .slice A' t.canon.kids.len c']) ∧ Fr No w3 w' ∧ (∀ v0 v1, CanonR t w (.returned (.agg #[S t.canon.atom, .slice A' t.canon.kids.len c'])) ((w'.setCell ⟨w.heap.size + 1, 0, none⟩ v0).setCell ⟨w.heap.size + 1, 1, none⟩ v1))) := by
        have := HBY.out
        rw [List.take_length] at this
        exact PUT.out wr B bc hfr this
      have e0 := d0.fr hfr (fun h => h)
      have c0 : wr.cell? ⟨w.heap.size, 0, none⟩ = some (S t.atom) := (e0.cell 0).trans rfl
      have c1 : wr.cell? ⟨w.heap.size, 1, none⟩ = some (.slice A t.kids.len c) := (e0.cell 1).trans rfl
      have l0 := e0.lt
      clear HBY PUT e0
      go_wp2_with fail
      refine CALL.out.mono ?_
      rintro e w5 ⟨A', c', rfl, hf5, hfin⟩
      have HFIN := Lib.hid hfin
      have e1 := d1.fr hf5 (fun h => h)
      have r0 : w5.cell? ⟨w.heap.size + 1, 0, none⟩ = some (S []) := (e1.cell 0).trans rfl
      have r1 : w5.cell? ⟨w.heap.size + 1, 1, none⟩ = some (.slice none 0 0) := (e1.cell 1).trans rfl
      have f0 := e1.frozen 0
      have f1 := e1.frozen 1
      have l1 := e1.lt
      clear hfin e1 d0 d1
      go_wp2_with fail
      exact bodyPost_ret (v := .agg #[S t.canon.atom, .slice A' t.canon.kids.len c']) (by simp [results, Try.results58, go_sem, cell_set_same r0, cell_set_next r1]) rfl (HFIN.out _ _)
end Go.Proofs.Ytjkkjdmfhdoojaa
