import Derived.Test.YtngbpcphkfmncaaPut2
namespace Go.Proofs.Ytngbpcphkfmncaa
open Go.RowKit Go.ChangeMaps

theorem VAt.grew {B : Nat} {ps ps' : List Nat} {D D' : List Ty} {vs xs : List Nat} (h : VAt ps D vs xs) (hg : Grew B ps D ps' D') : VAt ps' D' vs xs :=
  ⟨h.1, fun j n x h1 h2 => (h.2 j n x h1 h2).grew hg⟩

theorem ByAt.store {w : World} {mb : Nat} {ps : List Nat} {D : List Ty} {σ : Nat → Option Ty} (h : ByAt w mb ps D σ) (n : Nat) (t : Ty) (p : Nat) (hh : Has ps D t p) :
    ∃ w', (Instr.mapUpdate 60 (.map (some mb)) (.int .i64 n) (Ptr p)).run Try.prog w = .ok () w' ∧ ByAt w' mb ps D (fun x => if x = n then some t else σ x) ∧ w.mapTurned w' mb ∧ w'.heap.size = w.heap.size := by
  obtain ⟨k, f, h1, h2, h3⟩ := h
  obtain ⟨w', r, r1, r2, r3⟩ := h1.update (int_kind Try.underlying3) Try.underlying60 (n : Int) (Ptr p)
  refine ⟨w', r, ⟨_, _, r1, ?_, ?_⟩, r2, r3⟩
  · intro x u hx
    by_cases hxn : x = n
    · subst hxn
      simp at hx
      subst hx
      exact ⟨p, updK_same _ _ _, hh⟩
    · simp only [hxn, if_false] at hx
      obtain ⟨p', e, g⟩ := h2 x u hx
      exact ⟨p', by rw [updK_other _ _ _ (by omega)]; exact e, g⟩
  · intro x hx
    by_cases hxn : x = n
    · simp [hxn] at hx
    · simp only [hxn, if_false] at hx
      rw [updK_other _ _ _ (by omega)]
      exact h3 x hx

theorem asg_more {ms : List (Nat × Ty)} {n : Nat} {t : Ty} (h : asg ms n = none) : (fun x => if x = n then some t else asg ms x) = asg (ms ++ [(n, t)]) := by
  funext x
  rw [asg_snoc]
  by_cases hx : x = n
  · subst hx; simp [h]
  · simp only [hx, if_false, Ne.symm hx]
    cases asg ms x <;> rfl

theorem cms_keys {vs : List Nat} {n : Nat} (h : n ∉ vs) : asg (cms vs) n = none := by
  rw [asg_none]
  intro p hp e
  obtain ⟨i, hi⟩ := List.getElem?_of_mem hp
  rw [cms_get] at hi
  rcases hv : vs[i]? with _ | x
  · rw [hv] at hi; cases hi
  · rw [hv] at hi
    simp at hi
    rw [← hi] at e
    simp at e
    exact h (e ▸ List.mem_of_getElem? hv)

theorem nodup_take {vs : List Nat} (h : vs.Nodup) {j n : Nat} (hj : vs[j]? = some n) : n ∉ vs.take j := by
  intro hm
  obtain ⟨i, hi⟩ := List.getElem?_of_mem hm
  rw [List.getElem?_take] at hi
  split at hi
  · have := (List.getElem?_inj (List.getElem?_eq_some_iff.1 hi).1 h).1 (hi.trans hj.symm)
    omega
  · cases hi

structure CanL (w0 : World) (q m mb : Nat) (ps : List Nat) (D : List Ty) (vs xs : List Nat) (A : Option Addr) (c j : Nat) (ps' : List Nat) (D' : List Ty) (wr : World) : Prop where
  pool : Pool wr q m ps' D'
  grew : Grew w0.heap.size ps D ps' D'
  by_ : ByAt wr mb ps' D' (asg (cms (vs.take j)))
  row : wr.ownsRow w0.heap.size 58 1 (.slice A xs.length c) xs.length (xs.map Ptr)
  fr : Fr (Two m mb) w0 wr
  lowm : m < w0.heap.size
  lowb : mb < w0.heap.size
  ne : mb ≠ m
  va : VAt ps D vs xs
  nd : vs.Nodup

theorem Pool.ne_map {w : World} {q m : Nat} {ps : List Nat} {D : List Ty} (h : Pool w q m ps D) {mb : Nat} {σ : Nat → Option Ty} {ps' : List Nat} {D' : List Ty} (hb : ByAt w mb ps' D' σ) : q ≠ mb ∧ mb ∉ ps := by
  obtain ⟨k, f, ⟨es, clk, hm, _⟩, _⟩ := hb
  refine ⟨h.head.ne_map hm, fun hp => ?_⟩
  obtain ⟨i, hi⟩ := List.mem_iff_getElem?.1 hp
  have hl : i < D.length := by rw [← h.len]; exact (List.getElem?_eq_some_iff.1 hi).1
  obtain ⟨a, b, hbk, _⟩ := h.node i _ mb (List.getElem?_eq_getElem hl) hi
  exact hbk.ne_map hm rfl

/-- behind a round -/
theorem CanL.more {w0 : World} {q m mb : Nat} {ps : List Nat} {D : List Ty} {vs xs : List Nat} {A : Option Addr} {c j : Nat} {ps' : List Nat} {D' : List Ty} {wr : World} {n : Nat}
    (h : CanL w0 q m mb ps D vs xs A c j ps' D' wr) (hn : vs[j]? = some n) {e : Ending} {w1 : World} {ps1 : List Nat} {D1 : List Ty} {p1 : Nat} (hm : Made wr.drew q m ps' D' (.v j) e w1 ps1 D1 p1) :
    ∃ w2, (Instr.mapUpdate 60 (.map (some mb)) (.int .i64 n) (Ptr p1)).run Try.prog w1 = .ok () w2 ∧ CanL w0 q m mb ps D vs xs A c (j + 1) ps1 D1 w2 := by
  have hf1 : Fr (One m) wr w1 := ((Fr.refl _ wr).drew).trans hm.fr
  have hb1 : ByAt w1 mb ps1 D1 (asg (cms (vs.take j))) := h.by_.grew hf1 h.ne hm.grew
  obtain ⟨w2, hrun, hb2, ht, hs⟩ := hb1.store n (.v j) p1 hm.has
  have hno := hm.pool.ne_map hb1
  have hf2 : Fr (One mb) w1 w2 := (Fr.refl _ w1).turned ht (.inl rfl)
  have hrow : ∀ b, (Value.slice A xs.length c).ownBlock = some b → ¬ One m b ∧ ¬ One mb b := fun b hb => by
    have := (h.row.lt b hb).1
    have h1 := h.lowm
    have h2 := h.lowb
    unfold One
    exact ⟨by omega, by omega⟩
  refine ⟨w2, hrun, ?_, h.grew.trans hm.grew h.fr.size, ?_, ?_, ?_, h.lowm, h.lowb, h.ne, h.va, h.nd⟩
  · exact hm.pool.fr hf2 hno.1 (fun e => h.ne e.symm) (fun p hp e => hno.2 (by unfold One at e; exact e ▸ hp))
  · rw [cms_take vs j n hn, ← asg_more (cms_keys (nodup_take h.nd hn))]
    exact hb2
  · exact own_fr (own_fr h.row hf1 (fun b hb => (hrow b hb).1)) hf2 (fun b hb => (hrow b hb).2)
  · exact (h.fr.trans (hf1.mono (fun _ _ e => .inl e))).trans (hf2.mono (fun _ _ e => .inr e))

theorem CanL.at_ {w0 : World} {q m mb : Nat} {ps : List Nat} {D : List Ty} {vs xs : List Nat} {A : Option Addr} {c j : Nat} {ps' : List Nat} {D' : List Ty} {wr : World} {i x : Nat}
    (h : CanL w0 q m mb ps D vs xs A c j ps' D' wr) (hx : xs[i]? = some x) : ∃ n g, vs[i]? = some n ∧ A = some ⟨g, 0, none⟩ ∧ wr.cell? ⟨g, i, none⟩ = some (Ptr x) ∧
      (∀ w1, Fr (One m) wr w1 → w1.cell? ⟨x, 1, none⟩ = some (.int .i64 n)) := by
  have hl := (List.getElem?_eq_some_iff.1 hx).1
  obtain ⟨n, hn⟩ : ∃ n, vs[i]? = some n := ⟨_, List.getElem?_eq_getElem (by rw [← h.va.1]; exact hl)⟩
  obtain ⟨g, e, hc, _⟩ := PSl.of_own h.pool (h.va.grew h.grew) h.row i x hx
  refine ⟨n, g, hn, e, hc, fun w1 hf => ?_⟩
  obtain ⟨a, b, k, hb, _⟩ := ((h.va.2 i n x hn hx).grew h.grew).blk h.pool
  have hxm : ¬ One m x := by
    intro e
    unfold One at e
    obtain ⟨f, ⟨es, clk, hm, _⟩, _⟩ := h.pool.map
    exact hb.ne_map hm e
  exact ((hb.fr hf hxm).cell 1).trans rfl

end Go.Proofs.Ytngbpcphkfmncaa
