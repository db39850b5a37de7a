import Derived.Test.YtngbpcphkfmncaaSput
namespace Go.Proofs.Ytngbpcphkfmncaa
open Go.RowKit Go.ChangeMaps

set_option maxRecDepth 100000 in
set_option maxHeartbeats 1000000 in
theorem put_tn (ms : List (Nat × Ty)) (f : Bool) (l r : Ty) (ihl : PutT ms l) (ihr : PutT ms r) : PutT ms (.n f l r) := by
  intro T w A N B c nc bc n hn hT hA hN hB
  rw [Ty.kids_n] at hA
  obtain ⟨g, o, A0, c0, A1, c1, A2, c2, rfl, hg, q0, q1, q2, q3, q4, q5, s0, s1, s2, hl⟩ := hA.three
  have hkl : (Ty.n f l r).kids.len = 3 := rfl
  rw [hkl, Ty.atom_n]
  have b0 := (Blk.new w 68 #[S [], .slice (some ⟨g, o, none⟩) 3 c]).alloc (.cells #[S [], .slice none 0 0] 68)
  have b1 : Blk ((w.alloc (.cells #[S [], .slice (some ⟨g, o, none⟩) 3 c] 68)).alloc (.cells #[S [], .slice none 0 0] 68)) (w.heap.size + 1) 68 #[S [], .slice none 0 0] := Blk.new_at _ _ _ (by simp)
  have hf0 : Fr No w ((w.alloc (.cells #[S [], .slice (some ⟨g, o, none⟩) 3 c] 68)).alloc (.cells #[S [], .slice none 0 0] 68)) := ((Fr.refl _ _).alloc _).alloc _
  obtain ⟨lp, hlp⟩ : ∃ lp, lp = l.put (asg ms) := ⟨_, rfl⟩
  obtain ⟨rp, hrp⟩ : ∃ rp, rp = r.put (asg ms) := ⟨_, rfl⟩
  have IL : Hid (∀ w', Fr No w w' → Calls Try.prog 42 #[.agg #[S l.atom, .slice A1 l.kids.len c1], .slice N n nc, .slice B n bc] w' fun e w2 => ∃ A' c', e = .returned (.agg #[S lp.atom, .slice A' lp.kids.len c']) ∧ Fr No w' w2 ∧ Sl w2 (TN T w' w2) A' lp.kids) := by
    intro w' hf
    subst hlp
    exact (ihl T w' A1 N B c1 nc bc n hn (fun b hb => Nat.lt_of_lt_of_le (hT b hb) hf.size) (s1.keepT hT hf) (hN.fr hf) (hB.keepT hT hf)).mono fun e w2 ⟨A', c', h1, h2, h3⟩ => ⟨A', c', h1, h2, h3⟩
  have IR : Hid (∀ w', Fr No w w' → Calls Try.prog 42 #[.agg #[S r.atom, .slice A2 r.kids.len c2], .slice N n nc, .slice B n bc] w' fun e w2 => ∃ A' c', e = .returned (.agg #[S rp.atom, .slice A' rp.kids.len c']) ∧ Fr No w' w2 ∧ Sl w2 (TN T w' w2) A' rp.kids) := by
    intro w' hf
    subst hrp
    exact (ihr T w' A2 N B c2 nc bc n hn (fun b hb => Nat.lt_of_lt_of_le (hT b hb) hf.size) (s2.keepT hT hf) (hN.fr hf) (hB.keepT hT hf)).mono fun e w2 ⟨A', c', h1, h2, h3⟩ => ⟨A', c', h1, h2, h3⟩
  have FIN : Hid (∀ (W w3 w5 : World) (L R : Option Addr) (lc rc : Nat), W.heap.size = w.heap.size + 2 → Fr No w w3 → W.heap.size ≤ w3.heap.size → Sl w3 (TN T W w3) L lp.kids → Sl w3 (TN T W w3) R rp.kids →
      Fr No (w3.alloc (.cells #[S [Ty.sign f], .slice A0 0 c0, S lp.atom, .slice L lp.kids.len lc, S rp.atom, .slice R rp.kids.len rc] 68)) w5 →
      ∀ v0 v1, PutR T ms (.n f l r) w (.returned (.agg #[S [], .slice (some ⟨w3.heap.size, 0, none⟩) 3 3])) (((w5.setCell ⟨w.heap.size + 1, 0, none⟩ v0).setCell ⟨w.heap.size + 1, 1, none⟩ v1))) := by
    intro W w3 w5 L R lc rc hW hf hWs hL hR hf5 v0 v1
    subst hlp; subst hrp
    refine ⟨some ⟨w3.heap.size, 0, none⟩, 3, rfl, ((hf.alloc _).trans hf5).res (Nat.le_succ _), ?_⟩
    have hfa : Fr No w3 (w3.alloc (.cells #[S [Ty.sign f], .slice A0 0 c0, S (l.put (asg ms)).atom, .slice L (l.put (asg ms)).kids.len lc, S (r.put (asg ms)).atom, .slice R (r.put (asg ms)).kids.len rc] 68)) := (Fr.refl _ _).alloc _
    have hnb : Blk (w3.alloc (.cells #[S [Ty.sign f], .slice A0 0 c0, S (l.put (asg ms)).atom, .slice L (l.put (asg ms)).kids.len lc, S (r.put (asg ms)).atom, .slice R (r.put (asg ms)).kids.len rc] 68)) w3.heap.size 68 #[S [Ty.sign f], .slice A0 0 c0, S (l.put (asg ms)).atom, .slice L (l.put (asg ms)).kids.len lc, S (r.put (asg ms)).atom, .slice R (r.put (asg ms)).kids.len rc] := Blk.new _ _ _
    generalize w3.alloc (.cells #[S [Ty.sign f], .slice A0 0 c0, S (l.put (asg ms)).atom, .slice L (l.put (asg ms)).kids.len lc, S (r.put (asg ms)).atom, .slice R (r.put (asg ms)).kids.len rc] 68) = X at hf5 hfa hnb
    have hX := hnb.lt
    have hX5 := hf5.size
    have hTN : ∀ b, TN T W w3 b → b < w3.heap.size := fun b hb => by
      rcases hb with hb | hb
      · exact Nat.lt_of_lt_of_le (hT b hb) hf.size
      · exact hb.2
    have up : ∀ (A : Option Addr) (k : Fo), Sl w3 (TN T W w3) A k → Sl w5 (TN T W w5) A k := fun A k h =>
      h.mono (fun b hb => by rcases hb with hb | hb; exact .inl hb; exact .inr ⟨hb.1, by omega⟩) (fun b hb => (hfa.trans hf5).block b (hTN b hb) (fun h => h))
    have d := hnb.fr hf5 (fun h => h)
    have base : Sl w5 (TN T W w5) (some ⟨w3.heap.size, 0, none⟩) ((Ty.n f l r).put (asg ms)).kids := by
      refine Sl.mk3 (A0 := A0) (k0 := .nil) (c0 := c0) (c1 := lc) (c2 := rc) (.inr ⟨hWs, by omega⟩) ((d.cell 0).trans rfl) ((d.cell 1).trans rfl) ((d.cell 2).trans rfl) ((d.cell 3).trans rfl) ((d.cell 4).trans rfl) ((d.cell 5).trans rfl) (.inl rfl) (up _ _ hL) (up _ _ hR)
    refine base.res ?_ ?_
    · rintro (h | h)
      · have := hT _ h; omega
      · have := h.1; omega
    · rintro b (h | h)
      · exact .inl h
      · exact .inr ⟨by have := h.1; omega, by have := h.2; simp [World.setCell]; omega⟩
  have CELLS : Hid (∀ w', Fr No w w' → w'.cell? ⟨g, o, none⟩ = some (S [Ty.sign f]) ∧ w'.cell? ⟨g, o + 1, none⟩ = some (.slice A0 0 c0) ∧ w'.cell? ⟨g, o + 2, none⟩ = some (S l.atom) ∧ w'.cell? ⟨g, o + 3, none⟩ = some (.slice A1 l.kids.len c1) ∧
      w'.cell? ⟨g, o + 4, none⟩ = some (S r.atom) ∧ w'.cell? ⟨g, o + 5, none⟩ = some (.slice A2 r.kids.len c2) ∧ g < w'.heap.size) := by
    intro w' hf
    exact ⟨(hf.cell (p := ⟨g, o, none⟩) hl (fun h => h)).trans q0, (hf.cell (p := ⟨g, o + 1, none⟩) hl (fun h => h)).trans q1, (hf.cell (p := ⟨g, o + 2, none⟩) hl (fun h => h)).trans q2, (hf.cell (p := ⟨g, o + 3, none⟩) hl (fun h => h)).trans q3,
      (hf.cell (p := ⟨g, o + 4, none⟩) hl (fun h => h)).trans q4, (hf.cell (p := ⟨g, o + 5, none⟩) hl (fun h => h)).trans q5, Nat.lt_of_lt_of_le hl hf.size⟩
  have hgl := hT g hg
  clear q0 q1 q2 q3 q4 q5 s0 s1 s2 hA hN hB ihl ihr hlp hrp hkl hn
  have ne1 : g ≠ w.heap.size + 1 := by omega
  have ne2 : g ≠ w.heap.size := by omega
  have ne3 : w.heap.size + 1 ≠ g := by omega
  have hWz : ((w.alloc (.cells #[S [], .slice (some ⟨g, o, none⟩) 3 c] 68)).alloc (.cells #[S [], .slice none 0 0] 68)).heap.size = w.heap.size + 2 := by simp
  go_enter Try.func42, Try.ntmps42
  go_wp2_with fail
  generalize ((w.alloc (.cells #[S [], .slice (some ⟨g, o, none⟩) 3 c] 68)).alloc (.cells #[S [], .slice none 0 0] 68)) = W at b0 b1 hf0 hWz ⊢
  have HWZ := Lib.hid hWz
  clear hWz
  have ALL : Hid (∀ w', Fr No W w' → (w'.cell? ⟨w.heap.size, 1, none⟩ = some (.slice (some ⟨g, o, none⟩) 3 c) ∧ w'.cell? ⟨w.heap.size + 1, 0, none⟩ = some (S []) ∧ w'.cell? ⟨w.heap.size + 1, 1, none⟩ = some (.slice none 0 0) ∧
      w'.frozen? ⟨w.heap.size + 1, 0, none⟩ = false ∧ w'.frozen? ⟨w.heap.size + 1, 1, none⟩ = false ∧ w.heap.size < w'.heap.size ∧ w.heap.size + 1 < w'.heap.size) ∧ w'.cell? ⟨g, o, none⟩ = some (S [Ty.sign f]) ∧ w'.cell? ⟨g, o + 1, none⟩ = some (.slice A0 0 c0) ∧ w'.cell? ⟨g, o + 2, none⟩ = some (S l.atom) ∧ w'.cell? ⟨g, o + 3, none⟩ = some (.slice A1 l.kids.len c1) ∧
      w'.cell? ⟨g, o + 4, none⟩ = some (S r.atom) ∧ w'.cell? ⟨g, o + 5, none⟩ = some (.slice A2 r.kids.len c2) ∧ g < w'.heap.size) := by
    intro w' hf
    have d0 := b0.fr hf (fun h => h)
    have d1 := b1.fr hf (fun h => h)
    exact ⟨⟨(d0.cell 1).trans rfl, (d1.cell 0).trans rfl, (d1.cell 1).trans rfl, d1.frozen 0, d1.frozen 1, d0.lt, d1.lt⟩, CELLS.out w' (hf0.trans hf)⟩
  have IL' : Hid (∀ w', Fr No W w' → Calls Try.prog 42 #[.agg #[S l.atom, .slice A1 l.kids.len c1], .slice N n nc, .slice B n bc] w' fun e w2 => ∃ A' c', e = .returned (.agg #[S lp.atom, .slice A' lp.kids.len c']) ∧ Fr No W w2 ∧ Sl w2 (TN T W w2) A' lp.kids) :=
    fun w' hf => (IL.out w' (hf0.trans hf)).mono fun e w2 ⟨A', c', h1, h2, h3⟩ => ⟨A', c', h1, hf.trans h2, h3.mono (fun b hb => by rcases hb with hb | hb; exact .inl hb; exact .inr ⟨Nat.le_trans hf.size hb.1, hb.2⟩) (fun _ _ => rfl)⟩
  have IR' : Hid (∀ w', Fr No W w' → Calls Try.prog 42 #[.agg #[S r.atom, .slice A2 r.kids.len c2], .slice N n nc, .slice B n bc] w' fun e w2 => ∃ A' c', e = .returned (.agg #[S rp.atom, .slice A' rp.kids.len c']) ∧ Fr No W w2 ∧ Fr No w' w2 ∧ Sl w2 (TN T W w2) A' rp.kids) :=
    fun w' hf => (IR.out w' (hf0.trans hf)).mono fun e w2 ⟨A', c', h1, h2, h3⟩ => ⟨A', c', h1, hf.trans h2, h2, h3.mono (fun b hb => by rcases hb with hb | hb; exact .inl hb; exact .inr ⟨Nat.le_trans hf.size hb.1, hb.2⟩) (fun _ _ => rfl)⟩
  have LS : Hid (∀ (w3 : World) (A : Option Addr) (x : Obj), Fr No W w3 → Calls Try.prog 68 #[.slice A 3 3] (w3.alloc x) fun e w5 => e = .returned (.agg #[S [], .slice A 3 3]) ∧ Fr No (w3.alloc x) w5 ∧ Fr No W w5) :=
    fun w3 A x hf => (list_any A 3 3 (w3.alloc x)).mono fun e w5 ⟨h1, h2⟩ => ⟨h1, h2, (hf.alloc x).trans h2⟩
  clear IL IR CELLS
  obtain ⟨⟨x1, y0, y1, z0, z1, l0, l1⟩, p0, p1, p2, p3, p4, p5, p6⟩ := ALL.out W (Fr.refl _ _)
  have hW : Fr No W W.drew := (Fr.refl _ _).drew
  go_region_held3 (fun w' => w'.cell? ⟨w.heap.size, 1, none⟩ = some (.slice (some ⟨g, o, none⟩) 3 c) ∧ w'.cell? ⟨g, o, none⟩ = some (S [Ty.sign f]) ∧ w'.cell? ⟨g, o + 1, none⟩ = some (.slice A0 0 c0) ∧ w'.cell? ⟨g, o + 2, none⟩ = some (S l.atom) ∧ w'.cell? ⟨g, o + 3, none⟩ = some (.slice A1 l.kids.len c1) ∧ w'.cell? ⟨g, o + 4, none⟩ = some (S r.atom) ∧ w'.cell? ⟨g, o + 5, none⟩ = some (.slice A2 r.kids.len c2)) (go_keep)
    (first | (go_at_call 42; ((with_reducible refine (IL'.out _ hW).mono ?_); rintro e w2 ⟨L, lc, rfl, hf2, hs2⟩; obtain ⟨⟨d1, d2, d3, d4, d5, d6, d7⟩, e0, e1, e2, e3, e4, e5, e6⟩ := ALL.out w2 hf2)) | (go_at_call 42; ((with_reducible refine (IR'.out _ hf2).mono ?_); rintro e w3 ⟨R, rc, rfl, hf3, hf23, hs3⟩; obtain ⟨⟨i1, i2, i3, i4, i5, i6, i7⟩, j0, j1, j2, j3, j4, j5, j6⟩ := ALL.out w3 hf3)) | (go_at_call 68; ((with_reducible refine (LS.out _ _ _ hf3).mono ?_); rintro e w5 ⟨rfl, hf5, hf5'⟩; obtain ⟨⟨m1, m2, m3, m4, m5, m6, m7⟩, k0, k1, k2, k3, k4, k5, k6⟩ := ALL.out w5 hf5')))
  go_wp2_with fail
  refine bodyPost_ret (v := .agg #[S [], .slice (some ⟨w3.heap.size, 0, none⟩) 3 3]) (by simp [results, Try.results42, go_sem, cell_set_same m2, cell_set_next m3]) rfl ?_
  refine FIN.out W w3 w5 L R lc rc HWZ.out (hf0.trans hf3) hf3.size (hs2.mono (fun b hb => ?_) (fun b hb => ?_)) hs3 hf5 _ _
  · rcases hb with hb | hb
    · exact .inl hb
    · exact .inr ⟨hb.1, Nat.lt_of_lt_of_le hb.2 hf23.size⟩
  · refine hf23.block b ?_ (fun h => h)
    rcases hb with hb | hb
    · exact Nat.lt_of_lt_of_le (hT b hb) (hf0.trans hf2).size
    · exact hb.2

theorem put_t_any (ms : List (Nat × Ty)) (hms : ∀ p ∈ ms, p.1 < 25) (hml : ms.length ≤ 1000) (t : Ty) : t.lets → PutT ms t := by
  induction t with
  | v n => exact fun h => put_tv ms hms hml n h
  | o => exact fun _ => put_to ms hms hml
  | n f l r ihl ihr => exact fun h => put_tn ms f l r (ihl h.1) (ihr h.2)
end Go.Proofs.Ytngbpcphkfmncaa
