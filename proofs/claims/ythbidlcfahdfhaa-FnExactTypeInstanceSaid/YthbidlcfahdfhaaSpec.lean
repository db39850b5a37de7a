import Derived.Test.YthbidlcfahdfhaaSsize
namespace Go.Proofs.Ythbidlcfahdfhaa
open Go.RowKit Go.ChangeMaps

def TB (f : Fo) : Prop := f.len ≤ f.texts.length + 1 ∧ f.size ≤ f.texts.length ∧ (f.texts.length ≤ 6000 → f.atoms ∧ f.short)

theorem tree_bounds {a : List UInt8} {k : Fo} (h : TB k) (hw : a ≠ [] → k = .nil) :
    1 ≤ (treeText a k).length ∧ treeSize a k ≤ (treeText a k).length ∧ ((treeText a k).length ≤ 6000 → a.length ≤ 6000 ∧ k.atoms ∧ k.len ≤ 100000 ∧ k.short) := by
  obtain ⟨h1, h2, h3⟩ := h
  unfold treeText treeSize
  by_cases ha : a = []
  · subst ha
    simp only [if_true, List.length_cons, List.length_append, List.length_nil]
    refine ⟨by omega, by omega, fun h => ?_⟩
    have h4 := h3 (by omega)
    exact ⟨by omega, h4.1, by omega, h4.2⟩
  · have hk := hw ha
    subst hk
    simp only [if_neg ha]
    have : 0 < a.length := List.length_pos_iff.2 ha
    exact ⟨by omega, by omega, fun h => ⟨h, trivial, by simp [Fo.len], trivial⟩⟩

theorem texts_bounds : ∀ (f : Fo), f.wf → TB f
  | .nil, _ => ⟨by simp [Fo.len], by simp [Fo.size], fun _ => ⟨trivial, trivial⟩⟩
  | .cons a k .nil, hw => by
    obtain ⟨h1, h2, h3⟩ := tree_bounds (a := a) (texts_bounds k hw.2.1) hw.1
    have e : (Fo.cons a k .nil).texts = treeText a k := rfl
    refine ⟨by rw [e]; simp [Fo.len], by rw [e]; simpa [Fo.size, treeSize] using h2, fun h => ?_⟩
    rw [e] at h
    have h4 := h3 h
    exact ⟨⟨h4.1, h4.2.1, trivial⟩, h4.2.2.1, h4.2.2.2, trivial⟩
  | .cons a k (.cons b j r), hw => by
    obtain ⟨h1, h2, h3⟩ := tree_bounds (a := a) (texts_bounds k hw.2.1) hw.1
    obtain ⟨g1, g2, g3⟩ := texts_bounds (.cons b j r) hw.2.2
    have e : (Fo.cons a k (.cons b j r)).texts.length = (treeText a k).length + ((Fo.cons b j r).texts.length + 1) := by
      show (treeText a k ++ 32 :: (Fo.cons b j r).texts).length = _
      simp
    generalize Fo.cons b j r = q at *
    refine ⟨by rw [e]; simp only [Fo.len]; omega, by rw [e]; simp only [Fo.size, treeSize] at h2 ⊢; omega, fun h => ?_⟩
    rw [e] at h
    have h4 := h3 (by omega)
    have g4 := g3 (by omega)
    exact ⟨⟨h4.1, h4.2.1, g4.1⟩, h4.2.2.1, h4.2.2.2, g4.2⟩

/-- A text that is read to its end as a tree. -/
def Parsed (s : List UInt8) (a : List UInt8) (k : Fo) : Prop := s.length ≤ 6000 ∧ rdTree 301 s = some (a, k, [])

theorem Parsed.bounds {s a : List UInt8} {k : Fo} (h : Parsed s a k) : treeSize a k ≤ 6000 ∧ a.length ≤ 6000 ∧ k.atoms ∧ k.len ≤ 100000 ∧ k.short := by
  obtain ⟨w1, w2⟩ := rd_wf _ _ _ _ _ h.2
  obtain ⟨h1, h2, h3⟩ := tree_bounds (a := a) (texts_bounds k w2) w1
  have e := rd_text _ _ _ _ _ h.2
  rw [List.append_nil] at e
  have hl := h.1
  rw [e] at hl
  exact ⟨by omega, h3 hl⟩

/-- What is new. -/
abbrev New (w w' : World) : Nat → Prop := fun b => w.heap.size ≤ b ∧ b < w'.heap.size

def ParseT (w : World) (s : List UInt8) (e : Ending) (w' : World) : Prop :=
  Fr No w w' ∧ ((∃ a k A c, Parsed s a k ∧ e = .returned (.tuple #[.agg #[S a, .slice A k.len c], .bool true]) ∧ Sl w' (New w w') A k) ∨
    (∃ a A m c, (∀ a k, ¬ Parsed s a k) ∧ e = .returned (.tuple #[.agg #[S a, .slice A m c], .bool false])))

theorem ParseT.no {w w' : World} {s a : List UInt8} {A : Option Addr} {m c : Nat} (hf : Fr No w w') (h : ∀ a k, ¬ Parsed s a k) :
    ParseT w s (.returned (.tuple #[.agg #[S a, .slice A m c], .bool false])) w' := ⟨hf, .inr ⟨a, A, m, c, h, rfl⟩⟩

/-- the result's block is laid first, and written at the end -/
theorem res_done {w w1 : World} {o : Obj} {v0 v1 : Value} (hf : Fr No (w.alloc o) w1) : Fr No w ((w1.setCell ⟨w.heap.size, 0, none⟩ v0).setCell ⟨w.heap.size, 1, none⟩ v1) :=
  ((((Fr.refl No w).alloc o).trans hf).setCell (p := ⟨w.heap.size, 0, none⟩) (.inr (Nat.le_refl _)) _).setCell (p := ⟨w.heap.size, 1, none⟩) (.inr (Nat.le_refl _)) _

set_option maxHeartbeats 1000000 in
theorem parse_any (s : List UInt8) (w : World) (hs : s.length ≤ maxLen) :
    Calls Try.prog 82 #[S s] w fun e w' => ParseT w s e w' := by
  unfold maxLen at hs
  by_cases hl : 6000 < s.length
  · have hb : decide ((6000 : Int) < (s.length : Int)) = true := by simp; omega
    have hno : ∀ a k, ¬ Parsed s a k := fun a k h => by have := h.1; omega
    have HN := Lib.hid hno
    clear hno
    go_enter Try.func82, Try.ntmps82
    go_wp2_with fail
    exact bodyPost_ret (v := .tuple #[.agg #[S [], .slice none 0 0], .bool false]) (by simp [results, Try.results82, go_sem]) rfl (ParseT.no ((Fr.refl _ _).alloc _) HN.out)
  · have hb : decide ((6000 : Int) < (s.length : Int)) = false := by simp; omega
    have b0 := Blk.new w 49 #[S [], .slice none 0 0]
    go_enter Try.func82, Try.ntmps82
    go_wp2_with fail
    refine (read_tree s (by omega) 301 0 0 0 _ rfl (by omega) (by omega) (by omega)).mono ?_
    rintro e w1 ⟨hfr, hres⟩
    have b1 := b0.fr hfr (fun h => h)
    have r0 : w1.cell? ⟨w.heap.size, 0, none⟩ = some (S []) := (b1.cell 0).trans rfl
    have r1 : w1.cell? ⟨w.heap.size, 1, none⟩ = some (.slice none 0 0) := (b1.cell 1).trans rfl
    have fr0 := b1.frozen 0
    have fr1 := b1.frozen 1
    have l0 := b1.lt
    have E0 : Hid (∀ v, (w1.setCell ⟨w.heap.size, 0, none⟩ v).cell? ⟨w.heap.size, 0, none⟩ = some v) := fun v => cell_set_same r0 v
    have E1 : Hid (∀ v v', ((w1.setCell ⟨w.heap.size, 0, none⟩ v').setCell ⟨w.heap.size, 1, none⟩ v).cell? ⟨w.heap.size, 1, none⟩ = some v) := fun v v' => cell_set_next r1 v v'
    clear b0 b1
    rw [List.drop_zero] at hres
    rcases hrt : rdTree 301 s with _ | ⟨a, k, r⟩
    · rw [hrt] at hres
      obtain ⟨a, A, m, c, rfl⟩ := hres
      have hno : ∀ a k, ¬ Parsed s a k := fun a k h => by have h2 := h.2; rw [hrt] at h2; cases h2
      have HN := Lib.hid hno
      have nb : ((-1 : Int) == (s.length : Int)) = false := beq_eq_false_iff_ne.2 (by omega)
      clear hno hrt
      go_wp2_with fail
      exact bodyPost_ret (v := .tuple #[.agg #[S a, .slice A m c], .bool false]) (by simp [results, Try.results82, go_sem, l0, E0.out, E1.out]) rfl (ParseT.no ((res_done hfr).alloc _) HN.out)
    · rw [hrt] at hres
      obtain ⟨A, c, rfl, hsl, hr, hrl⟩ := hres
      have hsl2 : ∀ v0 v1 o, Sl (((w1.setCell ⟨w.heap.size, 0, none⟩ v0).setCell ⟨w.heap.size, 1, none⟩ v1).alloc o) (New w (((w1.setCell ⟨w.heap.size, 0, none⟩ v0).setCell ⟨w.heap.size, 1, none⟩ v1).alloc o)) A k := by
        intro v0 v1 o
        refine hsl.mono (fun b hb => ⟨by have := hb.1; simp at this; omega, by have := hb.2; simp [World.setCell]; omega⟩) (fun b hb => ?_)
        have h1 := hb.1
        simp at h1
        rw [Below.heap_alloc _ _ _ (by simp [World.setCell]; omega), Below.heap_setCell _ _ _ _ (by show b ≠ w.heap.size; omega), Below.heap_setCell _ _ _ _ (by show b ≠ w.heap.size; omega)]
      have HS := Lib.hid hsl2
      cases r with
      | nil =>
        have hp : Parsed s a k := ⟨by omega, hrt⟩
        have HP := Lib.hid hp
        clear hp hrt hr hsl2 hsl
        go_wp2_with fail
        exact bodyPost_ret (v := .tuple #[.agg #[S a, .slice A k.len c], .bool true]) (by simp [results, Try.results82, go_sem, l0, E0.out, E1.out]) rfl
          ⟨(res_done hfr).alloc _, .inl ⟨a, k, A, c, HP.out, rfl, HS.out _ _ _⟩⟩
      | cons x r =>
        have hno : ∀ a k, ¬ Parsed s a k := fun a k h => by have h2 := h.2; rw [hrt] at h2; simp at h2
        have HN := Lib.hid hno
        obtain ⟨q, hq⟩ : ∃ q, q = s.length - (x :: r).length := ⟨_, rfl⟩
        have nb : ((q : Int) == (s.length : Int)) = false := beq_eq_false_iff_ne.2 (by simp at hq hrl; omega)
        rw [← hq]
        clear hno hrt hr hsl2 hsl hq
        go_wp2_with fail
        exact bodyPost_ret (v := .tuple #[.agg #[S a, .slice A k.len c], .bool false]) (by simp [results, Try.results82, go_sem, l0, E0.out, E1.out]) rfl (ParseT.no ((res_done hfr).alloc _) HN.out)
end Go.Proofs.Ythbidlcfahdfhaa
