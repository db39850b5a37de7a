/- The parts of a term under construction; sizes. -/
import Derived.Test.YthbidlcfahdfhaaDoorTnt
namespace Go.Proofs.YthbidlcfahdfhaaDoor
open Go.RowKit Go.ChangeMaps

/-- a term has as many atoms as its tree -/
theorem cv_size : ∀ (f : Fo), f.wf →
    (∀ (bs : List (List UInt8)) (h x : List UInt8) (i c : Nat), isTms (some (List.replicate c true)) f = true → (cv f (.kids bs h x i)).size = f.size) ∧
    (∀ bs : List (List UInt8), isTms none f = true → (if bindsB (hd1 f) then 2 else 1) + (cv f (.parts bs)).size = f.size) ∧
    (∀ (bs : List (List UInt8)) (h : List UInt8) (c : Nat), isTms (some (false :: List.replicate c true)) f = true → 1 + (cv f (.name bs h)).size = f.size) := by
  intro f
  induction f with
  | nil =>
    intro _
    refine ⟨fun bs h x i c _ => rfl, fun bs h => (by cases h), fun bs h c hc => (by simp [isTms] at hc)⟩
  | cons a k r ihk ihr =>
    intro hw
    have hk := ihk hw.2.1
    have hr := ihr hw.2.2
    refine ⟨?_, ?_, ?_⟩
    · intro bs h x i c hc
      cases c with
      | zero => simp [isTms] at hc
      | succ c =>
        rw [List.replicate_succ] at hc
        simp only [isTms, Bool.and_eq_true] at hc
        simp only [cv, Ts.size, Fo.size]
        rw [hr.1 _ _ _ _ c hc.2]
        by_cases ha : a = []
        · subst ha
          simp only [if_true] at hc ⊢
          have := hk.2.1 (insB bs h x i) hc.1
          simp only [ndH, if_true]
          omega
        · simp only [if_neg ha] at hc ⊢
          obtain rfl := hw.1 ha
          have hnb : bindsB (ndH a .nil) = false := by
            unfold ndH
            rw [if_neg ha]
            split <;> decide
          rw [hnb]
          simp [cv, Ts.size]
    · intro bs hc
      simp only [isTms, Bool.and_eq_true] at hc
      have hs : shapeOf a ≠ [] := by intro e; rw [e] at hc; cases hc.1
      have hh := (shape_head hs).1
      rcases shape_cases a with ⟨e, _⟩ | ⟨hb, e, _⟩ | ⟨hb, e, _⟩
      · exact absurd e hs
      · rw [e] at hc
        have := hr.2.2 bs a _ hc.2
        simp only [hd1, hb, if_true, cv, Fo.size, if_neg hh]
        omega
      · rw [e] at hc
        have := hr.1 bs a [] 0 _ hc.2
        simp only [hd1, hb, cv, Fo.size, if_neg hh, Bool.false_eq_true, if_false]
        omega
    · intro bs h c hc
      simp only [isTms, Bool.and_eq_true] at hc
      have hnb := (name_bytes hc.1).1
      have := hr.1 bs h a 0 c hc.2
      simp only [cv, Fo.size, if_neg hnb]
      omega

theorem node_size {a : List UInt8} {k : Fo} (bs : List (List UInt8)) (h : isTm a k = true) (hw : a ≠ [] → k = .nil) (hk : k.wf) : (if bindsB (ndH a k) then 2 else 1) + (cv k (.parts bs)).size = treeSize a k := by
  unfold isTm at h
  unfold treeSize
  by_cases ha : a = []
  · subst ha
    simp only [if_true] at h ⊢
    have := (cv_size k hk).2.1 bs h
    simpa [ndH] using this
  · rw [if_neg ha]
    obtain rfl := hw ha
    have hnb : bindsB (ndH a .nil) = false := by
      unfold ndH
      rw [if_neg ha]
      split <;> decide
    rw [hnb]
    simp [cv, Ts.size]

/-- the parts so far -/
structure KL (w : World) (R : Nat) (f : Ts) (i : Nat) (V : Value) (wr : World) : Prop where
  fr : Fr (One R) w wr
  own : ∃ xs, wr.ownsRow w.heap.size 39 1 V i xs ∧ TEl wr (fun b => w.heap.size ≤ b ∧ b < wr.heap.size ∧ some b ≠ V.ownBlock) f xs
  low : R < w.heap.size

theorem KL.keep {w wr w' : World} {R i : Nat} {f : Ts} {V : Value} (h : KL w R f i V wr) (hf : Fr (One R) wr w') : KL w R f i V w' := by
  obtain ⟨h1, ⟨xs, h2, h3⟩, h4⟩ := h
  refine ⟨h1.trans hf, ⟨xs, own_fr h2 hf (fun b hb e => by unfold One at e; have := (h2.lt b hb).1; omega), h3.mono (fun b hb => ⟨hb.1, Nat.lt_of_lt_of_le hb.2.1 hf.size, hb.2.2⟩) (fun b hb => hf.block b hb.2.1 (fun e => by unfold One at e; omega))⟩, h4⟩

theorem KL.form {w wr : World} {R i : Nat} {f : Ts} {V : Value} (h : KL w R f i V wr) : ∃ A c, V = .slice A i c := by
  obtain ⟨_, ⟨xs, h2, _⟩, _⟩ := h
  exact own_form h2

theorem KL.start (w : World) (R : Nat) (hR : R < w.heap.size) {wr : World} (hf : Fr (One R) w wr) (o : Obj) (ho : o = .cells #[] 39) : KL w R .nil 0 (.slice (some ⟨wr.heap.size, 0, none⟩) 0 0) (wr.alloc o) := by
  subst ho
  refine ⟨hf.alloc _, ⟨[], ⟨rfl, .inr ⟨wr.heap.size, 0, #[], rfl, hf.size, heap_alloc_new wr _, Nat.le_refl _, Nat.zero_le _, rfl, rfl⟩⟩, rfl⟩, hR⟩

/-- one part more -/
theorem KL.more {w wr w1 w2 : World} {R i : Nat} {f : Ts} {V v' : Value} {o : Obj} {p : Nat} {h a : List UInt8} {d : Nat} {k : Ts} (hk : KL w R f i V wr) (hf : Fr (One R) wr w1) (ht : Tm w1 (fun b => wr.heap.size ≤ b ∧ b < w1.heap.size) p h a d k)
    {xs : List Value} (h2 : w1.ownsRow w.heap.size 39 1 V i xs) (h3 : TEl w1 (fun b => w.heap.size ≤ b ∧ b < w1.heap.size ∧ some b ≠ V.ownBlock) f xs) (hown : w2.ownsRow w.heap.size 39 1 v' (i + 1) (xs ++ [Ptr p]))
    (hg : (w1.alloc o).grownBy w2 V.ownBlock) (hloc : v'.ownBlock = V.ownBlock ∨ v'.ownBlock = some (w1.alloc o).heap.size) : KL w R (f.snoc h a d k) (i + 1) v' w2 := by
  have hk1 := hk.keep hf
  obtain ⟨h1, _, h4⟩ := hk1
  have hvo := h2.lt
  have hvr : ∀ b, V.ownBlock = some b → b < wr.heap.size := fun b hb => by
    obtain ⟨_, ⟨ys, g2, _⟩, _⟩ := hk
    exact (g2.lt b hb).2
  have hsz := hg.size
  have hsa : (w1.alloc o).heap.size = w1.heap.size + 1 := by simp
  have hs1 := hf.size
  have hs0 := hk.fr.size
  have keep : ∀ b, b < w1.heap.size → some b ≠ V.ownBlock → w2.heap[b]? = w1.heap[b]? := fun b hb hne => by
    rw [hg.block b (by omega) hne]
    exact Below.heap_alloc _ _ _ hb
  have more : ∀ b, b < w1.heap.size → some b ≠ V.ownBlock → some b ≠ v'.ownBlock := fun b hb hne => by
    rcases hloc with e | e
    · rw [e]; exact hne
    · rw [e]; intro h; injection h with h; omega
  refine ⟨(h1.alloc o).grown hg (fun b hb => .inr (hvo b hb).1), ⟨xs ++ [Ptr p], hown, ?_⟩, h4⟩
  refine TEl.snoc (ht.mono (fun b hb => ?_) (fun b hb => ?_)) (h3.mono (fun b hb => ?_) (fun b hb => ?_))
  · have hne : some b ≠ V.ownBlock := fun e => by have := hvr b e.symm; omega
    exact ⟨by omega, by omega, more b hb.2 hne⟩
  · exact keep b hb.2 (fun e => by have := hvr b e.symm; omega)
  · exact ⟨hb.1, by omega, more b hb.2.1 hb.2.2⟩
  · exact keep b hb.2.1 hb.2.2

theorem KL.done {w wr : World} {R i : Nat} {f : Ts} {A : Option Addr} {c : Nat} (h : KL w R f i (.slice A i c) wr) (hl : f.len = i) : TSl wr (fun b => w.heap.size ≤ b ∧ b < wr.heap.size) A f := by
  obtain ⟨_, ⟨xs, h2, h3⟩, _⟩ := h
  refine ⟨xs, h3.mono (fun b hb => ⟨hb.1, hb.2.1⟩) (fun _ _ => rfl), ?_⟩
  rcases h2.2 with ⟨_, h0⟩ | ⟨g, cap, cur, hv, _⟩
  · left; omega
  · injection hv with e1 e2 e3
    right
    refine ⟨g, 0, e1, h2.lt g (by rw [e1]; rfl), fun j u hj => ?_⟩
    have := h2.cells (g := g) (by rw [e1]; rfl) j u hj
    rw [addr_add] at this
    exact this

theorem info_ptr : (Tryd.prog.info? 39).map (fun i => (i.zero, i.size, i.bytes)) = some (some (.pointer none), 1, 8) := by kernel_rfl
end Go.Proofs.YthbidlcfahdfhaaDoor
