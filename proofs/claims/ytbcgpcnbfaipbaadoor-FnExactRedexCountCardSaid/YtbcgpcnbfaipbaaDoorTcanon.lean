/- The program's canonical names: fresh. · The program's renaming of bound names. · TermCanon of the program. · TermAlike of the program: as what lam and let call their names is all that is not compared. -/
import Derived.Test.YtbcgpcnbfaipbaaDoorTrn
import Derived.Test.YtbcgpcnbfaipbaaDoorTfree
import Derived.Test.YtbcgpcnbfaipbaaDoorStext
import Derived.Test.YtbcgpcnbfaipbaaDoorShelf
import Derived.Lib.AppendIntMem
import Derived.Test.YtbcgpcnbfaipbaaDoorTimpl
import Derived.Test.YtbcgpcnbfaipbaaDoorTkids
import Derived.Test.YtbcgpcnbfaipbaaDoorTuse
import Derived.BigQuiet
import Derived.Deep.RegionHeld3
/- The program's canonical names: fresh. -/
namespace Go.Proofs.YtbcgpcnbfaipbaaDoor
open Go.RowKit Go.ChangeMaps

/-- the library's table reads as it is laid, whatever is done from a block on -/
abbrev Tb (B : Nat) (w : World) : Prop := Lib.TabBelow Tryd.prog B w "internal/strconv.uint64pow10" .u64 Lib.pow10Tab

theorem Tb.fr {B : Nat} {w w' : World} {T : Nat → Prop} (h : Tb B w) (hf : Fr T w w') (hB : B ≤ w.heap.size) (hT : ∀ k, T k → B ≤ k) : Tb B w' := h.on (hf.below hB hT)

theorem SSl.frT {w w' : World} {A : Option Addr} {xs : List (List UInt8)} {T : Nat → Prop} (h : SSl w A xs) (hf : Fr T w w') (hT : ∀ g o, A = some ⟨g, o, none⟩ → ¬ T g) : SSl w' A xs := NSl.fr (show NSl w A xs from h) hf hT

theorem fsh_here {tk : List (List UInt8)} {g i : Nat} (h1 : g ≤ i) (h2 : i ≤ fsh tk g) (h3 : xnm i ∉ tk) : i = fsh tk g := by
  obtain ⟨a, b, c⟩ := fsh_spec tk g
  by_cases h : i < fsh tk g
  · exact absurd (b i h1 h) h3
  · omega

theorem fsh_past {tk : List (List UInt8)} {g i : Nat} (h2 : i ≤ fsh tk g) (h3 : xnm i ∈ tk) : i + 1 ≤ fsh tk g := by
  obtain ⟨a, b, c⟩ := fsh_spec tk g
  by_cases h : i = fsh tk g
  · rw [h] at h3; exact absurd h3 c
  · omega

end Go.Proofs.YtbcgpcnbfaipbaaDoor

/- The program's renaming of bound names. -/
namespace Go.Proofs.YtbcgpcnbfaipbaaDoor
open Go.RowKit Go.ChangeMaps

/-- the parts so far: their memory is old or new -/
structure KM (w : World) (S T : Nat → Prop) (f : Ts) (i : Nat) (V : Value) (wr : World) : Prop where
  fr : Fr S w wr
  own : ∃ xs, wr.ownsRow w.heap.size 30 1 V i xs ∧ TEl wr (fun b => T b ∨ (w.heap.size ≤ b ∧ b < wr.heap.size ∧ some b ≠ V.ownBlock)) f xs

/-- what is not written, and what is read -/
structure Apart2 (w : World) (S T : Nat → Prop) : Prop where
  s : ∀ b, S b → b < w.heap.size
  t : ∀ b, T b → b < w.heap.size ∧ ¬ S b

theorem KM.keep {w wr w' : World} {S T : Nat → Prop} {i : Nat} {f : Ts} {V : Value} (ha : Apart2 w S T) (h : KM w S T f i V wr) (hf : Fr S wr w') : KM w S T f i V w' := by
  obtain ⟨h1, ⟨xs, h2, h3⟩⟩ := h
  refine ⟨h1.trans hf, ⟨xs, own_fr h2 hf (fun b hb e => by have := ha.s b e; have := (h2.lt b hb).1; omega), h3.mono (fun b hb => hb.imp (fun h => h) (fun hb => ⟨hb.1, Nat.lt_of_lt_of_le hb.2.1 hf.size, hb.2.2⟩)) (fun b hb => ?_)⟩⟩
  rcases hb with hb | hb
  · exact hf.block b (Nat.lt_of_lt_of_le (ha.t b hb).1 h1.size) (ha.t b hb).2
  · exact hf.block b hb.2.1 (fun e => by have := ha.s b e; omega)

theorem KM.form {w wr : World} {S T : Nat → Prop} {i : Nat} {f : Ts} {V : Value} (h : KM w S T f i V wr) : ∃ A c, V = .slice A i c := by
  obtain ⟨_, ⟨xs, h2, _⟩⟩ := h
  exact own_form h2

theorem KM.start (w : World) (S T : Nat → Prop) {wr : World} (hf : Fr S w wr) (o : Obj) (ho : o = .cells #[] 30) : KM w S T .nil 0 (.slice (some ⟨wr.heap.size, 0, none⟩) 0 0) (wr.alloc o) := by
  subst ho
  exact ⟨hf.alloc _, ⟨[], ⟨rfl, .inr ⟨wr.heap.size, 0, #[], rfl, hf.size, heap_alloc_new wr _, Nat.le_refl _, Nat.zero_le _, rfl, rfl⟩⟩, rfl⟩⟩

/-- one part more -/
theorem KM.more {w wr w1 w2 : World} {S T : Nat → Prop} {i : Nat} {f : Ts} {V v' : Value} {o : Obj} {p : Nat} {h a : List UInt8} {d : Nat} {k : Ts} (ha : Apart2 w S T) (hk : KM w S T f i V wr) (hf : Fr S wr w1) (ht : Tm w1 (fun b => T b ∨ (wr.heap.size ≤ b ∧ b < w1.heap.size)) p h a d k)
    {xs : List Value} (h2 : w1.ownsRow w.heap.size 30 1 V i xs) (h3 : TEl w1 (fun b => T b ∨ (w.heap.size ≤ b ∧ b < w1.heap.size ∧ some b ≠ V.ownBlock)) f xs) (hown : w2.ownsRow w.heap.size 30 1 v' (i + 1) (xs ++ [Ptr p]))
    (hg : (w1.alloc o).grownBy w2 V.ownBlock) (hloc : v'.ownBlock = V.ownBlock ∨ v'.ownBlock = some (w1.alloc o).heap.size) : KM w S T (f.snoc h a d k) (i + 1) v' w2 := by
  have hk1 := hk.keep ha hf
  obtain ⟨h1, _⟩ := hk1
  have hvo := h2.lt
  have hvr : ∀ b, V.ownBlock = some b → b < wr.heap.size := fun b hb => by
    obtain ⟨_, ⟨ys, g2, _⟩⟩ := hk
    exact (g2.lt b hb).2
  have hsz := hg.size
  have hsa : (w1.alloc o).heap.size = w1.heap.size + 1 := by simp
  have hs1 := hf.size
  have hs0 := hk.fr.size
  have keep : ∀ b, b < w1.heap.size → some b ≠ V.ownBlock → w2.heap[b]? = w1.heap[b]? := fun b hb hne => by
    rw [hg.block b (by omega) hne]
    exact Below.heap_alloc _ _ _ hb
  have more : ∀ b, b < w1.heap.size → some b ≠ V.ownBlock → some b ≠ v'.ownBlock := fun b hb hne => by
    rcases hloc with e | e
    · rw [e]; exact hne
    · rw [e]; intro h; injection h with h; omega
  have hTV : ∀ b, T b → some b ≠ V.ownBlock := fun b hb e => by have := (hvo b e.symm).1; have := (ha.t b hb).1; omega
  refine ⟨(h1.alloc o).grown hg (fun b hb => .inr (hvo b hb).1), ⟨xs ++ [Ptr p], hown, ?_⟩⟩
  refine TEl.snoc (ht.mono (fun b hb => ?_) (fun b hb => ?_)) (h3.mono (fun b hb => ?_) (fun b hb => ?_))
  · rcases hb with hb | hb
    · exact .inl hb
    · have hne : some b ≠ V.ownBlock := fun e => by have := hvr b e.symm; omega
      exact .inr ⟨by omega, by omega, more b hb.2 hne⟩
  · rcases hb with hb | hb
    · exact keep b (by have := (ha.t b hb).1; omega) (hTV b hb)
    · exact keep b hb.2 (fun e => by have := hvr b e.symm; omega)
  · rcases hb with hb | hb
    · exact .inl hb
    · exact .inr ⟨hb.1, by omega, more b hb.2.1 hb.2.2⟩
  · rcases hb with hb | hb
    · exact keep b (by have := (ha.t b hb).1; omega) (hTV b hb)
    · exact keep b hb.2.1 hb.2.2

theorem KM.done {w wr : World} {S T : Nat → Prop} {i : Nat} {f : Ts} {A : Option Addr} {c : Nat} (h : KM w S T f i (.slice A i c) wr) (hl : f.len = i) : TSl wr (TN T w wr) A f := by
  obtain ⟨_, ⟨xs, h2, h3⟩⟩ := h
  refine ⟨xs, h3.mono (fun b hb => hb.imp (fun h => h) (fun hb => ⟨hb.1, hb.2.1⟩)) (fun _ _ => rfl), ?_⟩
  rcases h2.2 with ⟨_, h0⟩ | ⟨g, cap, cur, hv, _⟩
  · left; omega
  · injection hv with e1 e2 e3
    right
    refine ⟨g, 0, e1, .inr (h2.lt g (by rw [e1]; rfl)), fun j u hj => ?_⟩
    have := h2.cells (g := g) (by rw [e1]; rfl) j u hj
    rw [addr_add] at this
    exact this

theorem rn_step (tk : List (List UInt8)) {k : Ts} {j : Nat} {h a : List UInt8} {d : Nat} {k' : Ts} (e : k.nth j = some (h, a, d, k')) (g : Nat) :
    rnT tk (k.from_ j) g = (.cons h (rnAt tk h a k' g) (rnD d k') (rnT tk k' (rnG tk h k' g)).1 (rnT tk (k.from_ (j + 1)) (rnT tk k' (rnG tk h k' g)).2).1, (rnT tk (k.from_ (j + 1)) (rnT tk k' (rnG tk h k' g)).2).2) := by
  rw [Ts.from_nth k j h a d k' e]
  rfl

end Go.Proofs.YtbcgpcnbfaipbaaDoor

/- TermCanon of the program. -/
namespace Go.Proofs.YtbcgpcnbfaipbaaDoor
open Go.RowKit Go.ChangeMaps

theorem head_short {h : List UInt8} (hh : shapeOf h ≠ []) : h.length ≤ 4 := (shape_head hh).2.2

theorem texts_len : ∀ (f : Fo), f.wf → (∀ sh : List Bool, isTms (some sh) f = true → f.stexts.length ≤ 8 * f.size) ∧ (isTms none f = true → f.stexts.length + 3 ≤ 8 * f.size ∧ 1 ≤ f.stexts.length)
  | .nil, _ => ⟨fun sh _ => by simp [Fo.stexts], fun h => (by cases h)⟩
  | .cons a k r, hw => by
    have hk := texts_len k hw.2.1
    have hr := texts_len r hw.2.2
    have tk : (isTm a k = true) → (treeText a k).length + 1 ≤ 8 * treeSize a k := by
      intro h
      by_cases ha : a = []
      · subst ha
        simp only [isTm, if_true] at h
        obtain ⟨h1, h2⟩ := hk.2 h
        simp only [treeText, treeSize, if_true, List.length_cons, List.length_append, List.length_nil]
        cases k with
        | nil => cases h
        | cons b j q =>
          rw [Fo.texts_eq]
          simp only [Fo.stexts, List.length_cons, List.length_append] at h1 h2 ⊢
          omega
      · simp only [isTm, if_neg ha] at h
        have := (atom_bytes h).2.2.2
        simp only [treeText, treeSize, if_neg ha]
        omega
    have es : (Fo.cons a k r).size = treeSize a k + r.size := rfl
    have et : (Fo.cons a k r).stexts.length = (treeText a k).length + 1 + r.stexts.length := by
      simp only [Fo.stexts, List.length_cons, List.length_append]; omega
    rw [es, et]
    refine ⟨?_, ?_⟩
    · intro sh hs
      cases sh with
      | nil => simp [isTms] at hs
      | cons b sh =>
        cases b with
        | true =>
          simp only [isTms, Bool.and_eq_true] at hs
          have h1 := tk hs.1
          have h2 := hr.1 sh hs.2
          omega
        | false =>
          simp only [isTms, Bool.and_eq_true] at hs
          have h0 := (name_bytes hs.1)
          have h2 := hr.1 sh hs.2
          have e1 : treeText a k = a := by simp [treeText, h0.1]
          have e2 : treeSize a k = 1 := by simp [treeSize, h0.1]
          have := h0.2.2.2
          rw [e1, e2]
          omega
    · intro hs
      simp only [isTms, Bool.and_eq_true] at hs
      have hs0 : shapeOf a ≠ [] := by intro e; rw [e] at hs; cases hs.1
      have h0 := shape_head hs0
      have h2 := hr.1 _ hs.2
      have e1 : treeText a k = a := by simp [treeText, h0.1]
      have e2 : treeSize a k = 1 := by simp [treeSize, h0.1]
      have := h0.2.2
      rw [e1, e2]
      omega

theorem text_len {a : List UInt8} {k : Fo} (h : isTm a k = true) (hk : k.wf) : (treeText a k).length ≤ 8 * treeSize a k := by
  by_cases ha : a = []
  · subst ha
    simp only [isTm, if_true] at h
    obtain ⟨h1, h2⟩ := (texts_len k hk).2 h
    simp only [treeText, treeSize, if_true, List.length_cons, List.length_append, List.length_nil]
    cases k with
    | nil => cases h
    | cons b j q =>
      rw [Fo.texts_eq]
      simp only [Fo.stexts, List.length_cons, List.length_append] at h1 h2 ⊢
      omega
  · simp only [isTm, if_neg ha] at h
    have := (atom_bytes h).2.2.2
    simp only [treeText, treeSize, if_neg ha]
    omega

theorem tokN_term {a : List UInt8} {k : Fo} (h : isTm a k = true) (hw : a ≠ [] → k = .nil) (hk : k.wf) : TokN [] (ndH a k) (ndA [] a k) (ndD [] a) (cv k (.parts [])) := by
  refine ⟨?_, tok_term h hw hk⟩
  by_cases ha : a = []
  · subst ha
    rintro ⟨h1, _⟩
    simp only [isTm, if_true] at h
    have h2 := ((wf_cv k hk).2.1 [] h).2
    have h3 := top_len [] hk h
    simp only [ndH, if_true] at h1
    rw [h2, h1] at h3
    exact absurd kids_name h3
  · obtain rfl := hw ha
    simp only [isTm, if_neg ha] at h
    exact (nm_tok [] a h).1

def CanonIs (s r : List UInt8) (b : Bool) : Prop := (∃ a k, TmOk s a k ∧ r = cnT a k ∧ b = true) ∨ ((∀ a k, ¬ TmOk s a k) ∧ r = [] ∧ b = false)

theorem CanonIs.one {s r r' : List UInt8} {b b' : Bool} (h : CanonIs s r b) (h' : CanonIs s r' b') : r' = r ∧ b' = b := by
  rcases h with ⟨a, k, i1, rfl, rfl⟩ | ⟨n1, rfl, rfl⟩ <;> rcases h' with ⟨a', k', i2, rfl, rfl⟩ | ⟨n2, rfl, rfl⟩
  · obtain ⟨rfl, rfl⟩ := i1.unique i2
    exact ⟨rfl, rfl⟩
  · exact absurd i1 (n2 a k)
  · exact absurd i2 (n1 a' k')
  · exact ⟨rfl, rfl⟩

/-- the canonical term, or the failure -/
def AnsCanon (s : List UInt8) (w : World) (e : Ending) (w' : World) : Prop := ∃ r b, e = .returned (.tuple #[S r, .bool b]) ∧ CanonIs s r b ∧ Fr No w w'

end Go.Proofs.YtbcgpcnbfaipbaaDoor

/- TermAlike of the program: as what lam and let call their names is all that is not compared. -/
namespace Go.Proofs.YtbcgpcnbfaipbaaDoor
open Go.RowKit Go.ChangeMaps

/-- how the program compares two terms -/
def smN (h a : List UInt8) (d : Nat) (k : Ts) (h' a' : List UInt8) (d' : Nat) (k' : Ts) : Bool := h == h' && d == d' && (if k.len = 0 then a == a' else smL k k')

theorem sm_cons (h a : List UInt8) (d : Nat) (k r : Ts) (h' a' : List UInt8) (d' : Nat) (k' r' : Ts) : smL (.cons h a d k r) (.cons h' a' d' k' r') = (smN h a d k h' a' d' k' && smL r r') := rfl

/-- depths are small -/
def DepOk : Ts → Prop
  | .nil => True
  | .cons _ _ d k r => d ≤ 100000 ∧ DepOk k ∧ DepOk r

theorem DepOk.nth : ∀ {f : Ts} {j : Nat} {h a : List UInt8} {d : Nat} {k : Ts}, DepOk f → f.nth j = some (h, a, d, k) → d ≤ 100000 ∧ DepOk k
  | .nil, _, _, _, _, _, _, e => by cases e
  | .cons h a d k r, 0, h', a', d', k', hd, e => by
    simp only [Ts.nth, Option.some.injEq, Prod.mk.injEq] at e
    obtain ⟨rfl, rfl, rfl, rfl⟩ := e
    exact ⟨hd.1, hd.2.1⟩
  | .cons h a d k r, j + 1, h', a', d', k', hd, e => DepOk.nth (f := r) hd.2.2 e

theorem sm_step {f f' : Ts} {j : Nat} {h a : List UInt8} {d : Nat} {k : Ts} {h' a' : List UInt8} {d' : Nat} {k' : Ts} (e : f.nth j = some (h, a, d, k)) (e' : f'.nth j = some (h', a', d', k')) : smL (f.from_ j) (f'.from_ j) = (smN h a d k h' a' d' k' && smL (f.from_ (j + 1)) (f'.from_ (j + 1))) := by
  rw [Ts.from_nth f j h a d k e, Ts.from_nth f' j h' a' d' k' e']
  rfl

end Go.Proofs.YtbcgpcnbfaipbaaDoor
