/- Maps whose keys the world must bear (pointers to nodes); the keys of the program. · Sets of types in memory; powers; the set of a compound type. · The set of a compound type. · The counter of sets: what it keeps; the set of a type. -/
import Derived.Test.YtloecimlimoanaaGreatDoorRead
import Derived.Test.YtloecimlimoanaaGreatDoorPtr
import Derived.Test.YtloecimlimoanaaGreatDoorMdl
import Derived.Deep.RegionHeld3
/- Maps whose keys the world must bear (pointers to nodes); the keys of the program. -/
namespace Go.Proofs.YtloecimlimoanaaGreatDoor
open Go.RowKit Go.ChangeMaps

section
variable {P : Program} {κ : Type}

/-- How the keys of a map are spelt in a world, where it bears them. -/
structure KeyAt (P : Program) (kt : TypeId) (enc : κ → Value) (w : World) (V : κ → Prop) : Prop where
  check : ∀ (e : Bool) (k : κ), (Instr.checkKey e 10000 kt (enc k)).run P w = .ok () w
  find : ∀ (k : κ) (es : List MapEntry), V k → (∀ e ∈ es, ∃ k', e.key = enc k' ∧ V k') →
    ((Instr.findKey kt (enc k) es).run P w = .ok none w ∧ ∀ e ∈ es, e.key ≠ enc k) ∨
    ∃ j e, (Instr.findKey kt (enc k) es).run P w = .ok (some (j, e.val)) w ∧ es[j]? = some e ∧ e.key = enc k
  inj : ∀ {k k' : κ}, enc k = enc k' → k = k'
  bits : ∀ k : κ, Instr.sameBits 10000 (enc k) (enc k) = true

theorem find_noneV {kt : TypeId} {enc : κ → Value} {w : World} {V : κ → Prop} (K : KeyAt P kt enc w V) {k : κ} {f : κ → Option Value} {es : List MapEntry}
    (h1 : ∀ e ∈ es, ∃ k, e.key = enc k ∧ f k = some e.val) (h2 : ∀ k v, f k = some v → ∃ e ∈ es, e.key = enc k) (hV : ∀ k v, f k = some v → V k) (hk : V k) :
    ((Instr.findKey kt (enc k) es).run P w = .ok none w ∧ f k = none ∧ ∀ e ∈ es, e.key ≠ enc k) ∨
    ∃ j e, (Instr.findKey kt (enc k) es).run P w = .ok (some (j, e.val)) w ∧ es[j]? = some e ∧ e.key = enc k ∧ f k = some e.val := by
  rcases K.find k es hk (fun e he => by obtain ⟨k', h, g⟩ := h1 e he; exact ⟨k', h, hV _ _ g⟩) with ⟨hr, hn⟩ | ⟨j, e, hr, hj, he⟩
  · left
    refine ⟨hr, ?_, hn⟩
    rcases hf : f k with _ | v
    · rfl
    · obtain ⟨e, he, hk⟩ := h2 k v hf
      exact absurd hk (hn e he)
  · right
    refine ⟨j, e, hr, hj, he, ?_⟩
    obtain ⟨k', hk', hv⟩ := h1 e (List.mem_of_getElem? hj)
    have := K.inj (hk'.symm.trans he)
    subst this
    exact hv

theorem MapAt.lookupV {kt et mt : TypeId} {enc : κ → Value} {w : World} {V : κ → Prop} (K : KeyAt P kt enc w V) (ht : P.underlying mt = some (.map kt et)) {z : Value} (hz : (zeroValue et).run P w = .ok z w)
    {m n : Nat} {f : κ → Option Value} (h : MapAt w enc m n f) (hV : ∀ k v, f k = some v → V k) (k : κ) (hVk : V k) : (Instr.lookup mt (.map (some m)) (enc k) false).run P w = .ok ((f k).getD z) w := by
  obtain ⟨es, clk, hb, _, h1, h2, _⟩ := h
  rcases find_noneV K (k := k) h1 h2 hV hVk with ⟨hr, hf, _⟩ | ⟨j, e, hr, _, _, hf⟩
  · simp [Instr.lookup, run_underlying ht, MapKept.run_getObj_map hb, K.check, hr, hz, Result.andThen, hf]
  · simp [Instr.lookup, run_underlying ht, MapKept.run_getObj_map hb, K.check, hr, Result.andThen, hf]

theorem MapAt.look_okV {kt et mt : TypeId} {enc : κ → Value} {w : World} {V : κ → Prop} (K : KeyAt P kt enc w V) (ht : P.underlying mt = some (.map kt et)) {z : Value} (hz : (zeroValue et).run P w = .ok z w)
    {m n : Nat} {f : κ → Option Value} (h : MapAt w enc m n f) (hV : ∀ k v, f k = some v → V k) (k : κ) (hVk : V k) : (Instr.lookup mt (.map (some m)) (enc k) true).run P w = .ok (.tuple #[(f k).getD z, .bool (f k).isSome]) w := by
  obtain ⟨es, clk, hb, _, h1, h2, _⟩ := h
  rcases find_noneV K (k := k) h1 h2 hV hVk with ⟨hr, hf, _⟩ | ⟨j, e, hr, _, _, hf⟩
  · simp [Instr.lookup, run_underlying ht, MapKept.run_getObj_map hb, K.check, hr, hz, Result.andThen, hf]
  · simp [Instr.lookup, run_underlying ht, MapKept.run_getObj_map hb, K.check, hr, Result.andThen, hf]

theorem MapAt.updateV {kt et mt : TypeId} {enc : κ → Value} {w : World} {V : κ → Prop} (K : KeyAt P kt enc w V) (ht : P.underlying mt = some (.map kt et))
    {m n : Nat} {f : κ → Option Value} (h : MapAt w enc m n f) (hV : ∀ k v, f k = some v → V k) (k : κ) (v : Value) (hVk : V k) :
    ∃ w', (Instr.mapUpdate mt (.map (some m)) (enc k) v).run P w = .ok () w' ∧ MapAt w' enc m (if (f k).isSome then n else n + 1) (updK f k v) ∧
      w.mapTurned w' m ∧ w'.heap.size = w.heap.size := by
  obtain ⟨es, clk, hb, hn, h1, h2, h3⟩ := h
  rcases find_noneV K (k := k) h1 h2 hV hVk with ⟨hr, hf, hno⟩ | ⟨j, e, hr, hj, hk, hf⟩
  · refine ⟨setBlock w m (.map (es.push { key := enc k, val := v, born := clk }) (clk + 1)), ?_, ⟨_, _, heap_setBlock_same hb _, by simp [hf, hn], ?_, ?_, ?_⟩, ⟨es, clk, _, _, hb, rfl⟩, by simp [setBlock]⟩
    · simp [Instr.mapUpdate, run_underlying ht, MapKept.run_getObj_map hb, K.check, hr, Result.andThen, MapKept.run_setObj_map _ hb, setBlock]
    · intro x hx
      simp only [Array.toList_push, List.mem_append, List.mem_singleton] at hx
      rcases hx with hx | rfl
      · obtain ⟨k', e1, e2⟩ := h1 x hx
        refine ⟨k', e1, ?_⟩
        rw [updK_other]
        · exact e2
        · rintro rfl; exact hno x hx e1
      · exact ⟨k, rfl, updK_same _ _ _⟩
    · intro k' v' hv'
      by_cases hkk : k' = k
      · subst hkk; exact ⟨{ key := enc k', val := v, born := clk }, by simp, rfl⟩
      · rw [updK_other _ _ _ hkk] at hv'
        obtain ⟨x, hx, e1⟩ := h2 k' v' hv'
        exact ⟨x, by simp [hx], e1⟩
    · simp only [Array.toList_push, List.pairwise_append, List.pairwise_singleton, List.mem_singleton, true_and]
      refine ⟨h3, ?_⟩
      rintro x hx y rfl
      exact hno x hx
  · have hjs : es[j]? = some e := by simpa using hj
    have hmod : (es.modify j fun e => { e with key := enc k, val := v }).toList = es.toList.modify j (fun e => { e with key := enc k, val := v }) := by simp
    refine ⟨setBlock w m (.map (es.modify j fun e => { e with key := enc k, val := v }) clk), ?_, ⟨_, _, heap_setBlock_same hb _, by simp [hf, hn], ?_, ?_, ?_⟩, ⟨es, clk, _, _, hb, rfl⟩, by simp [setBlock]⟩
    · have hb' : (((es[j]?).map (·.key)).getD (enc k)) = enc k := by simp [hjs, hk]
      simp [Instr.mapUpdate, run_underlying ht, MapKept.run_getObj_map hb, K.check, hr, Result.andThen, MapKept.run_setObj_map _ hb, setBlock, hb', Instr.keyThatStays, K.bits]
    · intro x hx
      rw [hmod] at hx
      obtain ⟨i, hi⟩ := List.getElem?_of_mem hx
      rw [List.getElem?_modify] at hi
      by_cases hij : j = i
      · subst hij
        rw [hj] at hi
        simp at hi
        subst hi
        exact ⟨k, rfl, updK_same _ _ _⟩
      · simp [hij] at hi
        have hi' : es.toList[i]? = some x := by simpa using hi
        obtain ⟨k', e1, e2⟩ := h1 x (List.mem_of_getElem? hi')
        refine ⟨k', e1, ?_⟩
        rw [updK_other]
        · exact e2
        · rintro rfl
          have hpw := List.pairwise_iff_getElem.1 h3
          obtain ⟨l1, g1⟩ := List.getElem?_eq_some_iff.1 hj
          obtain ⟨l2, g2⟩ := List.getElem?_eq_some_iff.1 hi'
          rcases Nat.lt_or_gt_of_ne hij with hlt | hlt
          · exact hpw j i l1 l2 hlt (by rw [g1, g2, hk, e1])
          · exact hpw i j l2 l1 hlt (by rw [g1, g2, hk, e1])
    · intro k' v' hv'
      rw [hmod]
      have key_of : ∀ x ∈ es.toList, ∃ y ∈ es.toList.modify j (fun e => { e with key := enc k, val := v }), y.key = x.key := by
        intro x hx
        obtain ⟨i, hi⟩ := List.getElem?_of_mem hx
        by_cases hij : j = i
        · subst hij
          have : x = e := by rw [hj] at hi; injection hi with hi; exact hi.symm
          subst this
          exact ⟨{ x with key := enc k, val := v }, List.mem_of_getElem? (i := j) (by rw [List.getElem?_modify, hj]; simp), hk.symm⟩
        · exact ⟨x, List.mem_of_getElem? (i := i) (by rw [List.getElem?_modify, hi]; simp [hij]), rfl⟩
      by_cases hkk : k' = k
      · subst hkk
        obtain ⟨y, hy, e2⟩ := key_of e (List.mem_of_getElem? hj)
        exact ⟨y, hy, e2.trans hk⟩
      · rw [updK_other _ _ _ hkk] at hv'
        obtain ⟨x, hx, e1⟩ := h2 k' v' hv'
        obtain ⟨y, hy, e2⟩ := key_of x hx
        exact ⟨y, hy, e2.trans e1⟩
    · rw [hmod]
      exact pairwise_modify _ _ _ (fun e' he' => by rw [hj] at he'; injection he' with he'; subst he'; exact hk.symm) h3


/-- The keys are asked one by one. -/
theorem find_askingV {kt : TypeId} {enc : κ → Value} {V : κ → Prop} (w : World) (hinj : ∀ {k k' : κ}, enc k = enc k' → k = k')
    (heq : ∀ k k', V k → V k' → ∃ r : Bool, (Op.equal kt (enc k) (enc k')).run P w = .ok r w ∧ (r = true ↔ k = k')) (k : κ) (hk : V k) :
    ∀ (es : List MapEntry) (i : Nat), (∀ e ∈ es, ∃ k', e.key = enc k' ∧ V k') →
      ((Instr.findAsking kt (enc k) es i).run P w = .ok none w ∧ ∀ e ∈ es, e.key ≠ enc k) ∨
      ∃ j e, (Instr.findAsking kt (enc k) es i).run P w = .ok (some (i + j, e.val)) w ∧ es[j]? = some e ∧ e.key = enc k
  | [], i, _ => Or.inl ⟨by simp [Instr.findAsking], by simp⟩
  | e :: es, i, hall => by
    obtain ⟨k', hk', hv'⟩ := hall e (by simp)
    obtain ⟨r, hr, hiff⟩ := heq k k' hk hv'
    cases r
    · have hne : e.key ≠ enc k := fun h => by
        rw [hk'] at h
        have := hiff.2 (hinj h).symm
        cases this
      rcases find_askingV w hinj heq k hk es (i + 1) (fun y hy => hall y (by simp [hy])) with ⟨h1, h2⟩ | ⟨j, e', h1, h2, h3⟩
      · left
        refine ⟨by simp [Instr.findAsking, hk', hr, h1], fun y hy => ?_⟩
        rcases List.mem_cons.1 hy with rfl | hy
        · exact hne
        · exact h2 y hy
      · right
        exact ⟨j + 1, e', by simp [Instr.findAsking, hk', hr, h1, Nat.add_assoc, Nat.add_comm 1 j], by simpa using h2, h3⟩
    · right
      exact ⟨0, e, by simp [Instr.findAsking, hk', hr], rfl, by rw [hk', hiff.1 rfl]⟩
end

/-- Keys that are nodes of the program. -/
def isNode (w : World) (p : Nat) : Prop := ∃ cs, Blk w p 97 cs

theorem node_key (w : World) : KeyAt Tryz.prog 75 (fun p : Nat => Ptr p) w (isNode w) where
  check e k := by rw [show (10000 : Nat) = 9999 + 1 from rfl, Instr.checkKey]; simp [run_underlying Tryz.underlying75]
  find k es hk hall := by
    have heq : ∀ k k', isNode w k → isNode w k' → ∃ r : Bool, (Op.equal 75 (Ptr k) (Ptr k')).run Tryz.prog w = .ok r w ∧ (r = true ↔ k = k') := by
      rintro k k' ⟨cs, h⟩ ⟨cs', h'⟩
      exact ⟨_, run_equal_node h h', by simp⟩
    have hask := find_askingV (P := Tryz.prog) (kt := 75) w (enc := fun p : Nat => Ptr p) (by intro k k' h; injection h with h; injection h with h; injection h) heq k hk es 0 hall
    have hnow : es ≠ [] → Instr.findNow (.pointer 97) (Ptr k) es 0 = none := by
      intro hne
      cases es with
      | nil => exact absurd rfl hne
      | cons e es => simp [Instr.findNow, Instr.sameNow]
    by_cases he : es = []
    · subst he
      exact Or.inl ⟨by simp [Instr.findKey, run_underlying Tryz.underlying75, Instr.findNow], by simp⟩
    · rcases hask with ⟨h1, h2⟩ | ⟨j, e, h1, h2, h3⟩
      · exact Or.inl ⟨by simp [Instr.findKey, run_underlying Tryz.underlying75, hnow he, h1], h2⟩
      · exact Or.inr ⟨j, e, by simp [Instr.findKey, run_underlying Tryz.underlying75, hnow he, h1], h2, h3⟩
  inj h := by injection h with h; injection h with h; injection h
  bits k := by rw [show (10000 : Nat) = 9999 + 1 from rfl, Instr.sameBits]; simp
end Go.Proofs.YtloecimlimoanaaGreatDoor

/- Sets of types in memory; powers; the set of a compound type. · The set of a compound type. · The counter of sets: what it keeps; the set of a type. -/
/- Sets of types in memory; powers; the set of a compound type. -/
namespace Go.Proofs.YtloecimlimoanaaGreatDoor
open Go.RowKit Go.ChangeMaps

/-- the count, if it is known: of small types -/
def Ty.kn (μ : Nat → Option Nat) (t : Ty) : Option Nat := if t.size ≤ 400 then t.cnt μ else none

theorem Ty.kn_n {μ : Nat → Option Nat} {f : Bool} {l r : Ty} {c : Nat} (h : (Ty.n f l r).kn μ = some c) : ∃ a b, l.kn μ = some a ∧ r.kn μ = some b ∧ c = (if f then b ^ a else a * b) ∧ c ≤ 4096 ∧ l.size + r.size + 1 ≤ 400 := by
  unfold Ty.kn at h
  split at h
  · rename_i hs
    simp only [Ty.size] at hs
    obtain ⟨a, b, h1, h2, h3, h4⟩ := Ty.cnt_n h
    exact ⟨a, b, by unfold Ty.kn; rw [if_pos (by omega)]; exact h1, by unfold Ty.kn; rw [if_pos (by omega)]; exact h2, h3, h4, by omega⟩
  · cases h

theorem Ty.kn_of {μ : Nat → Option Nat} {f : Bool} {l r : Ty} {a b : Nat} (h1 : l.kn μ = some a) (h2 : r.kn μ = some b) : (Ty.n f l r).kn μ = if 1 + l.size + r.size ≤ 400 then cap (if f then b ^ a else a * b) else none := by
  unfold Ty.kn at h1 h2 ⊢
  split at h1
  · split at h2
    · simp only [Ty.size, Ty.cnt, h1, h2]
    · cases h2
  · cases h1

theorem Ty.kn_size {μ : Nat → Option Nat} {t : Ty} {a : Nat} (h : t.kn μ = some a) : t.size ≤ 400 := by
  unfold Ty.kn at h
  split at h
  · assumption
  · cases h

theorem Ty.kn_none {μ : Nat → Option Nat} {f : Bool} {l r : Ty} (h : l.kn μ = none ∨ r.kn μ = none) : (Ty.n f l r).kn μ = none := by
  rcases hk : (Ty.n f l r).kn μ with _ | c
  · rfl
  · obtain ⟨a, b, h1, h2, _⟩ := Ty.kn_n hk
    rcases h with h | h
    · rw [h] at h1; cases h1
    · rw [h] at h2; cases h2

theorem Ty.kn_bounds {μ : Nat → Option Nat} (hμ : Sizes μ) {t : Ty} {c : Nat} (h : t.kn μ = some c) : 1 ≤ c ∧ c ≤ 4096 := by
  unfold Ty.kn at h
  split at h
  · exact t.cnt_bounds hμ c h
  · cases h

/-- The value v is the set of a type, or nil if its count is not known. -/
def SetV (w : World) (μ : Nat → Option Nat) : Ty → Value → Prop
  | .n f l r, v => (∃ c g x y, (Ty.n f l r).kn μ = some c ∧ v = Ptr g ∧ Blk w g 107 #[S [Ty.sign f], .int .i64 ((Ty.n f l r).size : Nat), .int .i64 c, x, y] ∧ SetV w μ l x ∧ SetV w μ r y) ∨ ((Ty.n f l r).kn μ = none ∧ v = .pointer none)
  | .v i, v => (∃ c g, (Ty.v i).kn μ = some c ∧ v = Ptr g ∧ Blk w g 107 #[S [], .int .i64 1, .int .i64 c, .pointer none, .pointer none]) ∨ ((Ty.v i).kn μ = none ∧ v = .pointer none)
  | .o, v => ∃ g, v = Ptr g ∧ Blk w g 107 #[S [111], .int .i64 1, .int .i64 2, .pointer none, .pointer none]

/-- sets stay -/
def KeepS (w w' : World) : Prop := ∀ g cs, Blk w g 107 cs → Blk w' g 107 cs

theorem KeepS.fr {w w' : World} {T : Nat → Prop} (hf : Fr T w w') (hT : ∀ b, T b → (∃ es clk, w.heap[b]? = some (.map es clk)) ∨ w.heap.size ≤ b) : KeepS w w' := by
  intro g cs hb
  refine hb.fr hf fun h => ?_
  rcases hT g h with ⟨es, clk, hm⟩ | hl
  · exact hb.ne_map hm rfl
  · have := hb.lt; omega

theorem SetV.keep {w w' : World} {μ : Nat → Option Nat} (hk : KeepS w w') : ∀ {t : Ty} {v : Value}, SetV w μ t v → SetV w' μ t v := by
  intro t
  induction t with
  | v i =>
    rintro v (⟨c, g, h1, h2, h3⟩ | h)
    · exact .inl ⟨c, g, h1, h2, hk _ _ h3⟩
    · exact .inr h
  | o => rintro v ⟨g, h1, h2⟩; exact ⟨g, h1, hk _ _ h2⟩
  | n f l r ihl ihr =>
    rintro v (⟨c, g, x, y, h1, h2, h3, h4, h5⟩ | h)
    · exact .inl ⟨c, g, x, y, h1, h2, hk _ _ h3, ihl h4, ihr h5⟩
    · exact .inr h

/-- what a set that is known bears -/
theorem SetV.some_ {w : World} {μ : Nat → Option Nat} {t : Ty} {v : Value} {c : Nat} (h : SetV w μ t v) (hc : t.kn μ = some c) : ∃ g x y, v = Ptr g ∧ Blk w g 107 #[S (sgn t), .int .i64 (t.size : Nat), .int .i64 c, x, y] := by
  cases t with
  | v i =>
    rcases h with ⟨c', g, h1, h2, h3⟩ | ⟨h1, _⟩
    · rw [hc] at h1; injection h1 with h1; subst h1
      exact ⟨g, _, _, h2, h3⟩
    · rw [hc] at h1; cases h1
  | o =>
    obtain ⟨g, h2, h3⟩ := h
    have : c = 2 := by simp [Ty.kn, Ty.size, Ty.cnt] at hc; exact hc.symm
    subst this
    exact ⟨g, _, _, h2, h3⟩
  | n f l r =>
    rcases h with ⟨c', g, x, y, h1, h2, h3, _⟩ | ⟨h1, _⟩
    · rw [hc] at h1; injection h1 with h1; subst h1
      exact ⟨g, _, _, h2, h3⟩
    · rw [hc] at h1; cases h1

theorem SetV.none_ {w : World} {μ : Nat → Option Nat} {t : Ty} {v : Value} (h : SetV w μ t v) (hc : t.kn μ = none) : v = .pointer none := by
  cases t with
  | v i =>
    rcases h with ⟨c', g, h1, h2, h3⟩ | ⟨_, h⟩
    · rw [hc] at h1; cases h1
    · exact h
  | o => simp [Ty.kn, Ty.size, Ty.cnt] at hc
  | n f l r =>
    rcases h with ⟨c', g, x, y, h1, _⟩ | ⟨_, h⟩
    · rw [hc] at h1; cases h1
    · exact h

/-! Powers. -/
def PowR (b a : Nat) (w : World) (e : Ending) (w' : World) : Prop := ∃ r : Nat, e = .returned (.int .i64 r) ∧ (b ^ a ≤ 4096 → r = b ^ a) ∧ (4096 < b ^ a → 4096 < r) ∧ r ≤ 100000000 ∧ w = w'

set_option maxRecDepth 100000 in
set_option maxHeartbeats 1000000 in
theorem power_any (w : World) (b a : Nat) (hb : 1 ≤ b) (hb2 : b ≤ 4096) (ha : a ≤ 4096) :
    Calls Tryz.prog 101 #[.int .i64 b, .int .i64 a] w fun e w' => PowR b a w e w' := by
  have hb' : (b : Int) ≤ 4096 := by omega
  have hb0 : (0 : Int) ≤ (b : Int) := by omega
  have ha' : (a : Int) ≤ 4096 := by omega
  go_enter Tryz.func101, Tryz.ntmps101
  go_wp2_with fail
  go_loop [5, 7] (fun r u => ∃ j : Nat, j ≤ a ∧ u = .int .i64 j ∧ r = .int .i64 ((b ^ j : Nat) : Int) ∧ b ^ j ≤ 4096) (fun _ u => a - (intOf u).toNat)
  case atStart => exact ⟨0, Nat.zero_le _, rfl, by simp, by simp⟩
  case round =>
    obtain ⟨j, hj, rfl, rfl, hp⟩ := hrel
    by_cases hlt : j < a
    · have hs : b ^ (j + 1) = b ^ j * b := Nat.pow_succ ..
      have hm : b ^ j * b ≤ 4096 * 4096 := Nat.mul_le_mul hp hb2
      have HS : Hid (((b ^ j : Nat) : Int) * (b : Int) = ((b ^ (j + 1) : Nat) : Int)) := by show _ = _; rw [hs]; simp
      have HP1 : Hid (b ^ (j + 1) ≤ 4096 * 4096) := by show _ ≤ _; rw [hs]; exact hm
      have HBIG : Hid (4096 < b ^ (j + 1) → 4096 < b ^ a) := fun h => pow_big hb (by omega) h
      have HQ : Hid (∀ h : b ^ (j + 1) ≤ 4096, b ^ (j + 1) ≤ 4096) := fun h => h
      have hm1 : ((b ^ j : Nat) : Int) * (b : Int) ≤ 16777216 := by rw [HS.out]; have := HP1.out; omega
      have hm0 : 0 ≤ ((b ^ j : Nat) : Int) * (b : Int) := by rw [HS.out]; omega
      clear hs hm
      by_cases hbig : b ^ (j + 1) ≤ 4096
      · have hb1 : ¬ 4096 < ((b ^ j : Nat) : Int) * (b : Int) := by rw [HS.out]; omega
        have HB := Lib.hid hbig
        clear hbig
        generalize hq : b ^ (j + 1) = q at *
        generalize b ^ j = p at *
        have HQE := Lib.hid hq
        clear hq
        go_wp2_with fail
        go_round
        case rel => exact ⟨j + 1, by omega, by go_num, by rw [HS.out, HQE.out], by rw [HQE.out]; exact HB.out⟩
        case measure => simp [intOf]; omega
      · have hb1 : 4096 < ((b ^ j : Nat) : Int) * (b : Int) := by rw [HS.out]; omega
        have HB : Hid (4096 < b ^ (j + 1)) := Nat.lt_of_not_le hbig
        clear hbig
        generalize hq : b ^ (j + 1) = q at *
        generalize b ^ j = p at *
        clear hq
        go_wp2_with fail
        go_ret
        exact ⟨q, by rw [HS.out]; rfl, fun h => absurd (HBIG.out HB.out) (by omega), fun _ => HB.out, by have := HP1.out; omega, rfl⟩
    · have hjl : j = a := by omega
      subst hjl
      go_wp2_with fail
      go_ret
      exact ⟨_, rfl, fun _ => rfl, fun h => by omega, by omega, rfl⟩
end Go.Proofs.YtloecimlimoanaaGreatDoor

/- The set of a compound type. -/
namespace Go.Proofs.YtloecimlimoanaaGreatDoor
open Go.RowKit Go.ChangeMaps

def SetP (μ : Nat → Option Nat) (t : Ty) (w : World) (e : Ending) (w' : World) : Prop := ∃ v, e = .returned v ∧ SetV w' μ t v ∧ Fr No w w'

set_option maxRecDepth 100000 in
set_option maxHeartbeats 1000000 in
theorem combined_nil (w : World) (μ : Nat → Option Nat) (f : Bool) (l r : Ty) (x y : Value) (hx : SetV w μ l x) (hy : SetV w μ r y) (hn : l.kn μ = none ∨ r.kn μ = none) :
    Calls Tryz.prog 93 #[S [Ty.sign f], x, y] w fun e w' => SetP μ (.n f l r) w e w' := by
  have HK : Hid ((Ty.n f l r).kn μ = none) := Ty.kn_none hn
  rcases ha : l.kn μ with _ | a
  · obtain rfl := hx.none_ ha
    clear hx hy hn ha
    go_enter Tryz.func93, Tryz.ntmps93
    go_wp2_with fail
    go_ret
    exact ⟨_, rfl, .inr ⟨HK.out, rfl⟩, Fr.refl _ _⟩
  · obtain ⟨g, p, q, rfl, _⟩ := hx.some_ ha
    have hb : r.kn μ = none := by
      rcases hn with hn | hn
      · rw [ha] at hn; cases hn
      · exact hn
    obtain rfl := hy.none_ hb
    clear hx hy hn ha hb
    go_enter Tryz.func93, Tryz.ntmps93
    go_wp2_with fail
    go_ret
    exact ⟨_, rfl, .inr ⟨HK.out, rfl⟩, Fr.refl _ _⟩

theorem set_end {w w' : World} {μ : Nat → Option Nat} {f : Bool} {l r : Ty} {gl gr c p : Nat} {z : Int} (hX : SetV w μ l (Ptr gl)) (hY : SetV w μ r (Ptr gr)) (hf : Fr No w w') (hz : z = ((Ty.n f l r).size : Nat)) (hb : Blk w' p 107 #[S [Ty.sign f], .int .i64 z, .int .i64 c, Ptr gl, Ptr gr])
    (hk : (Ty.n f l r).kn μ = some c) : SetP μ (.n f l r) w (.returned (Ptr p)) w' := by
  subst hz
  have hk' : KeepS w w' := KeepS.fr hf (fun _ h => h.elim)
  exact ⟨_, rfl, .inl ⟨c, p, _, _, hk, rfl, hb, hX.keep hk', hY.keep hk'⟩, hf⟩

theorem size_n (f : Bool) (l r : Ty) : (1 : Int) + (l.size : Int) + (r.size : Int) = ((Ty.n f l r).size : Nat) := by simp [Ty.size]

set_option maxRecDepth 100000 in
set_option maxHeartbeats 1000000 in
theorem combined_pair (w : World) (μ : Nat → Option Nat) (hμ : Sizes μ) (l r : Ty) (a b : Nat) (x y : Value) (hx : SetV w μ l x) (hy : SetV w μ r y) (ha : l.kn μ = some a) (hb : r.kn μ = some b) :
    Calls Tryz.prog 93 #[S [42], x, y] w fun e w' => SetP μ (.n false l r) w e w' := by
  obtain ⟨gl, pl, ql, rfl, bl⟩ := hx.some_ ha
  obtain ⟨gr, pr, qr, rfl, br⟩ := hy.some_ hb
  have hab := Ty.kn_bounds hμ ha
  have hbb := Ty.kn_bounds hμ hb
  have hsl := Ty.kn_size ha
  have hsr := Ty.kn_size hb
  have HKN : Hid ((Ty.n false l r).kn μ = if 1 + l.size + r.size ≤ 400 then cap (a * b) else none) := Ty.kn_of (f := false) ha hb
  have HX := Lib.hid hx
  have HY := Lib.hid hy
  have c1 : w.cell? ⟨gl, 1, none⟩ = some (.int .i64 (l.size : Nat)) := (bl.cell 1).trans rfl
  have c2 : w.cell? ⟨gl, 2, none⟩ = some (.int .i64 a) := (bl.cell 2).trans rfl
  have d1 : w.cell? ⟨gr, 1, none⟩ = some (.int .i64 (r.size : Nat)) := (br.cell 1).trans rfl
  have d2 : w.cell? ⟨gr, 2, none⟩ = some (.int .i64 b) := (br.cell 2).trans rfl
  have g1 := bl.lt
  have g2 := br.lt
  have hm : a * b ≤ 4096 * 4096 := Nat.mul_le_mul hab.2 hbb.2
  have hme : (a : Int) * (b : Int) = ((a * b : Nat) : Int) := by simp
  have hm1 : (a : Int) * (b : Int) ≤ 16777216 := by rw [hme]; omega
  have hm0 : 0 ≤ (a : Int) * (b : Int) := by rw [hme]; omega
  have z1 : (l.size : Int) ≤ 400 := by omega
  have z2 : (r.size : Int) ≤ 400 := by omega
  have z3 : (0 : Int) ≤ (l.size : Int) := by omega
  have z4 : (0 : Int) ≤ (r.size : Int) := by omega
  have HME := Lib.hid hme
  clear hx hy ha hb bl br hm hme
  go_enter Tryz.func93, Tryz.ntmps93
  go_wp2_with fail
  have hw1 : IntKind.i64.wrap (1 + (l.size : Int)) = 1 + (l.size : Int) := IntWalk.i64_in _ (by omega)
  have hw2 : IntKind.i64.wrap (1 + (l.size : Int) + (r.size : Int)) = 1 + (l.size : Int) + (r.size : Int) := IntWalk.i64_in _ (by omega)
  refine wp_region_still_tail 14 (by kernel_rfl) (by kernel_rfl) ?_
  change wpStill _ _ (World.drew _) (fun a' => wpList _ _ _ _ a' (World.drew _)) _ _
  simp only [List.take_succ_cons, List.take_zero, List.drop_succ_cons, List.drop_zero]
  repeat still_step
  refine wpStill_nil ?_
  clear hw1 hw2
  have BN : Hid (Blk (w.alloc (.cells #[S [42], .int .i64 (1 + (l.size : Int) + (r.size : Int)), .int .i64 0, Ptr gl, Ptr gr] 107)).drew w.heap.size 107 #[S [42], .int .i64 (1 + (l.size : Int) + (r.size : Int)), .int .i64 0, Ptr gl, Ptr gr]) := (Blk.new w 107 #[S [42], .int .i64 (1 + (l.size : Int) + (r.size : Int)), .int .i64 0, Ptr gl, Ptr gr]).drew
  have FN : Hid (Fr No w (w.alloc (.cells #[S [42], .int .i64 (1 + (l.size : Int) + (r.size : Int)), .int .i64 0, Ptr gl, Ptr gr] 107)).drew) := ((Fr.refl No w).alloc _).drew
  go_wp2_with fail
  generalize (w.alloc (.cells #[S [42], .int .i64 (1 + (l.size : Int) + (r.size : Int)), .int .i64 0, Ptr gl, Ptr gr] 107)).drew = W at BN FN ⊢
  have e2 : W.cell? ⟨gl, 2, none⟩ = some (.int .i64 a) := (FN.out.cell (p := ⟨gl, 2, none⟩) g1 (fun h => h)).trans c2
  have e3 : W.cell? ⟨gr, 2, none⟩ = some (.int .i64 b) := (FN.out.cell (p := ⟨gr, 2, none⟩) g2 (fun h => h)).trans d2
  have n0 : W.cell? ⟨w.heap.size, 2, none⟩ = some (.int .i64 0) := (BN.out.cell 2).trans rfl
  have n1 : W.cell? ⟨w.heap.size, 1, none⟩ = some (.int .i64 (1 + (l.size : Int) + (r.size : Int))) := (BN.out.cell 1).trans rfl
  have nf := BN.out.frozen 2
  have nl := BN.out.lt
  clear c1 c2 d1 d2
  generalize hp : w.heap.size = p at *
  have HP := Lib.hid hp
  clear hp g1 g2
  have hw3 : IntKind.i64.wrap ((a : Int) * (b : Int)) = ((a * b : Nat) : Int) := by rw [← HME.out]; exact IntWalk.i64_in _ (by omega)
  have BS : Hid (Blk (W.setCell ⟨p, 2, none⟩ (.int .i64 ((a * b : Nat) : Int))).drew p 107 #[S [42], .int .i64 (1 + (l.size : Int) + (r.size : Int)), .int .i64 ((a * b : Nat) : Int), Ptr gl, Ptr gr]) := (BN.out.set_ 2 _).drew
  have FS : Hid (Fr No w (W.setCell ⟨p, 2, none⟩ (.int .i64 ((a * b : Nat) : Int))).drew) := (FN.out.setCell (p := ⟨p, 2, none⟩) (.inr (by have := HP.out; show w.heap.size ≤ p; omega)) _).drew
  have hM : (0 : Int) ≤ ((a * b : Nat) : Int) := by omega
  generalize hmu : a * b = mu at *
  have HMU := Lib.hid hmu
  clear hmu
  refine wp_region_still_tail 12 (by kernel_rfl) (by kernel_rfl) ?_
  change wpStill _ _ (World.drew _) (fun a' => wpList _ _ _ _ a' (World.drew _)) _ _
  simp only [List.take_succ_cons, List.take_zero, List.drop_succ_cons, List.drop_zero]
  repeat still_step
  refine wpStill_nil ?_
  clear hw3 hm1 hm0
  by_cases h400 : 1 + l.size + r.size ≤ 400
  · have h400' : ¬ 400 < 1 + (l.size : Int) + (r.size : Int) := by omega
    by_cases h4096 : mu ≤ 4096
    · have h4096' : ¬ 4096 < (mu : Int) := by omega
      have HK : Hid ((Ty.n false l r).kn μ = some mu) := by show _ = _; rw [HKN.out, if_pos h400]; unfold cap; rw [if_pos h4096]
      go_wp2_with fail
      go_ret
      exact set_end (f := false) HX.out HY.out FS.out (size_n false l r) BS.out HK.out
    · have h4096' : 4096 < (mu : Int) := by omega
      have HK : Hid ((Ty.n false l r).kn μ = none) := by show _ = _; rw [HKN.out, if_pos h400]; unfold cap; rw [if_neg h4096]
      go_wp2_with fail
      go_ret
      exact ⟨_, rfl, .inr ⟨HK.out, rfl⟩, FS.out⟩
  · have h400' : 400 < 1 + (l.size : Int) + (r.size : Int) := by omega
    have HK : Hid ((Ty.n false l r).kn μ = none) := by show _ = _; rw [HKN.out, if_neg h400]
    go_wp2_with fail
    go_ret
    exact ⟨_, rfl, .inr ⟨HK.out, rfl⟩, FS.out⟩

set_option maxRecDepth 100000 in
set_option maxHeartbeats 1000000 in
theorem combined_fun (w : World) (μ : Nat → Option Nat) (hμ : Sizes μ) (l r : Ty) (a b : Nat) (x y : Value) (hx : SetV w μ l x) (hy : SetV w μ r y) (ha : l.kn μ = some a) (hb : r.kn μ = some b) :
    Calls Tryz.prog 93 #[S [62], x, y] w fun e w' => SetP μ (.n true l r) w e w' := by
  obtain ⟨gl, pl, ql, rfl, bl⟩ := hx.some_ ha
  obtain ⟨gr, pr, qr, rfl, br⟩ := hy.some_ hb
  have hab := Ty.kn_bounds hμ ha
  have hbb := Ty.kn_bounds hμ hb
  have hsl := Ty.kn_size ha
  have hsr := Ty.kn_size hb
  have HKN : Hid ((Ty.n true l r).kn μ = if 1 + l.size + r.size ≤ 400 then cap (b ^ a) else none) := Ty.kn_of (f := true) ha hb
  have HX := Lib.hid hx
  have HY := Lib.hid hy
  have c1 : w.cell? ⟨gl, 1, none⟩ = some (.int .i64 (l.size : Nat)) := (bl.cell 1).trans rfl
  have c2 : w.cell? ⟨gl, 2, none⟩ = some (.int .i64 a) := (bl.cell 2).trans rfl
  have d1 : w.cell? ⟨gr, 1, none⟩ = some (.int .i64 (r.size : Nat)) := (br.cell 1).trans rfl
  have d2 : w.cell? ⟨gr, 2, none⟩ = some (.int .i64 b) := (br.cell 2).trans rfl
  have g1 := bl.lt
  have g2 := br.lt
  have POW : Hid (∀ w', Calls Tryz.prog 101 #[.int .i64 b, .int .i64 a] w' fun e w2 => PowR b a w' e w2) := fun w' => power_any w' b a hbb.1 hbb.2 hab.2
  have z1 : (l.size : Int) ≤ 400 := by omega
  have z2 : (r.size : Int) ≤ 400 := by omega
  have z3 : (0 : Int) ≤ (l.size : Int) := by omega
  have z4 : (0 : Int) ≤ (r.size : Int) := by omega
  clear hx hy ha hb bl br
  go_enter Tryz.func93, Tryz.ntmps93
  go_wp2_with fail
  have hw1 : IntKind.i64.wrap (1 + (l.size : Int)) = 1 + (l.size : Int) := IntWalk.i64_in _ (by omega)
  have hw2 : IntKind.i64.wrap (1 + (l.size : Int) + (r.size : Int)) = 1 + (l.size : Int) + (r.size : Int) := IntWalk.i64_in _ (by omega)
  refine wp_region_still_tail 14 (by kernel_rfl) (by kernel_rfl) ?_
  change wpStill _ _ (World.drew _) (fun a' => wpList _ _ _ _ a' (World.drew _)) _ _
  simp only [List.take_succ_cons, List.take_zero, List.drop_succ_cons, List.drop_zero]
  repeat still_step
  refine wpStill_nil ?_
  clear hw1 hw2
  have BN : Hid (Blk (w.alloc (.cells #[S [62], .int .i64 (1 + (l.size : Int) + (r.size : Int)), .int .i64 0, Ptr gl, Ptr gr] 107)).drew w.heap.size 107 #[S [62], .int .i64 (1 + (l.size : Int) + (r.size : Int)), .int .i64 0, Ptr gl, Ptr gr]) := (Blk.new w 107 #[S [62], .int .i64 (1 + (l.size : Int) + (r.size : Int)), .int .i64 0, Ptr gl, Ptr gr]).drew
  have FN : Hid (Fr No w (w.alloc (.cells #[S [62], .int .i64 (1 + (l.size : Int) + (r.size : Int)), .int .i64 0, Ptr gl, Ptr gr] 107)).drew) := ((Fr.refl No w).alloc _).drew
  go_wp2_with fail
  generalize (w.alloc (.cells #[S [62], .int .i64 (1 + (l.size : Int) + (r.size : Int)), .int .i64 0, Ptr gl, Ptr gr] 107)).drew = W at BN FN ⊢
  have e2 : W.cell? ⟨gl, 2, none⟩ = some (.int .i64 a) := (FN.out.cell (p := ⟨gl, 2, none⟩) g1 (fun h => h)).trans c2
  have e3 : W.cell? ⟨gr, 2, none⟩ = some (.int .i64 b) := (FN.out.cell (p := ⟨gr, 2, none⟩) g2 (fun h => h)).trans d2
  have n0 : W.cell? ⟨w.heap.size, 2, none⟩ = some (.int .i64 0) := (BN.out.cell 2).trans rfl
  have n1 : W.cell? ⟨w.heap.size, 1, none⟩ = some (.int .i64 (1 + (l.size : Int) + (r.size : Int))) := (BN.out.cell 1).trans rfl
  have nf := BN.out.frozen 2
  have nl := BN.out.lt
  clear c1 c2 d1 d2
  generalize hp : w.heap.size = p at *
  have HP := Lib.hid hp
  have ne1 : gl ≠ p := by omega
  have ne2 : p ≠ gl := by omega
  have ne3 : gr ≠ p := by omega
  have ne4 : p ≠ gr := by omega
  clear hp g1 g2
  have FIN : Hid (∀ mu : Nat, Blk (W.setCell ⟨p, 2, none⟩ (.int .i64 (mu : Int))).drew p 107 #[S [62], .int .i64 (1 + (l.size : Int) + (r.size : Int)), .int .i64 (mu : Int), Ptr gl, Ptr gr] ∧ Fr No w (W.setCell ⟨p, 2, none⟩ (.int .i64 (mu : Int))).drew) := fun mu =>
    ⟨(BN.out.set_ 2 _).drew, (FN.out.setCell (p := ⟨p, 2, none⟩) (.inr (by have := HP.out; show w.heap.size ≤ p; omega)) _).drew⟩
  go_region_held3 (fun w' => w'.cell? ⟨gl, 2, none⟩ = some (.int .i64 a) ∧ w'.cell? ⟨gr, 2, none⟩ = some (.int .i64 b)) (go_keep)
    (first | (go_at_call 101; ((with_reducible refine (POW.out _).mono ?_); rintro e w2 ⟨mu, rfl, hp1, hp2, hp3, rfl⟩; have HP1 := Lib.hid hp1; have HP2 := Lib.hid hp2; clear hp1 hp2)))
  have hM : (0 : Int) ≤ (mu : Int) := by omega
  obtain ⟨BS, FS⟩ := FIN.out mu
  have BS := Lib.hid BS
  have FS := Lib.hid FS
  by_cases h400 : 1 + l.size + r.size ≤ 400
  · have h400' : ¬ 400 < 1 + (l.size : Int) + (r.size : Int) := by omega
    by_cases h4096 : mu ≤ 4096
    · have h4096' : ¬ 4096 < (mu : Int) := by omega
      have HK : Hid ((Ty.n true l r).kn μ = some mu) := by
        show _ = _
        have hle : b ^ a ≤ 4096 := Nat.le_of_not_lt fun h => absurd (HP2.out h) (by omega)
        rw [HKN.out, if_pos h400, HP1.out hle]; unfold cap; rw [if_pos hle]
      go_wp2_with fail
      go_ret
      exact set_end (f := true) HX.out HY.out FS.out (size_n true l r) BS.out HK.out
    · have h4096' : 4096 < (mu : Int) := by omega
      have HK : Hid ((Ty.n true l r).kn μ = none) := by show _ = _; rw [HKN.out, if_pos h400]; unfold cap; rw [if_neg fun hle => h4096 (by rw [HP1.out hle]; exact hle)]
      go_wp2_with fail
      go_ret
      exact ⟨_, rfl, .inr ⟨HK.out, rfl⟩, FS.out⟩
  · have h400' : 400 < 1 + (l.size : Int) + (r.size : Int) := by omega
    have HK : Hid ((Ty.n true l r).kn μ = none) := by show _ = _; rw [HKN.out, if_neg h400]
    go_wp2_with fail
    go_ret
    exact ⟨_, rfl, .inr ⟨HK.out, rfl⟩, FS.out⟩

theorem combined_any (w : World) (μ : Nat → Option Nat) (hμ : Sizes μ) (f : Bool) (l r : Ty) (x y : Value) (hx : SetV w μ l x) (hy : SetV w μ r y) :
    Calls Tryz.prog 93 #[S [Ty.sign f], x, y] w fun e w' => SetP μ (.n f l r) w e w' := by
  rcases ha : l.kn μ with _ | a
  · exact combined_nil w μ f l r x y hx hy (.inl ha)
  · rcases hb : r.kn μ with _ | b
    · exact combined_nil w μ f l r x y hx hy (.inr hb)
    · cases f
      · exact combined_pair w μ hμ l r a b x y hx hy ha hb
      · exact combined_fun w μ hμ l r a b x y hx hy ha hb
end Go.Proofs.YtloecimlimoanaaGreatDoor

/- The counter of sets: what it keeps; the set of a type. -/
namespace Go.Proofs.YtloecimlimoanaaGreatDoor
open Go.RowKit Go.ChangeMaps

/-- what stands behind a node's parts -/
def KidsL (L : Nat → Ty → Prop) : Ty → Int → Value → Value → Prop
  | .n _ l r, _, x, y => ∃ pl pr : Nat, x = Ptr pl ∧ y = Ptr pr ∧ L pl l ∧ L pr r
  | .v i, nu, x, y => nu = i ∧ x = .pointer none ∧ y = .pointer none
  | .o, _, x, y => x = .pointer none ∧ y = .pointer none

def Nd (w : World) (L : Nat → Ty → Prop) (p : Nat) (t : Ty) : Prop := ∃ (nu : Int) (x y : Value) (sz pl : Int), Blk w p 97 #[S (sgn t), .int .i64 nu, x, y, .int .i64 sz, .int .i64 pl] ∧ KidsL L t nu x y

/-- pointers that stand for types, and a union that knows their leaders -/
structure Lead (u ml : Nat) (own : Nat → Prop) (L : Nat → Ty → Prop) (Q : World → Prop) : Prop where
  call : ∀ w p t, Q w → L p t → Calls Tryz.prog 78 #[Ptr u, Ptr p] w fun e w' => ∃ p', e = .returned (Ptr p') ∧ Q w' ∧ L p' t ∧ Fr (One ml) w w' ∧ Nd w' L p' t
  uniq : ∀ w p t t', Q w → L p t → L p t' → t = t'
  node : ∀ w p t, Q w → L p t → isNode w p
  keep : ∀ w w' T, Q w → Fr T w w' → (∀ b, T b → ¬ own b) → Q w'
  map : ∀ w, Q w → ∃ es clk, w.heap[ml]? = some (.map es clk)

/-- the counter's state -/
structure CsAt (u ml mz mk c : Nat) (L : Nat → Ty → Prop) (Q : World → Prop) (μ : Nat → Option Nat) (w : World) : Prop where
  q : Q w
  blk : Blk w c 138 #[Ptr u, .map (some mz), .map (some mk)]
  sz : SzAt w mz μ
  kn : ∃ k f, MapAt w (fun p : Nat => Ptr p) mk k f ∧ ∀ p v, f p = some v → ∃ t, L p t ∧ SetV w μ t v

structure CsOk (ml mz mk : Nat) (own : Nat → Prop) (μ : Nat → Option Nat) : Prop where
  zl : mz ≠ ml
  zk : mz ≠ mk
  kl : mk ≠ ml
  ko : ¬ own mk
  sizes : Sizes μ

section
variable {u ml mz mk c : Nat} {own : Nat → Prop} {L : Nat → Ty → Prop} {Q : World → Prop} {μ : Nat → Option Nat}

theorem CsAt.maps {w : World} (hL : Lead u ml own L Q) (h : CsAt u ml mz mk c L Q μ w) : ∀ b, Two ml mk b → ∃ es clk, w.heap[b]? = some (.map es clk) := by
  rintro b (rfl | rfl)
  · exact hL.map w h.q
  · obtain ⟨k, f, ⟨es, clk, hb, _⟩, _⟩ := h.kn
    exact ⟨es, clk, hb⟩

/-- kept by what leaves maps and nodes alone -/
theorem CsAt.fr {w w' : World} {T : Nat → Prop} (h : CsAt u ml mz mk c L Q μ w) (hf : Fr T w w') (hq : Q w') (hT : ∀ b, T b → ((∃ es clk, w.heap[b]? = some (.map es clk)) ∨ w.heap.size ≤ b) ∧ b ≠ mz ∧ b ≠ mk) : CsAt u ml mz mk c L Q μ w' := by
  have hk : KeepS w w' := KeepS.fr hf fun b hb => (hT b hb).1
  obtain ⟨k, f, h1, h2⟩ := h.kn
  refine ⟨hq, h.blk.fr hf fun hb => ?_, h.sz.fr hf fun hb => (hT _ hb).2.1 rfl, k, f, h1.keep (hf.block mk h1.lt fun hb => (hT _ hb).2.2 rfl), fun p v hp => ?_⟩
  · rcases (hT c hb).1 with ⟨es, clk, hm⟩ | hl
    · exact h.blk.ne_map hm rfl
    · have := h.blk.lt; omega
  · obtain ⟨t, g1, g2⟩ := h2 p v hp
    exact ⟨t, g1, g2.keep hk⟩

theorem CsAt.no {w w' : World} (hL : Lead u ml own L Q) (h : CsAt u ml mz mk c L Q μ w) (hf : Fr No w w') : CsAt u ml mz mk c L Q μ w' := h.fr hf (hL.keep w w' No h.q hf fun _ h => h.elim) fun _ h => h.elim

theorem CsAt.led {w w' : World} (hL : Lead u ml own L Q) (hO : CsOk ml mz mk own μ) (h : CsAt u ml mz mk c L Q μ w) (hf : Fr (One ml) w w') (hq : Q w') : CsAt u ml mz mk c L Q μ w' :=
  h.fr hf hq fun b hb => by
    unfold One at hb
    subst hb
    exact ⟨.inl (hL.map w h.q), fun e => hO.zl e.symm, fun e => hO.kl e.symm⟩

theorem zero_set (w : World) : (zeroValue 54).run Tryz.prog w = .ok (.pointer none) w := by kernel_rfl

/-- what is asked of what is known -/
theorem CsAt.ask {w : World} (hL : Lead u ml own L Q) (h : CsAt u ml mz mk c L Q μ w) {p : Nat} {t : Ty} (hp : L p t) :
    ∃ v b, (Instr.lookup 136 (.map (some mk)) (Ptr p) true).run Tryz.prog w = .ok (.tuple #[v, .bool b]) w ∧ (b = true → SetV w μ t v) := by
  obtain ⟨k, f, h1, h2⟩ := h.kn
  have hV : ∀ p v, f p = some v → isNode w p := fun p v hv => by obtain ⟨t', g, _⟩ := h2 p v hv; exact hL.node w p t' h.q g
  refine ⟨_, _, h1.look_okV (node_key w) Tryz.underlying136 (zero_set w) hV p (hL.node w p t h.q hp), fun hb => ?_⟩
  obtain ⟨v, hv⟩ := Option.isSome_iff_exists.1 hb
  obtain ⟨t', g1, g2⟩ := h2 p v hv
  rw [hv, hL.uniq w p t t' h.q hp g1]
  exact g2

/-- and what is kept -/
theorem CsAt.keepIt {w : World} (hL : Lead u ml own L Q) (hO : CsOk ml mz mk own μ) (h : CsAt u ml mz mk c L Q μ w) {p : Nat} {t : Ty} {v : Value} (hp : L p t) (hv : SetV w μ t v) :
    ∃ w', (Instr.mapUpdate 136 (.map (some mk)) (Ptr p) v).run Tryz.prog w = .ok () w' ∧ CsAt u ml mz mk c L Q μ w' ∧ SetV w' μ t v ∧ Fr (Two ml mk) w w' := by
  obtain ⟨k, f, h1, h2⟩ := h.kn
  have hV : ∀ p v, f p = some v → isNode w p := fun p v hv => by obtain ⟨t', g, _⟩ := h2 p v hv; exact hL.node w p t' h.q g
  obtain ⟨w', hrun, r1, r2, r3⟩ := h1.updateV (node_key w) Tryz.underlying136 hV p v (hL.node w p t h.q hp)
  have hf : Fr (One mk) w w' := (Fr.refl (One mk) w).turned r2 (.inl rfl)
  have hk : KeepS w w' := KeepS.fr hf fun b hb => by
    unfold One at hb
    subst hb
    obtain ⟨es, clk, hm, _⟩ := h1
    exact .inl ⟨es, clk, hm⟩
  refine ⟨w', hrun, ⟨hL.keep w w' _ h.q hf fun b hb => by unfold One at hb; subst hb; exact hO.ko, h.blk.fr hf fun hb => ?_, h.sz.fr hf fun hb => hO.zk hb, _, _, r1, fun q v' hq => ?_⟩, hv.keep hk, hf.mono fun _ _ e => .inr e⟩
  · unfold One at hb
    obtain ⟨es, clk, hm, _⟩ := h1
    exact h.blk.ne_map hm hb
  · by_cases hqp : q = p
    · subst hqp
      rw [updK_same] at hq
      injection hq with hq
      subst hq
      exact ⟨t, hp, hv.keep hk⟩
    · rw [updK_other _ _ _ hqp] at hq
      obtain ⟨t', g1, g2⟩ := h2 q v' hq
      exact ⟨t', g1, g2.keep hk⟩

def OfPost (u ml mz mk c : Nat) (L : Nat → Ty → Prop) (Q : World → Prop) (μ : Nat → Option Nat) (t : Ty) (w : World) (e : Ending) (w' : World) : Prop :=
  ∃ v, e = .returned v ∧ SetV w' μ t v ∧ CsAt u ml mz mk c L Q μ w' ∧ Fr (Two ml mk) w w'

def OfSaid (u ml mz mk c : Nat) (L : Nat → Ty → Prop) (Q : World → Prop) (μ : Nat → Option Nat) (t : Ty) : Prop := ∀ w p, CsAt u ml mz mk c L Q μ w → L p t →
  Calls Tryz.prog 60 #[Ptr c, Ptr p] w fun e w' => OfPost u ml mz mk c L Q μ t w e w'

def NewSaid (u ml mz mk c : Nat) (L : Nat → Ty → Prop) (Q : World → Prop) (μ : Nat → Option Nat) (t : Ty) : Prop := ∀ w p, CsAt u ml mz mk c L Q μ w → Nd w L p t →
  Calls Tryz.prog 79 #[Ptr c, Ptr p] w fun e w' => OfPost u ml mz mk c L Q μ t w e w'

set_option maxRecDepth 100000 in
set_option maxHeartbeats 1000000 in
theorem of_any (hL : Lead u ml own L Q) (hO : CsOk ml mz mk own μ) (t : Ty) (hN : NewSaid u ml mz mk c L Q μ t) : OfSaid u ml mz mk c L Q μ t := by
  intro w p hC hp
  have c0 : w.cell? ⟨c, 0, none⟩ = some (Ptr u) := (hC.blk.cell 0).trans rfl
  have CALL : Hid (Calls Tryz.prog 78 #[Ptr u, Ptr p] w fun e w' => ∃ p', e = .returned (Ptr p') ∧ CsAt u ml mz mk c L Q μ w' ∧ L p' t ∧ Fr (Two ml mk) w w' ∧ Nd w' L p' t) :=
    (hL.call w p t hC.q hp).mono fun e w' ⟨p', h1, h2, h3, h4, h5⟩ => ⟨p', h1, hC.led hL hO h4 h2, h3, h4.mono fun _ _ e => .inl e, h5⟩
  have HL := Lib.hid hL
  have HO := Lib.hid hO
  have HN := Lib.hid hN
  clear hC hp hL hO hN
  go_enter Tryz.func60, Tryz.ntmps60
  go_wp2_with fail
  refine CALL.out.mono ?_
  rintro e w1 ⟨p', rfl, hC1, hp', hf1, hn1⟩
  obtain ⟨v, b, hask, hv⟩ := hC1.ask HL.out hp'
  have c2 : w1.cell? ⟨c, 2, none⟩ = some (.map (some mk)) := (hC1.blk.cell 2).trans rfl
  have HC1 := Lib.hid hC1
  have HP := Lib.hid hp'
  have HF1 := Lib.hid hf1
  have HN1 := Lib.hid hn1
  have HV := Lib.hid hv
  clear hC1 hp' hf1 hn1 hv
  cases b
  · go_wp2_with fail
    refine (HN.out w1 p' HC1.out HN1.out).mono ?_
    rintro e w2 ⟨v2, rfl, hv2, hC2, hf2⟩
    obtain ⟨w3, hrun, hC3, hv3, hf3⟩ := hC2.keepIt HL.out HO.out HP.out hv2
    have e2 : w2.cell? ⟨c, 2, none⟩ = some (.map (some mk)) := (hC2.blk.cell 2).trans rfl
    have HC3 := Lib.hid hC3
    have HV3 := Lib.hid hv3
    have HF3 := Lib.hid ((HF1.out.trans hf2).trans hf3)
    clear hC3 hv3 hf3 hC2 hv2 hf2
    go_wp2_with fail
    go_ret
    exact ⟨v2, rfl, HV3.out, HC3.out, HF3.out⟩
  · go_wp2_with fail
    go_ret
    exact ⟨v, rfl, HV.out (by trivial), HC1.out, HF1.out⟩

theorem Two.tail {w w' : World} {T : Nat → Prop} (hf : Fr No w w') : Fr T w w' := hf.mono fun _ _ h => h.elim

set_option maxRecDepth 100000 in
set_option maxHeartbeats 1000000 in
theorem new_n (hL : Lead u ml own L Q) (hO : CsOk ml mz mk own μ) (f : Bool) (l r : Ty) (hl : OfSaid u ml mz mk c L Q μ l) (hr : OfSaid u ml mz mk c L Q μ r) : NewSaid u ml mz mk c L Q μ (.n f l r) := by
  rintro w p hC ⟨nu, x, y, sz, pl, hb, kl, kr, rfl, rfl, hkl, hkr⟩
  have HB := Lib.hid hb
  have CELLS : Hid (∀ w', Fr (Two ml mk) w w' → w'.cell? ⟨p, 0, none⟩ = some (S [Ty.sign f]) ∧ w'.cell? ⟨p, 2, none⟩ = some (Ptr kl) ∧ w'.cell? ⟨p, 3, none⟩ = some (Ptr kr)) := by
    intro w' hf
    have hb' := hb.fr hf fun h => by obtain ⟨es, clk, hm⟩ := hC.maps hL p h; exact hb.ne_map hm rfl
    exact ⟨(hb'.cell 0).trans rfl, (hb'.cell 2).trans rfl, (hb'.cell 3).trans rfl⟩
  have IL : Hid (∀ w', w' = w.drew → Calls Tryz.prog 60 #[Ptr c, Ptr kl] w' fun e w2 => ∃ v, e = .returned v ∧ SetV w2 μ l v ∧ CsAt u ml mz mk c L Q μ w2 ∧ Fr (Two ml mk) w w2) := by
    rintro w' rfl
    refine (hl w.drew kl (hC.no hL (Fr.refl No w).drew) hkl).mono ?_
    rintro e w2 ⟨v, h1, h2, h3, h4⟩
    exact ⟨v, h1, h2, h3, ((Fr.refl _ w).drew).trans h4⟩
  have IR : Hid (∀ w1 v1, CsAt u ml mz mk c L Q μ w1 → SetV w1 μ l v1 → Fr (Two ml mk) w w1 → Calls Tryz.prog 60 #[Ptr c, Ptr kr] w1 fun e w2 => ∃ v, e = .returned v ∧ SetV w2 μ l v1 ∧ SetV w2 μ r v ∧ CsAt u ml mz mk c L Q μ w2 ∧ Fr (Two ml mk) w w2) := by
    intro w1 v1 h1 h2 h3
    refine (hr w1 kr h1 hkr).mono ?_
    rintro e w2 ⟨v, g1, g2, g3, g4⟩
    exact ⟨v, g1, h2.keep (KeepS.fr g4 fun b hb => .inl (h1.maps hL b hb)), g2, g3, h3.trans g4⟩
  have CB : Hid (∀ w2 v1 v2, CsAt u ml mz mk c L Q μ w2 → SetV w2 μ l v1 → SetV w2 μ r v2 → Fr (Two ml mk) w w2 → Calls Tryz.prog 93 #[S [Ty.sign f], v1, v2] w2 fun e w3 => ∃ v, e = .returned v ∧ Fr (Two ml mk) w w3 ∧ OfPost u ml mz mk c L Q μ (.n f l r) w (.returned v) w3) := by
    intro w2 v1 v2 h1 h2 h3 h4
    refine (combined_any w2 μ hO.sizes f l r v1 v2 h2 h3).mono ?_
    rintro e w3 ⟨v, g1, g2, g3⟩
    have hf3 := h4.trans (Two.tail g3)
    exact ⟨v, g1, hf3, v, rfl, g2, h1.no hL g3, hf3⟩
  clear hb hC hl hr hL hO hkl hkr
  obtain ⟨b0, b2, b3⟩ := CELLS.out w (Fr.refl _ _)
  go_enter Tryz.func79, Tryz.ntmps79
  go_wp2_with fail
  refine (compound_yes _ _ _ _ _ _ _ _ HB.out).mono ?_
  rintro e w' ⟨rfl, rfl⟩
  go_wp2_with fail
  go_region_held3 (fun w' => w'.cell? ⟨p, 0, none⟩ = some (S [Ty.sign f]) ∧ w'.cell? ⟨p, 2, none⟩ = some (Ptr kl) ∧ w'.cell? ⟨p, 3, none⟩ = some (Ptr kr)) (go_keep)
    (first | (go_at_call 60; ((with_reducible refine (IL.out _ rfl).mono ?_); rintro e1 w1 ⟨v1, rfl, hv1, hC1, hf1⟩; have HC1 := Lib.hid hC1; have HV1 := Lib.hid hv1; have HF1 := Lib.hid hf1; obtain ⟨d0, d2, d3⟩ := CELLS.out w1 hf1; clear hC1 hv1 hf1)) | (go_at_call 60; ((with_reducible refine (IR.out _ _ HC1.out HV1.out HF1.out).mono ?_); rintro e2 w2 ⟨v2, rfl, hv1', hv2, hC2, hf2⟩; have HC2 := Lib.hid hC2; have HV1' := Lib.hid hv1'; have HV2 := Lib.hid hv2; have HF2 := Lib.hid hf2; obtain ⟨e0, e2, e3⟩ := CELLS.out w2 hf2; clear hC2 hv1' hv2 hf2)) | (go_at_call 93; ((with_reducible refine (CB.out _ _ _ HC2.out HV1'.out HV2.out HF2.out).mono ?_); rintro e3 w3 ⟨v3, rfl, hf3, hfin⟩; have HFIN := Lib.hid hfin; obtain ⟨g0, g2, g3⟩ := CELLS.out w3 hf3; clear hfin hf3)))
  go_wp2_with fail
  go_ret
  exact HFIN.out

set_option maxRecDepth 100000 in
set_option maxHeartbeats 1000000 in
theorem new_o (hL : Lead u ml own L Q) : NewSaid u ml mz mk c L Q μ .o := by
  rintro w p hC ⟨nu, x, y, sz, pl, hb, rfl, rfl⟩
  have HB := Lib.hid hb
  have c0 : w.cell? ⟨p, 0, none⟩ = some (S [111]) := (hb.cell 0).trans rfl
  have FIN : Hid (OfPost u ml mz mk c L Q μ .o w (.returned (Ptr w.heap.size)) (w.alloc (.cells #[S [111], .int .i64 1, .int .i64 2, .pointer none, .pointer none] 107))) :=
    ⟨_, rfl, ⟨_, rfl, Blk.new _ _ _⟩, hC.no hL ((Fr.refl No w).alloc _), (Fr.refl _ w).alloc _⟩
  clear hb hC hL
  go_enter Tryz.func79, Tryz.ntmps79
  go_wp2_with fail
  refine (compound_no _ _ _ _ _ _ _ HB.out).mono ?_
  rintro e w' ⟨rfl, rfl⟩
  go_wp2_with fail
  go_ret
  exact FIN.out

set_option maxRecDepth 100000 in
set_option maxHeartbeats 1000000 in
theorem new_v (hL : Lead u ml own L Q) (hO : CsOk ml mz mk own μ) (i : Nat) : NewSaid u ml mz mk c L Q μ (.v i) := by
  rintro w p hC ⟨nu, x, y, sz, pl, hb, hnu, rfl, rfl⟩
  subst hnu
  have HB := Lib.hid hb
  have c0 : w.cell? ⟨p, 0, none⟩ = some (S []) := (hb.cell 0).trans rfl
  have c1 : w.cell? ⟨p, 1, none⟩ = some (.int .i64 i) := (hb.cell 1).trans rfl
  have k1 : w.cell? ⟨c, 1, none⟩ = some (.map (some mz)) := (hC.blk.cell 1).trans rfl
  have h1 := (hC.no hL ((Fr.refl No w).drew)).sz.look i
  have h2 := (hC.no hL (((Fr.refl No w).drew).drew)).sz.look i
  have lp := hb.lt
  have lc := hC.blk.lt
  have HC := Lib.hid hC
  have HL := Lib.hid hL
  have hsz := hO.sizes i
  clear hb hC hL hO
  rcases hm : μ i with _ | d
  · have HK : Hid ((Ty.v i).kn μ = none) := by show _ = _; simp [Ty.kn, Ty.size, Ty.cnt, hm]
    rw [hm] at h1
    simp only [Option.getD_none] at h1
    clear h2 hm hsz
    go_enter Tryz.func79, Tryz.ntmps79
    go_wp2_with fail
    refine (compound_no _ _ _ _ _ _ _ HB.out).mono ?_
    rintro e w' ⟨rfl, rfl⟩
    go_wp2_with fail
    refine wp_region_still_lit (by kernel_rfl) (by kernel_rfl) ?_
    change wpStill _ _ (World.drew _) (fun a' => _) _ _
    repeat still_step
    refine wpStill_nil ?_
    go_wp2_with fail
    go_ret
    exact ⟨_, rfl, .inr ⟨HK.out, rfl⟩, HC.out.no HL.out ((Fr.refl No w).drew), (Fr.refl _ w).drew⟩
  · have HK : Hid ((Ty.v i).kn μ = some d) := by show _ = _; simp [Ty.kn, Ty.size, Ty.cnt, hm]
    have hd := hsz d hm
    have hd0 : (0 : Int) < (d : Int) := by omega
    rw [hm] at h1 h2
    simp only [Option.getD_some] at h1 h2
    clear hm hsz
    go_enter Tryz.func79, Tryz.ntmps79
    go_wp2_with fail
    refine (compound_no _ _ _ _ _ _ _ HB.out).mono ?_
    rintro e w' ⟨rfl, rfl⟩
    go_wp2_with fail
    refine wp_region_still_lit (by kernel_rfl) (by kernel_rfl) ?_
    change wpStill _ _ (World.drew _) (fun a' => _) _ _
    repeat still_step
    refine wpStill_nil ?_
    go_wp2_with fail
    refine wp_region_still_tail 14 (by kernel_rfl) (by kernel_rfl) ?_
    change wpStill _ _ (World.drew _) (fun a' => wpList _ _ _ _ a' (World.drew _)) _ _
    simp only [List.take_succ_cons, List.take_zero, List.drop_succ_cons, List.drop_zero]
    repeat still_step
    refine wpStill_nil ?_
    go_wp2_with fail
    go_ret
    exact ⟨_, rfl, .inl ⟨d, _, HK.out, rfl, ((Blk.new w 107 #[S [], .int .i64 1, .int .i64 d, .pointer none, .pointer none]).drew).drew⟩, HC.out.no HL.out ((((Fr.refl No w).alloc _).drew).drew), (((Fr.refl _ w).alloc _).drew).drew⟩

/-- the set of a type -/
theorem ofs_any (hL : Lead u ml own L Q) (hO : CsOk ml mz mk own μ) (t : Ty) : OfSaid u ml mz mk c L Q μ t := by
  induction t with
  | v i => exact of_any hL hO _ (new_v hL hO i)
  | o => exact of_any hL hO _ (new_o hL)
  | n f l r hl hr => exact of_any hL hO _ (new_n hL hO f l r hl hr)
end

/-! A union that has joined nothing. -/
set_option maxRecDepth 100000 in
set_option maxHeartbeats 1000000 in
theorem lead_none (w : World) (u ml ms q : Nat) (p : Nat) (cs : Array Value) (pl : Int) (hu : Blk w u 135 #[Ptr q, .map (some ml), .map (some ms)]) (hm : MapAt w encI ml 0 (fun _ => none)) (hp : Blk w p 97 cs) (hpl : cs[5]? = some (.int .i64 pl)) :
    Calls Tryz.prog 78 #[Ptr u, Ptr p] w fun e w' => e = .returned (Ptr p) ∧ ∃ n, w' = w.drewN n := by
  have c1 : w.cell? ⟨u, 1, none⟩ = some (.map (some ml)) := (hu.cell 1).trans rfl
  have c5 : w.cell? ⟨p, 5, none⟩ = some (.int .i64 pl) := (hp.cell 5).trans hpl
  have h1 := (hm.keep (w' := w.drew) rfl).lookup (int_kind Tryz.underlying3) Tryz.underlying133 (zero_node w.drew) pl
  have lp := hp.lt
  have lu := hu.lt
  simp only [Option.getD_none] at h1
  clear hu hm hp hpl
  go_enter Tryz.func78, Tryz.ntmps78
  go_wp2_with fail
  refine wp_region_still_lit (by kernel_rfl) (by kernel_rfl) ?_
  change wpStill _ _ (World.drew _) (fun a' => _) _ _
  repeat still_step
  refine wpStill_nil ?_
  go_wp2_with fail
  go_ret
  exact ⟨rfl, 1, rfl⟩
end Go.Proofs.YtloecimlimoanaaGreatDoor
