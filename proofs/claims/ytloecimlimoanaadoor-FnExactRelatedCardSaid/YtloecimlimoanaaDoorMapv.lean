/- Maps whose keys the world must bear (pointers to nodes); the keys of the program. -/
import Derived.Test.YtloecimlimoanaaDoorMapk
import Derived.Test.YtloecimlimoanaaDoorPtr
namespace Go.Proofs.YtloecimlimoanaaDoor
open Go.RowKit Go.ChangeMaps

section
variable {P : Program} {κ : Type}

/-- How the keys of a map are spelt in a world, where it bears them. -/
structure KeyAt (P : Program) (kt : TypeId) (enc : κ → Value) (w : World) (V : κ → Prop) : Prop where
  check : ∀ (e : Bool) (k : κ), (Instr.checkKey e 10000 kt (enc k)).run P w = .ok () w
  find : ∀ (k : κ) (es : List MapEntry), V k → (∀ e ∈ es, ∃ k', e.key = enc k' ∧ V k') →
    ((Instr.findKey kt (enc k) es).run P w = .ok none w ∧ ∀ e ∈ es, e.key ≠ enc k) ∨
    ∃ j e, (Instr.findKey kt (enc k) es).run P w = .ok (some (j, e.val)) w ∧ es[j]? = some e ∧ e.key = enc k
  inj : ∀ {k k' : κ}, enc k = enc k' → k = k'
  bits : ∀ k : κ, Instr.sameBits 10000 (enc k) (enc k) = true

theorem find_noneV {kt : TypeId} {enc : κ → Value} {w : World} {V : κ → Prop} (K : KeyAt P kt enc w V) {k : κ} {f : κ → Option Value} {es : List MapEntry}
    (h1 : ∀ e ∈ es, ∃ k, e.key = enc k ∧ f k = some e.val) (h2 : ∀ k v, f k = some v → ∃ e ∈ es, e.key = enc k) (hV : ∀ k v, f k = some v → V k) (hk : V k) :
    ((Instr.findKey kt (enc k) es).run P w = .ok none w ∧ f k = none ∧ ∀ e ∈ es, e.key ≠ enc k) ∨
    ∃ j e, (Instr.findKey kt (enc k) es).run P w = .ok (some (j, e.val)) w ∧ es[j]? = some e ∧ e.key = enc k ∧ f k = some e.val := by
  rcases K.find k es hk (fun e he => by obtain ⟨k', h, g⟩ := h1 e he; exact ⟨k', h, hV _ _ g⟩) with ⟨hr, hn⟩ | ⟨j, e, hr, hj, he⟩
  · left
    refine ⟨hr, ?_, hn⟩
    rcases hf : f k with _ | v
    · rfl
    · obtain ⟨e, he, hk⟩ := h2 k v hf
      exact absurd hk (hn e he)
  · right
    refine ⟨j, e, hr, hj, he, ?_⟩
    obtain ⟨k', hk', hv⟩ := h1 e (List.mem_of_getElem? hj)
    have := K.inj (hk'.symm.trans he)
    subst this
    exact hv

theorem MapAt.lookupV {kt et mt : TypeId} {enc : κ → Value} {w : World} {V : κ → Prop} (K : KeyAt P kt enc w V) (ht : P.underlying mt = some (.map kt et)) {z : Value} (hz : (zeroValue et).run P w = .ok z w)
    {m n : Nat} {f : κ → Option Value} (h : MapAt w enc m n f) (hV : ∀ k v, f k = some v → V k) (k : κ) (hVk : V k) : (Instr.lookup mt (.map (some m)) (enc k) false).run P w = .ok ((f k).getD z) w := by
  obtain ⟨es, clk, hb, _, h1, h2, _⟩ := h
  rcases find_noneV K (k := k) h1 h2 hV hVk with ⟨hr, hf, _⟩ | ⟨j, e, hr, _, _, hf⟩
  · simp [Instr.lookup, run_underlying ht, MapKept.run_getObj_map hb, K.check, hr, hz, Result.andThen, hf]
  · simp [Instr.lookup, run_underlying ht, MapKept.run_getObj_map hb, K.check, hr, Result.andThen, hf]

theorem MapAt.look_okV {kt et mt : TypeId} {enc : κ → Value} {w : World} {V : κ → Prop} (K : KeyAt P kt enc w V) (ht : P.underlying mt = some (.map kt et)) {z : Value} (hz : (zeroValue et).run P w = .ok z w)
    {m n : Nat} {f : κ → Option Value} (h : MapAt w enc m n f) (hV : ∀ k v, f k = some v → V k) (k : κ) (hVk : V k) : (Instr.lookup mt (.map (some m)) (enc k) true).run P w = .ok (.tuple #[(f k).getD z, .bool (f k).isSome]) w := by
  obtain ⟨es, clk, hb, _, h1, h2, _⟩ := h
  rcases find_noneV K (k := k) h1 h2 hV hVk with ⟨hr, hf, _⟩ | ⟨j, e, hr, _, _, hf⟩
  · simp [Instr.lookup, run_underlying ht, MapKept.run_getObj_map hb, K.check, hr, hz, Result.andThen, hf]
  · simp [Instr.lookup, run_underlying ht, MapKept.run_getObj_map hb, K.check, hr, Result.andThen, hf]

theorem MapAt.updateV {kt et mt : TypeId} {enc : κ → Value} {w : World} {V : κ → Prop} (K : KeyAt P kt enc w V) (ht : P.underlying mt = some (.map kt et))
    {m n : Nat} {f : κ → Option Value} (h : MapAt w enc m n f) (hV : ∀ k v, f k = some v → V k) (k : κ) (v : Value) (hVk : V k) :
    ∃ w', (Instr.mapUpdate mt (.map (some m)) (enc k) v).run P w = .ok () w' ∧ MapAt w' enc m (if (f k).isSome then n else n + 1) (updK f k v) ∧
      w.mapTurned w' m ∧ w'.heap.size = w.heap.size := by
  obtain ⟨es, clk, hb, hn, h1, h2, h3⟩ := h
  rcases find_noneV K (k := k) h1 h2 hV hVk with ⟨hr, hf, hno⟩ | ⟨j, e, hr, hj, hk, hf⟩
  · refine ⟨setBlock w m (.map (es.push { key := enc k, val := v, born := clk }) (clk + 1)), ?_, ⟨_, _, heap_setBlock_same hb _, by simp [hf, hn], ?_, ?_, ?_⟩, ⟨es, clk, _, _, hb, rfl⟩, by simp [setBlock]⟩
    · simp [Instr.mapUpdate, run_underlying ht, MapKept.run_getObj_map hb, K.check, hr, Result.andThen, MapKept.run_setObj_map _ hb, setBlock]
    · intro x hx
      simp only [Array.toList_push, List.mem_append, List.mem_singleton] at hx
      rcases hx with hx | rfl
      · obtain ⟨k', e1, e2⟩ := h1 x hx
        refine ⟨k', e1, ?_⟩
        rw [updK_other]
        · exact e2
        · rintro rfl; exact hno x hx e1
      · exact ⟨k, rfl, updK_same _ _ _⟩
    · intro k' v' hv'
      by_cases hkk : k' = k
      · subst hkk; exact ⟨{ key := enc k', val := v, born := clk }, by simp, rfl⟩
      · rw [updK_other _ _ _ hkk] at hv'
        obtain ⟨x, hx, e1⟩ := h2 k' v' hv'
        exact ⟨x, by simp [hx], e1⟩
    · simp only [Array.toList_push, List.pairwise_append, List.pairwise_singleton, List.mem_singleton, true_and]
      refine ⟨h3, ?_⟩
      rintro x hx y rfl
      exact hno x hx
  · have hjs : es[j]? = some e := by simpa using hj
    have hmod : (es.modify j fun e => { e with key := enc k, val := v }).toList = es.toList.modify j (fun e => { e with key := enc k, val := v }) := by simp
    refine ⟨setBlock w m (.map (es.modify j fun e => { e with key := enc k, val := v }) clk), ?_, ⟨_, _, heap_setBlock_same hb _, by simp [hf, hn], ?_, ?_, ?_⟩, ⟨es, clk, _, _, hb, rfl⟩, by simp [setBlock]⟩
    · have hb' : (((es[j]?).map (·.key)).getD (enc k)) = enc k := by simp [hjs, hk]
      simp [Instr.mapUpdate, run_underlying ht, MapKept.run_getObj_map hb, K.check, hr, Result.andThen, MapKept.run_setObj_map _ hb, setBlock, hb', Instr.keyThatStays, K.bits]
    · intro x hx
      rw [hmod] at hx
      obtain ⟨i, hi⟩ := List.getElem?_of_mem hx
      rw [List.getElem?_modify] at hi
      by_cases hij : j = i
      · subst hij
        rw [hj] at hi
        simp at hi
        subst hi
        exact ⟨k, rfl, updK_same _ _ _⟩
      · simp [hij] at hi
        have hi' : es.toList[i]? = some x := by simpa using hi
        obtain ⟨k', e1, e2⟩ := h1 x (List.mem_of_getElem? hi')
        refine ⟨k', e1, ?_⟩
        rw [updK_other]
        · exact e2
        · rintro rfl
          have hpw := List.pairwise_iff_getElem.1 h3
          obtain ⟨l1, g1⟩ := List.getElem?_eq_some_iff.1 hj
          obtain ⟨l2, g2⟩ := List.getElem?_eq_some_iff.1 hi'
          rcases Nat.lt_or_gt_of_ne hij with hlt | hlt
          · exact hpw j i l1 l2 hlt (by rw [g1, g2, hk, e1])
          · exact hpw i j l2 l1 hlt (by rw [g1, g2, hk, e1])
    · intro k' v' hv'
      rw [hmod]
      have key_of : ∀ x ∈ es.toList, ∃ y ∈ es.toList.modify j (fun e => { e with key := enc k, val := v }), y.key = x.key := by
        intro x hx
        obtain ⟨i, hi⟩ := List.getElem?_of_mem hx
        by_cases hij : j = i
        · subst hij
          have : x = e := by rw [hj] at hi; injection hi with hi; exact hi.symm
          subst this
          exact ⟨{ x with key := enc k, val := v }, List.mem_of_getElem? (i := j) (by rw [List.getElem?_modify, hj]; simp), hk.symm⟩
        · exact ⟨x, List.mem_of_getElem? (i := i) (by rw [List.getElem?_modify, hi]; simp [hij]), rfl⟩
      by_cases hkk : k' = k
      · subst hkk
        obtain ⟨y, hy, e2⟩ := key_of e (List.mem_of_getElem? hj)
        exact ⟨y, hy, e2.trans hk⟩
      · rw [updK_other _ _ _ hkk] at hv'
        obtain ⟨x, hx, e1⟩ := h2 k' v' hv'
        obtain ⟨y, hy, e2⟩ := key_of x hx
        exact ⟨y, hy, e2.trans e1⟩
    · rw [hmod]
      exact pairwise_modify _ _ _ (fun e' he' => by rw [hj] at he'; injection he' with he'; subst he'; exact hk.symm) h3


/-- The keys are asked one by one. -/
theorem find_askingV {kt : TypeId} {enc : κ → Value} {V : κ → Prop} (w : World) (hinj : ∀ {k k' : κ}, enc k = enc k' → k = k')
    (heq : ∀ k k', V k → V k' → ∃ r : Bool, (Op.equal kt (enc k) (enc k')).run P w = .ok r w ∧ (r = true ↔ k = k')) (k : κ) (hk : V k) :
    ∀ (es : List MapEntry) (i : Nat), (∀ e ∈ es, ∃ k', e.key = enc k' ∧ V k') →
      ((Instr.findAsking kt (enc k) es i).run P w = .ok none w ∧ ∀ e ∈ es, e.key ≠ enc k) ∨
      ∃ j e, (Instr.findAsking kt (enc k) es i).run P w = .ok (some (i + j, e.val)) w ∧ es[j]? = some e ∧ e.key = enc k
  | [], i, _ => Or.inl ⟨by simp [Instr.findAsking], by simp⟩
  | e :: es, i, hall => by
    obtain ⟨k', hk', hv'⟩ := hall e (by simp)
    obtain ⟨r, hr, hiff⟩ := heq k k' hk hv'
    cases r
    · have hne : e.key ≠ enc k := fun h => by
        rw [hk'] at h
        have := hiff.2 (hinj h).symm
        cases this
      rcases find_askingV w hinj heq k hk es (i + 1) (fun y hy => hall y (by simp [hy])) with ⟨h1, h2⟩ | ⟨j, e', h1, h2, h3⟩
      · left
        refine ⟨by simp [Instr.findAsking, hk', hr, h1], fun y hy => ?_⟩
        rcases List.mem_cons.1 hy with rfl | hy
        · exact hne
        · exact h2 y hy
      · right
        exact ⟨j + 1, e', by simp [Instr.findAsking, hk', hr, h1, Nat.add_assoc, Nat.add_comm 1 j], by simpa using h2, h3⟩
    · right
      exact ⟨0, e, by simp [Instr.findAsking, hk', hr], rfl, by rw [hk', hiff.1 rfl]⟩
end

/-- Keys that are nodes of the program. -/
def isNode (w : World) (p : Nat) : Prop := ∃ cs, Blk w p 146 cs

theorem node_key (w : World) : KeyAt Tryd.prog 109 (fun p : Nat => Ptr p) w (isNode w) where
  check e k := by rw [show (10000 : Nat) = 9999 + 1 from rfl, Instr.checkKey]; simp [run_underlying Tryd.underlying109]
  find k es hk hall := by
    have heq : ∀ k k', isNode w k → isNode w k' → ∃ r : Bool, (Op.equal 109 (Ptr k) (Ptr k')).run Tryd.prog w = .ok r w ∧ (r = true ↔ k = k') := by
      rintro k k' ⟨cs, h⟩ ⟨cs', h'⟩
      exact ⟨_, run_equal_node h h', by simp⟩
    have hask := find_askingV (P := Tryd.prog) (kt := 109) w (enc := fun p : Nat => Ptr p) (by intro k k' h; injection h with h; injection h with h; injection h) heq k hk es 0 hall
    have hnow : es ≠ [] → Instr.findNow (.pointer 146) (Ptr k) es 0 = none := by
      intro hne
      cases es with
      | nil => exact absurd rfl hne
      | cons e es => simp [Instr.findNow, Instr.sameNow]
    by_cases he : es = []
    · subst he
      exact Or.inl ⟨by simp [Instr.findKey, run_underlying Tryd.underlying109, Instr.findNow], by simp⟩
    · rcases hask with ⟨h1, h2⟩ | ⟨j, e, h1, h2, h3⟩
      · exact Or.inl ⟨by simp [Instr.findKey, run_underlying Tryd.underlying109, hnow he, h1], h2⟩
      · exact Or.inr ⟨j, e, by simp [Instr.findKey, run_underlying Tryd.underlying109, hnow he, h1], h2, h3⟩
  inj h := by injection h with h; injection h with h; injection h
  bits k := by rw [show (10000 : Nat) = 9999 + 1 from rfl, Instr.sameBits]; simp
end Go.Proofs.YtloecimlimoanaaDoor
