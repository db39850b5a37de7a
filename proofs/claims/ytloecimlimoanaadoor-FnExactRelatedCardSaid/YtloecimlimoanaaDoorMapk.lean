/- Maps in memory, said by what they hold at each key: look-up, store, length, whatever the keys' and the elements' types. -/
import Derived.WalkKit
import Derived.WalkSpells
import Derived.Maps.OwnSet
namespace Go.Proofs.YtloecimlimoanaaDoor
open Go.RowKit Go.ChangeMaps

section
variable {P : Program} {κ : Type}

/-- How the keys of a map are spelt, and that the model tells them apart. -/
structure KeyKind (P : Program) (kt : TypeId) (enc : κ → Value) : Prop where
  check : ∀ (e : Bool) (k : κ) (w : World), (Instr.checkKey e 10000 kt (enc k)).run P w = .ok () w
  find : ∀ (w : World) (k : κ) (es : List MapEntry), (∀ e ∈ es, ∃ k', e.key = enc k') →
    ((Instr.findKey kt (enc k) es).run P w = .ok none w ∧ ∀ e ∈ es, e.key ≠ enc k) ∨
    ∃ j e, (Instr.findKey kt (enc k) es).run P w = .ok (some (j, e.val)) w ∧ es[j]? = some e ∧ e.key = enc k
  inj : ∀ {k k' : κ}, enc k = enc k' → k = k'
  bits : ∀ k : κ, Instr.sameBits 10000 (enc k) (enc k) = true

/-- Block m is a map of n entries that holds f. -/
def MapAt (w : World) (enc : κ → Value) (m n : Nat) (f : κ → Option Value) : Prop :=
  ∃ es clk, w.heap[m]? = some (.map es clk) ∧ es.size = n ∧ (∀ e ∈ es.toList, ∃ k, e.key = enc k ∧ f k = some e.val) ∧
    (∀ k v, f k = some v → ∃ e ∈ es.toList, e.key = enc k) ∧ es.toList.Pairwise (fun x y => x.key ≠ y.key)

open Classical in
/-- What a map holds behind a store. -/
noncomputable def updK (f : κ → Option Value) (k : κ) (v : Value) : κ → Option Value := fun x => if x = k then some v else f x

theorem updK_same (f : κ → Option Value) (k : κ) (v : Value) : updK f k v k = some v := by simp [updK]
theorem updK_other (f : κ → Option Value) (k : κ) (v : Value) {x : κ} (h : x ≠ k) : updK f k v x = f x := by simp [updK, h]

theorem MapAt.lt {w : World} {enc : κ → Value} {m n : Nat} {f : κ → Option Value} (h : MapAt w enc m n f) : m < w.heap.size := by
  obtain ⟨es, clk, hb, _⟩ := h
  rcases Nat.lt_or_ge m w.heap.size with hlt | hge
  · exact hlt
  · rw [Array.getElem?_eq_none hge] at hb; cases hb

theorem MapAt.keep {w w' : World} {enc : κ → Value} {m n : Nat} {f : κ → Option Value} (h : MapAt w enc m n f) (e : w'.heap[m]? = w.heap[m]?) : MapAt w' enc m n f := by
  obtain ⟨es, clk, hb, r⟩ := h
  exact ⟨es, clk, e.trans hb, r⟩

theorem MapAt.made (w : World) (enc : κ → Value) : MapAt (w.alloc (.map #[] 0)) enc w.heap.size 0 (fun _ => none) :=
  ⟨#[], 0, heap_alloc_new w _, rfl, by simp, by simp, by simp⟩

theorem find_none {kt : TypeId} {enc : κ → Value} (K : KeyKind P kt enc) {w : World} {k : κ} {f : κ → Option Value} {es : List MapEntry}
    (h1 : ∀ e ∈ es, ∃ k, e.key = enc k ∧ f k = some e.val) (h2 : ∀ k v, f k = some v → ∃ e ∈ es, e.key = enc k) :
    ((Instr.findKey kt (enc k) es).run P w = .ok none w ∧ f k = none ∧ ∀ e ∈ es, e.key ≠ enc k) ∨
    ∃ j e, (Instr.findKey kt (enc k) es).run P w = .ok (some (j, e.val)) w ∧ es[j]? = some e ∧ e.key = enc k ∧ f k = some e.val := by
  rcases K.find w k es (fun e he => by obtain ⟨k', h, _⟩ := h1 e he; exact ⟨k', h⟩) with ⟨hr, hn⟩ | ⟨j, e, hr, hj, he⟩
  · left
    refine ⟨hr, ?_, hn⟩
    rcases hf : f k with _ | v
    · rfl
    · obtain ⟨e, he, hk⟩ := h2 k v hf
      exact absurd hk (hn e he)
  · right
    refine ⟨j, e, hr, hj, he, ?_⟩
    obtain ⟨k', hk', hv⟩ := h1 e (List.mem_of_getElem? hj)
    have := K.inj (hk'.symm.trans he)
    subst this
    exact hv

theorem MapAt.lookup {kt et mt : TypeId} {enc : κ → Value} (K : KeyKind P kt enc) (ht : P.underlying mt = some (.map kt et)) {w : World} {z : Value} (hz : (zeroValue et).run P w = .ok z w)
    {m n : Nat} {f : κ → Option Value} (h : MapAt w enc m n f) (k : κ) : (Instr.lookup mt (.map (some m)) (enc k) false).run P w = .ok ((f k).getD z) w := by
  obtain ⟨es, clk, hb, _, h1, h2, _⟩ := h
  rcases find_none K (w := w) (k := k) h1 h2 with ⟨hr, hf, _⟩ | ⟨j, e, hr, _, _, hf⟩
  · simp [Instr.lookup, run_underlying ht, MapKept.run_getObj_map hb, K.check, hr, hz, Result.andThen, hf]
  · simp [Instr.lookup, run_underlying ht, MapKept.run_getObj_map hb, K.check, hr, Result.andThen, hf]

theorem MapAt.look_ok {kt et mt : TypeId} {enc : κ → Value} (K : KeyKind P kt enc) (ht : P.underlying mt = some (.map kt et)) {w : World} {z : Value} (hz : (zeroValue et).run P w = .ok z w)
    {m n : Nat} {f : κ → Option Value} (h : MapAt w enc m n f) (k : κ) : (Instr.lookup mt (.map (some m)) (enc k) true).run P w = .ok (.tuple #[(f k).getD z, .bool (f k).isSome]) w := by
  obtain ⟨es, clk, hb, _, h1, h2, _⟩ := h
  rcases find_none K (w := w) (k := k) h1 h2 with ⟨hr, hf, _⟩ | ⟨j, e, hr, _, _, hf⟩
  · simp [Instr.lookup, run_underlying ht, MapKept.run_getObj_map hb, K.check, hr, hz, Result.andThen, hf]
  · simp [Instr.lookup, run_underlying ht, MapKept.run_getObj_map hb, K.check, hr, Result.andThen, hf]

theorem pairwise_modify (es : List MapEntry) (i : Nat) (g : MapEntry → MapEntry) (hg : ∀ e, es[i]? = some e → (g e).key = e.key) (h : es.Pairwise (fun x y => x.key ≠ y.key)) :
    (es.modify i g).Pairwise (fun x y => x.key ≠ y.key) := by
  have e : (es.modify i g).map (·.key) = es.map (·.key) := by
    apply List.ext_getElem?
    intro j
    rw [List.getElem?_map, List.getElem?_map, List.getElem?_modify]
    rcases hj : es[j]? with _ | x
    · simp
    · by_cases hij : i = j
      · subst hij; simp [hg x hj]
      · simp [hij]
  have h' : (es.map (·.key)).Pairwise (· ≠ ·) := List.pairwise_map.2 h
  rw [← e] at h'
  exact List.pairwise_map.1 h'

theorem MapAt.update {kt et mt : TypeId} {enc : κ → Value} (K : KeyKind P kt enc) (ht : P.underlying mt = some (.map kt et)) {w : World}
    {m n : Nat} {f : κ → Option Value} (h : MapAt w enc m n f) (k : κ) (v : Value) :
    ∃ w', (Instr.mapUpdate mt (.map (some m)) (enc k) v).run P w = .ok () w' ∧ MapAt w' enc m (if (f k).isSome then n else n + 1) (updK f k v) ∧
      w.mapTurned w' m ∧ w'.heap.size = w.heap.size := by
  obtain ⟨es, clk, hb, hn, h1, h2, h3⟩ := h
  rcases find_none K (w := w) (k := k) h1 h2 with ⟨hr, hf, hno⟩ | ⟨j, e, hr, hj, hk, hf⟩
  · refine ⟨setBlock w m (.map (es.push { key := enc k, val := v, born := clk }) (clk + 1)), ?_, ⟨_, _, heap_setBlock_same hb _, by simp [hf, hn], ?_, ?_, ?_⟩, ⟨es, clk, _, _, hb, rfl⟩, by simp [setBlock]⟩
    · simp [Instr.mapUpdate, run_underlying ht, MapKept.run_getObj_map hb, K.check, hr, Result.andThen, MapKept.run_setObj_map _ hb, setBlock]
    · intro x hx
      simp only [Array.toList_push, List.mem_append, List.mem_singleton] at hx
      rcases hx with hx | rfl
      · obtain ⟨k', e1, e2⟩ := h1 x hx
        refine ⟨k', e1, ?_⟩
        rw [updK_other]
        · exact e2
        · rintro rfl; exact hno x hx e1
      · exact ⟨k, rfl, updK_same _ _ _⟩
    · intro k' v' hv'
      by_cases hkk : k' = k
      · subst hkk; exact ⟨{ key := enc k', val := v, born := clk }, by simp, rfl⟩
      · rw [updK_other _ _ _ hkk] at hv'
        obtain ⟨x, hx, e1⟩ := h2 k' v' hv'
        exact ⟨x, by simp [hx], e1⟩
    · simp only [Array.toList_push, List.pairwise_append, List.pairwise_singleton, List.mem_singleton, true_and]
      refine ⟨h3, ?_⟩
      rintro x hx y rfl
      exact hno x hx
  · have hjs : es[j]? = some e := by simpa using hj
    have hmod : (es.modify j fun e => { e with key := enc k, val := v }).toList = es.toList.modify j (fun e => { e with key := enc k, val := v }) := by simp
    refine ⟨setBlock w m (.map (es.modify j fun e => { e with key := enc k, val := v }) clk), ?_, ⟨_, _, heap_setBlock_same hb _, by simp [hf, hn], ?_, ?_, ?_⟩, ⟨es, clk, _, _, hb, rfl⟩, by simp [setBlock]⟩
    · have hb' : (((es[j]?).map (·.key)).getD (enc k)) = enc k := by simp [hjs, hk]
      simp [Instr.mapUpdate, run_underlying ht, MapKept.run_getObj_map hb, K.check, hr, Result.andThen, MapKept.run_setObj_map _ hb, setBlock, hb', Instr.keyThatStays, K.bits]
    · intro x hx
      rw [hmod] at hx
      obtain ⟨i, hi⟩ := List.getElem?_of_mem hx
      rw [List.getElem?_modify] at hi
      by_cases hij : j = i
      · subst hij
        rw [hj] at hi
        simp at hi
        subst hi
        exact ⟨k, rfl, updK_same _ _ _⟩
      · simp [hij] at hi
        have hi' : es.toList[i]? = some x := by simpa using hi
        obtain ⟨k', e1, e2⟩ := h1 x (List.mem_of_getElem? hi')
        refine ⟨k', e1, ?_⟩
        rw [updK_other]
        · exact e2
        · rintro rfl
          have hpw := List.pairwise_iff_getElem.1 h3
          obtain ⟨l1, g1⟩ := List.getElem?_eq_some_iff.1 hj
          obtain ⟨l2, g2⟩ := List.getElem?_eq_some_iff.1 hi'
          rcases Nat.lt_or_gt_of_ne hij with hlt | hlt
          · exact hpw j i l1 l2 hlt (by rw [g1, g2, hk, e1])
          · exact hpw i j l2 l1 hlt (by rw [g1, g2, hk, e1])
    · intro k' v' hv'
      rw [hmod]
      have key_of : ∀ x ∈ es.toList, ∃ y ∈ es.toList.modify j (fun e => { e with key := enc k, val := v }), y.key = x.key := by
        intro x hx
        obtain ⟨i, hi⟩ := List.getElem?_of_mem hx
        by_cases hij : j = i
        · subst hij
          have : x = e := by rw [hj] at hi; injection hi with hi; exact hi.symm
          subst this
          exact ⟨{ x with key := enc k, val := v }, List.mem_of_getElem? (i := j) (by rw [List.getElem?_modify, hj]; simp), hk.symm⟩
        · exact ⟨x, List.mem_of_getElem? (i := i) (by rw [List.getElem?_modify, hi]; simp [hij]), rfl⟩
      by_cases hkk : k' = k
      · subst hkk
        obtain ⟨y, hy, e2⟩ := key_of e (List.mem_of_getElem? hj)
        exact ⟨y, hy, e2.trans hk⟩
      · rw [updK_other _ _ _ hkk] at hv'
        obtain ⟨x, hx, e1⟩ := h2 k' v' hv'
        obtain ⟨y, hy, e2⟩ := key_of x hx
        exact ⟨y, hy, e2.trans e1⟩
    · rw [hmod]
      exact pairwise_modify _ _ _ (fun e' he' => by rw [hj] at he'; injection he' with he'; subst he'; exact hk.symm) h3

/-- The keys are asked one by one. -/
theorem find_asking {kt : TypeId} {enc : κ → Value} (w : World) (hinj : ∀ {k k' : κ}, enc k = enc k' → k = k')
    (heq : ∀ k k', ∃ r : Bool, (Op.equal kt (enc k) (enc k')).run P w = .ok r w ∧ (r = true ↔ k = k')) (k : κ) :
    ∀ (es : List MapEntry) (i : Nat), (∀ e ∈ es, ∃ k', e.key = enc k') →
      ((Instr.findAsking kt (enc k) es i).run P w = .ok none w ∧ ∀ e ∈ es, e.key ≠ enc k) ∨
      ∃ j e, (Instr.findAsking kt (enc k) es i).run P w = .ok (some (i + j, e.val)) w ∧ es[j]? = some e ∧ e.key = enc k
  | [], i, _ => Or.inl ⟨by simp [Instr.findAsking], by simp⟩
  | e :: es, i, hall => by
    obtain ⟨k', hk'⟩ := hall e (by simp)
    obtain ⟨r, hr, hiff⟩ := heq k k'
    cases r
    · have hne : e.key ≠ enc k := fun h => by
        rw [hk'] at h
        have := hiff.2 (hinj h).symm
        cases this
      rcases find_asking w hinj heq k es (i + 1) (fun y hy => hall y (by simp [hy])) with ⟨h1, h2⟩ | ⟨j, e', h1, h2, h3⟩
      · left
        refine ⟨by simp [Instr.findAsking, hk', hr, h1], fun y hy => ?_⟩
        rcases List.mem_cons.1 hy with rfl | hy
        · exact hne
        · exact h2 y hy
      · right
        exact ⟨j + 1, e', by simp [Instr.findAsking, hk', hr, h1, Nat.add_assoc, Nat.add_comm 1 j], by simpa using h2, h3⟩
    · right
      exact ⟨0, e, by simp [Instr.findAsking, hk', hr], rfl, by rw [hk', hiff.1 rfl]⟩

/-- Keys that are integers. -/
theorem int_find (es : List MapEntry) (d : TypeDesc) {q q' : IntKind} (hd : d = .int q') (a : Int) : ∀ (i : Nat), (∀ e ∈ es, ∃ b : Int, e.key = .int q b) →
    (Instr.findNow d (.int q a) es i = some none ∧ ∀ e ∈ es, e.key ≠ .int q a) ∨
    ∃ j e, Instr.findNow d (.int q a) es i = some (some (i + j, e.val)) ∧ es[j]? = some e ∧ e.key = .int q a := by
  subst hd
  induction es with
  | nil => intro i _; exact Or.inl ⟨rfl, by simp⟩
  | cons e es ih =>
    intro i hall
    obtain ⟨b, hb⟩ := hall e (by simp)
    by_cases hab : a = b
    · subst hab
      exact Or.inr ⟨0, e, by simp [Instr.findNow, hb, Instr.sameNow], rfl, hb⟩
    · have hbeq : (a == b) = false := beq_eq_false_iff_ne.2 hab
      rcases ih (i + 1) (fun y hy => hall y (by simp [hy])) with ⟨h1, h2⟩ | ⟨j, e', h1, h2, h3⟩
      · left
        refine ⟨by simp [Instr.findNow, hb, Instr.sameNow, hbeq, h1], fun y hy => ?_⟩
        rcases List.mem_cons.1 hy with rfl | hy
        · rw [hb]; intro h; injection h with _ h; exact hab h.symm
        · exact h2 y hy
      · right
        exact ⟨j + 1, e', by simp [Instr.findNow, hb, Instr.sameNow, hbeq, h1, Nat.add_assoc, Nat.add_comm 1 j], by simpa using h2, h3⟩

theorem int_kind {kt : TypeId} {q q' : IntKind} (hu : P.underlying kt = some (.int q')) : KeyKind P kt (fun a : Int => Value.int q a) where
  check e k w := by rw [show (10000 : Nat) = 9999 + 1 from rfl, Instr.checkKey]; simp [run_underlying hu]
  find w k es hall := by
    rcases int_find es (.int q') rfl k 0 (q := q) hall with ⟨h1, h2⟩ | ⟨j, e, h1, h2, h3⟩
    · exact Or.inl ⟨by simp [Instr.findKey, run_underlying hu, h1], h2⟩
    · exact Or.inr ⟨j, e, by simp [Instr.findKey, run_underlying hu, h1], h2, h3⟩
  inj h := by injection h
  bits k := by rw [show (10000 : Nat) = 9999 + 1 from rfl, Instr.sameBits]; simp

/-! At the operation, for the walk. -/
variable (w : World) {ops : Array Oper} {rest : List Oper} {o : Oper} {a : Act} {Q : Exit → Act → World → Prop}

theorem wpList_lookK (hg : o.guard = none) (m x : Operand) (t : TypeId) (hop : o.op = Op.lookup t m x false)
    {kt et : TypeId} {enc : κ → Value} (K : KeyKind P kt enc) (ht : P.underlying t = some (.map kt et)) (z : Value) (hz : (zeroValue et).run P w = .ok z w)
    (b n : Nat) (f : κ → Option Value) (h : MapAt w enc b n f) (hm : a.eval m = .map (some b)) (k : κ) (hx : a.eval x = enc k)
    (hK : wpList P ops Q rest (a.put o.dst ((f k).getD z)) w) : wpList P ops Q (o :: rest) a w := by
  refine wpList_plain hg fun K' hK' => ?_
  unfold Oper.wp
  simp [execOp, hop, hm, hx, h.lookup K ht hz k, Result.andThen]
  exact hK' _ _ hK

theorem wpList_look_okK (hg : o.guard = none) (m x : Operand) (t : TypeId) (hop : o.op = Op.lookup t m x true)
    {kt et : TypeId} {enc : κ → Value} (K : KeyKind P kt enc) (ht : P.underlying t = some (.map kt et)) (z : Value) (hz : (zeroValue et).run P w = .ok z w)
    (b n : Nat) (f : κ → Option Value) (h : MapAt w enc b n f) (hm : a.eval m = .map (some b)) (k : κ) (hx : a.eval x = enc k)
    (hK : wpList P ops Q rest (a.put o.dst (.tuple #[(f k).getD z, .bool (f k).isSome])) w) : wpList P ops Q (o :: rest) a w := by
  refine wpList_plain hg fun K' hK' => ?_
  unfold Oper.wp
  simp [execOp, hop, hm, hx, h.look_ok K ht hz k, Result.andThen]
  exact hK' _ _ hK

theorem wpList_updateK (hg : o.guard = none) (m x v : Operand) (t : TypeId) (hop : o.op = Op.mapUpdate t m x v)
    {kt et : TypeId} {enc : κ → Value} (K : KeyKind P kt enc) (ht : P.underlying t = some (.map kt et))
    (b n : Nat) (f : κ → Option Value) (h : MapAt w enc b n f) (hm : a.eval m = .map (some b)) (k : κ) (hx : a.eval x = enc k) (val : Value) (hv : a.eval v = val)
    (hK : ∀ w', MapAt w' enc b (if (f k).isSome then n else n + 1) (updK f k val) → w.mapTurned w' b → w'.heap.size = w.heap.size → wpList P ops Q rest (a.put o.dst undef) w') :
    wpList P ops Q (o :: rest) a w := by
  refine wpList_plain hg fun K' hK' => ?_
  obtain ⟨w', hrun, r1, r2, r3⟩ := h.update K ht k val
  unfold Oper.wp
  simp [execOp, hop, hm, hx, hv, hrun, Result.andThen]
  exact hK' _ _ (hK w' r1 r2 r3)

theorem MapAt.len {kt et mt : TypeId} {enc : κ → Value} (ht : P.underlying mt = some (.map kt et)) {w : World} {m n : Nat} {f : κ → Option Value} (h : MapAt w enc m n f) (ty : TypeId) :
    (Builtin.len_ #[mt] ty #[.map (some m)]).run P w = .ok (.int .i64 n) w := by
  obtain ⟨es, clk, hb, hn, _⟩ := h
  subst hn
  simp [Builtin.len_, run_underlying ht, MapKept.run_getObj_map hb, goInt]

theorem wpList_lenK (hg : o.guard = none) (m : Operand) (t : TypeId) (hop : o.op = Op.call { callee := Callee.builtin Builtin.len, args := #[m], argTypes := #[t] })
    {kt et : TypeId} {enc : κ → Value} (ht : P.underlying t = some (.map kt et)) (b n : Nat) (f : κ → Option Value) (h : MapAt w enc b n f) (hm : a.eval m = .map (some b))
    (hK : wpList P ops Q rest (a.put o.dst (.int .i64 n)) w) : wpList P ops Q (o :: rest) a w := by
  refine wpList_plain hg fun K' hK' => ?_
  unfold Oper.wp
  simp [execOp, hop, resolve, invoke, builtin, hm, h.len ht o.type, Result.andThen]
  exact hK' _ _ hK
end
end Go.Proofs.YtloecimlimoanaaDoor
