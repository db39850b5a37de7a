/- Maps in memory, said by what they hold at each key: look-up, store, length, whatever the keys' and the elements' types. · The pool of shared nodes in memory. · Share · Poolw · Reader · Next · Read · Impl -/
import Derived.WalkKit
import Derived.WalkSpells
import Derived.Maps.OwnSet
import Derived.Test.YtloecimlimoanaaGreatDoorPre
import Derived.Test.YtloecimlimoanaaGreatDoorTy
import Derived.WalkLawsBesides
import Derived.BigQuiet
import Derived.Deep.QuietTactic
import Derived.StillTailTactics
import Derived.Test.YtloecimlimoanaaGreatDoorShelf
import Derived.Carry
/- Maps in memory, said by what they hold at each key: look-up, store, length, whatever the keys' and the elements' types. -/
namespace Go.Proofs.YtloecimlimoanaaGreatDoor
open Go.RowKit Go.ChangeMaps

section
variable {P : Program} {κ : Type}

/-- How the keys of a map are spelt, and that the model tells them apart. -/
structure KeyKind (P : Program) (kt : TypeId) (enc : κ → Value) : Prop where
  check : ∀ (e : Bool) (k : κ) (w : World), (Instr.checkKey e 10000 kt (enc k)).run P w = .ok () w
  find : ∀ (w : World) (k : κ) (es : List MapEntry), (∀ e ∈ es, ∃ k', e.key = enc k') →
    ((Instr.findKey kt (enc k) es).run P w = .ok none w ∧ ∀ e ∈ es, e.key ≠ enc k) ∨
    ∃ j e, (Instr.findKey kt (enc k) es).run P w = .ok (some (j, e.val)) w ∧ es[j]? = some e ∧ e.key = enc k
  inj : ∀ {k k' : κ}, enc k = enc k' → k = k'
  bits : ∀ k : κ, Instr.sameBits 10000 (enc k) (enc k) = true

/-- Block m is a map of n entries that holds f. -/
def MapAt (w : World) (enc : κ → Value) (m n : Nat) (f : κ → Option Value) : Prop :=
  ∃ es clk, w.heap[m]? = some (.map es clk) ∧ es.size = n ∧ (∀ e ∈ es.toList, ∃ k, e.key = enc k ∧ f k = some e.val) ∧
    (∀ k v, f k = some v → ∃ e ∈ es.toList, e.key = enc k) ∧ es.toList.Pairwise (fun x y => x.key ≠ y.key)

open Classical in
/-- What a map holds behind a store. -/
noncomputable def updK (f : κ → Option Value) (k : κ) (v : Value) : κ → Option Value := fun x => if x = k then some v else f x

theorem updK_same (f : κ → Option Value) (k : κ) (v : Value) : updK f k v k = some v := by simp [updK]
theorem updK_other (f : κ → Option Value) (k : κ) (v : Value) {x : κ} (h : x ≠ k) : updK f k v x = f x := by simp [updK, h]

theorem MapAt.lt {w : World} {enc : κ → Value} {m n : Nat} {f : κ → Option Value} (h : MapAt w enc m n f) : m < w.heap.size := by
  obtain ⟨es, clk, hb, _⟩ := h
  rcases Nat.lt_or_ge m w.heap.size with hlt | hge
  · exact hlt
  · rw [Array.getElem?_eq_none hge] at hb; cases hb

theorem MapAt.keep {w w' : World} {enc : κ → Value} {m n : Nat} {f : κ → Option Value} (h : MapAt w enc m n f) (e : w'.heap[m]? = w.heap[m]?) : MapAt w' enc m n f := by
  obtain ⟨es, clk, hb, r⟩ := h
  exact ⟨es, clk, e.trans hb, r⟩

theorem MapAt.made (w : World) (enc : κ → Value) : MapAt (w.alloc (.map #[] 0)) enc w.heap.size 0 (fun _ => none) :=
  ⟨#[], 0, heap_alloc_new w _, rfl, by simp, by simp, by simp⟩

theorem find_none {kt : TypeId} {enc : κ → Value} (K : KeyKind P kt enc) {w : World} {k : κ} {f : κ → Option Value} {es : List MapEntry}
    (h1 : ∀ e ∈ es, ∃ k, e.key = enc k ∧ f k = some e.val) (h2 : ∀ k v, f k = some v → ∃ e ∈ es, e.key = enc k) :
    ((Instr.findKey kt (enc k) es).run P w = .ok none w ∧ f k = none ∧ ∀ e ∈ es, e.key ≠ enc k) ∨
    ∃ j e, (Instr.findKey kt (enc k) es).run P w = .ok (some (j, e.val)) w ∧ es[j]? = some e ∧ e.key = enc k ∧ f k = some e.val := by
  rcases K.find w k es (fun e he => by obtain ⟨k', h, _⟩ := h1 e he; exact ⟨k', h⟩) with ⟨hr, hn⟩ | ⟨j, e, hr, hj, he⟩
  · left
    refine ⟨hr, ?_, hn⟩
    rcases hf : f k with _ | v
    · rfl
    · obtain ⟨e, he, hk⟩ := h2 k v hf
      exact absurd hk (hn e he)
  · right
    refine ⟨j, e, hr, hj, he, ?_⟩
    obtain ⟨k', hk', hv⟩ := h1 e (List.mem_of_getElem? hj)
    have := K.inj (hk'.symm.trans he)
    subst this
    exact hv

theorem MapAt.lookup {kt et mt : TypeId} {enc : κ → Value} (K : KeyKind P kt enc) (ht : P.underlying mt = some (.map kt et)) {w : World} {z : Value} (hz : (zeroValue et).run P w = .ok z w)
    {m n : Nat} {f : κ → Option Value} (h : MapAt w enc m n f) (k : κ) : (Instr.lookup mt (.map (some m)) (enc k) false).run P w = .ok ((f k).getD z) w := by
  obtain ⟨es, clk, hb, _, h1, h2, _⟩ := h
  rcases find_none K (w := w) (k := k) h1 h2 with ⟨hr, hf, _⟩ | ⟨j, e, hr, _, _, hf⟩
  · simp [Instr.lookup, run_underlying ht, MapKept.run_getObj_map hb, K.check, hr, hz, Result.andThen, hf]
  · simp [Instr.lookup, run_underlying ht, MapKept.run_getObj_map hb, K.check, hr, Result.andThen, hf]

theorem MapAt.look_ok {kt et mt : TypeId} {enc : κ → Value} (K : KeyKind P kt enc) (ht : P.underlying mt = some (.map kt et)) {w : World} {z : Value} (hz : (zeroValue et).run P w = .ok z w)
    {m n : Nat} {f : κ → Option Value} (h : MapAt w enc m n f) (k : κ) : (Instr.lookup mt (.map (some m)) (enc k) true).run P w = .ok (.tuple #[(f k).getD z, .bool (f k).isSome]) w := by
  obtain ⟨es, clk, hb, _, h1, h2, _⟩ := h
  rcases find_none K (w := w) (k := k) h1 h2 with ⟨hr, hf, _⟩ | ⟨j, e, hr, _, _, hf⟩
  · simp [Instr.lookup, run_underlying ht, MapKept.run_getObj_map hb, K.check, hr, hz, Result.andThen, hf]
  · simp [Instr.lookup, run_underlying ht, MapKept.run_getObj_map hb, K.check, hr, Result.andThen, hf]

theorem pairwise_modify (es : List MapEntry) (i : Nat) (g : MapEntry → MapEntry) (hg : ∀ e, es[i]? = some e → (g e).key = e.key) (h : es.Pairwise (fun x y => x.key ≠ y.key)) :
    (es.modify i g).Pairwise (fun x y => x.key ≠ y.key) := by
  have e : (es.modify i g).map (·.key) = es.map (·.key) := by
    apply List.ext_getElem?
    intro j
    rw [List.getElem?_map, List.getElem?_map, List.getElem?_modify]
    rcases hj : es[j]? with _ | x
    · simp
    · by_cases hij : i = j
      · subst hij; simp [hg x hj]
      · simp [hij]
  have h' : (es.map (·.key)).Pairwise (· ≠ ·) := List.pairwise_map.2 h
  rw [← e] at h'
  exact List.pairwise_map.1 h'

theorem MapAt.update {kt et mt : TypeId} {enc : κ → Value} (K : KeyKind P kt enc) (ht : P.underlying mt = some (.map kt et)) {w : World}
    {m n : Nat} {f : κ → Option Value} (h : MapAt w enc m n f) (k : κ) (v : Value) :
    ∃ w', (Instr.mapUpdate mt (.map (some m)) (enc k) v).run P w = .ok () w' ∧ MapAt w' enc m (if (f k).isSome then n else n + 1) (updK f k v) ∧
      w.mapTurned w' m ∧ w'.heap.size = w.heap.size := by
  obtain ⟨es, clk, hb, hn, h1, h2, h3⟩ := h
  rcases find_none K (w := w) (k := k) h1 h2 with ⟨hr, hf, hno⟩ | ⟨j, e, hr, hj, hk, hf⟩
  · refine ⟨setBlock w m (.map (es.push { key := enc k, val := v, born := clk }) (clk + 1)), ?_, ⟨_, _, heap_setBlock_same hb _, by simp [hf, hn], ?_, ?_, ?_⟩, ⟨es, clk, _, _, hb, rfl⟩, by simp [setBlock]⟩
    · simp [Instr.mapUpdate, run_underlying ht, MapKept.run_getObj_map hb, K.check, hr, Result.andThen, MapKept.run_setObj_map _ hb, setBlock]
    · intro x hx
      simp only [Array.toList_push, List.mem_append, List.mem_singleton] at hx
      rcases hx with hx | rfl
      · obtain ⟨k', e1, e2⟩ := h1 x hx
        refine ⟨k', e1, ?_⟩
        rw [updK_other]
        · exact e2
        · rintro rfl; exact hno x hx e1
      · exact ⟨k, rfl, updK_same _ _ _⟩
    · intro k' v' hv'
      by_cases hkk : k' = k
      · subst hkk; exact ⟨{ key := enc k', val := v, born := clk }, by simp, rfl⟩
      · rw [updK_other _ _ _ hkk] at hv'
        obtain ⟨x, hx, e1⟩ := h2 k' v' hv'
        exact ⟨x, by simp [hx], e1⟩
    · simp only [Array.toList_push, List.pairwise_append, List.pairwise_singleton, List.mem_singleton, true_and]
      refine ⟨h3, ?_⟩
      rintro x hx y rfl
      exact hno x hx
  · have hjs : es[j]? = some e := by simpa using hj
    have hmod : (es.modify j fun e => { e with key := enc k, val := v }).toList = es.toList.modify j (fun e => { e with key := enc k, val := v }) := by simp
    refine ⟨setBlock w m (.map (es.modify j fun e => { e with key := enc k, val := v }) clk), ?_, ⟨_, _, heap_setBlock_same hb _, by simp [hf, hn], ?_, ?_, ?_⟩, ⟨es, clk, _, _, hb, rfl⟩, by simp [setBlock]⟩
    · have hb' : (((es[j]?).map (·.key)).getD (enc k)) = enc k := by simp [hjs, hk]
      simp [Instr.mapUpdate, run_underlying ht, MapKept.run_getObj_map hb, K.check, hr, Result.andThen, MapKept.run_setObj_map _ hb, setBlock, hb', Instr.keyThatStays, K.bits]
    · intro x hx
      rw [hmod] at hx
      obtain ⟨i, hi⟩ := List.getElem?_of_mem hx
      rw [List.getElem?_modify] at hi
      by_cases hij : j = i
      · subst hij
        rw [hj] at hi
        simp at hi
        subst hi
        exact ⟨k, rfl, updK_same _ _ _⟩
      · simp [hij] at hi
        have hi' : es.toList[i]? = some x := by simpa using hi
        obtain ⟨k', e1, e2⟩ := h1 x (List.mem_of_getElem? hi')
        refine ⟨k', e1, ?_⟩
        rw [updK_other]
        · exact e2
        · rintro rfl
          have hpw := List.pairwise_iff_getElem.1 h3
          obtain ⟨l1, g1⟩ := List.getElem?_eq_some_iff.1 hj
          obtain ⟨l2, g2⟩ := List.getElem?_eq_some_iff.1 hi'
          rcases Nat.lt_or_gt_of_ne hij with hlt | hlt
          · exact hpw j i l1 l2 hlt (by rw [g1, g2, hk, e1])
          · exact hpw i j l2 l1 hlt (by rw [g1, g2, hk, e1])
    · intro k' v' hv'
      rw [hmod]
      have key_of : ∀ x ∈ es.toList, ∃ y ∈ es.toList.modify j (fun e => { e with key := enc k, val := v }), y.key = x.key := by
        intro x hx
        obtain ⟨i, hi⟩ := List.getElem?_of_mem hx
        by_cases hij : j = i
        · subst hij
          have : x = e := by rw [hj] at hi; injection hi with hi; exact hi.symm
          subst this
          exact ⟨{ x with key := enc k, val := v }, List.mem_of_getElem? (i := j) (by rw [List.getElem?_modify, hj]; simp), hk.symm⟩
        · exact ⟨x, List.mem_of_getElem? (i := i) (by rw [List.getElem?_modify, hi]; simp [hij]), rfl⟩
      by_cases hkk : k' = k
      · subst hkk
        obtain ⟨y, hy, e2⟩ := key_of e (List.mem_of_getElem? hj)
        exact ⟨y, hy, e2.trans hk⟩
      · rw [updK_other _ _ _ hkk] at hv'
        obtain ⟨x, hx, e1⟩ := h2 k' v' hv'
        obtain ⟨y, hy, e2⟩ := key_of x hx
        exact ⟨y, hy, e2.trans e1⟩
    · rw [hmod]
      exact pairwise_modify _ _ _ (fun e' he' => by rw [hj] at he'; injection he' with he'; subst he'; exact hk.symm) h3

/-- The keys are asked one by one. -/
theorem find_asking {kt : TypeId} {enc : κ → Value} (w : World) (hinj : ∀ {k k' : κ}, enc k = enc k' → k = k')
    (heq : ∀ k k', ∃ r : Bool, (Op.equal kt (enc k) (enc k')).run P w = .ok r w ∧ (r = true ↔ k = k')) (k : κ) :
    ∀ (es : List MapEntry) (i : Nat), (∀ e ∈ es, ∃ k', e.key = enc k') →
      ((Instr.findAsking kt (enc k) es i).run P w = .ok none w ∧ ∀ e ∈ es, e.key ≠ enc k) ∨
      ∃ j e, (Instr.findAsking kt (enc k) es i).run P w = .ok (some (i + j, e.val)) w ∧ es[j]? = some e ∧ e.key = enc k
  | [], i, _ => Or.inl ⟨by simp [Instr.findAsking], by simp⟩
  | e :: es, i, hall => by
    obtain ⟨k', hk'⟩ := hall e (by simp)
    obtain ⟨r, hr, hiff⟩ := heq k k'
    cases r
    · have hne : e.key ≠ enc k := fun h => by
        rw [hk'] at h
        have := hiff.2 (hinj h).symm
        cases this
      rcases find_asking w hinj heq k es (i + 1) (fun y hy => hall y (by simp [hy])) with ⟨h1, h2⟩ | ⟨j, e', h1, h2, h3⟩
      · left
        refine ⟨by simp [Instr.findAsking, hk', hr, h1], fun y hy => ?_⟩
        rcases List.mem_cons.1 hy with rfl | hy
        · exact hne
        · exact h2 y hy
      · right
        exact ⟨j + 1, e', by simp [Instr.findAsking, hk', hr, h1, Nat.add_assoc, Nat.add_comm 1 j], by simpa using h2, h3⟩
    · right
      exact ⟨0, e, by simp [Instr.findAsking, hk', hr], rfl, by rw [hk', hiff.1 rfl]⟩

/-- Keys that are integers. -/
theorem int_find (es : List MapEntry) (d : TypeDesc) {q q' : IntKind} (hd : d = .int q') (a : Int) : ∀ (i : Nat), (∀ e ∈ es, ∃ b : Int, e.key = .int q b) →
    (Instr.findNow d (.int q a) es i = some none ∧ ∀ e ∈ es, e.key ≠ .int q a) ∨
    ∃ j e, Instr.findNow d (.int q a) es i = some (some (i + j, e.val)) ∧ es[j]? = some e ∧ e.key = .int q a := by
  subst hd
  induction es with
  | nil => intro i _; exact Or.inl ⟨rfl, by simp⟩
  | cons e es ih =>
    intro i hall
    obtain ⟨b, hb⟩ := hall e (by simp)
    by_cases hab : a = b
    · subst hab
      exact Or.inr ⟨0, e, by simp [Instr.findNow, hb, Instr.sameNow], rfl, hb⟩
    · have hbeq : (a == b) = false := beq_eq_false_iff_ne.2 hab
      rcases ih (i + 1) (fun y hy => hall y (by simp [hy])) with ⟨h1, h2⟩ | ⟨j, e', h1, h2, h3⟩
      · left
        refine ⟨by simp [Instr.findNow, hb, Instr.sameNow, hbeq, h1], fun y hy => ?_⟩
        rcases List.mem_cons.1 hy with rfl | hy
        · rw [hb]; intro h; injection h with _ h; exact hab h.symm
        · exact h2 y hy
      · right
        exact ⟨j + 1, e', by simp [Instr.findNow, hb, Instr.sameNow, hbeq, h1, Nat.add_assoc, Nat.add_comm 1 j], by simpa using h2, h3⟩

theorem int_kind {kt : TypeId} {q q' : IntKind} (hu : P.underlying kt = some (.int q')) : KeyKind P kt (fun a : Int => Value.int q a) where
  check e k w := by rw [show (10000 : Nat) = 9999 + 1 from rfl, Instr.checkKey]; simp [run_underlying hu]
  find w k es hall := by
    rcases int_find es (.int q') rfl k 0 (q := q) hall with ⟨h1, h2⟩ | ⟨j, e, h1, h2, h3⟩
    · exact Or.inl ⟨by simp [Instr.findKey, run_underlying hu, h1], h2⟩
    · exact Or.inr ⟨j, e, by simp [Instr.findKey, run_underlying hu, h1], h2, h3⟩
  inj h := by injection h
  bits k := by rw [show (10000 : Nat) = 9999 + 1 from rfl, Instr.sameBits]; simp

/-! At the operation, for the walk. -/
variable (w : World) {ops : Array Oper} {rest : List Oper} {o : Oper} {a : Act} {Q : Exit → Act → World → Prop}

theorem wpList_lookK (hg : o.guard = none) (m x : Operand) (t : TypeId) (hop : o.op = Op.lookup t m x false)
    {kt et : TypeId} {enc : κ → Value} (K : KeyKind P kt enc) (ht : P.underlying t = some (.map kt et)) (z : Value) (hz : (zeroValue et).run P w = .ok z w)
    (b n : Nat) (f : κ → Option Value) (h : MapAt w enc b n f) (hm : a.eval m = .map (some b)) (k : κ) (hx : a.eval x = enc k)
    (hK : wpList P ops Q rest (a.put o.dst ((f k).getD z)) w) : wpList P ops Q (o :: rest) a w := by
  refine wpList_plain hg fun K' hK' => ?_
  unfold Oper.wp
  simp [execOp, hop, hm, hx, h.lookup K ht hz k, Result.andThen]
  exact hK' _ _ hK

theorem wpList_look_okK (hg : o.guard = none) (m x : Operand) (t : TypeId) (hop : o.op = Op.lookup t m x true)
    {kt et : TypeId} {enc : κ → Value} (K : KeyKind P kt enc) (ht : P.underlying t = some (.map kt et)) (z : Value) (hz : (zeroValue et).run P w = .ok z w)
    (b n : Nat) (f : κ → Option Value) (h : MapAt w enc b n f) (hm : a.eval m = .map (some b)) (k : κ) (hx : a.eval x = enc k)
    (hK : wpList P ops Q rest (a.put o.dst (.tuple #[(f k).getD z, .bool (f k).isSome])) w) : wpList P ops Q (o :: rest) a w := by
  refine wpList_plain hg fun K' hK' => ?_
  unfold Oper.wp
  simp [execOp, hop, hm, hx, h.look_ok K ht hz k, Result.andThen]
  exact hK' _ _ hK

theorem wpList_updateK (hg : o.guard = none) (m x v : Operand) (t : TypeId) (hop : o.op = Op.mapUpdate t m x v)
    {kt et : TypeId} {enc : κ → Value} (K : KeyKind P kt enc) (ht : P.underlying t = some (.map kt et))
    (b n : Nat) (f : κ → Option Value) (h : MapAt w enc b n f) (hm : a.eval m = .map (some b)) (k : κ) (hx : a.eval x = enc k) (val : Value) (hv : a.eval v = val)
    (hK : ∀ w', MapAt w' enc b (if (f k).isSome then n else n + 1) (updK f k val) → w.mapTurned w' b → w'.heap.size = w.heap.size → wpList P ops Q rest (a.put o.dst undef) w') :
    wpList P ops Q (o :: rest) a w := by
  refine wpList_plain hg fun K' hK' => ?_
  obtain ⟨w', hrun, r1, r2, r3⟩ := h.update K ht k val
  unfold Oper.wp
  simp [execOp, hop, hm, hx, hv, hrun, Result.andThen]
  exact hK' _ _ (hK w' r1 r2 r3)

theorem MapAt.len {kt et mt : TypeId} {enc : κ → Value} (ht : P.underlying mt = some (.map kt et)) {w : World} {m n : Nat} {f : κ → Option Value} (h : MapAt w enc m n f) (ty : TypeId) :
    (Builtin.len_ #[mt] ty #[.map (some m)]).run P w = .ok (.int .i64 n) w := by
  obtain ⟨es, clk, hb, hn, _⟩ := h
  subst hn
  simp [Builtin.len_, run_underlying ht, MapKept.run_getObj_map hb, goInt]

theorem wpList_lenK (hg : o.guard = none) (m : Operand) (t : TypeId) (hop : o.op = Op.call { callee := Callee.builtin Builtin.len, args := #[m], argTypes := #[t] })
    {kt et : TypeId} {enc : κ → Value} (ht : P.underlying t = some (.map kt et)) (b n : Nat) (f : κ → Option Value) (h : MapAt w enc b n f) (hm : a.eval m = .map (some b))
    (hK : wpList P ops Q rest (a.put o.dst (.int .i64 n)) w) : wpList P ops Q (o :: rest) a w := by
  refine wpList_plain hg fun K' hK' => ?_
  unfold Oper.wp
  simp [execOp, hop, resolve, invoke, builtin, hm, h.len ht o.type, Result.andThen]
  exact hK' _ _ hK
end
end Go.Proofs.YtloecimlimoanaaGreatDoor

/- The pool of shared nodes in memory. -/
namespace Go.Proofs.YtloecimlimoanaaGreatDoor
open Go.RowKit Go.ChangeMaps

structure Key where
  s : List UInt8
  a : Int
  b : Int
  deriving DecidableEq

def encK (k : Key) : Value := .agg #[S k.s, .int .i64 k.a, .int .i64 k.b]

abbrev encI (a : Int) : Value := .int .i64 a

theorem encK_inj {k k' : Key} (h : encK k = encK k') : k = k' := by
  obtain ⟨s, a, b⟩ := k
  obtain ⟨s', a', b'⟩ := k'
  simp [encK] at h
  obtain ⟨h1, h2, h3⟩ := h
  subst h1; subst h2; subst h3
  rfl

theorem fields_key : (Tryz.prog.fieldsOf 168).toList.map (fun f => (f.name, f.type, f.offset)) = [("sign", 9, 0), ("first", 3, 1), ("second", 3, 2)] := by kernel_rfl
theorem under_key : Tryz.prog.underlying 168 = some (.struct (Tryz.prog.fieldsOf 168)) := by kernel_rfl
theorem stood_key : Tryz.prog.stoodInHeld 168 = false := by kernel_rfl
theorem part_s (a b c : Value) (w : World) : (part 9 #[a, b, c] 0).run Tryz.prog w = .ok a w := by kernel_rfl
theorem part_1 (a b c : Value) (w : World) : (part 3 #[a, b, c] 1).run Tryz.prog w = .ok b w := by kernel_rfl
theorem part_2 (a b c : Value) (w : World) : (part 3 #[a, b, c] 2).run Tryz.prog w = .ok c w := by kernel_rfl

theorem eqFields_three (d : Nat) (xs ys : Array Value) (fs : List Field) (h : fs.map (fun f => (f.name, f.type, f.offset)) = [("sign", 9, 0), ("first", 3, 1), ("second", 3, 2)])
    (s s' : ByteArray) (a b a' b' : Int) (hx : xs = #[.string s, .int .i64 a, .int .i64 b]) (hy : ys = #[.string s', .int .i64 a', .int .i64 b']) (w : World) :
    (Op.eqFields (d + 1) xs ys fs).run Tryz.prog w = .ok (s.toList == s'.toList && (a == a' && b == b')) w := by
  obtain ⟨f0, fs, rfl⟩ : ∃ f0 gs, fs = f0 :: gs := by cases fs with | nil => simp at h | cons f gs => exact ⟨f, gs, rfl⟩
  obtain ⟨f1, fs, rfl⟩ : ∃ f0 gs, fs = f0 :: gs := by cases fs with | nil => simp at h | cons f gs => exact ⟨f, gs, rfl⟩
  obtain ⟨f2, fs, rfl⟩ : ∃ f0 gs, fs = f0 :: gs := by cases fs with | nil => simp at h | cons f gs => exact ⟨f, gs, rfl⟩
  obtain rfl : fs = [] := by cases fs with | nil => rfl | cons f gs => simp at h
  simp only [List.map_cons, List.map_nil, List.cons.injEq, Prod.mk.injEq, and_true] at h
  obtain ⟨⟨n0, t0, o0⟩, ⟨n1, t1, o1⟩, n2, t2, o2⟩ := h
  subst hx; subst hy
  have h0 : (f0.name ≠ "_") := by rw [n0]; decide
  have h1 : (f1.name ≠ "_") := by rw [n1]; decide
  have h2 : (f2.name ≠ "_") := by rw [n2]; decide
  simp only [Op.eqFields, if_pos h0, if_pos h1, if_pos h2, t0, t1, t2, o0, o1, o2, part_s, part_1, part_2, Sem.run_bind, Sem.run_ite, Result.andThen_ok,
    run_equalIn_string w d _ _ _ Tryz.underlying9, run_equalIn_int w d _ _ _ _ _ Tryz.underlying3]
  cases s.toList == s'.toList <;> cases a == a' <;> cases b == b' <;> simp

theorem run_eq_key (s s' : List UInt8) (a b a' b' : Int) (w : World) :
    (Op.equal 168 (encK ⟨s, a, b⟩) (encK ⟨s', a', b'⟩)).run Tryz.prog w = .ok ((⟨s.toArray⟩ : ByteArray).toList == (⟨s'.toArray⟩ : ByteArray).toList && (a == a' && b == b')) w := by
  unfold Op.equal Op.maxDepth encK
  rw [run_equalIn_agg w 9999 _ _ _ under_key stood_key]
  exact eqFields_three 9998 _ _ _ fields_key ⟨s.toArray⟩ ⟨s'.toArray⟩ a b a' b' rfl rfl w

theorem eq_key (k k' : Key) (w : World) : ∃ r : Bool, (Op.equal 168 (encK k) (encK k')).run Tryz.prog w = .ok r w ∧ (r = true ↔ k = k') :=
  ⟨_, run_eq_key k.s k'.s k.a k.b k'.a k'.b w, by
    obtain ⟨s, a, b⟩ := k
    obtain ⟨s', a', b'⟩ := k'
    simp [ByteArray.toList_eq]⟩

theorem check_key (e : Bool) (k : Key) (w : World) : (Instr.checkKey e 10000 168 (encK k)).run Tryz.prog w = .ok () w := by
  obtain ⟨s, a, b⟩ := k
  unfold encK
  kernel_rfl

theorem key_kind : KeyKind Tryz.prog 168 encK where
  check := check_key
  find w k es hall := by
    have hask := find_asking (P := Tryz.prog) (kt := 168) w encK_inj (fun k k' => eq_key k k' w) k es 0 hall
    have hnow : Instr.findNow (.struct (Tryz.prog.fieldsOf 168)) (encK k) es 0 = if es = [] then some none else none := by
      cases es with
      | nil => rfl
      | cons e es => simp [Instr.findNow, Instr.sameNow]
    by_cases he : es = []
    · subst he
      exact Or.inl ⟨by simp [Instr.findKey, run_underlying under_key, hnow], by simp⟩
    · rcases hask with ⟨h1, h2⟩ | ⟨j, e, h1, h2, h3⟩
      · exact Or.inl ⟨by simp [Instr.findKey, run_underlying under_key, hnow, he, h1], h2⟩
      · exact Or.inr ⟨j, e, by simp [Instr.findKey, run_underlying under_key, hnow, he, h1], h2, h3⟩
  inj := encK_inj
  bits k := by rw [show (10000 : Nat) = 9999 + 1 from rfl, encK, Instr.sameBits]; simp [Instr.sameBits, beq_toListBytes]
/-! The pool. -/
def sgn : Ty → List UInt8
  | .v _ => []
  | .o => [111]
  | .n f _ _ => [Ty.sign f]
def num : Ty → Int
  | .v n => n
  | _ => 0

/-- What stands behind the parts of a type: pointers to older types of the pool. -/
def Kids (ps : List Nat) (D : List Ty) : Ty → Value → Value → Prop
  | .n _ l r, x, y => ∃ il ir pl pr : Nat, D[il]? = some l ∧ D[ir]? = some r ∧ ps[il]? = some pl ∧ ps[ir]? = some pr ∧ x = Ptr pl ∧ y = Ptr pr
  | _, x, y => x = .pointer none ∧ y = .pointer none

/-- The key under which a type is kept. -/
def KeyOf (D : List Ty) : Ty → Key → Prop
  | .v n, k => k = ⟨[], n, 0⟩
  | .o, k => k = ⟨[111], 0, 0⟩
  | .n f l r, k => ∃ il ir : Nat, D[il]? = some l ∧ D[ir]? = some r ∧ k = ⟨[Ty.sign f], il, ir⟩

def NodeAt (w : World) (ps : List Nat) (D : List Ty) (i : Nat) (t : Ty) (p : Nat) : Prop :=
  ∃ x y, Blk w p 97 #[S (sgn t), .int .i64 (num t), x, y, .int .i64 t.size, .int .i64 i] ∧ Kids ps D t x y

structure Pool (w : World) (q m : Nat) (ps : List Nat) (D : List Ty) : Prop where
  head : Blk w q 126 #[.map (some m)]
  len : ps.length = D.length
  nodup : D.Nodup
  node : ∀ (i : Nat) t p, D[i]? = some t → ps[i]? = some p → NodeAt w ps D i t p
  map : ∃ f, MapAt w encK m D.length f ∧ (∀ (i : Nat) t p k, D[i]? = some t → ps[i]? = some p → KeyOf D t k → f k = some (Ptr p)) ∧
    (∀ k v, f k = some v → ∃ (i : Nat) (t : Ty) (p : Nat), D[i]? = some t ∧ ps[i]? = some p ∧ KeyOf D t k ∧ v = Ptr p)

theorem KeyOf.inj {D : List Ty} {t t' : Ty} {k : Key} (h : KeyOf D t k) (h' : KeyOf D t' k) : t = t' := by
  cases t with
  | v n => cases t' with
    | v n' => simp [KeyOf] at h h'; subst h; simp at h'; exact congrArg Ty.v (by omega)
    | o => simp [KeyOf] at h h'; subst h; simp at h'
    | n f l r => simp [KeyOf] at h h'; subst h; obtain ⟨_, _, _, _, e⟩ := h'; simp at e
  | o => cases t' with
    | v n' => simp [KeyOf] at h h'; subst h; simp at h'
    | o => rfl
    | n f l r => simp [KeyOf] at h h'; subst h; obtain ⟨_, _, _, _, e⟩ := h'; cases f <;> simp [Ty.sign] at e
  | n f l r => cases t' with
    | v n' => simp [KeyOf] at h h'; subst h'; obtain ⟨_, _, _, _, e⟩ := h; simp at e
    | o => simp [KeyOf] at h h'; subst h'; obtain ⟨_, _, _, _, e⟩ := h; cases f <;> simp [Ty.sign] at e
    | n f' l' r' =>
      obtain ⟨i, j, h1, h2, rfl⟩ := h
      obtain ⟨i', j', h1', h2', e⟩ := h'
      simp at e
      obtain ⟨e1, e2, e3⟩ := e
      have e2' : i = i' := by omega
      have e3' : j = j' := by omega
      subst e2'; subst e3'
      rw [h1] at h1'; rw [h2] at h2'
      injection h1' with h1'; injection h2' with h2'
      rw [Ty.sign_inj e1, h1', h2']

/-- A type whose parts lie in the pool has its key. -/
def Ready (D : List Ty) : Ty → Prop
  | .n _ l r => l ∈ D ∧ r ∈ D
  | _ => True

theorem KeyOf.of_ready {D : List Ty} {t : Ty} (h : Ready D t) : ∃ k, KeyOf D t k := by
  cases t with
  | v n => exact ⟨_, rfl⟩
  | o => exact ⟨_, rfl⟩
  | n f l r =>
    obtain ⟨i, hi⟩ := List.getElem?_of_mem h.1
    obtain ⟨j, hj⟩ := List.getElem?_of_mem h.2
    exact ⟨_, i, j, hi, hj, rfl⟩

theorem KeyOf.more {D D' : List Ty} {t : Ty} {k : Key} (h : KeyOf D t k) (hD : ∃ X, D' = D ++ X) : KeyOf D' t k := by
  obtain ⟨X, rfl⟩ := hD
  cases t with
  | v n => exact h
  | o => exact h
  | n f l r =>
    obtain ⟨i, j, h1, h2, e⟩ := h
    exact ⟨i, j, by rw [List.getElem?_append_left (List.getElem?_eq_some_iff.1 h1).1, h1], by rw [List.getElem?_append_left (List.getElem?_eq_some_iff.1 h2).1, h2], e⟩

theorem getElem?_more {α : Type} {D X : List α} {i : Nat} {t : α} (h : D[i]? = some t) : (D ++ X)[i]? = some t := by
  rw [List.getElem?_append_left (List.getElem?_eq_some_iff.1 h).1, h]

theorem Kids.more {ps : List Nat} {D : List Ty} {t : Ty} {x y : Value} (h : Kids ps D t x y) (X : List Nat) (Y : List Ty) : Kids (ps ++ X) (D ++ Y) t x y := by
  cases t with
  | v n => exact h
  | o => exact h
  | n f l r =>
    obtain ⟨i, j, pl, pr, h1, h2, h3, h4, h5, h6⟩ := h
    exact ⟨i, j, pl, pr, getElem?_more h1, getElem?_more h2, getElem?_more h3, getElem?_more h4, h5, h6⟩

/-- The pool's blocks. -/
theorem Pool.lt {w : World} {q m : Nat} {ps : List Nat} {D : List Ty} (h : Pool w q m ps D) {p : Nat} (hp : p ∈ ps) : p < w.heap.size := by
  obtain ⟨i, hi⟩ := List.getElem?_of_mem hp
  have hl := (List.getElem?_eq_some_iff.1 hi).1
  obtain ⟨x, y, hb, _⟩ := h.node i (D[i]'(by rw [← h.len]; exact hl)) p (List.getElem?_eq_getElem _) hi
  exact hb.lt

theorem Pool.keep {w w' : World} {q m : Nat} {ps : List Nat} {D : List Ty} (h : Pool w q m ps D) (e : ∀ k, k < w.heap.size → k = q ∨ k = m ∨ k ∈ ps → w'.heap[k]? = w.heap[k]?) : Pool w' q m ps D := by
  obtain ⟨h1, h2, h3, h4, f, h5, h6⟩ := h
  refine ⟨h1.keep (e q h1.lt (.inl rfl)), h2, h3, ?_, f, h5.keep (e m h5.lt (.inr (.inl rfl))), h6⟩
  intro i t p hi hp
  obtain ⟨x, y, hb, hk⟩ := h4 i t p hi hp
  exact ⟨x, y, hb.keep (e p hb.lt (.inr (.inr (List.mem_of_getElem? hp)))), hk⟩

/-- kept by whatever leaves all of its blocks alone -/
theorem Pool.fr {w w' : World} {q m : Nat} {ps : List Nat} {D : List Ty} {S : Nat → Prop} (h : Pool w q m ps D) (hf : Fr S w w') (hq : ¬ S q) (hm : ¬ S m) (hp : ∀ p ∈ ps, ¬ S p) : Pool w' q m ps D :=
  h.keep fun k hk hor => hf.block k hk (by rcases hor with rfl | rfl | hor; exact hq; exact hm; exact hp k hor)

theorem Pool.not_map {w : World} {q m : Nat} {ps : List Nat} {D : List Ty} (h : Pool w q m ps D) : q ≠ m ∧ m ∉ ps := by
  obtain ⟨h1, h2, h3, h4, f, h5, h6⟩ := h
  obtain ⟨es, clk, hb, _⟩ := h5
  refine ⟨h1.ne_map hb, fun hm => ?_⟩
  obtain ⟨i, hi⟩ := List.getElem?_of_mem hm
  have hl := (List.getElem?_eq_some_iff.1 hi).1
  obtain ⟨x, y, hbk, _⟩ := h4 i (D[i]'(by omega)) m (List.getElem?_eq_getElem _) hi
  exact hbk.ne_map hb rfl

/-- a new type is put behind the others -/
theorem Pool.push {w w' : World} {q m : Nat} {ps : List Nat} {D : List Ty} (h : Pool w q m ps D) {t : Ty} (ht : t ∉ D) (hr : Ready D t) {p : Nat} {x y : Value}
    (hb : Blk w' p 97 #[S (sgn t), .int .i64 (num t), x, y, .int .i64 t.size, .int .i64 D.length]) (hk : Kids ps D t x y)
    (hq : w'.heap[q]? = w.heap[q]?) (hps : ∀ k ∈ ps, w'.heap[k]? = w.heap[k]?)
    {f : Key → Option Value} {k : Key} (hkey : KeyOf D t k) (hf1 : ∀ (i : Nat) t p k, D[i]? = some t → ps[i]? = some p → KeyOf D t k → f k = some (Ptr p))
    (hf2 : ∀ k v, f k = some v → ∃ (i : Nat) (t : Ty) (p : Nat), D[i]? = some t ∧ ps[i]? = some p ∧ KeyOf D t k ∧ v = Ptr p)
    (hmap : MapAt w' encK m (D.length + 1) (updK f k (Ptr p))) : Pool w' q m (ps ++ [p]) (D ++ [t]) := by
  obtain ⟨h1, h2, h3, h4, _⟩ := h
  have split : ∀ i u p', (D ++ [t])[i]? = some u → (ps ++ [p])[i]? = some p' → (D[i]? = some u ∧ ps[i]? = some p') ∨ (i = D.length ∧ u = t ∧ p' = p) := by
    intro i u p' hu hp'
    rcases Nat.lt_or_ge i D.length with hl | hl
    · rw [List.getElem?_append_left hl] at hu
      rw [List.getElem?_append_left (by omega)] at hp'
      exact .inl ⟨hu, hp'⟩
    · have : i = D.length := by
        have := (List.getElem?_eq_some_iff.1 hu).1
        simp at this; omega
      subst this
      rw [List.getElem?_append_right (Nat.le_refl _)] at hu
      rw [List.getElem?_append_right (by omega)] at hp'
      simp [h2] at hu hp'
      exact .inr ⟨rfl, hu.symm, hp'.symm⟩
  have back : ∀ u k', KeyOf (D ++ [t]) u k' → (u ∈ D ∨ u = t) → KeyOf D u k' := by
    intro u k' hk' hu
    have hru : Ready D u := by
      rcases hu with hu | rfl
      · obtain ⟨i, hi⟩ := List.getElem?_of_mem hu
        have hl := (List.getElem?_eq_some_iff.1 hi).1
        obtain ⟨x', y', _, hkid⟩ := h4 i u (ps[i]'(by omega)) hi (List.getElem?_eq_getElem _)
        cases u with
        | v n => trivial
        | o => trivial
        | n f l r =>
          obtain ⟨i, j, pl, pr, g1, g2, _⟩ := hkid
          exact ⟨List.mem_of_getElem? g1, List.mem_of_getElem? g2⟩
      · exact hr
    obtain ⟨k2, hk2⟩ := KeyOf.of_ready hru
    have : k2 = k' := by
      have h2' := hk2.more ⟨[t], rfl⟩
      have hnd : (D ++ [t]).Nodup := by
        rw [List.nodup_append]
        exact ⟨h3, by simp, fun a ha b hb' => by simp at hb'; subst hb'; rintro rfl; exact ht ha⟩
      cases u with
      | v n => exact h2'.trans hk'.symm
      | o => exact h2'.trans hk'.symm
      | n f l r =>
        obtain ⟨i, j, g1, g2, rfl⟩ := h2'
        obtain ⟨i', j', g1', g2', rfl⟩ := hk'
        have e1 : i = i' := (List.getElem?_inj (List.getElem?_eq_some_iff.1 g1).1 hnd).1 (g1.trans g1'.symm)
        have e2 : j = j' := (List.getElem?_inj (List.getElem?_eq_some_iff.1 g2).1 hnd).1 (g2.trans g2'.symm)
        subst e1; subst e2; rfl
    exact this ▸ hk2
  refine ⟨h1.keep hq, by simp [h2], ?_, ?_, _, by simpa using hmap, ?_, ?_⟩
  · rw [List.nodup_append]
    exact ⟨h3, by simp, fun a ha b hb' => by simp at hb'; subst hb'; rintro rfl; exact ht ha⟩
  · intro i u p' hu hp'
    rcases split i u p' hu hp' with ⟨hu, hp'⟩ | ⟨rfl, rfl, rfl⟩
    · obtain ⟨x', y', hb', hk'⟩ := h4 i u p' hu hp'
      exact ⟨x', y', hb'.keep (hps _ (List.mem_of_getElem? hp')), hk'.more _ _⟩
    · exact ⟨x, y, hb, hk.more _ _⟩
  · intro i u p' k' hu hp' hk'
    rcases split i u p' hu hp' with ⟨hu, hp'⟩ | ⟨rfl, rfl, rfl⟩
    · have hk2 := back u k' hk' (.inl (List.mem_of_getElem? hu))
      rw [updK_other]
      · exact hf1 i u p' k' hu hp' hk2
      · rintro rfl
        exact ht (hk2.inj hkey ▸ List.mem_of_getElem? hu)
    · have hk2 := back _ k' hk' (.inr rfl)
      have : k' = k := by
        cases u with
        | v n => exact hk2.trans hkey.symm
        | o => exact hk2.trans hkey.symm
        | n f l r =>
          obtain ⟨i, j, g1, g2, rfl⟩ := hk2
          obtain ⟨i', j', g1', g2', rfl⟩ := hkey
          have e1 : i = i' := (List.getElem?_inj (List.getElem?_eq_some_iff.1 g1).1 h3).1 (g1.trans g1'.symm)
          have e2 : j = j' := (List.getElem?_inj (List.getElem?_eq_some_iff.1 g2).1 h3).1 (g2.trans g2'.symm)
          subst e1; subst e2; rfl
      subst this
      exact updK_same _ _ _
  · intro k' v hv
    by_cases hkk : k' = k
    · subst hkk
      rw [updK_same] at hv
      injection hv with hv
      exact ⟨D.length, t, p, by simp, by rw [← h2]; simp, hkey.more ⟨_, rfl⟩, hv.symm⟩
    · rw [updK_other _ _ _ hkk] at hv
      obtain ⟨i, u, p', g1, g2, g3, g4⟩ := hf2 k' v hv
      exact ⟨i, u, p', getElem?_more g1, getElem?_more g2, g3.more ⟨_, rfl⟩, g4⟩
end Go.Proofs.YtloecimlimoanaaGreatDoor

/- Share · Poolw · Reader · Next · Read · Impl -/
/- Share -/
namespace Go.Proofs.YtloecimlimoanaaGreatDoor
open Go.RowKit Go.ChangeMaps

theorem zero_node (w : World) : (zeroValue 75).run Tryz.prog w = .ok (.pointer none) w := by kernel_rfl

set_option maxHeartbeats 400000 in
theorem share_old (w : World) (q m n : Nat) (ty : TypeId) (f : Key → Option Value) (s : List UInt8) (a b : Int) (nu sz : Int) (l r : Value) (p : Nat)
    (hq : Blk w q ty #[.map (some m)]) (hm : MapAt w encK m n f) (hf : f ⟨s, a, b⟩ = some (Ptr p)) :
    Calls Tryz.prog 98 #[Ptr q, .agg #[S s, .int .i64 a, .int .i64 b], .agg #[S [], .int .i64 nu, l, r, .int .i64 sz, .int .i64 0]] w
      fun e w' => e = .returned (Ptr p) ∧ Fr No w w' := by
  have hc : w.cell? ⟨q, 0, none⟩ = some (.map (some m)) := (hq.cell 0).trans rfl
  have hl := hq.lt
  have hml := hm.lt
  have hlook : ∀ o o2 : Obj, (Instr.lookup 124 (.map (some m)) (.agg #[S s, .int .i64 a, .int .i64 b]) false).run Tryz.prog ((w.alloc o).alloc o2).drew = .ok (Ptr p) ((w.alloc o).alloc o2).drew := by
    intro o o2
    have hm2 : MapAt ((w.alloc o).alloc o2).drew encK m n f := hm.keep (((((Fr.refl No w).alloc o).alloc o2).drew).block m hml (fun h => h))
    have := hm2.lookup key_kind Tryz.underlying124 (zero_node _) ⟨s, a, b⟩
    rw [hf] at this
    exact this
  go_enter Tryz.func98, Tryz.ntmps98
  go_wp2
  go_region
  all_goals go_wp2
  go_ret
  exact ⟨rfl, (((Fr.refl _ _).alloc _).alloc _).drew⟩

set_option maxHeartbeats 400000 in
theorem share_new (w : World) (q m n : Nat) (ty : TypeId) (f : Key → Option Value) (s : List UInt8) (a b : Int) (nu sz : Int) (l r : Value)
    (hq : Blk w q ty #[.map (some m)]) (hm : MapAt w encK m n f) (hf : f ⟨s, a, b⟩ = none) :
    Calls Tryz.prog 98 #[Ptr q, .agg #[S s, .int .i64 a, .int .i64 b], .agg #[S [], .int .i64 nu, l, r, .int .i64 sz, .int .i64 0]] w
      fun e w' => e = .returned (Ptr (w.heap.size + 1)) ∧ Fr (One m) w w' ∧ w'.heap.size = w.heap.size + 2 ∧ MapAt w' encK m (n + 1) (updK f ⟨s, a, b⟩ (Ptr (w.heap.size + 1))) ∧
        Blk w' (w.heap.size + 1) 97 #[S s, .int .i64 nu, l, r, .int .i64 sz, .int .i64 n] := by
  have hc : w.cell? ⟨q, 0, none⟩ = some (.map (some m)) := (hq.cell 0).trans rfl
  have hl := hq.lt
  have hml := hm.lt
  have hlook : ∀ o o2 : Obj, (Instr.lookup 124 (.map (some m)) (.agg #[S s, .int .i64 a, .int .i64 b]) false).run Tryz.prog ((w.alloc o).alloc o2).drew = .ok (.pointer none) ((w.alloc o).alloc o2).drew := by
    intro o o2
    have hm2 : MapAt ((w.alloc o).alloc o2).drew encK m n f := hm.keep (((((Fr.refl No w).alloc o).alloc o2).drew).block m hml (fun h => h))
    have := hm2.lookup key_kind Tryz.underlying124 (zero_node _) ⟨s, a, b⟩
    rw [hf] at this
    exact this
  have hlen : ∀ o o2 : Obj, MapAt ((w.alloc o).alloc o2).drew encK m n f := fun o o2 => hm.keep (((((Fr.refl No w).alloc o).alloc o2).drew).block m hml (fun h => h))
  have hm3 : MapAt ((w.alloc (Obj.cells #[S s, .int .i64 a, .int .i64 b] 168)).alloc (Obj.cells #[S s, .int .i64 nu, l, r, .int .i64 sz, .int .i64 n] 97)).drew.drew encK m n f := hlen _ _
  obtain ⟨w1, hrun, h1, h2, h3⟩ := hm3.update key_kind Tryz.underlying124 ⟨s, a, b⟩ (Ptr (w.heap.size + 1))
  rw [hf] at h1
  have Hend : Hid (Fr (One m) w w1 ∧ w1.heap.size = w.heap.size + 2 ∧ MapAt w1 encK m (n + 1) (updK f ⟨s, a, b⟩ (Ptr (w.heap.size + 1))) ∧
        Blk w1 (w.heap.size + 1) 97 #[S s, .int .i64 nu, l, r, .int .i64 sz, .int .i64 n]) := by
    refine ⟨(((((Fr.refl (One m) w).alloc _).alloc _).drew).drew).turned h2 (.inl rfl), by simpa using h3, h1, ?_⟩
    refine Blk.keep (w := ((w.alloc (Obj.cells #[S s, .int .i64 a, .int .i64 b] 168)).alloc (Obj.cells #[S s, .int .i64 nu, l, r, .int .i64 sz, .int .i64 n] 97)).drew.drew) ?_ ?_
    · exact ((Blk.new_at (w.alloc _) 97 #[S s, .int .i64 nu, l, r, .int .i64 sz, .int .i64 n] (by simp)).drew).drew
    · exact h2.grown.block _ (by simp) (by simp; omega)
  have HW := Lib.hid hlen
  simp only [encK] at hrun
  clear h1 h2 h3 hm3 hlen
  go_enter Tryz.func98, Tryz.ntmps98
  go_wp2
  go_region
  all_goals go_wp2_with (at_len; refine wpList_lenK _ rfl _ _ rfl Tryz.underlying124 m n f (HW.out _ _) rfl ?_)
  go_region
  all_goals go_wp2
  go_ret
  exact ⟨rfl, Hend.out⟩
end Go.Proofs.YtloecimlimoanaaGreatDoor

/- Poolw -/
namespace Go.Proofs.YtloecimlimoanaaGreatDoor
open Go.RowKit Go.ChangeMaps

/-- The pool has grown; its new nodes are new blocks. -/
structure Grew (B : Nat) (ps : List Nat) (D : List Ty) (ps' : List Nat) (D' : List Ty) : Prop where
  pre : ∃ X Y, ps' = ps ++ X ∧ D' = D ++ Y ∧ ∀ p ∈ X, B ≤ p

theorem Grew.refl (B : Nat) (ps : List Nat) (D : List Ty) : Grew B ps D ps D := ⟨[], [], by simp, by simp, by simp⟩
theorem Grew.trans {B B' : Nat} {ps ps' ps'' : List Nat} {D D' D'' : List Ty} (h : Grew B ps D ps' D') (h' : Grew B' ps' D' ps'' D'') (hB : B ≤ B') : Grew B ps D ps'' D'' := by
  obtain ⟨X, Y, rfl, rfl, hx⟩ := h.pre
  obtain ⟨X', Y', rfl, rfl, hx'⟩ := h'.pre
  refine ⟨X ++ X', Y ++ Y', by simp, by simp, fun p hp => ?_⟩
  rcases List.mem_append.1 hp with hp | hp
  · exact hx p hp
  · exact Nat.le_trans hB (hx' p hp)
theorem Grew.mono {B B' : Nat} {ps ps' : List Nat} {D D' : List Ty} (h : Grew B ps D ps' D') (hB : B' ≤ B) : Grew B' ps D ps' D' := by
  obtain ⟨X, Y, h1, h2, hx⟩ := h.pre
  exact ⟨X, Y, h1, h2, fun p hp => Nat.le_trans hB (hx p hp)⟩
theorem Grew.getD {B : Nat} {ps ps' : List Nat} {D D' : List Ty} (h : Grew B ps D ps' D') {i : Nat} {t : Ty} (hi : D[i]? = some t) : D'[i]? = some t := by
  obtain ⟨X, Y, rfl, rfl, _⟩ := h.pre; exact getElem?_more hi
theorem Grew.getp {B : Nat} {ps ps' : List Nat} {D D' : List Ty} (h : Grew B ps D ps' D') {i : Nat} {p : Nat} (hi : ps[i]? = some p) : ps'[i]? = some p := by
  obtain ⟨X, Y, rfl, rfl, _⟩ := h.pre; exact getElem?_more hi

/-- Pointer p is type t of the pool. -/
def Has (ps : List Nat) (D : List Ty) (t : Ty) (p : Nat) : Prop := ∃ i : Nat, D[i]? = some t ∧ ps[i]? = some p

theorem Has.grew {B : Nat} {ps ps' : List Nat} {D D' : List Ty} {t : Ty} {p : Nat} (h : Has ps D t p) (hg : Grew B ps D ps' D') : Has ps' D' t p := by
  obtain ⟨i, h1, h2⟩ := h
  exact ⟨i, hg.getD h1, hg.getp h2⟩
theorem Has.mem {ps : List Nat} {D : List Ty} {t : Ty} {p : Nat} (h : Has ps D t p) : t ∈ D := by
  obtain ⟨i, h1, _⟩ := h; exact List.mem_of_getElem? h1
theorem Has.memp {ps : List Nat} {D : List Ty} {t : Ty} {p : Nat} (h : Has ps D t p) : p ∈ ps := by
  obtain ⟨i, _, h1⟩ := h; exact List.mem_of_getElem? h1

/-- What a call hands back that makes a type t of a pool. -/
structure Made (w : World) (q m : Nat) (ps : List Nat) (D : List Ty) (t : Ty) (e : Ending) (w' : World) (ps' : List Nat) (D' : List Ty) (p : Nat) : Prop where
  ret : e = .returned (Ptr p)
  pool : Pool w' q m ps' D'
  grew : Grew w.heap.size ps D ps' D'
  has : Has ps' D' t p
  fr : Fr (One m) w w'

def MadeAny (w : World) (q m : Nat) (ps : List Nat) (D : List Ty) (t : Ty) (e : Ending) (w' : World) : Prop := ∃ ps' D' p, Made w q m ps D t e w' ps' D' p

theorem share_any (w : World) (q m : Nat) (ps : List Nat) (D : List Ty) (t : Ty) (s : List UInt8) (a b nu sz : Int) (x y : Value) (h : Pool w q m ps D) (hr : Ready D t) (hk : KeyOf D t ⟨s, a, b⟩) (hxy : Kids ps D t x y)
    (hs : sgn t = s) (hnu : num t = nu) (hsz : (t.size : Int) = sz) :
    Calls Tryz.prog 98 #[Ptr q, .agg #[S s, .int .i64 a, .int .i64 b], .agg #[S [], .int .i64 nu, x, y, .int .i64 sz, .int .i64 0]] w
      fun e w' => MadeAny w q m ps D t e w' := by
  obtain ⟨f, hm, hf1, hf2⟩ := h.map
  by_cases ht : t ∈ D
  · obtain ⟨i, hi⟩ := List.getElem?_of_mem ht
    have hl := (List.getElem?_eq_some_iff.1 hi).1
    have hp : ps[i]? = some (ps[i]'(by rw [h.len]; exact hl)) := List.getElem?_eq_getElem _
    refine (share_old w q m D.length _ f s a b nu sz x y _ h.head hm (hf1 i t _ _ hi hp hk)).mono ?_
    rintro e w' ⟨rfl, hfr⟩
    have hnm := h.not_map
    exact ⟨ps, D, _, rfl, h.fr hfr (fun h => h) (fun h => h) (fun _ _ h => h), Grew.refl _ _ _, ⟨i, hi, hp⟩, hfr.mono (fun _ _ h => h.elim)⟩
  · have hf : f ⟨s, a, b⟩ = none := by
      rcases hf : f ⟨s, a, b⟩ with _ | v
      · rfl
      · obtain ⟨i, t', p', g1, g2, g3, _⟩ := hf2 _ _ hf
        exact absurd (g3.inj hk ▸ List.mem_of_getElem? g1) ht
    refine (share_new w q m D.length _ f s a b nu sz x y h.head hm hf).mono ?_
    rintro e w' ⟨rfl, hfr, hsize, hmap, hblk⟩
    have hnm := h.not_map
    refine ⟨ps ++ [w.heap.size + 1], D ++ [t], _, rfl, ?_, ⟨[_], [_], rfl, rfl, by simp⟩, ⟨D.length, by simp, by rw [← h.len]; simp⟩, hfr⟩
    subst hs; subst hnu; subst hsz
    exact h.push ht hr hblk hxy (hfr.block q h.head.lt hnm.1) (fun k hk => hfr.block k (h.lt hk) (fun e => by subst e; exact hnm.2 hk)) hk hf1 hf2 hmap

set_option maxHeartbeats 400000 in
theorem truth_any (w : World) (q m : Nat) (ps : List Nat) (D : List Ty) (h : Pool w q m ps D) :
    Calls Tryz.prog 89 #[Ptr q] w fun e w' => MadeAny w q m ps D .o e w' := by
  go_enter Tryz.func89, Tryz.ntmps89
  go_wp2_with fail
  refine (share_any w q m ps D .o [111] 0 0 0 1 _ _ h trivial rfl ⟨rfl, rfl⟩ rfl rfl rfl).mono ?_
  rintro e w' ⟨ps', D', p, hm⟩
  obtain rfl := hm.ret
  go_wp2
  go_ret
  exact ⟨ps', D', p, hm⟩

set_option maxHeartbeats 400000 in
theorem variable_any (w : World) (q m : Nat) (ps : List Nat) (D : List Ty) (n : Nat) (h : Pool w q m ps D) :
    Calls Tryz.prog 87 #[Ptr q, .int .i64 n] w fun e w' => MadeAny w q m ps D (.v n) e w' := by
  go_enter Tryz.func87, Tryz.ntmps87
  go_wp2_with fail
  refine (share_any w q m ps D (.v n) [] n 0 n 1 _ _ h trivial rfl ⟨rfl, rfl⟩ rfl rfl rfl).mono ?_
  rintro e w' ⟨ps', D', p, hm⟩
  obtain rfl := hm.ret
  go_wp2
  go_ret
  exact ⟨ps', D', p, hm⟩

set_option maxRecDepth 20000 in
set_option maxHeartbeats 400000 in
theorem parts_any (w : World) (q m : Nat) (ps : List Nat) (D : List Ty) (f : Bool) (l r : Ty) (pl pr : Nat) (h : Pool w q m ps D) (hl : Has ps D l pl) (hr : Has ps D r pr) (hsz : l.size + r.size ≤ 1000000) :
    Calls Tryz.prog 100 #[Ptr q, S [Ty.sign f], Ptr pl, Ptr pr] w fun e w' => MadeAny w q m ps D (.n f l r) e w' := by
  obtain ⟨il, hil, hpl⟩ := hl
  obtain ⟨ir, hir, hpr⟩ := hr
  obtain ⟨x, y, bl, _⟩ := h.node il l pl hil hpl
  obtain ⟨x', y', br, _⟩ := h.node ir r pr hir hpr
  have c1 : w.cell? ⟨pl, 5, none⟩ = some (.int .i64 il) := (bl.cell 5).trans rfl
  have c2 : w.cell? ⟨pr, 5, none⟩ = some (.int .i64 ir) := (br.cell 5).trans rfl
  have c3 : w.cell? ⟨pl, 4, none⟩ = some (.int .i64 l.size) := (bl.cell 4).trans rfl
  have c4 : w.cell? ⟨pr, 4, none⟩ = some (.int .i64 r.size) := (br.cell 4).trans rfl
  have g1 := bl.lt
  have g2 := br.lt
  clear bl br
  have hP : ∀ o : Obj, Pool ((w.alloc o).drew.drew) q m ps D := fun o => h.fr ((((Fr.refl No w).alloc o).drew).drew) (fun h => h) (fun h => h) (fun _ _ h => h)
  have HP := Lib.hid hP
  clear hP
  have b1 : (0 : Int) ≤ (l.size : Int) := by omega
  have b2 : (0 : Int) ≤ (r.size : Int) := by omega
  have b3 : (l.size : Int) + (r.size : Int) ≤ 1000000 := by omega
  have hready : Ready D (.n f l r) := ⟨List.mem_of_getElem? hil, List.mem_of_getElem? hir⟩
  have hkey : KeyOf D (.n f l r) ⟨[Ty.sign f], il, ir⟩ := ⟨il, ir, hil, hir, rfl⟩
  have hkids : Kids ps D (.n f l r) (Ptr pl) (Ptr pr) := ⟨il, ir, pl, pr, hil, hir, hpl, hpr, rfl, rfl⟩
  have hsz : ((Ty.n f l r).size : Int) = 1 + (l.size : Int) + (r.size : Int) := by simp [Ty.size]
  have Hsz := Lib.hid hsz
  clear hsz hil hir hpl hpr
  go_enter Tryz.func100, Tryz.ntmps100
  go_wp2_with fail
  go_region
  all_goals go_wp2_with fail
  have hw1 : IntKind.i64.wrap (1 + (l.size : Int)) = 1 + (l.size : Int) := IntWalk.i64_in _ (by omega)
  have hw2 : IntKind.i64.wrap (1 + (l.size : Int) + (r.size : Int)) = 1 + (l.size : Int) + (r.size : Int) := IntWalk.i64_in _ (by omega)
  refine wp_region_still_tail 15 (by kernel_rfl) (by kernel_rfl) ?_
  change wpStill _ _ (World.drew _) (fun a' => wpList _ _ _ _ a' (World.drew _)) _ _
  simp only [List.take_succ_cons, List.take_zero, List.drop_succ_cons, List.drop_zero]
  repeat still_step
  refine wpStill_nil ?_
  clear hw1 hw2
  go_wp2_with fail
  refine (share_any _ q m ps D (.n f l r) [Ty.sign f] il ir 0 (1 + (l.size : Int) + (r.size : Int)) (Ptr pl) (Ptr pr) (HP.out _) hready hkey hkids rfl rfl Hsz.out).mono ?_
  rintro e w' ⟨ps', D', p, hm⟩
  obtain rfl := hm.ret
  go_wp2
  go_ret
  refine ⟨ps', D', p, rfl, hm.pool, hm.grew.mono (by simp), hm.has, ?_⟩
  exact ((((Fr.refl (One m) w).alloc _).drew).drew).trans hm.fr
end Go.Proofs.YtloecimlimoanaaGreatDoor

/- Reader -/
namespace Go.Proofs.YtloecimlimoanaaGreatDoor
open Go.RowKit Go.ChangeMaps

/-! Letters, as strings.IndexByte finds them. -/
def letters : List UInt8 := [97, 98, 99, 100, 101, 102, 103, 104, 105, 106, 107, 108, 109, 110, 112, 113, 114, 115, 116, 117, 118, 119, 120, 121, 122]

theorem ix_all : ∀ c : Fin 256, (((List.range 25).any (fun i => (Ty.letter i == UInt8.ofNat c.val) && (Lib.indexByte letters (UInt8.ofNat c.val) == (i : Int)))) || (((List.range 25).all (fun i => Ty.letter i != UInt8.ofNat c.val)) && (Lib.indexByte letters (UInt8.ofNat c.val) == -1))) = true := by
  decide +kernel

theorem ix_cases (c : UInt8) : (∃ i, i < 25 ∧ c = Ty.letter i ∧ Lib.indexByte letters c = (i : Int)) ∨ ((∀ i, i < 25 → c ≠ Ty.letter i) ∧ Lib.indexByte letters c = -1) := by
  have h := ix_all ⟨c.toNat, c.toNat_lt⟩
  simp only [UInt8.ofNat_toNat, Bool.or_eq_true, Bool.and_eq_true, List.any_eq_true, List.all_eq_true, List.mem_range, beq_iff_eq, bne_iff_ne] at h
  rcases h with ⟨i, hi, h1, h2⟩ | ⟨h1, h2⟩
  · exact .inl ⟨i, hi, h1.symm, h2⟩
  · exact .inr ⟨fun i hi e => h1 i hi e.symm, h2⟩

/-! The reader. -/
def Rdr (w : World) (R q : Nat) (u : List UInt8) (sh k : Nat) : Prop := Blk w R 131 #[S u, .int .i64 k, Ptr q, .int .i64 sh]

def Two (m R : Nat) : Nat → Prop := fun k => k = m ∨ k = R

theorem Rdr.apart {w : World} {R q m : Nat} {u : List UInt8} {sh k : Nat} {ps : List Nat} {D : List Ty} (h : Rdr w R q u sh k) (hp : Pool w q m ps D) : R ≠ q ∧ R ≠ m ∧ R ∉ ps := by
  refine ⟨?_, ?_, ?_⟩
  · rintro rfl
    have := (Blk.eq h hp.head).1
    simp at this
  · obtain ⟨f, ⟨es, clk, hb, _⟩, _⟩ := hp.map
    exact h.ne_map hb
  · intro hR
    obtain ⟨i, hi⟩ := List.getElem?_of_mem hR
    have hl := (List.getElem?_eq_some_iff.1 hi).1
    obtain ⟨x, y, hb, _⟩ := hp.node i (D[i]'(by rw [← hp.len]; exact hl)) R (List.getElem?_eq_getElem _) hi
    have := (Blk.eq h hb).1
    simp at this

theorem Pool.setR {w : World} {R q m : Nat} {u : List UInt8} {sh k : Nat} {ps : List Nat} {D : List Ty} (h : Rdr w R q u sh k) (hp : Pool w q m ps D) (i : Nat) (v : Value) : Pool (w.setCell ⟨R, i, none⟩ v) q m ps D := by
  obtain ⟨h1, h2, h3⟩ := h.apart hp
  exact hp.fr (S := One R) ((Fr.refl (One R) w).setCell (p := ⟨R, i, none⟩) (.inl rfl) v) (fun e => h1 e.symm) (fun e => h2 e.symm) (fun p hp e => h3 (e ▸ hp))

set_option maxHeartbeats 400000 in
theorem skip_any (w : World) (R q : Nat) (u p u2 : List UInt8) (sh k : Nat) (b : Bool) (h : Rdr w R q u sh k) (hb : Lib.hasPrefix u p = b) (hu : Lib.trimPrefix u p = u2) :
    Calls Tryz.prog 88 #[Ptr R, S p] w fun e w' => e = .returned (.bool b) ∧ w.setCell ⟨R, 0, none⟩ (S u2) = w' := by
  have c1 : w.cell? ⟨R, 0, none⟩ = some (S u) := (h.cell 0).trans rfl
  have f1 : w.frozen? ⟨R, 0, none⟩ = false := h.frozen 0
  have HB := Lib.hid hb
  have HU := Lib.hid hu
  clear hb hu
  go_enter Tryz.func88, Tryz.ntmps88
  go_wp2_with fail
  refine (Tryz.strings_CutPrefix _ _ _).mono ?_
  rintro e w' ⟨rfl, rfl⟩
  simp only [HB.out, HU.out]
  go_wp2
  go_ret
  exact ⟨rfl, rfl⟩
end Go.Proofs.YtloecimlimoanaaGreatDoor

/- Next -/
namespace Go.Proofs.YtloecimlimoanaaGreatDoor
open Go.RowKit Go.ChangeMaps

/-- What is left of the pool and the reader behind a part of the reading. -/
structure Left (w : World) (R q m : Nat) (ps : List Nat) (D : List Ty) (u : List UInt8) (sh : Nat) (w' : World) (ps' : List Nat) (D' : List Ty) (u' : List UInt8) (k' : Nat) : Prop where
  pool : Pool w' q m ps' D'
  grew : Grew w.heap.size ps D ps' D'
  rdr : Rdr w' R q u' sh k'
  fr : Fr (Two m R) w w'
  len : u'.length ≤ u.length

def NextPost (w : World) (R q m : Nat) (ps : List Nat) (D : List Ty) (u : List UInt8) (sh k : Nat) (e : Ending) (w' : World) : Prop :=
  ∃ ps' D' u' k', Left w R q m ps D u sh w' ps' D' u' k' ∧
    ((∃ t p, Ty.Rd u k t u' ∧ k' = k + t.size ∧ Has ps' D' (t.shift sh) p ∧ e = .returned (Ptr p)) ∨ ((∀ t r, ¬ Ty.Rd u k t r) ∧ e = .returned (.pointer none)))

def NextSaid (k : Nat) : Prop := ∀ w R q m ps D u sh, Pool w q m ps D → Rdr w R q u sh k → u.length ≤ 6000 → sh ≤ 100 →
  Calls Tryz.prog 68 #[Ptr R] w fun e w' => NextPost w R q m ps D u sh k e w'

/-- Both parts, the space between and the bracket behind. -/
def Rd2 (u : List UInt8) (k : Nat) (l r : Ty) (rest : List UInt8) : Prop := u = l.text ++ 32 :: (r.text ++ 41 :: rest) ∧ l.lets ∧ r.lets ∧ k + l.size + r.size ≤ 40

def PartsPost (w : World) (R q m : Nat) (ps : List Nat) (D : List Ty) (u : List UInt8) (f : Bool) (sh k : Nat) (e : Ending) (w' : World) : Prop :=
  ∃ ps' D' u' k', Left w R q m ps D u sh w' ps' D' u' k' ∧
    ((∃ l r p, Rd2 u k l r u' ∧ k' = k + l.size + r.size ∧ Has ps' D' ((Ty.n f l r).shift sh) p ∧ e = .returned (Ptr p)) ∨ ((∀ l r rest, ¬ Rd2 u k l r rest) ∧ e = .returned (.pointer none)))

theorem Left.trans {w w1 w2 : World} {R q m : Nat} {ps ps1 ps2 : List Nat} {D D1 D2 : List Ty} {u u1 u2 : List UInt8} {sh k1 k2 : Nat}
    (h : Left w R q m ps D u sh w1 ps1 D1 u1 k1) (h' : Left w1 R q m ps1 D1 u1 sh w2 ps2 D2 u2 k2) : Left w R q m ps D u sh w2 ps2 D2 u2 k2 :=
  ⟨h'.pool, h.grew.trans h'.grew h.fr.size, h'.rdr, h.fr.trans h'.fr, Nat.le_trans h'.len h.len⟩

/-- the reader's text is cut -/
theorem Left.cut {w w1 : World} {R q m : Nat} {ps ps1 : List Nat} {D D1 : List Ty} {u u1 u2 : List UInt8} {sh k1 : Nat}
    (h : Left w R q m ps D u sh w1 ps1 D1 u1 k1) (hl : u2.length ≤ u1.length) : Left w R q m ps D u sh (w1.setCell ⟨R, 0, none⟩ (S u2)) ps1 D1 u2 k1 :=
  ⟨h.pool.setR h.rdr 0 _, h.grew, by have := Blk.set_ h.rdr 0 (S u2); exact this, h.fr.setCell (.inl (.inr rfl)) _, Nat.le_trans hl h.len⟩

theorem Left.made {w w1 w2 : World} {R q m : Nat} {ps ps1 ps2 : List Nat} {D D1 D2 : List Ty} {u u1 : List UInt8} {sh k1 p : Nat} {t : Ty} {e : Ending}
    (h : Left w R q m ps D u sh w1 ps1 D1 u1 k1) (h' : Made w1 q m ps1 D1 t e w2 ps2 D2 p) : Left w R q m ps D u sh w2 ps2 D2 u1 k1 :=
  ⟨h'.pool, h.grew.trans h'.grew h.fr.size, Blk.fr h.rdr h'.fr (fun e => (h.rdr.apart h.pool).2.1 e), h.fr.trans (h'.fr.mono (fun _ _ e => .inl e)), h.len⟩

theorem hasPrefix_cons (c : UInt8) (u : List UInt8) : Lib.hasPrefix (c :: u) [c] = true ∧ Lib.trimPrefix (c :: u) [c] = u := by
  simp [Lib.hasPrefix, Lib.trimPrefix]

theorem hasPrefix_not (c : UInt8) (u : List UInt8) (h : ∀ r, u ≠ c :: r) : Lib.hasPrefix u [c] = false ∧ Lib.trimPrefix u [c] = u := by
  have : Lib.hasPrefix u [c] = false := by
    cases u with
    | nil => rfl
    | cons d u =>
      have hd : c ≠ d := fun e => h u (by rw [e])
      simp [Lib.hasPrefix, List.isPrefixOf, hd]
  exact ⟨this, by simp [Lib.trimPrefix, this]⟩

set_option maxHeartbeats 1000000 in
theorem nextParts_any (k : Nat) (hk : k ≤ 1000) (hN : ∀ k', k ≤ k' → k' ≤ 1000 → NextSaid k') (w : World) (R q m : Nat) (ps : List Nat) (D : List Ty) (u : List UInt8) (f : Bool) (sh : Nat)
    (hP : Pool w q m ps D) (hR : Rdr w R q u sh k) (hu : u.length ≤ 6000) (hsh : sh ≤ 100) :
    Calls Tryz.prog 90 #[Ptr R, S [Ty.sign f]] w fun e w' => PartsPost w R q m ps D u f sh k e w' := by
  have HN := Lib.hid hN
  clear hN
  go_enter Tryz.func90, Tryz.ntmps90
  go_wp2_with fail
  refine (HN.out k (Nat.le_refl _) hk _ R q m ps D u sh hP hR hu hsh).mono ?_
  rintro e w1 ⟨ps1, D1, u1, k1, hL1, hor⟩
  rcases hor with ⟨l, pl, hrd, hk1, hhas, he⟩ | ⟨hno, he⟩
  · obtain rfl := he
    by_cases hsp : ∃ u2, u1 = 32 :: u2
    · obtain ⟨u2, hu2⟩ := hsp
      obtain ⟨a1, a2⟩ := hasPrefix_cons 32 u2
      rw [← hu2] at a1 a2
      have HA := Lib.hid a1
      have HB := Lib.hid a2
      have HU := Lib.hid hu2
      have HK := Lib.hid hk1
      clear a1 a2 hu2 hk1
      go_wp2_with fail
      refine (skip_any w1 R q u1 [32] u2 sh k1 true hL1.rdr HA.out HB.out).mono ?_
      rintro e w2 ⟨rfl, rfl⟩
      have hL2 := hL1.cut (u2 := u2) (by rw [HU.out]; simp)
      go_wp2_with fail
      refine (HN.out k1 (by rw [HK.out]; omega) (by rw [HK.out]; have := hrd.2.2; omega) _ R q m ps1 D1 u2 sh hL2.pool hL2.rdr (Nat.le_trans hL2.len hu) hsh).mono ?_
      rintro e w3 ⟨ps3, D3, u3, k3, hL3, hor⟩
      have hL4 := hL2.trans hL3
      rcases hor with ⟨r, pr, hrd', hk3, hhas', he⟩ | ⟨hno, he⟩
      · obtain rfl := he
        by_cases hcl : ∃ u4, u3 = 41 :: u4
        · obtain ⟨u4, hu4⟩ := hcl
          obtain ⟨a1, a2⟩ := hasPrefix_cons 41 u4
          rw [← hu4] at a1 a2
          have HA' := Lib.hid a1
          have HB' := Lib.hid a2
          have HU' := Lib.hid hu4
          have HK' := Lib.hid hk3
          clear a1 a2 hu4 hk3
          go_wp2_with fail
          refine (skip_any w3 R q u3 [41] u4 sh k3 true hL4.rdr HA'.out HB'.out).mono ?_
          rintro e w4 ⟨rfl, rfl⟩
          have hL5 := hL4.cut (u2 := u4) (by rw [HU'.out]; simp)
          have c0 : (w3.setCell ⟨R, 0, none⟩ (S u4)).cell? ⟨R, 2, none⟩ = some (Ptr q) := (hL5.rdr.cell 2).trans rfl
          generalize w3.setCell ⟨R, 0, none⟩ (S u4) = w4 at hL5 c0 ⊢
          go_wp2_with fail
          refine (parts_any w4 q m ps3 D3 f (l.shift sh) (r.shift sh) pl pr hL5.pool (hhas.grew hL3.grew) hhas' ?_).mono ?_
          · rw [Ty.size_shift, Ty.size_shift]
            have h1 := hrd.2.2
            have h2 := hrd'.2.2
            omega
          rintro e w5 ⟨ps5, D5, p, hm⟩
          obtain rfl := hm.ret
          have hL6 := hL5.made hm
          go_wp2
          go_ret
          refine ⟨ps5, D5, u4, k3, hL6, .inl ⟨l, r, p, ⟨?_, hrd.2.1, hrd'.2.1, ?_⟩, ?_, hm.has, rfl⟩⟩
          · rw [hrd.1, HU.out, hrd'.1, HU'.out]
          · have h2 := hrd'.2.2
            rw [HK.out] at h2
            omega
          · rw [HK'.out, HK.out]
        · have hn := hasPrefix_not 41 u3 (fun r e => hcl ⟨r, e⟩)
          have HA' := Lib.hid hn.1
          have HB' := Lib.hid hn.2
          have HK' := Lib.hid hk3
          clear hn hk3
          go_wp2_with fail
          refine (skip_any w3 R q u3 [41] u3 sh k3 false hL4.rdr HA'.out HB'.out).mono ?_
          rintro e w4 ⟨rfl, rfl⟩
          have hL5 := hL4.cut (u2 := u3) (Nat.le_refl _)
          go_wp2
          go_ret
          refine ⟨ps3, D3, u3, k3, hL5, .inr ⟨fun l' r' rest h => hcl ?_, rfl⟩⟩
          obtain ⟨rfl, e1⟩ := hrd.unique (t' := l') (r' := 32 :: (r'.text ++ 41 :: rest)) ⟨h.1, h.2.1, by have := h.2.2.2; omega⟩
          rw [HU.out] at e1
          injection e1 with _ e1
          obtain ⟨rfl, e2⟩ := hrd'.unique (t' := r') (r' := 41 :: rest) ⟨e1, h.2.2.1, by rw [HK.out]; exact h.2.2.2⟩
          exact ⟨rest, e2⟩
      · obtain rfl := he
        go_wp2
        go_ret
        refine ⟨ps3, D3, u3, k3, hL4, .inr ⟨fun l' r' rest h => ?_, rfl⟩⟩
        obtain ⟨rfl, e1⟩ := hrd.unique (t' := l') (r' := 32 :: (r'.text ++ 41 :: rest)) ⟨h.1, h.2.1, by have := h.2.2.2; omega⟩
        rw [HU.out] at e1
        injection e1 with _ e1
        exact hno r' (41 :: rest) ⟨e1, h.2.2.1, by rw [HK.out]; exact h.2.2.2⟩
    · have hn := hasPrefix_not 32 u1 (fun r e => hsp ⟨r, e⟩)
      have HA := Lib.hid hn.1
      have HB := Lib.hid hn.2
      have HK := Lib.hid hk1
      clear hn hk1
      go_wp2_with fail
      refine (skip_any w1 R q u1 [32] u1 sh k1 false hL1.rdr HA.out HB.out).mono ?_
      rintro e w2 ⟨rfl, rfl⟩
      have hL2 := hL1.cut (u2 := u1) (Nat.le_refl _)
      go_wp2
      go_ret
      refine ⟨ps1, D1, u1, k1, hL2, .inr ⟨fun l' r' rest h => hsp ?_, rfl⟩⟩
      obtain ⟨rfl, e1⟩ := hrd.unique (t' := l') (r' := 32 :: (r'.text ++ 41 :: rest)) ⟨h.1, h.2.1, by have := h.2.2.2; omega⟩
      exact ⟨_, e1⟩
  · obtain rfl := he
    go_wp2_with fail
    go_ret
    exact ⟨ps1, D1, u1, k1, hL1, .inr ⟨fun l r rest h => hno l (32 :: (r.text ++ 41 :: rest)) ⟨h.1, h.2.1, by have := h.2.2.2; omega⟩, rfl⟩⟩
end Go.Proofs.YtloecimlimoanaaGreatDoor

/- Read -/
namespace Go.Proofs.YtloecimlimoanaaGreatDoor
open Go.RowKit Go.ChangeMaps

theorem rdr_cells {w : World} {R q : Nat} {u : List UInt8} {sh k : Nat} (h : Rdr w R q u sh k) :
    w.cell? ⟨R, 2, none⟩ = some (Ptr q) ∧ w.cell? ⟨R, 0, none⟩ = some (S u) ∧ w.cell? ⟨R, 3, none⟩ = some (.int .i64 sh) ∧ w.cell? ⟨R, 1, none⟩ = some (.int .i64 k) ∧
    (∀ i, w.frozen? ⟨R, i, none⟩ = false) :=
  ⟨(h.cell 2).trans rfl, (h.cell 0).trans rfl, (h.cell 3).trans rfl, (h.cell 1).trans rfl, h.frozen⟩

theorem Left.start {w : World} {R q m : Nat} {ps : List Nat} {D : List Ty} {u : List UInt8} {sh k : Nat} (hP : Pool w q m ps D) (hR : Rdr w R q u sh k) : Left w R q m ps D u sh w ps D u k :=
  ⟨hP, Grew.refl _ _ _, hR, Fr.refl _ _, Nat.le_refl _⟩

theorem Pool.drew {w : World} {q m : Nat} {ps : List Nat} {D : List Ty} (h : Pool w q m ps D) : Pool w.drew q m ps D := h.keep fun _ _ _ => rfl
theorem Left.drew {w w1 : World} {R q m : Nat} {ps ps1 : List Nat} {D D1 : List Ty} {u u1 : List UInt8} {sh k1 : Nat}
    (h : Left w R q m ps D u sh w1 ps1 D1 u1 k1) : Left w R q m ps D u sh w1.drew ps1 D1 u1 k1 := ⟨h.pool.drew, h.grew, h.rdr, h.fr.drew, h.len⟩

/-- one atom more is counted -/
theorem Left.count {w w1 : World} {R q m : Nat} {ps ps1 : List Nat} {D D1 : List Ty} {u u1 : List UInt8} {sh k1 k2 : Nat}
    (h : Left w R q m ps D u sh w1 ps1 D1 u1 k1) : Left w R q m ps D u sh (w1.setCell ⟨R, 1, none⟩ (.int .i64 k2)) ps1 D1 u1 k2 :=
  ⟨h.pool.setR h.rdr 1 _, h.grew, by have := Blk.set_ h.rdr 1 (.int .i64 k2); exact this, h.fr.setCell (.inl (.inr rfl)) _, h.len⟩

theorem hasPrefix_three (a b c : UInt8) (u : List UInt8) : Lib.hasPrefix (a :: b :: c :: u) [a, b, c] = true ∧ Lib.trimPrefix (a :: b :: c :: u) [a, b, c] = u := by
  simp [Lib.hasPrefix, Lib.trimPrefix]

theorem hasPrefix_three_not (a b c : UInt8) (u : List UInt8) (h : ∀ r, u ≠ a :: b :: c :: r) : Lib.hasPrefix u [a, b, c] = false ∧ Lib.trimPrefix u [a, b, c] = u := by
  have : Lib.hasPrefix u [a, b, c] = false := by
    rw [Bool.eq_false_iff]
    intro hp
    unfold Lib.hasPrefix at hp
    obtain ⟨r, hr⟩ := List.isPrefixOf_iff_prefix.1 hp
    exact h r (by rw [← hr]; rfl)
  exact ⟨this, by simp [Lib.trimPrefix, this]⟩

/-- What stands at the front of a type's text. -/
theorem Ty.Rd.front {u : List UInt8} {k : Nat} {t : Ty} {r : List UInt8} (h : Ty.Rd u k t r) : k + 1 ≤ 40 ∧ ((∃ i, i < 25 ∧ t = .v i ∧ u = Ty.letter i :: r) ∨ (t = .o ∧ u = 111 :: r) ∨
    ∃ f a b, t = .n f a b ∧ u = 40 :: Ty.sign f :: 32 :: (a.text ++ 32 :: (b.text ++ 41 :: r)) ∧ Rd2 (a.text ++ 32 :: (b.text ++ 41 :: r)) (k + 1) a b r) := by
  obtain ⟨h1, h2, h3⟩ := h
  have hp := Ty.size_pos t
  refine ⟨by omega, ?_⟩
  cases t with
  | v i => exact .inl ⟨i, h2, rfl, h1⟩
  | o => exact .inr (.inl ⟨rfl, h1⟩)
  | n f a b =>
    refine .inr (.inr ⟨f, a, b, rfl, by rw [h1]; simp [Ty.text], rfl, h2.1, h2.2, ?_⟩)
    simp [Ty.size] at h3; omega

theorem Ty.Rd.of2 {u : List UInt8} {k : Nat} {f : Bool} {a b : Ty} {r : List UInt8} (h : Rd2 u (k + 1) a b r) : Ty.Rd (40 :: Ty.sign f :: 32 :: u) k (.n f a b) r := by
  obtain ⟨rfl, h2, h3, h4⟩ := h
  exact ⟨by simp [Ty.text], ⟨h2, h3⟩, by simp [Ty.size]; omega⟩

theorem next_end (w : World) (R q m : Nat) (ps : List Nat) (D : List Ty) (u : List UInt8) (sh k : Nat) (hP : Pool w q m ps D) (hR : Rdr w R q u sh k) (hk : k ≤ 1000)
    (h : u = [] ∨ 40 < k + 1) :
    Calls Tryz.prog 68 #[Ptr R] w fun e w' => NextPost w R q m ps D u sh k e w' := by
  obtain ⟨c0, c1, c2, c3, fz⟩ := rdr_cells hR
  have f3 := fz 1
  have hlt := hR.lt
  have b1 : (0 : Int) ≤ k := by omega
  have b2 : (k : Int) ≤ 1000 := by omega
  have hend : NextPost w R q m ps D u sh k (.returned (.pointer none)) (w.setCell ⟨R, 1, none⟩ (.int .i64 ((k : Int) + 1))) := by
    refine ⟨ps, D, u, k + 1, (Left.start hP hR).count, .inr ⟨fun t r hr => ?_, rfl⟩⟩
    have hf := hr.front
    rcases h with rfl | h
    · rcases hf.2 with ⟨_, _, _, e⟩ | ⟨_, e⟩ | ⟨_, _, _, _, e, _⟩ <;> cases e
    · omega
  have HE := Lib.hid hend
  clear hend fz
  by_cases hu : u = []
  · subst hu
    clear h
    go_enter Tryz.func68, Tryz.ntmps68
    go_wp2_with fail
    go_ret
    exact HE.out
  · have h40 : 40 < (k : Int) + 1 := by rcases h with h | h; exact absurd h hu; omega
    have hb : decide (40 < (k : Int) + 1) = true := by simpa using h40
    have hs : u.isEmpty = false := by cases u; exact absurd rfl hu; rfl
    clear h
    go_enter Tryz.func68, Tryz.ntmps68
    go_wp2_with fail
    go_ret
    exact HE.out

theorem extract_cons (c : UInt8) (u : List UInt8) : (ByteArray.mk (c :: u).toArray).extract 1 (u.length + 1) = ⟨u.toArray⟩ := by
  apply ByteArray.ext
  simp [ByteArray.data_extract]

theorem ix_call (c : UInt8) (u : List UInt8) (h : 0 < (ByteArray.mk (c :: u).toArray).size) (w : World) (v : Int) (hv : Lib.indexByte letters c = v) :
    Calls Tryz.prog 86 #[.string ⟨#[97, 98, 99, 100, 101, 102, 103, 104, 105, 106, 107, 108, 109, 110, 112, 113, 114, 115, 116, 117, 118, 119, 120, 121, 122]⟩, .int .u8 ((ByteArray.mk (c :: u).toArray)[0]'h).toNat] w
      fun e w' => e = .returned (.int .i64 v) ∧ w = w' := by
  refine (Tryz.strings_IndexByte _ _ _).mono ?_
  rintro e w' ⟨rfl, rfl⟩
  refine ⟨?_, rfl⟩
  have e1 : ((((ByteArray.mk (c :: u).toArray)[0]'h).toNat : Int)).toNat.toUInt8 = c := by
    rw [Int.toNat_natCast]
    show UInt8.ofNat _ = c
    rw [UInt8.ofNat_toNat]
    rfl
  rw [e1]
  exact congrArg (fun z => Ending.returned (.int .i64 z)) hv

set_option maxRecDepth 100000 in
set_option maxHeartbeats 1000000 in
theorem next_letter (w : World) (R q m : Nat) (ps : List Nat) (D : List Ty) (c : UInt8) (u : List UInt8) (sh k : Nat) (hP : Pool w q m ps D) (hR : Rdr w R q (c :: u) sh k) (hk : k + 1 ≤ 40)
    (hu : u.length ≤ 6000) (hsh : sh ≤ 100) (i : Nat) (hi : i < 25) (hc : c = Ty.letter i) (hx : Lib.indexByte letters c = (i : Int)) :
    Calls Tryz.prog 68 #[Ptr R] w fun e w' => NextPost w R q m ps D (c :: u) sh k e w' := by
  obtain ⟨c0, c1, c2, c3, fz⟩ := rdr_cells hR
  have f3 := fz 1
  have f1 := fz 0
  have hlt := hR.lt
  have b1 : (0 : Int) ≤ k := by omega
  have b2 : (k : Int) + 1 ≤ 40 := by omega
  have b3 : (0 : Int) ≤ i := by omega
  have b4 : (i : Int) < 25 := by omega
  have b5 : (0 : Int) ≤ sh := by omega
  have b6 : (sh : Int) ≤ 100 := by omega
  have hb : decide (40 < (k : Int) + 1) = false := by simp; omega
  have HX := Lib.hid hx
  have HC := Lib.hid hc
  clear hx hc fz
  go_enter Tryz.func68, Tryz.ntmps68
  go_wp2_with fail
  refine (ix_call c u _ _ (i : Int) HX.out).mono ?_
  rintro e w' ⟨rfl, rfl⟩
  go_wp2_with fail
  have hL : Left w R q m ps D (c :: u) sh ((w.setCell ⟨R, 1, none⟩ (.int .i64 ((k : Int) + 1))).setCell ⟨R, 0, none⟩ (S u)) ps D u (k + 1) :=
    ((Left.start hP hR).count (k2 := k + 1)).cut (u2 := u) (by simp)
  rw [extract_cons]
  generalize ((w.setCell ⟨R, 1, none⟩ (.int .i64 ((k : Int) + 1))).setCell ⟨R, 0, none⟩ (S u)) = w2 at hL ⊢
  clear c0 c1 c2 c3 f3 f1 hlt
  obtain ⟨c0, c1, c2, c3, fz⟩ := rdr_cells hL.rdr
  clear fz
  have hw : IntKind.i64.wrap ((sh : Int) + (i : Int)) = ((sh + i : Nat) : Int) := by rw [IntWalk.i64_in _ (by omega)]; omega
  refine wp_region_still_tail 10 (by kernel_rfl) (by kernel_rfl) ?_
  change wpStill _ _ (World.drew _) (fun a' => wpList _ _ _ _ a' (World.drew _)) _ _
  simp only [List.take_succ_cons, List.take_zero, List.drop_succ_cons, List.drop_zero]
  repeat still_step
  refine wpStill_nil ?_
  clear hw
  go_wp2_with fail
  refine (variable_any w2.drew q m ps D (sh + i) ?_).mono ?_
  · exact hL.pool.drew
  rintro e w3 ⟨ps3, D3, p, hm⟩
  obtain rfl := hm.ret
  have hL2 : Left w R q m ps D (c :: u) sh w3 ps3 D3 u (k + 1) := hL.drew.made hm
  go_wp2
  go_ret
  exact ⟨ps3, D3, u, k + 1, hL2, .inl ⟨.v i, p, ⟨by rw [HC.out]; rfl, hi, by simp [Ty.size]; omega⟩, rfl, hm.has, rfl⟩⟩

set_option maxRecDepth 100000 in
set_option maxHeartbeats 1000000 in
theorem next_other (w : World) (R q m : Nat) (ps : List Nat) (D : List Ty) (c : UInt8) (u : List UInt8) (sh k : Nat) (hP : Pool w q m ps D) (hR : Rdr w R q (c :: u) sh k) (hk : k + 1 ≤ 40)
    (hu : u.length + 1 ≤ 6000) (hsh : sh ≤ 100) (hc : ∀ i, i < 25 → c ≠ Ty.letter i) (hx : Lib.indexByte letters c = -1) (hN : ∀ k', k + 1 ≤ k' → k' ≤ 1000 → NextSaid k') :
    Calls Tryz.prog 68 #[Ptr R] w fun e w' => NextPost w R q m ps D (c :: u) sh k e w' := by
  obtain ⟨c0, c1, c2, c3, fz⟩ := rdr_cells hR
  have f3 := fz 1
  have f1 := fz 0
  have hlt := hR.lt
  have b1 : (0 : Int) ≤ k := by omega
  have b2 : (k : Int) + 1 ≤ 40 := by omega
  have hb : decide (40 < (k : Int) + 1) = false := by simp; omega
  have HX := Lib.hid hx
  have HC := Lib.hid hc
  have HN := Lib.hid hN
  clear hx hc fz hN
  have hL0 : Left w R q m ps D (c :: u) sh (w.setCell ⟨R, 1, none⟩ (.int .i64 ((k : Int) + 1))) ps D (c :: u) (k + 1) := (Left.start hP hR).count (k2 := k + 1)
  go_enter Tryz.func68, Tryz.ntmps68
  go_wp2_with fail
  refine (ix_call c u _ _ (-1) HX.out).mono ?_
  rintro e w' ⟨rfl, rfl⟩
  generalize (w.setCell ⟨R, 1, none⟩ (.int .i64 ((k : Int) + 1))) = w1 at hL0 ⊢
  clear c0 c1 c2 c3 f3 f1 hlt b1 b2 hb
  by_cases h111 : c = 111
  · subst h111
    obtain ⟨a1, a2⟩ := hasPrefix_cons 111 u
    have HA := Lib.hid a1
    have HB := Lib.hid a2
    clear a1 a2
    go_wp2_with fail
    refine (skip_any w1 R q (111 :: u) [111] u sh (k + 1) true hL0.rdr HA.out HB.out).mono ?_
    rintro e w2 ⟨rfl, rfl⟩
    have hL1 := hL0.cut (u2 := u) (by simp)
    generalize w1.setCell ⟨R, 0, none⟩ (S u) = w2 at hL1 ⊢
    obtain ⟨c0, c1, c2, c3, fz⟩ := rdr_cells hL1.rdr
    clear fz
    go_wp2_with fail
    refine (truth_any w2 q m ps D hL1.pool).mono ?_
    rintro e w3 ⟨ps3, D3, p, hm⟩
    obtain rfl := hm.ret
    have hL2 := hL1.made hm
    clear c0 c1 c2 c3
    go_wp2
    go_ret
    exact ⟨ps3, D3, u, k + 1, hL2, .inl ⟨.o, p, ⟨rfl, trivial, by simp [Ty.size]; omega⟩, rfl, hm.has, rfl⟩⟩
  · have hn := hasPrefix_not 111 (c :: u) (fun r e => h111 (by injection e))
    have HA := Lib.hid hn.1
    have HB := Lib.hid hn.2
    clear hn
    go_wp2_with fail
    refine (skip_any w1 R q (c :: u) [111] (c :: u) sh (k + 1) false hL0.rdr HA.out HB.out).mono ?_
    rintro e w2 ⟨rfl, rfl⟩
    have hL1 := hL0.cut (u2 := c :: u) (Nat.le_refl _)
    generalize w1.setCell ⟨R, 0, none⟩ (S (c :: u)) = w2 at hL1 ⊢
    by_cases hfun : ∃ u2, c :: u = 40 :: 62 :: 32 :: u2
    · obtain ⟨u2, hu2⟩ := hfun
      obtain ⟨a1, a2⟩ := hasPrefix_three 40 62 32 u2
      rw [← hu2] at a1 a2
      have HA := Lib.hid a1
      have HB := Lib.hid a2
      have HU := Lib.hid hu2
      clear a1 a2 hu2
      go_wp2_with fail
      refine (skip_any w2 R q (c :: u) [40, 62, 32] u2 sh (k + 1) true hL1.rdr HA.out HB.out).mono ?_
      rintro e w3 ⟨rfl, rfl⟩
      have hlen : u2.length ≤ (c :: u).length := by rw [HU.out]; simp; omega
      have hL2 := hL1.cut (u2 := u2) hlen
      have hlen' : u2.length ≤ 6000 := Nat.le_trans hlen (by simpa using hu)
      generalize w2.setCell ⟨R, 0, none⟩ (S u2) = w3 at hL2 ⊢
      go_wp2_with fail
      refine (nextParts_any (k + 1) (by omega) HN.out w3 R q m ps D u2 true sh hL2.pool hL2.rdr hlen' hsh).mono ?_
      rintro e w4 ⟨ps4, D4, u4, k4, hL3, hor⟩
      have hL4 := hL2.trans hL3
      rcases hor with ⟨l, r, p, hrd, hk4, hhas, he⟩ | ⟨hno, he⟩
      · obtain rfl := he
        have HK := Lib.hid hk4
        clear hk4
        go_wp2
        go_ret
        exact ⟨ps4, D4, u4, k4, hL4, .inl ⟨.n true l r, p, by rw [HU.out]; exact Ty.Rd.of2 (f := true) hrd, by rw [HK.out]; simp [Ty.size]; omega, hhas, rfl⟩⟩
      · obtain rfl := he
        go_wp2
        go_ret
        refine ⟨ps4, D4, u4, k4, hL4, .inr ⟨fun t r hr => ?_, rfl⟩⟩
        rcases hr.front.2 with ⟨i, hi, _, e⟩ | ⟨_, e⟩ | ⟨f, a, b, _, e, h2⟩
        · injection e with e; exact HC.out i hi e
        · injection e with e; exact h111 e
        · rw [HU.out] at e
          simp at e
          exact hno a b r (by rw [e.2]; exact h2)
    · have hn := hasPrefix_three_not 40 62 32 (c :: u) (fun r e => hfun ⟨r, e⟩)
      have HA := Lib.hid hn.1
      have HB := Lib.hid hn.2
      clear hn
      go_wp2_with fail
      refine (skip_any w2 R q (c :: u) [40, 62, 32] (c :: u) sh (k + 1) false hL1.rdr HA.out HB.out).mono ?_
      rintro e w3 ⟨rfl, rfl⟩
      have hL2 := hL1.cut (u2 := c :: u) (Nat.le_refl _)
      generalize w2.setCell ⟨R, 0, none⟩ (S (c :: u)) = w3 at hL2 ⊢
      by_cases hpair : ∃ u2, c :: u = 40 :: 42 :: 32 :: u2
      · obtain ⟨u2, hu2⟩ := hpair
        obtain ⟨a1, a2⟩ := hasPrefix_three 40 42 32 u2
        rw [← hu2] at a1 a2
        have HA := Lib.hid a1
        have HB := Lib.hid a2
        have HU := Lib.hid hu2
        clear a1 a2 hu2
        go_wp2_with fail
        refine (skip_any w3 R q (c :: u) [40, 42, 32] u2 sh (k + 1) true hL2.rdr HA.out HB.out).mono ?_
        rintro e w4 ⟨rfl, rfl⟩
        have hlen : u2.length ≤ (c :: u).length := by rw [HU.out]; simp; omega
        have hL3 := hL2.cut (u2 := u2) hlen
        have hlen' : u2.length ≤ 6000 := Nat.le_trans hlen (by simpa using hu)
        generalize w3.setCell ⟨R, 0, none⟩ (S u2) = w4 at hL3 ⊢
        go_wp2_with fail
        refine (nextParts_any (k + 1) (by omega) HN.out w4 R q m ps D u2 false sh hL3.pool hL3.rdr hlen' hsh).mono ?_
        rintro e w5 ⟨ps5, D5, u5, k5, hL4, hor⟩
        have hL5 := hL3.trans hL4
        rcases hor with ⟨l, r, p, hrd, hk5, hhas, he⟩ | ⟨hno, he⟩
        · obtain rfl := he
          have HK := Lib.hid hk5
          clear hk5
          go_wp2
          go_ret
          exact ⟨ps5, D5, u5, k5, hL5, .inl ⟨.n false l r, p, by rw [HU.out]; exact Ty.Rd.of2 (f := false) hrd, by rw [HK.out]; simp [Ty.size]; omega, hhas, rfl⟩⟩
        · obtain rfl := he
          go_wp2
          go_ret
          refine ⟨ps5, D5, u5, k5, hL5, .inr ⟨fun t r hr => ?_, rfl⟩⟩
          rcases hr.front.2 with ⟨i, hi, _, e⟩ | ⟨_, e⟩ | ⟨f, a, b, _, e, h2⟩
          · injection e with e; exact HC.out i hi e
          · injection e with e; exact h111 e
          · rw [HU.out] at e
            simp at e
            exact hno a b r (by rw [e.2]; exact h2)
      · have hn := hasPrefix_three_not 40 42 32 (c :: u) (fun r e => hpair ⟨r, e⟩)
        have HA := Lib.hid hn.1
        have HB := Lib.hid hn.2
        clear hn
        go_wp2_with fail
        refine (skip_any w3 R q (c :: u) [40, 42, 32] (c :: u) sh (k + 1) false hL2.rdr HA.out HB.out).mono ?_
        rintro e w4 ⟨rfl, rfl⟩
        have hL3 := hL2.cut (u2 := c :: u) (Nat.le_refl _)
        generalize w3.setCell ⟨R, 0, none⟩ (S (c :: u)) = w4 at hL3 ⊢
        go_wp2
        go_ret
        refine ⟨ps, D, c :: u, k + 1, hL3, .inr ⟨fun t r hr => ?_, rfl⟩⟩
        rcases hr.front.2 with ⟨i, hi, _, e⟩ | ⟨_, e⟩ | ⟨f, a, b, _, e, h2⟩
        · injection e with e; exact HC.out i hi e
        · injection e with e; exact h111 e
        · cases f
          · exact hpair ⟨_, e⟩
          · exact hfun ⟨_, e⟩

theorem next_any (fuel : Nat) : ∀ k, 41 ≤ k + fuel → k ≤ 1000 → NextSaid k := by
  induction fuel with
  | zero =>
    intro k hk hk' w R q m ps D u sh hP hR _ _
    exact next_end w R q m ps D u sh k hP hR hk' (.inr (by omega))
  | succ n ih =>
    intro k hk hk' w R q m ps D u sh hP hR hu hsh
    by_cases h : u = [] ∨ 40 < k + 1
    · exact next_end w R q m ps D u sh k hP hR hk' h
    · cases u with
      | nil => exact absurd (.inl rfl) h
      | cons c u =>
        have hk1 : k + 1 ≤ 40 := by omega
        simp at hu
        rcases ix_cases c with ⟨i, hi, hc, hx⟩ | ⟨hc, hx⟩
        · exact next_letter w R q m ps D c u sh k hP hR hk1 (by omega) hsh i hi hc hx
        · refine next_other w R q m ps D c u sh k hP hR hk1 (by omega) hsh hc hx fun k' h' h2' => ih k' (by omega) h2'
end Go.Proofs.YtloecimlimoanaaGreatDoor

/- Impl -/
namespace Go.Proofs.YtloecimlimoanaaGreatDoor
open Go.RowKit Go.ChangeMaps

def ReadPost (w : World) (q m : Nat) (ps : List Nat) (D : List Ty) (s : List UInt8) (sh : Nat) (e : Ending) (w' : World) : Prop :=
  ∃ ps' D', Pool w' q m ps' D' ∧ Grew w.heap.size ps D ps' D' ∧ Fr (One m) w w' ∧
    ((∃ t p, Ty.Is s t ∧ Has ps' D' (t.shift sh) p ∧ e = .returned (Ptr p)) ∨ ((∀ t, ¬ Ty.Is s t) ∧ e = .returned (.pointer none)))

theorem Ty.Is.rd {s : List UInt8} {t : Ty} (h : Ty.Is s t) : Ty.Rd s 0 t [] := ⟨by simpa using h.1, h.2.1, by simpa using h.2.2⟩
theorem Ty.Rd.is {s : List UInt8} {t : Ty} (h : Ty.Rd s 0 t []) : Ty.Is s t := ⟨by simpa using h.1, h.2.1, by simpa using h.2.2⟩
theorem Ty.Is.short {s : List UInt8} {t : Ty} (h : Ty.Is s t) : s.length ≤ 240 := by
  have := Ty.length_text t
  rw [h.1]; have := h.2.2; omega

theorem two_one {w w' : World} {m : Nat} {o : Obj} (h : Fr (Two m w.heap.size) (w.alloc o) w') : Fr (One m) w w' :=
  ((Fr.refl (One m) w).alloc o).then_ h (fun i hi ht => by rcases ht with rfl | rfl; exact rfl; omega)

set_option maxHeartbeats 1000000 in
theorem read_any (w : World) (q m : Nat) (ps : List Nat) (D : List Ty) (s : List UInt8) (sh : Nat) (hP : Pool w q m ps D) (hsh : sh ≤ 100) (hs : s.length ≤ maxLen) :
    Calls Tryz.prog 44 #[Ptr q, S s, .int .i64 sh] w fun e w' => ReadPost w q m ps D s sh e w' := by
  unfold maxLen at hs
  have hbig : 6000 < s.length → ∀ t, ¬ Ty.Is s t := fun h t ht => by have := ht.short; omega
  have HB := Lib.hid hbig
  clear hbig
  by_cases hl : 6000 < s.length
  · have hb : decide ((6000 : Int) < (s.length : Int)) = true := by simp; omega
    go_enter Tryz.func44, Tryz.ntmps44
    go_wp2_with fail
    go_ret
    exact ⟨ps, D, hP, Grew.refl _ _ _, Fr.refl _ _, .inr ⟨HB.out hl, rfl⟩⟩
  · have hb : decide ((6000 : Int) < (s.length : Int)) = false := by simp; omega
    have hP0 : Pool (w.alloc (.cells #[S s, .int .i64 0, Ptr q, .int .i64 sh] 131)) q m ps D :=
      hP.fr ((Fr.refl No w).alloc _) (fun h => h) (fun h => h) (fun _ _ h => h)
    have hR0 : Rdr (w.alloc (.cells #[S s, .int .i64 0, Ptr q, .int .i64 sh] 131)) w.heap.size q s sh 0 := Blk.new _ _ _
    have hml : m < w.heap.size := by obtain ⟨f, h, _⟩ := hP.map; exact h.lt
    go_enter Tryz.func44, Tryz.ntmps44
    go_wp2_with fail
    refine (next_any 41 0 (by omega) (by omega) _ w.heap.size q m ps D s sh hP0 hR0 (by omega) hsh).mono ?_
    rintro e w1 ⟨ps1, D1, u1, k1, hL, hor⟩
    have c1 := (rdr_cells hL.rdr).2.1
    have hg : Grew w.heap.size ps D ps1 D1 := hL.grew.mono (by simp)
    have hf : Fr (One m) w w1 := two_one hL.fr
    have hp := hL.pool
    clear hL hP0 hR0
    by_cases hu : u1 = []
    · subst hu
      rcases hor with ⟨t, p, hrd, _, hhas, he⟩ | ⟨hno, he⟩
      · obtain rfl := he
        go_wp2
        go_ret
        exact ⟨ps1, D1, hp, hg, hf, .inl ⟨t, p, hrd.is, hhas, rfl⟩⟩
      · obtain rfl := he
        go_wp2
        go_ret
        exact ⟨ps1, D1, hp, hg, hf, .inr ⟨fun t ht => hno t [] ht.rd, rfl⟩⟩
    · have hs1 : u1.isEmpty = false := by cases u1; exact absurd rfl hu; rfl
      have hfin : ∀ t, ¬ Ty.Is s t := by
        intro t ht
        rcases hor with ⟨t', p, hrd, _, _, _⟩ | ⟨hno, _⟩
        · exact hu (hrd.unique ht.rd).2
        · exact hno t [] ht.rd
      have HF := Lib.hid hfin
      have hret : ∃ v, e = .returned v := by rcases hor with ⟨t', p, _, _, _, he⟩ | ⟨_, he⟩ <;> exact ⟨_, he⟩
      clear hor hfin
      obtain ⟨v, rfl⟩ := hret
      go_wp2
      go_ret
      exact ⟨ps1, D1, hp, hg, hf, .inr ⟨HF.out, rfl⟩⟩

theorem pool_start (w : World) : Pool ((w.alloc (.map #[] 0)).alloc (.cells #[.map (some w.heap.size)] 126)) (w.heap.size + 1) w.heap.size [] [] where
  head := Blk.new_at _ _ _ (by simp)
  len := rfl
  nodup := List.nodup_nil
  node i t p h := by simp at h
  map := ⟨fun _ => none, (MapAt.made w encK).keep (Below.heap_alloc _ _ _ (by simp)), fun i t p k h => by simp at h, fun k v h => by cases h⟩

set_option maxHeartbeats 400000 in
theorem newPool_any (w : World) :
    Calls Tryz.prog 43 #[] w fun e w' => e = .returned (Ptr (w.heap.size + 1)) ∧
      (w.alloc (.map #[] 0)).alloc (.cells #[.map (some w.heap.size)] 126) = w' := by
  have hmm := @run_makeMap Tryz.prog
  go_enter Tryz.func43, Tryz.ntmps43
  go_wp2
  go_ret
  exact ⟨rfl, rfl⟩

/-- A function that answers a bool: whether P; of old memory nothing has turned. -/
def AnsB (P : Prop) (w : World) (e : Ending) (w' : World) : Prop := ∃ b : Bool, e = .returned (.bool b) ∧ (b = true ↔ P) ∧ Fr No w w'

def AnsSize (s : List UInt8) (w : World) (e : Ending) (w' : World) : Prop := ∃ n : Int, e = .returned (.int .i64 n) ∧ ((∃ t, Ty.Is s t ∧ n = t.size) ∨ ((∀ t, ¬ Ty.Is s t) ∧ n = -1)) ∧ Fr No w w'

theorem Has.blk {w : World} {q m : Nat} {ps : List Nat} {D : List Ty} {t : Ty} {p : Nat} (h : Has ps D t p) (hP : Pool w q m ps D) :
    ∃ x y i, Blk w p 97 #[S (sgn t), .int .i64 (num t), x, y, .int .i64 t.size, .int .i64 i] ∧ Kids ps D t x y := by
  obtain ⟨i, h1, h2⟩ := h
  obtain ⟨x, y, hb, hk⟩ := hP.node i t p h1 h2
  exact ⟨x, y, i, hb, hk⟩

end Go.Proofs.YtloecimlimoanaaGreatDoor
