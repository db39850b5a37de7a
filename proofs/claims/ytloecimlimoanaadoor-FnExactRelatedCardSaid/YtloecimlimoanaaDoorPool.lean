/- The pool of shared nodes in memory. -/
import Derived.Test.YtloecimlimoanaaDoorPre
import Derived.Test.YtloecimlimoanaaDoorTy
import Derived.Test.YtloecimlimoanaaDoorMapk
namespace Go.Proofs.YtloecimlimoanaaDoor
open Go.RowKit Go.ChangeMaps

structure Key where
  s : List UInt8
  a : Int
  b : Int
  deriving DecidableEq

def encK (k : Key) : Value := .agg #[S k.s, .int .i64 k.a, .int .i64 k.b]

abbrev encI (a : Int) : Value := .int .i64 a

theorem encK_inj {k k' : Key} (h : encK k = encK k') : k = k' := by
  obtain ⟨s, a, b⟩ := k
  obtain ⟨s', a', b'⟩ := k'
  simp [encK] at h
  obtain ⟨h1, h2, h3⟩ := h
  subst h1; subst h2; subst h3
  rfl

theorem fields_key : (Tryd.prog.fieldsOf 211).toList.map (fun f => (f.name, f.type, f.offset)) = [("sign", 9, 0), ("first", 3, 1), ("second", 3, 2)] := by kernel_rfl
theorem under_key : Tryd.prog.underlying 211 = some (.struct (Tryd.prog.fieldsOf 211)) := by kernel_rfl
theorem stood_key : Tryd.prog.stoodInHeld 211 = false := by kernel_rfl
theorem part_s (a b c : Value) (w : World) : (part 9 #[a, b, c] 0).run Tryd.prog w = .ok a w := by kernel_rfl
theorem part_1 (a b c : Value) (w : World) : (part 3 #[a, b, c] 1).run Tryd.prog w = .ok b w := by kernel_rfl
theorem part_2 (a b c : Value) (w : World) : (part 3 #[a, b, c] 2).run Tryd.prog w = .ok c w := by kernel_rfl

theorem eqFields_three (d : Nat) (xs ys : Array Value) (fs : List Field) (h : fs.map (fun f => (f.name, f.type, f.offset)) = [("sign", 9, 0), ("first", 3, 1), ("second", 3, 2)])
    (s s' : ByteArray) (a b a' b' : Int) (hx : xs = #[.string s, .int .i64 a, .int .i64 b]) (hy : ys = #[.string s', .int .i64 a', .int .i64 b']) (w : World) :
    (Op.eqFields (d + 1) xs ys fs).run Tryd.prog w = .ok (s.toList == s'.toList && (a == a' && b == b')) w := by
  obtain ⟨f0, fs, rfl⟩ : ∃ f0 gs, fs = f0 :: gs := by cases fs with | nil => simp at h | cons f gs => exact ⟨f, gs, rfl⟩
  obtain ⟨f1, fs, rfl⟩ : ∃ f0 gs, fs = f0 :: gs := by cases fs with | nil => simp at h | cons f gs => exact ⟨f, gs, rfl⟩
  obtain ⟨f2, fs, rfl⟩ : ∃ f0 gs, fs = f0 :: gs := by cases fs with | nil => simp at h | cons f gs => exact ⟨f, gs, rfl⟩
  obtain rfl : fs = [] := by cases fs with | nil => rfl | cons f gs => simp at h
  simp only [List.map_cons, List.map_nil, List.cons.injEq, Prod.mk.injEq, and_true] at h
  obtain ⟨⟨n0, t0, o0⟩, ⟨n1, t1, o1⟩, n2, t2, o2⟩ := h
  subst hx; subst hy
  have h0 : (f0.name ≠ "_") := by rw [n0]; decide
  have h1 : (f1.name ≠ "_") := by rw [n1]; decide
  have h2 : (f2.name ≠ "_") := by rw [n2]; decide
  simp only [Op.eqFields, if_pos h0, if_pos h1, if_pos h2, t0, t1, t2, o0, o1, o2, part_s, part_1, part_2, Sem.run_bind, Sem.run_ite, Result.andThen_ok,
    run_equalIn_string w d _ _ _ Tryd.underlying9, run_equalIn_int w d _ _ _ _ _ Tryd.underlying3]
  cases s.toList == s'.toList <;> cases a == a' <;> cases b == b' <;> simp

theorem run_eq_key (s s' : List UInt8) (a b a' b' : Int) (w : World) :
    (Op.equal 211 (encK ⟨s, a, b⟩) (encK ⟨s', a', b'⟩)).run Tryd.prog w = .ok ((⟨s.toArray⟩ : ByteArray).toList == (⟨s'.toArray⟩ : ByteArray).toList && (a == a' && b == b')) w := by
  unfold Op.equal Op.maxDepth encK
  rw [run_equalIn_agg w 9999 _ _ _ under_key stood_key]
  exact eqFields_three 9998 _ _ _ fields_key ⟨s.toArray⟩ ⟨s'.toArray⟩ a b a' b' rfl rfl w

theorem eq_key (k k' : Key) (w : World) : ∃ r : Bool, (Op.equal 211 (encK k) (encK k')).run Tryd.prog w = .ok r w ∧ (r = true ↔ k = k') :=
  ⟨_, run_eq_key k.s k'.s k.a k.b k'.a k'.b w, by
    obtain ⟨s, a, b⟩ := k
    obtain ⟨s', a', b'⟩ := k'
    simp [ByteArray.toList_eq]⟩

theorem check_key (e : Bool) (k : Key) (w : World) : (Instr.checkKey e 10000 211 (encK k)).run Tryd.prog w = .ok () w := by
  obtain ⟨s, a, b⟩ := k
  unfold encK
  kernel_rfl

theorem key_kind : KeyKind Tryd.prog 211 encK where
  check := check_key
  find w k es hall := by
    have hask := find_asking (P := Tryd.prog) (kt := 211) w encK_inj (fun k k' => eq_key k k' w) k es 0 hall
    have hnow : Instr.findNow (.struct (Tryd.prog.fieldsOf 211)) (encK k) es 0 = if es = [] then some none else none := by
      cases es with
      | nil => rfl
      | cons e es => simp [Instr.findNow, Instr.sameNow]
    by_cases he : es = []
    · subst he
      exact Or.inl ⟨by simp [Instr.findKey, run_underlying under_key, hnow], by simp⟩
    · rcases hask with ⟨h1, h2⟩ | ⟨j, e, h1, h2, h3⟩
      · exact Or.inl ⟨by simp [Instr.findKey, run_underlying under_key, hnow, he, h1], h2⟩
      · exact Or.inr ⟨j, e, by simp [Instr.findKey, run_underlying under_key, hnow, he, h1], h2, h3⟩
  inj := encK_inj
  bits k := by rw [show (10000 : Nat) = 9999 + 1 from rfl, encK, Instr.sameBits]; simp [Instr.sameBits, beq_toListBytes]
/-! The pool. -/
def sgn : Ty → List UInt8
  | .v _ => []
  | .o => [111]
  | .n f _ _ => [Ty.sign f]
def num : Ty → Int
  | .v n => n
  | _ => 0

/-- What stands behind the parts of a type: pointers to older types of the pool. -/
def Kids (ps : List Nat) (D : List Ty) : Ty → Value → Value → Prop
  | .n _ l r, x, y => ∃ il ir pl pr : Nat, D[il]? = some l ∧ D[ir]? = some r ∧ ps[il]? = some pl ∧ ps[ir]? = some pr ∧ x = Ptr pl ∧ y = Ptr pr
  | _, x, y => x = .pointer none ∧ y = .pointer none

/-- The key under which a type is kept. -/
def KeyOf (D : List Ty) : Ty → Key → Prop
  | .v n, k => k = ⟨[], n, 0⟩
  | .o, k => k = ⟨[111], 0, 0⟩
  | .n f l r, k => ∃ il ir : Nat, D[il]? = some l ∧ D[ir]? = some r ∧ k = ⟨[Ty.sign f], il, ir⟩

def NodeAt (w : World) (ps : List Nat) (D : List Ty) (i : Nat) (t : Ty) (p : Nat) : Prop :=
  ∃ x y, Blk w p 146 #[S (sgn t), .int .i64 (num t), x, y, .int .i64 t.size, .int .i64 i] ∧ Kids ps D t x y

structure Pool (w : World) (q m : Nat) (ps : List Nat) (D : List Ty) : Prop where
  head : Blk w q 163 #[.map (some m)]
  len : ps.length = D.length
  nodup : D.Nodup
  node : ∀ (i : Nat) t p, D[i]? = some t → ps[i]? = some p → NodeAt w ps D i t p
  map : ∃ f, MapAt w encK m D.length f ∧ (∀ (i : Nat) t p k, D[i]? = some t → ps[i]? = some p → KeyOf D t k → f k = some (Ptr p)) ∧
    (∀ k v, f k = some v → ∃ (i : Nat) (t : Ty) (p : Nat), D[i]? = some t ∧ ps[i]? = some p ∧ KeyOf D t k ∧ v = Ptr p)

theorem KeyOf.inj {D : List Ty} {t t' : Ty} {k : Key} (h : KeyOf D t k) (h' : KeyOf D t' k) : t = t' := by
  cases t with
  | v n => cases t' with
    | v n' => simp [KeyOf] at h h'; subst h; simp at h'; exact congrArg Ty.v (by omega)
    | o => simp [KeyOf] at h h'; subst h; simp at h'
    | n f l r => simp [KeyOf] at h h'; subst h; obtain ⟨_, _, _, _, e⟩ := h'; simp at e
  | o => cases t' with
    | v n' => simp [KeyOf] at h h'; subst h; simp at h'
    | o => rfl
    | n f l r => simp [KeyOf] at h h'; subst h; obtain ⟨_, _, _, _, e⟩ := h'; cases f <;> simp [Ty.sign] at e
  | n f l r => cases t' with
    | v n' => simp [KeyOf] at h h'; subst h'; obtain ⟨_, _, _, _, e⟩ := h; simp at e
    | o => simp [KeyOf] at h h'; subst h'; obtain ⟨_, _, _, _, e⟩ := h; cases f <;> simp [Ty.sign] at e
    | n f' l' r' =>
      obtain ⟨i, j, h1, h2, rfl⟩ := h
      obtain ⟨i', j', h1', h2', e⟩ := h'
      simp at e
      obtain ⟨e1, e2, e3⟩ := e
      have e2' : i = i' := by omega
      have e3' : j = j' := by omega
      subst e2'; subst e3'
      rw [h1] at h1'; rw [h2] at h2'
      injection h1' with h1'; injection h2' with h2'
      rw [Ty.sign_inj e1, h1', h2']

/-- A type whose parts lie in the pool has its key. -/
def Ready (D : List Ty) : Ty → Prop
  | .n _ l r => l ∈ D ∧ r ∈ D
  | _ => True

theorem KeyOf.of_ready {D : List Ty} {t : Ty} (h : Ready D t) : ∃ k, KeyOf D t k := by
  cases t with
  | v n => exact ⟨_, rfl⟩
  | o => exact ⟨_, rfl⟩
  | n f l r =>
    obtain ⟨i, hi⟩ := List.getElem?_of_mem h.1
    obtain ⟨j, hj⟩ := List.getElem?_of_mem h.2
    exact ⟨_, i, j, hi, hj, rfl⟩

theorem KeyOf.more {D D' : List Ty} {t : Ty} {k : Key} (h : KeyOf D t k) (hD : ∃ X, D' = D ++ X) : KeyOf D' t k := by
  obtain ⟨X, rfl⟩ := hD
  cases t with
  | v n => exact h
  | o => exact h
  | n f l r =>
    obtain ⟨i, j, h1, h2, e⟩ := h
    exact ⟨i, j, by rw [List.getElem?_append_left (List.getElem?_eq_some_iff.1 h1).1, h1], by rw [List.getElem?_append_left (List.getElem?_eq_some_iff.1 h2).1, h2], e⟩

theorem getElem?_more {α : Type} {D X : List α} {i : Nat} {t : α} (h : D[i]? = some t) : (D ++ X)[i]? = some t := by
  rw [List.getElem?_append_left (List.getElem?_eq_some_iff.1 h).1, h]

theorem Kids.more {ps : List Nat} {D : List Ty} {t : Ty} {x y : Value} (h : Kids ps D t x y) (X : List Nat) (Y : List Ty) : Kids (ps ++ X) (D ++ Y) t x y := by
  cases t with
  | v n => exact h
  | o => exact h
  | n f l r =>
    obtain ⟨i, j, pl, pr, h1, h2, h3, h4, h5, h6⟩ := h
    exact ⟨i, j, pl, pr, getElem?_more h1, getElem?_more h2, getElem?_more h3, getElem?_more h4, h5, h6⟩

/-- The pool's blocks. -/
theorem Pool.lt {w : World} {q m : Nat} {ps : List Nat} {D : List Ty} (h : Pool w q m ps D) {p : Nat} (hp : p ∈ ps) : p < w.heap.size := by
  obtain ⟨i, hi⟩ := List.getElem?_of_mem hp
  have hl := (List.getElem?_eq_some_iff.1 hi).1
  obtain ⟨x, y, hb, _⟩ := h.node i (D[i]'(by rw [← h.len]; exact hl)) p (List.getElem?_eq_getElem _) hi
  exact hb.lt

theorem Pool.keep {w w' : World} {q m : Nat} {ps : List Nat} {D : List Ty} (h : Pool w q m ps D) (e : ∀ k, k < w.heap.size → k = q ∨ k = m ∨ k ∈ ps → w'.heap[k]? = w.heap[k]?) : Pool w' q m ps D := by
  obtain ⟨h1, h2, h3, h4, f, h5, h6⟩ := h
  refine ⟨h1.keep (e q h1.lt (.inl rfl)), h2, h3, ?_, f, h5.keep (e m h5.lt (.inr (.inl rfl))), h6⟩
  intro i t p hi hp
  obtain ⟨x, y, hb, hk⟩ := h4 i t p hi hp
  exact ⟨x, y, hb.keep (e p hb.lt (.inr (.inr (List.mem_of_getElem? hp)))), hk⟩

/-- kept by whatever leaves all of its blocks alone -/
theorem Pool.fr {w w' : World} {q m : Nat} {ps : List Nat} {D : List Ty} {S : Nat → Prop} (h : Pool w q m ps D) (hf : Fr S w w') (hq : ¬ S q) (hm : ¬ S m) (hp : ∀ p ∈ ps, ¬ S p) : Pool w' q m ps D :=
  h.keep fun k hk hor => hf.block k hk (by rcases hor with rfl | rfl | hor; exact hq; exact hm; exact hp k hor)

theorem Pool.not_map {w : World} {q m : Nat} {ps : List Nat} {D : List Ty} (h : Pool w q m ps D) : q ≠ m ∧ m ∉ ps := by
  obtain ⟨h1, h2, h3, h4, f, h5, h6⟩ := h
  obtain ⟨es, clk, hb, _⟩ := h5
  refine ⟨h1.ne_map hb, fun hm => ?_⟩
  obtain ⟨i, hi⟩ := List.getElem?_of_mem hm
  have hl := (List.getElem?_eq_some_iff.1 hi).1
  obtain ⟨x, y, hbk, _⟩ := h4 i (D[i]'(by omega)) m (List.getElem?_eq_getElem _) hi
  exact hbk.ne_map hb rfl

/-- a new type is put behind the others -/
theorem Pool.push {w w' : World} {q m : Nat} {ps : List Nat} {D : List Ty} (h : Pool w q m ps D) {t : Ty} (ht : t ∉ D) (hr : Ready D t) {p : Nat} {x y : Value}
    (hb : Blk w' p 146 #[S (sgn t), .int .i64 (num t), x, y, .int .i64 t.size, .int .i64 D.length]) (hk : Kids ps D t x y)
    (hq : w'.heap[q]? = w.heap[q]?) (hps : ∀ k ∈ ps, w'.heap[k]? = w.heap[k]?)
    {f : Key → Option Value} {k : Key} (hkey : KeyOf D t k) (hf1 : ∀ (i : Nat) t p k, D[i]? = some t → ps[i]? = some p → KeyOf D t k → f k = some (Ptr p))
    (hf2 : ∀ k v, f k = some v → ∃ (i : Nat) (t : Ty) (p : Nat), D[i]? = some t ∧ ps[i]? = some p ∧ KeyOf D t k ∧ v = Ptr p)
    (hmap : MapAt w' encK m (D.length + 1) (updK f k (Ptr p))) : Pool w' q m (ps ++ [p]) (D ++ [t]) := by
  obtain ⟨h1, h2, h3, h4, _⟩ := h
  have split : ∀ i u p', (D ++ [t])[i]? = some u → (ps ++ [p])[i]? = some p' → (D[i]? = some u ∧ ps[i]? = some p') ∨ (i = D.length ∧ u = t ∧ p' = p) := by
    intro i u p' hu hp'
    rcases Nat.lt_or_ge i D.length with hl | hl
    · rw [List.getElem?_append_left hl] at hu
      rw [List.getElem?_append_left (by omega)] at hp'
      exact .inl ⟨hu, hp'⟩
    · have : i = D.length := by
        have := (List.getElem?_eq_some_iff.1 hu).1
        simp at this; omega
      subst this
      rw [List.getElem?_append_right (Nat.le_refl _)] at hu
      rw [List.getElem?_append_right (by omega)] at hp'
      simp [h2] at hu hp'
      exact .inr ⟨rfl, hu.symm, hp'.symm⟩
  have back : ∀ u k', KeyOf (D ++ [t]) u k' → (u ∈ D ∨ u = t) → KeyOf D u k' := by
    intro u k' hk' hu
    have hru : Ready D u := by
      rcases hu with hu | rfl
      · obtain ⟨i, hi⟩ := List.getElem?_of_mem hu
        have hl := (List.getElem?_eq_some_iff.1 hi).1
        obtain ⟨x', y', _, hkid⟩ := h4 i u (ps[i]'(by omega)) hi (List.getElem?_eq_getElem _)
        cases u with
        | v n => trivial
        | o => trivial
        | n f l r =>
          obtain ⟨i, j, pl, pr, g1, g2, _⟩ := hkid
          exact ⟨List.mem_of_getElem? g1, List.mem_of_getElem? g2⟩
      · exact hr
    obtain ⟨k2, hk2⟩ := KeyOf.of_ready hru
    have : k2 = k' := by
      have h2' := hk2.more ⟨[t], rfl⟩
      have hnd : (D ++ [t]).Nodup := by
        rw [List.nodup_append]
        exact ⟨h3, by simp, fun a ha b hb' => by simp at hb'; subst hb'; rintro rfl; exact ht ha⟩
      cases u with
      | v n => exact h2'.trans hk'.symm
      | o => exact h2'.trans hk'.symm
      | n f l r =>
        obtain ⟨i, j, g1, g2, rfl⟩ := h2'
        obtain ⟨i', j', g1', g2', rfl⟩ := hk'
        have e1 : i = i' := (List.getElem?_inj (List.getElem?_eq_some_iff.1 g1).1 hnd).1 (g1.trans g1'.symm)
        have e2 : j = j' := (List.getElem?_inj (List.getElem?_eq_some_iff.1 g2).1 hnd).1 (g2.trans g2'.symm)
        subst e1; subst e2; rfl
    exact this ▸ hk2
  refine ⟨h1.keep hq, by simp [h2], ?_, ?_, _, by simpa using hmap, ?_, ?_⟩
  · rw [List.nodup_append]
    exact ⟨h3, by simp, fun a ha b hb' => by simp at hb'; subst hb'; rintro rfl; exact ht ha⟩
  · intro i u p' hu hp'
    rcases split i u p' hu hp' with ⟨hu, hp'⟩ | ⟨rfl, rfl, rfl⟩
    · obtain ⟨x', y', hb', hk'⟩ := h4 i u p' hu hp'
      exact ⟨x', y', hb'.keep (hps _ (List.mem_of_getElem? hp')), hk'.more _ _⟩
    · exact ⟨x, y, hb, hk.more _ _⟩
  · intro i u p' k' hu hp' hk'
    rcases split i u p' hu hp' with ⟨hu, hp'⟩ | ⟨rfl, rfl, rfl⟩
    · have hk2 := back u k' hk' (.inl (List.mem_of_getElem? hu))
      rw [updK_other]
      · exact hf1 i u p' k' hu hp' hk2
      · rintro rfl
        exact ht (hk2.inj hkey ▸ List.mem_of_getElem? hu)
    · have hk2 := back _ k' hk' (.inr rfl)
      have : k' = k := by
        cases u with
        | v n => exact hk2.trans hkey.symm
        | o => exact hk2.trans hkey.symm
        | n f l r =>
          obtain ⟨i, j, g1, g2, rfl⟩ := hk2
          obtain ⟨i', j', g1', g2', rfl⟩ := hkey
          have e1 : i = i' := (List.getElem?_inj (List.getElem?_eq_some_iff.1 g1).1 h3).1 (g1.trans g1'.symm)
          have e2 : j = j' := (List.getElem?_inj (List.getElem?_eq_some_iff.1 g2).1 h3).1 (g2.trans g2'.symm)
          subst e1; subst e2; rfl
      subst this
      exact updK_same _ _ _
  · intro k' v hv
    by_cases hkk : k' = k
    · subst hkk
      rw [updK_same] at hv
      injection hv with hv
      exact ⟨D.length, t, p, by simp, by rw [← h2]; simp, hkey.more ⟨_, rfl⟩, hv.symm⟩
    · rw [updK_other _ _ _ hkk] at hv
      obtain ⟨i, u, p', g1, g2, g3, g4⟩ := hf2 k' v hv
      exact ⟨i, u, p', getElem?_more g1, getElem?_more g2, g3.more ⟨_, rfl⟩, g4⟩
end Go.Proofs.YtloecimlimoanaaDoor
