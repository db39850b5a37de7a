/- Types put for variables, canonical types, matching, as plain data. · Vars · Vars2 -/
import Derived.Test.YtloecimlimoanaaGreatDoorTy
import Derived.Test.YtloecimlimoanaaGreatDoorLaw2
import Derived.Maps.AppendAt
import Derived.Deep.RegionHeld3
/- Types put for variables, canonical types, matching, as plain data. -/
namespace Go.Proofs.YtloecimlimoanaaGreatDoor

/-- the variables of a type behind others -/
def addV : List Nat → Ty → List Nat
  | vs, .v n => if n ∈ vs then vs else vs ++ [n]
  | vs, .o => vs
  | vs, .n _ l r => addV (addV vs l) r

/-- types put for variables -/
def Ty.put (σ : Nat → Option Ty) : Ty → Ty
  | .v k => (σ k).getD (.v k)
  | .o => .o
  | .n f l r => .n f (l.put σ) (r.put σ)

/-- the first type that stands with a number -/
def asg : List (Nat × Ty) → Nat → Option Ty
  | [], _ => none
  | p :: r, n => if p.1 = n then some p.2 else asg r n

theorem asg_none {ms : List (Nat × Ty)} {n : Nat} : asg ms n = none ↔ ∀ p ∈ ms, p.1 ≠ n := by
  induction ms with
  | nil => simp [asg]
  | cons p r ih =>
    by_cases h : p.1 = n
    · simp [asg, h]
    · simp [asg, h, ih]

theorem asg_mem {ms : List (Nat × Ty)} {n : Nat} {t : Ty} (h : asg ms n = some t) : (n, t) ∈ ms := by
  induction ms with
  | nil => cases h
  | cons p r ih =>
    by_cases hp : p.1 = n
    · simp only [asg, hp, if_true, Option.some.injEq] at h
      subst h; subst hp
      simp
    · simp only [asg, hp, if_false] at h
      exact List.mem_cons_of_mem _ (ih h)

theorem asg_snoc (ms : List (Nat × Ty)) (k : Nat) (t : Ty) (n : Nat) : asg (ms ++ [(k, t)]) n = (match asg ms n with | some u => some u | none => if k = n then some t else none) := by
  induction ms with
  | nil => simp [asg]
  | cons p r ih =>
    by_cases h : p.1 = n
    · simp [asg, h]
    · simp [asg, h, ih]

theorem asg_skip {ms : List (Nat × Ty)} {n j : Nat} (h : ∀ p ∈ ms.take j, p.1 ≠ n) : asg ms n = asg (ms.drop j) n := by
  induction ms generalizing j with
  | nil => simp
  | cons p r ih =>
    cases j with
    | zero => rfl
    | succ j =>
      simp only [List.take_succ_cons, List.mem_cons, forall_eq_or_imp] at h
      simp only [asg, h.1, if_false, List.drop_succ_cons]
      exact ih h.2

theorem asg_at {ms : List (Nat × Ty)} {n j : Nat} {t : Ty} (h : ∀ p ∈ ms.take j, p.1 ≠ n) (hj : ms[j]? = some (n, t)) : asg ms n = some t := by
  rw [asg_skip h]
  obtain ⟨hl, e⟩ := List.getElem?_eq_some_iff.1 hj
  rw [List.drop_eq_getElem_cons hl, e]
  simp [asg]

/-- variables in order -/
def cms (vs : List Nat) : List (Nat × Ty) := vs.zipIdx.map fun p => (p.1, Ty.v p.2)

theorem cms_len (vs : List Nat) : (cms vs).length = vs.length := by simp [cms]
theorem cms_get (vs : List Nat) (j : Nat) : (cms vs)[j]? = vs[j]?.map fun n => (n, Ty.v j) := by
  simp [cms, List.getElem?_zipIdx]
  cases vs[j]? <;> simp
theorem cms_take (vs : List Nat) (j n : Nat) (h : vs[j]? = some n) : cms (vs.take (j + 1)) = cms (vs.take j) ++ [(n, .v j)] := by
  have hl := (List.getElem?_eq_some_iff.1 h).1
  rw [List.take_add_one, h]
  simp [cms, List.zipIdx_append]
  omega

def Ty.canon (t : Ty) : Ty := t.put (asg (cms (addV [] t)))

theorem addV_pre (t : Ty) : ∀ vs : List Nat, ∃ x, addV vs t = vs ++ x := by
  induction t with
  | v n => intro vs; simp only [addV]; split; exact ⟨[], by simp⟩; exact ⟨_, rfl⟩
  | o => intro vs; exact ⟨[], by simp [addV]⟩
  | n f l r hl hr =>
    intro vs
    obtain ⟨x, hx⟩ := hl vs
    obtain ⟨y, hy⟩ := hr (addV vs l)
    exact ⟨x ++ y, by rw [addV, hy, hx]; simp⟩

theorem addV_nodup (t : Ty) : ∀ vs : List Nat, vs.Nodup → (addV vs t).Nodup := by
  induction t with
  | v n =>
    intro vs h
    simp only [addV]
    split
    · exact h
    · rename_i hn
      rw [List.nodup_append]
      refine ⟨h, by simp, fun a ha b hb => ?_⟩
      simp at hb; subst hb; rintro rfl; exact hn ha
  | o => intro vs h; exact h
  | n f l r hl hr => intro vs h; exact hr _ (hl vs h)

/-- the variables of a type -/
def Ty.has : Ty → Nat → Prop
  | .v k, x => k = x
  | .o, _ => False
  | .n _ l r, x => l.has x ∨ r.has x

theorem addV_mem (t : Ty) : ∀ (vs : List Nat) (n : Nat), n ∈ addV vs t ↔ n ∈ vs ∨ t.has n := by
  induction t with
  | v k =>
    intro vs n
    simp only [addV, Ty.has]
    split
    · rename_i h
      exact ⟨.inl, fun h' => by rcases h' with h' | rfl; exact h'; exact h⟩
    · simp [eq_comm]
  | o => intro vs n; simp [addV, Ty.has]
  | n f l r hl hr => intro vs n; simp [addV, Ty.has, hr, hl, or_assoc]

theorem Ty.put_congr (t : Ty) {σ τ : Nat → Option Ty} (h : ∀ n, t.has n → σ n = τ n) : t.put σ = t.put τ := by
  induction t with
  | v k => simp [put, h k rfl]
  | o => rfl
  | n f l r hl hr => simp [put, hl fun n hn => h n (.inl hn), hr fun n hn => h n (.inr hn)]

theorem Ty.lets_has (t : Ty) : t.lets ↔ ∀ n, t.has n → n < 25 := by
  induction t with
  | v k => simp [lets, has]
  | o => simp [lets, has]
  | n f l r hl hr =>
    simp only [lets, has, hl, hr]
    exact ⟨fun h n hn => hn.elim (h.1 n) (h.2 n), fun h => ⟨fun n hn => h n (.inl hn), fun n hn => h n (.inr hn)⟩⟩

theorem Ty.put_lets (t : Ty) {σ : Nat → Option Ty} (h : ∀ n, t.has n → ((σ n).getD (.v n)).lets) : (t.put σ).lets := by
  induction t with
  | v k => exact h k rfl
  | o => trivial
  | n f l r hl hr => exact ⟨hl fun n hn => h n (.inl hn), hr fun n hn => h n (.inr hn)⟩

theorem nodup_bound : ∀ (N : Nat) (l : List Nat), l.Nodup → (∀ x ∈ l, x < N) → l.length ≤ N
  | 0, l, _, h => by
    cases l with
    | nil => simp
    | cons x l => have := h x (by simp); omega
  | N + 1, l, hn, h => by
    have h1 := nodup_bound N (l.erase N) (hn.erase N) (fun x hx => by
      have h2 := h x (List.mem_of_mem_erase hx)
      have : x ≠ N := fun e => by subst e; exact (List.Nodup.not_mem_erase hn) hx
      omega)
    have h2 := List.length_erase (a := N) (l := l)
    split at h2 <;> omega

theorem vars_bound {t : Ty} (h : t.lets) : (addV [] t).length ≤ 25 :=
  nodup_bound 25 _ (addV_nodup t [] List.nodup_nil) fun x hx => by
    have := (addV_mem t [] x).1 hx
    simp at this
    exact (Ty.lets_has t).1 h x this

theorem asg_cms {vs : List Nat} (hn : vs.Nodup) {n j : Nat} (h : vs[j]? = some n) : asg (cms vs) n = some (.v j) := by
  refine asg_at (j := j) ?_ (by rw [cms_get, h]; rfl)
  intro p hp e
  obtain ⟨i, hi⟩ := List.getElem?_of_mem hp
  rw [List.getElem?_take] at hi
  split at hi
  · rename_i hij
    rw [cms_get] at hi
    rcases hv : vs[i]? with _ | x
    · rw [hv] at hi; cases hi
    · rw [hv] at hi
      simp at hi
      rw [← hi] at e
      simp at e
      rw [e] at hv
      have hl := (List.getElem?_eq_some_iff.1 hv).1
      have := (List.getElem?_inj hl hn).1 (hv.trans h.symm)
      omega
  · cases hi

theorem Ty.canon_lets {t : Ty} (h : t.lets) : t.canon.lets := by
  refine t.put_lets fun n hn => ?_
  have hm : n ∈ addV [] t := (addV_mem t [] n).2 (.inr hn)
  obtain ⟨j, hj⟩ := List.getElem?_of_mem hm
  rw [asg_cms (addV_nodup t [] List.nodup_nil) hj]
  have := (List.getElem?_eq_some_iff.1 hj).1
  have := vars_bound h
  show j < 25
  omega

theorem Ty.canon_size (t : Ty) : t.canon.size = t.size := by
  have : ∀ (u : Ty) (σ : Nat → Option Ty), (∀ n, u.has n → ∃ j, σ n = some (.v j)) → (u.put σ).size = u.size := by
    intro u σ h
    induction u with
    | v k => obtain ⟨j, e⟩ := h k rfl; simp [put, e, size]
    | o => rfl
    | n f l r hl hr => simp [put, size, hl fun n hn => h n (.inl hn), hr fun n hn => h n (.inr hn)]
  refine this t _ fun n hn => ?_
  have hm : n ∈ addV [] t := (addV_mem t [] n).2 (.inr hn)
  obtain ⟨j, hj⟩ := List.getElem?_of_mem hm
  exact ⟨j, asg_cms (addV_nodup t [] List.nodup_nil) hj⟩

theorem canon_text {t u : Ty} (ht : t.lets) (hu : u.lets) : t.canon.text = u.canon.text ↔ t.canon = u.canon :=
  ⟨fun h => Ty.text_inj (Ty.canon_lets ht) (Ty.canon_lets hu) h, fun h => by rw [h]⟩

/-! Matching. -/
def mt : Ty → Ty → List (Nat × Ty) → Option (List (Nat × Ty))
  | .v n, t, ms => match asg ms n with | some u => if u = t then some ms else none | none => some (ms ++ [(n, t)])
  | .o, .o, ms => some ms
  | .n f l r, .n f' l' r', ms => if f = f' then (match mt l l' ms with | some ms' => mt r r' ms' | none => none) else none
  | _, _, _ => none
end Go.Proofs.YtloecimlimoanaaGreatDoor

/- Vars · Vars2 -/
/- Vars -/
namespace Go.Proofs.YtloecimlimoanaaGreatDoor
open Go.RowKit Go.ChangeMaps

/-- The slice at A holds pointers to these nodes. -/
def PSl (w : World) (A : Option Addr) (xs : List Nat) : Prop :=
  ∀ j x, xs[j]? = some x → ∃ g, A = some ⟨g, 0, none⟩ ∧ w.cell? ⟨g, j, none⟩ = some (Ptr x) ∧ ∃ cs, Blk w x 97 cs

def IndexP (xs : List Nat) (p : Nat) (w : World) (e : Ending) (w' : World) : Prop := ∃ r : Int, e = .returned (.int .i64 r) ∧ ((0 ≤ r ∧ p ∈ xs) ∨ (r = -1 ∧ p ∉ xs)) ∧ w = w'

theorem not_take_more {xs : List Nat} {j x p : Nat} (h : p ∉ xs.take j) (hx : xs[j]? = some x) (hne : p ≠ x) : p ∉ xs.take (j + 1) := by
  rw [List.take_add_one, hx]
  simp [h, hne]

set_option maxRecDepth 100000 in
set_option maxHeartbeats 1000000 in
theorem index_any (w : World) (A : Option Addr) (xs : List Nat) (c p : Nat) (cs : Array Value) (hx : PSl w A xs) (hp : Blk w p 97 cs) (hl : xs.length ≤ 1000000) :
    Calls Tryz.prog 102 #[.slice A xs.length c, Ptr p] w fun e w' => IndexP xs p w e w' := by
  have HX := Lib.hid hx
  clear hx
  have hl' : (xs.length : Int) ≤ 1000000 := by omega
  go_enter Tryz.func102, Tryz.ntmps102
  go_wp2_with fail
  go_loop [8] (fun v => ∃ j : Nat, j ≤ xs.length ∧ v = .int .i64 j ∧ p ∉ xs.take j) (fun v => xs.length - (intOf v).toNat)
  case atStart => exact ⟨0, Nat.zero_le _, rfl, by simp⟩
  case round =>
    obtain ⟨j, hj, rfl, hno⟩ := hrel
    have HN := Lib.hid hno
    clear hno
    by_cases hlt : j < xs.length
    · obtain ⟨x, hxj⟩ : ∃ x, xs[j]? = some x := ⟨_, List.getElem?_eq_getElem hlt⟩
      obtain ⟨g, rfl, hc, ds, hb⟩ := HX.out j x hxj
      have hrun := run_eql_node hp hb
      have HXJ := Lib.hid hxj
      clear hxj hb
      by_cases hpx : p = x
      · subst hpx
        rw [show (p == p) = true by simp] at hrun
        go_wp2
        go_ret
        exact ⟨(j : Int), rfl, .inl ⟨by omega, List.mem_of_getElem? HXJ.out⟩, rfl⟩
      · rw [show (p == x) = false by simpa using hpx] at hrun
        have HPX := Lib.hid hpx
        clear hpx
        go_wp2
        go_round
        case rel => exact ⟨j + 1, by omega, by go_num, not_take_more HN.out HXJ.out HPX.out⟩
        case measure => simp [intOf]; omega
    · have hjl : j = xs.length := by omega
      have HF : Hid (p ∉ xs) := by
        have := HN.out
        rw [hjl, List.take_length] at this
        exact this
      clear hjl
      go_wp2
      go_ret
      exact ⟨-1, rfl, .inr ⟨rfl, HF.out⟩, rfl⟩

def HasP (xs : List Nat) (p : Nat) (w : World) (e : Ending) (w' : World) : Prop := ∃ b : Bool, e = .returned (.bool b) ∧ (b = true ↔ p ∈ xs) ∧ w = w'

set_option maxHeartbeats 1000000 in
theorem contains_any (w : World) (A : Option Addr) (xs : List Nat) (c p : Nat) (cs : Array Value) (hx : PSl w A xs) (hp : Blk w p 97 cs) (hl : xs.length ≤ 1000000) :
    Calls Tryz.prog 94 #[.slice A xs.length c, Ptr p] w fun e w' => HasP xs p w e w' := by
  go_enter Tryz.func94, Tryz.ntmps94
  go_wp2_with fail
  refine (index_any w A xs c p cs hx hp hl).mono ?_
  rintro e w' ⟨r, rfl, hor, rfl⟩
  rcases hor with ⟨h0, hm⟩ | ⟨rfl, hm⟩
  · have HM := Lib.hid hm
    clear hm
    go_wp2
    go_ret
    exact ⟨true, rfl, ⟨fun _ => HM.out, fun _ => rfl⟩, rfl⟩
  · have HM := Lib.hid hm
    clear hm
    go_wp2
    go_ret
    exact ⟨false, rfl, ⟨fun h => (by cases h), fun h => (HM.out h).elim⟩, rfl⟩

theorem addV_len (t : Ty) : ∀ vs : List Nat, (addV vs t).length ≤ vs.length + t.size := by
  induction t with
  | v n => intro vs; simp only [addV, Ty.size]; split <;> simp
  | o => intro vs; simp [addV]
  | n f l r hl hr =>
    intro vs
    have h1 := hl vs
    have h2 := hr (addV vs l)
    simp only [addV, Ty.size]
    omega

/-- these nodes are these variables -/
def VAt (ps : List Nat) (D : List Ty) (vs xs : List Nat) : Prop := xs.length = vs.length ∧ ∀ (j n x : Nat), vs[j]? = some n → xs[j]? = some x → Has ps D (.v n) x

theorem VAt.snoc {ps : List Nat} {D : List Ty} {vs xs : List Nat} {n x : Nat} (h : VAt ps D vs xs) (hx : Has ps D (.v n) x) : VAt ps D (vs ++ [n]) (xs ++ [x]) := by
  refine ⟨by simp [h.1], fun j n' x' h1 h2 => ?_⟩
  rcases Nat.lt_or_ge j vs.length with hl | hl
  · rw [List.getElem?_append_left hl] at h1
    rw [List.getElem?_append_left (by rw [h.1]; exact hl)] at h2
    exact h.2 j n' x' h1 h2
  · rw [List.getElem?_append_right hl] at h1
    rw [List.getElem?_append_right (by rw [h.1]; exact hl), h.1] at h2
    have : j - vs.length = 0 := by
      rcases Nat.eq_zero_or_pos (j - vs.length) with h0 | h0
      · exact h0
      · rw [List.getElem?_eq_none (by simp; omega)] at h1; cases h1
    rw [this] at h1 h2
    simp at h1 h2
    subst h1; subst h2
    exact hx

/-- a variable is among them just if its node is -/
theorem VAt.mem {w : World} {q m : Nat} {ps : List Nat} {D : List Ty} {vs xs : List Nat} {n x : Nat} (h : VAt ps D vs xs) (hP : Pool w q m ps D) (hx : Has ps D (.v n) x) : x ∈ xs ↔ n ∈ vs := by
  constructor
  · intro hm
    obtain ⟨j, hj⟩ := List.getElem?_of_mem hm
    have hl := (List.getElem?_eq_some_iff.1 hj).1
    rw [h.1] at hl
    have hv := List.getElem?_eq_getElem hl
    have := (Has.inj hP (h.2 j _ x hv hj) hx).1 rfl
    injection this with this
    exact this ▸ List.mem_of_getElem? hv
  · intro hm
    obtain ⟨j, hj⟩ := List.getElem?_of_mem hm
    have hl := (List.getElem?_eq_some_iff.1 hj).1
    rw [← h.1] at hl
    have hv := List.getElem?_eq_getElem hl
    have := (Has.inj hP (h.2 j n _ hj hv) hx).2 rfl
    exact this ▸ List.mem_of_getElem? hv

theorem PSl.of_own {w : World} {q m B : Nat} {ps : List Nat} {D : List Ty} {vs xs : List Nat} {A : Option Addr} {c : Nat} (hP : Pool w q m ps D) (h : VAt ps D vs xs)
    (ho : w.ownsRow B 75 1 (.slice A xs.length c) xs.length (xs.map Ptr)) : PSl w A xs := by
  intro j x hj
  have hl := (List.getElem?_eq_some_iff.1 hj).1
  rcases ho.2 with ⟨_, hn⟩ | ⟨g, cap, cur, hv, _⟩
  · omega
  · injection hv with e1 e2 e3
    refine ⟨g, e1, ?_, ?_⟩
    · have := ho.cells (g := g) (by rw [e1]; rfl) j (Ptr x) (by rw [List.getElem?_map, hj]; rfl)
      rw [addr_add] at this
      simpa using this
    · rw [h.1] at hl
      obtain ⟨a, b, k, hb, _⟩ := (h.2 j _ x (List.getElem?_eq_getElem hl) hj).blk hP
      exact ⟨_, hb⟩

theorem own_form {w : World} {B e size n : Nat} {v : Value} {xs : List Value} (h : w.ownsRow B e size v n xs) : ∃ A c, v = .slice A n c := by
  rcases h.2 with ⟨hv, hn⟩ | ⟨g, cap, cur, hv, _⟩
  · exact ⟨none, 0, by rw [hv, hn]⟩
  · exact ⟨_, _, hv⟩

def AddPost (B q m : Nat) (ps : List Nat) (D : List Ty) (vs : List Nat) (w : World) (e : Ending) (w' : World) : Prop :=
  ∃ A xs c, e = .returned (.slice A xs.length c) ∧ Pool w' q m ps D ∧ Below B w w' ∧ w'.ownsRow B 75 1 (.slice A xs.length c) xs.length (xs.map Ptr) ∧ VAt ps D vs xs

def AddSaid (B q m : Nat) (ps : List Nat) (D : List Ty) (t : Ty) : Prop := ∀ w A xs c vs p, Pool w q m ps D → B ≤ w.heap.size → w.ownsRow B 75 1 (.slice A xs.length c) xs.length (xs.map Ptr) → VAt ps D vs xs →
  vs.length + t.size ≤ 1000 → Has ps D t p → Calls Tryz.prog 80 #[.slice A xs.length c, Ptr p] w fun e w' => AddPost B q m ps D (addV vs t) w e w'

theorem Pool.below {w w' : World} {B q m : Nat} {ps : List Nat} {D : List Ty} (h : Pool w q m ps D) (hb : Below B w w') (hlow : q < B ∧ m < B ∧ ∀ p ∈ ps, p < B) : Pool w' q m ps D :=
  h.keep fun k _ hor => hb.block k (by rcases hor with rfl | rfl | hp; exact hlow.1; exact hlow.2.1; exact hlow.2.2 k hp)

theorem info_ptr : (Tryz.prog.info? 75).map (fun i => (i.zero, i.size, i.bytes)) = some (some (.pointer none), 1, 8) := by kernel_rfl

set_option maxRecDepth 100000 in
set_option maxHeartbeats 1000000 in
theorem add_var (B q m : Nat) (ps : List Nat) (D : List Ty) (hlow : q < B ∧ m < B ∧ ∀ p ∈ ps, p < B) (n : Nat) : AddSaid B q m ps D (.v n) := by
  intro w A xs c vs p hP hB ho hv hlen hh
  have hxl : xs.length ≤ 1000 := by rw [hv.1]; simp only [Ty.size] at hlen; omega
  obtain ⟨a, b, k, hb, rfl, rfl⟩ := hh.blk hP
  have c0 : w.cell? ⟨p, 0, none⟩ = some (S []) := (hb.cell 0).trans rfl
  have hmem := hv.mem hP hh
  have CON : Hid (Calls Tryz.prog 94 #[.slice A xs.length c, Ptr p] w fun e w' => HasP xs p w e w') := contains_any w A xs c p _ (PSl.of_own hP hv ho) hb (by omega)
  have HB := Lib.hid hb
  have HO := Lib.hid ho
  clear hb ho
  go_enter Tryz.func80, Tryz.ntmps80
  go_wp2_with fail
  refine (compound_no _ _ _ _ _ _ _ HB.out).mono ?_
  rintro e w' ⟨rfl, rfl⟩
  go_wp2_with fail
  refine CON.out.mono ?_
  rintro e w' ⟨bb, rfl, hbb, rfl⟩
  cases bb
  · have hnv : addV vs (.v n) = vs ++ [n] := by
      have : n ∉ vs := fun h => by have := hbb.2 (hmem.2 h); cases this
      simp [addV, this]
    have HNV := Lib.hid hnv
    clear hnv hbb hmem
    obtain ⟨i0, hi0, hz0, hz1, hz2⟩ := info_parts info_ptr
    have HOA : Hid (∀ o : Obj, (w.alloc o).ownsRow B 75 1 (.slice A xs.length c) xs.length (xs.map Ptr)) := fun o => HO.out.alloc o
    have HC1 : Hid (∀ (j : Nat) (u : Value), [Ptr p][j]? = some u → (w.alloc (.cells #[Ptr p] 75)).cell? ((⟨w.heap.size, 0, none⟩ : Addr).add j) = some u) := cells_new (w := w) rfl [Ptr p] 75
    have HC2 : Hid (∀ u ∈ [Ptr p], u.oneCell' = true) := by
      intro u hu
      simp at hu
      rw [hu]; rfl
    have HC5 : Hid (∀ o : Obj, B ≤ (w.alloc o).heap.size) := fun o => by simp; omega
    have bnd : (xs.length + 1) * 8 ≤ 140737488355328 := by omega
    have bnd2 : xs.length + 1 ≤ maxLen := by unfold maxLen; omega
    have FIN : Hid (∀ (o : Obj) (v' : Value) (w2 : World), w2.ownsRow B 75 1 v' (xs.length + 1) (xs.map Ptr ++ [Ptr p]) → (w.alloc o).grownBy w2 (Value.slice A xs.length c).ownBlock → AddPost B q m ps D (addV vs (.v n)) w (.returned v') w2) := by
      intro o v' w2 h1 h2
      have hbel : Below B w w2 := ((Below.refl B w).alloc hB o).grown h2 (by simp; omega) (fun k hk => ((HOA.out o).lt k hk).1)
      obtain ⟨A', c', rfl⟩ := own_form h1
      have e1 : xs.map Ptr ++ [Ptr p] = (xs ++ [p]).map Ptr := by simp
      rw [e1] at h1
      refine ⟨A', xs ++ [p], c', by simp, hP.below hbel hlow, hbel, by simpa using h1, ?_⟩
      rw [HNV.out]
      exact hv.snoc hh
    go_wp2_with (at_builtin; go_must (refine wpList_append_own_at _ rfl _ _ 119 rfl B 75 i0 (.pointer none) 1 8 Tryz.underlying119 hi0 hz0 hz1 hz2 rfl (by decide) _ xs.length (xs.map Ptr) rfl (HOA.out _) ⟨w.heap.size, 0, none⟩ 1 1 [Ptr p] rfl rfl HC1.out HC2.out bnd2 bnd (HC5.out _) ?_); intro v' w2 hown' hgrow _ _; have HF := Lib.hid (FIN.out _ v' w2 hown' hgrow); clear hown' hgrow)
    go_ret
    exact HF.out
  · have hnv : addV vs (.v n) = vs := by
      have : n ∈ vs := hmem.1 (hbb.1 rfl)
      simp [addV, this]
    have HNV := Lib.hid hnv
    clear hnv hbb hmem
    go_wp2_with fail
    go_ret
    exact ⟨A, xs, c, rfl, hP, Below.refl _ _, HO.out, by rw [HNV.out]; exact hv⟩
end Go.Proofs.YtloecimlimoanaaGreatDoor

/- Vars2 -/
namespace Go.Proofs.YtloecimlimoanaaGreatDoor
open Go.RowKit Go.ChangeMaps

set_option maxHeartbeats 1000000 in
theorem add_o (B q m : Nat) (ps : List Nat) (D : List Ty) : AddSaid B q m ps D .o := by
  intro w A xs c vs p hP hB ho hv hlen hh
  obtain ⟨a, b, k, hb, rfl, rfl⟩ := hh.blk hP
  have c0 : w.cell? ⟨p, 0, none⟩ = some (S [111]) := (hb.cell 0).trans rfl
  have HB := Lib.hid hb
  have FIN : Hid (AddPost B q m ps D (addV vs .o) w (.returned (.slice A xs.length c)) w) := ⟨A, xs, c, rfl, hP, Below.refl _ _, ho, hv⟩
  clear hb ho hv
  generalize xs.length = n at FIN ⊢
  go_enter Tryz.func80, Tryz.ntmps80
  go_wp2_with fail
  refine (compound_no _ _ _ _ _ _ _ HB.out).mono ?_
  rintro e w' ⟨rfl, rfl⟩
  go_wp2_with fail
  go_ret
  exact FIN.out

set_option maxRecDepth 100000 in
set_option maxHeartbeats 1000000 in
theorem add_n (B q m : Nat) (ps : List Nat) (D : List Ty) (hlow : q < B ∧ m < B ∧ ∀ p ∈ ps, p < B) (f : Bool) (l r : Ty) (ihl : AddSaid B q m ps D l) (ihr : AddSaid B q m ps D r) : AddSaid B q m ps D (.n f l r) := by
  intro w A xs c vs p hP hB ho hv hlen hh
  have hpB : p < B := hlow.2.2 p hh.memp
  obtain ⟨pl, pr, k, hb, hl, hr⟩ := hh.kids hP
  simp only [Ty.size] at hlen
  have HB := Lib.hid hb
  have CELLS : Hid (∀ w', Below B w w' → w'.cell? ⟨p, 2, none⟩ = some (Ptr pl) ∧ w'.cell? ⟨p, 3, none⟩ = some (Ptr pr)) := fun w' hbl =>
    ⟨(hbl.cell (p := ⟨p, 2, none⟩) hpB).trans ((hb.cell 2).trans rfl), (hbl.cell (p := ⟨p, 3, none⟩) hpB).trans ((hb.cell 3).trans rfl)⟩
  have IL : Hid (∀ w', Below B w w' → w'.heap = w.heap → Calls Tryz.prog 80 #[.slice A xs.length c, Ptr pl] w' fun e w2 => AddPost B q m ps D (addV vs l) w e w2) := fun w' hbl he =>
    (ihl w' A xs c vs pl (hP.below hbl hlow) (by rw [he]; exact hB) ⟨ho.1, by rw [he]; exact ho.2⟩ hv (by omega) hl).mono fun e w2 ⟨A', xs', c', h1, h2, h3, h4, h5⟩ => ⟨A', xs', c', h1, h2, hbl.trans h3, h4, h5⟩
  have hlen2 := addV_len l vs
  have IR : Hid (∀ w' A' (xs' : List Nat) c', w'.ownsRow B 75 1 (.slice A' xs'.length c') xs'.length (xs'.map Ptr) → VAt ps D (addV vs l) xs' → Below B w w' → Pool w' q m ps D →
      Calls Tryz.prog 80 #[.slice A' xs'.length c', Ptr pr] w' fun e w2 => AddPost B q m ps D (addV vs (.n f l r)) w e w2) := fun w' A' xs' c' h2 h3 h4 h5 =>
    (ihr w' A' xs' c' (addV vs l) pr h5 (Nat.le_trans hB h4.size) h2 h3 (by omega) hr).mono fun e w2 ⟨A2, xs2, c2, g1, g2, g3, g4, g5⟩ => ⟨A2, xs2, c2, g1, g2, h4.trans g3, g4, g5⟩
  clear hb ho hv ihl ihr hlen2
  generalize hxn : xs.length = n at IL ⊢
  clear hxn
  go_enter Tryz.func80, Tryz.ntmps80
  go_wp2_with fail
  refine (compound_yes _ _ _ _ _ _ _ _ HB.out).mono ?_
  rintro e w' ⟨rfl, rfl⟩
  go_wp2_with fail
  obtain ⟨p2, p3⟩ := CELLS.out w (Below.refl _ _)
  have hbw : Below B w w.drew := (Below.refl _ _).drew
  go_region_held3 (fun w' => w'.cell? ⟨p, 2, none⟩ = some (Ptr pl) ∧ w'.cell? ⟨p, 3, none⟩ = some (Ptr pr)) (go_keep)
    (first | (go_at_call 80; ((with_reducible refine (IL.out _ hbw rfl).mono ?_); rintro e w2 ⟨A1, xs1, c1, rfl, hP1, hb1, ho1, hv1⟩; obtain ⟨d2, d3⟩ := CELLS.out w2 hb1)) | (go_at_call 80; ((with_reducible refine (IR.out _ A1 xs1 c1 ho1 hv1 hb1 hP1).mono ?_); rintro e w3 ⟨A2, xs2, c2, rfl, hP2, hb2, ho2, hv2⟩; obtain ⟨e2, e3⟩ := CELLS.out w3 hb2)))
  go_wp2_with fail
  go_ret
  exact ⟨A2, xs2, c2, rfl, hP2, hb2, ho2, hv2⟩

theorem add_any (B q m : Nat) (ps : List Nat) (D : List Ty) (hlow : q < B ∧ m < B ∧ ∀ p ∈ ps, p < B) (t : Ty) : AddSaid B q m ps D t := by
  induction t with
  | v n => exact add_var B q m ps D hlow n
  | o => exact add_o B q m ps D
  | n f l r ihl ihr => exact add_n B q m ps D hlow f l r ihl ihr

theorem Pool.low {w : World} {q m : Nat} {ps : List Nat} {D : List Ty} (h : Pool w q m ps D) : q < w.heap.size ∧ m < w.heap.size ∧ ∀ p ∈ ps, p < w.heap.size :=
  ⟨h.head.lt, by obtain ⟨f, hm, _⟩ := h.map; exact hm.lt, fun _ hp => h.lt hp⟩

/-- the variables of a type, as nodes -/
theorem vars_any (w : World) (q m : Nat) (ps : List Nat) (D : List Ty) (t : Ty) (p : Nat) (hP : Pool w q m ps D) (hh : Has ps D t p) (hsz : t.size ≤ 1000) :
    Calls Tryz.prog 62 #[Ptr p] w fun e w' => AddPost w.heap.size q m ps D (addV [] t) w e w' := by
  have CALL : Hid (Calls Tryz.prog 80 #[.slice none 0 0, Ptr p] w fun e w' => AddPost w.heap.size q m ps D (addV [] t) w e w') :=
    add_any w.heap.size q m ps D hP.low t w none [] 0 [] p hP (Nat.le_refl _) (World.ownsRow_nil _ _ _ _) ⟨rfl, fun j n x h => by simp at h⟩ (by simpa using hsz) hh
  go_enter Tryz.func62, Tryz.ntmps62
  go_wp2_with fail
  refine CALL.out.mono ?_
  rintro e w1 ⟨A, xs, c, rfl, h1, h2, h3, h4⟩
  go_wp2_with fail
  go_ret
  exact ⟨A, xs, c, rfl, h1, h2, h3, h4⟩
end Go.Proofs.YtloecimlimoanaaGreatDoor
