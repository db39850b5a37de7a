/- Names around a term; how the reader makes terms. · Tnt · The parts of a term under construction; sizes. · The reader of terms reads as tmRd says. · The reader of terms: parts. · Reading a term; TermValid, TermHead, TermSize of the program. -/
import Derived.Test.YtnjgaenhjdjpfaaGreatDoorTnew
import Derived.Test.YtnjgaenhjdjpfaaGreatDoorShead
import Derived.Deep.RegionHeld3
/- Names around a term; how the reader makes terms. -/
namespace Go.Proofs.YtnjgaenhjdjpfaaGreatDoor
open Go.RowKit Go.ChangeMaps

/-- The slice at A holds these texts. -/
def NSl (w : World) (A : Option Addr) (xs : List (List UInt8)) : Prop :=
  ∀ (j : Nat) (x : List UInt8), xs[j]? = some x → ∃ g o, A = some ⟨g, o, none⟩ ∧ w.cell? ⟨g, o + j, none⟩ = some (S x)

theorem NSl.fr {w w' : World} {A : Option Addr} {xs : List (List UInt8)} {T : Nat → Prop} (h : NSl w A xs) (hf : Fr T w w') (hT : ∀ g o, A = some ⟨g, o, none⟩ → ¬ T g) : NSl w' A xs := by
  intro j x hj
  obtain ⟨g, o, e, hc⟩ := h j x hj
  exact ⟨g, o, e, (hf.cell (p := ⟨g, o + j, none⟩) (block_lt hc) (hT g o e)).trans hc⟩

/-- how far away a name is bound: from the last on -/
def depR (x : List UInt8) : List (List UInt8) → Nat → Option Nat
  | [], _ => none
  | b :: r, j => if b = x then some j else depR x r (j + 1)

def depOf (x : List UInt8) (bs : List (List UInt8)) : Option Nat := depR x bs.reverse 0

theorem depR_skip (x : List UInt8) : ∀ (l : List (List UInt8)) (i j : Nat), (∀ y ∈ l.take j, y ≠ x) → j ≤ l.length → depR x l i = depR x (l.drop j) (i + j)
  | l, i, 0, _, _ => by simp
  | [], i, j + 1, _, h => by simp at h
  | b :: l, i, j + 1, h, hj => by
    simp only [List.take_succ_cons, List.mem_cons, forall_eq_or_imp] at h
    simp only [depR, h.1, if_false, List.drop_succ_cons]
    rw [depR_skip x l (i + 1) j h.2 (by simpa using hj)]
    congr 1; omega

theorem depR_none (x : List UInt8) (l : List (List UInt8)) (i : Nat) (h : ∀ y ∈ l, y ≠ x) : depR x l i = none := by
  have := depR_skip x l i l.length (by rw [List.take_length]; exact h) (Nat.le_refl _)
  rw [this, List.drop_length]; rfl

/-- the part in which a name is bound -/
def insB (bs : List (List UInt8)) (h x : List UInt8) (i : Nat) : List (List UInt8) := if bindsB h = true ∧ i + 1 = kidsOf h then bs ++ [x] else bs

def hd1 : Fo → List UInt8
  | .nil => []
  | .cons a _ _ => a
def hd2 : Fo → List UInt8
  | .cons _ _ (.cons a _ _) => a
  | _ => []

/-- what stands for a name: nothing if it is bound -/
def nmA (bs : List (List UInt8)) (x : List UInt8) : List UInt8 := match depOf x bs with | some _ => [] | none => x

/-- a term's head, its atom and its depth -/
def ndH (a : List UInt8) (k : Fo) : List UInt8 := if a = [] then hd1 k else if a = tTrue ∨ a = tFalse then hTruth else hName
def ndA (bs : List (List UInt8)) (a : List UInt8) (k : Fo) : List UInt8 :=
  if a = [] then (if bindsB (hd1 k) then hd2 k else []) else if a = tTrue ∨ a = tFalse then a else nmA bs a
def ndD (bs : List (List UInt8)) (a : List UInt8) : Nat := if a = [] then 0 else if a = tTrue ∨ a = tFalse then 0 else (depOf a bs).getD 0

inductive Md where
  | kids (bs : List (List UInt8)) (h x : List UInt8) (i : Nat)
  | parts (bs : List (List UInt8))
  | name (bs : List (List UInt8)) (h : List UInt8)

/-- the program's term of a tree -/
def cv : Fo → Md → Ts
  | .nil, _ => .nil
  | .cons a k r, .kids bs h x i => .cons (ndH a k) (ndA (insB bs h x i) a k) (ndD (insB bs h x i) a) (cv k (.parts (insB bs h x i))) (cv r (.kids bs h x (i + 1)))
  | .cons h _ r, .parts bs => if bindsB h then cv r (.name bs h) else cv r (.kids bs h [] 0)
  | .cons x _ r, .name bs h => cv r (.kids bs h x 0)

theorem cv_snoc (bs : List (List UInt8)) (h x a : List UInt8) (k : Fo) : ∀ (f : Fo) (i : Nat), cv (f.snoc a k) (.kids bs h x i) = (cv f (.kids bs h x i)).snoc (ndH a k) (ndA (insB bs h x (i + f.len)) a k) (ndD (insB bs h x (i + f.len)) a) (cv k (.parts (insB bs h x (i + f.len))))
  | .nil, i => by simp [Fo.snoc, cv, Ts.snoc, Fo.len]
  | .cons b j r, i => by
    have := cv_snoc bs h x a k r (i + 1)
    simp only [Fo.snoc, cv, Ts.snoc, Fo.len]
    rw [this, show i + 1 + r.len = i + (r.len + 1) by omega]

theorem cv_kids_len (bs : List (List UInt8)) (h x : List UInt8) : ∀ (f : Fo) (i : Nat), (cv f (.kids bs h x i)).len = f.len
  | .nil, i => rfl
  | .cons b j r, i => by simp [cv, Ts.len, Fo.len, cv_kids_len bs h x r (i + 1)]
end Go.Proofs.YtnjgaenhjdjpfaaGreatDoor

/- Tnt -/
namespace Go.Proofs.YtnjgaenhjdjpfaaGreatDoor
open Go.RowKit Go.ChangeMaps

def NameT (bs : List (List UInt8)) (x : List UInt8) (w : World) (e : Ending) (w' : World) : Prop :=
  ∃ p, e = .returned (Ptr p) ∧ Fr No w w' ∧ Tm w' (fun b => w.heap.size ≤ b ∧ b < w'.heap.size) p hName (nmA bs x) ((depOf x bs).getD 0) .nil

theorem TSl.nil (w : World) (T : Nat → Prop) (A : Option Addr) : TSl w T A .nil := ⟨[], rfl, .inl rfl⟩

theorem not_more {bs : List (List UInt8)} {x y : List UInt8} {j : Nat} (h : ∀ z ∈ bs.reverse.take j, z ≠ x) (hj : bs.reverse[j]? = some y) (hne : y ≠ x) : ∀ z ∈ bs.reverse.take (j + 1), z ≠ x := by
  intro z hz
  rw [List.take_add_one, hj] at hz
  rcases List.mem_append.1 hz with hz | hz
  · exact h z hz
  · simp at hz; rw [hz]; exact hne

theorem rev_at {bs : List (List UInt8)} {j : Nat} (hj : j < bs.length) : ∃ y, bs.reverse[j]? = some y ∧ bs[bs.length - 1 - j]? = some y := by
  refine ⟨bs[bs.length - 1 - j]'(by omega), ?_, List.getElem?_eq_getElem _⟩
  rw [List.getElem?_reverse hj, List.getElem?_eq_getElem (by omega)]

def BndT (d : Nat) (w : World) (e : Ending) (w' : World) : Prop :=
  ∃ p, e = .returned (Ptr p) ∧ Fr No w w' ∧ Tm w' (fun b => w.heap.size ≤ b ∧ b < w'.heap.size) p hName [] d .nil

theorem bound_new {w w1 : World} {d : Nat} {e : Ending} (h : NewPost (fun _ => False) hName [] .nil w e w1) :
    ∃ p, e = .returned (Ptr p) ∧ w1.cell? ⟨p, 2, none⟩ = some (.int .i64 0) ∧ w1.frozen? ⟨p, 2, none⟩ = false ∧ p < w1.heap.size ∧ BndT d w (.returned (Ptr p)) (w1.setCell ⟨p, 2, none⟩ (.int .i64 d)) := by
  obtain ⟨p, rfl, hf, hp, htm⟩ := h
  obtain ⟨hTp, A, c, hb, hs⟩ := htm.open_
  refine ⟨p, rfl, (hb.cell 2).trans rfl, hb.frozen 2, hb.lt, p, rfl, hf.setCell (p := ⟨p, 2, none⟩) (.inr hp) _, ?_⟩
  refine Tm.mk (A := A) (c := c) ⟨hp, by simp [World.setCell]; exact hb.lt⟩ (Blk.set_ hb 2 (.int .i64 d)) (TSl.nil _ _ _)

set_option maxRecDepth 100000 in
set_option maxHeartbeats 2000000 in
theorem boundTerm_any (d : Nat) (w : World) :
    Calls Tryz.prog 78 #[.int .i64 d] w fun e w' => BndT d w e w' := by
  have CALL : Hid (Calls Tryz.prog 51 #[.string ⟨#[110, 97, 109, 101]⟩, .string ⟨#[]⟩, .slice none 0 0] w fun e w' => NewPost (fun _ => False) hName [] .nil w e w') :=
    newTerm_any w (fun _ => False) hName [] .nil none 0 (fun _ h => h.elim) (TSl.nil _ _ _) (by simp [Ts.size]) (by simp [Ts.len])
  go_enter Tryz.func78, Tryz.ntmps78
  go_wp2_with fail
  refine CALL.out.mono ?_
  rintro e w1 hpost
  obtain ⟨p, rfl, q2, q3, q4, hfin⟩ := bound_new (d := d) hpost
  have HF := Lib.hid hfin
  clear hfin hpost
  go_wp2_with fail
  go_ret
  exact HF.out

theorem name_hit {bs : List (List UInt8)} {x : List UInt8} {w w1 : World} {j : Nat} {e : Ending} (hd : depOf x bs = some j) (h : BndT j w e w1) :
    ∃ p, e = .returned (Ptr p) ∧ NameT bs x w (.returned (Ptr p)) w1 := by
  obtain ⟨p, rfl, hf, htm⟩ := h
  refine ⟨p, rfl, p, rfl, hf, ?_⟩
  rw [show nmA bs x = [] by simp [nmA, hd], hd]
  exact htm

theorem name_miss {bs : List (List UInt8)} {x : List UInt8} {w w1 : World} {e : Ending} (hd : depOf x bs = none) (h : NewPost (fun _ => False) hName x .nil w e w1) : ∃ p, e = .returned (Ptr p) ∧ NameT bs x w (.returned (Ptr p)) w1 := by
  obtain ⟨p, rfl, hf, hp, htm⟩ := h
  refine ⟨p, rfl, p, rfl, hf, ?_⟩
  rw [show nmA bs x = x by simp [nmA, hd], hd]
  exact htm.mono (fun b hb => hb.elim (fun h => h.elim) (fun h => h)) (fun _ _ => rfl)

set_option maxRecDepth 100000 in
set_option maxHeartbeats 2000000 in
theorem nameTerm_any (w : World) (A : Option Addr) (bs : List (List UInt8)) (c n : Nat) (hn : n = bs.length) (x : List UInt8) (hb : NSl w A bs) (hl : n ≤ 1000) :
    Calls Tryz.prog 53 #[S x, .slice A n c] w fun e w' => NameT bs x w e w' := by
  have hl' : (n : Int) ≤ 1000 := by omega
  have HITS : Hid (∀ j y, bs.reverse[j]? = some y → (∀ z ∈ bs.reverse.take j, z ≠ x) → y = x → depOf x bs = some j) := by
    intro j y hj hno hy
    unfold depOf
    have hjl := (List.getElem?_eq_some_iff.1 hj).1
    rw [depR_skip x bs.reverse 0 j hno (by omega), List.drop_eq_getElem_cons hjl]
    have : bs.reverse[j] = x := by
      obtain ⟨_, e⟩ := List.getElem?_eq_some_iff.1 hj
      rw [e, hy]
    rw [depR, if_pos this]
    simp
  have MISS : Hid ((∀ z ∈ bs.reverse.take n, z ≠ x) → depOf x bs = none) := by
    intro h
    rw [hn, show bs.length = bs.reverse.length by simp, List.take_length] at h
    exact depR_none x _ 0 h
  have CELL : Hid (∀ j, j < n → ∃ g o y, A = some ⟨g, o, none⟩ ∧ w.cell? ⟨g, o + (n - 1 - j), none⟩ = some (S y) ∧ bs.reverse[j]? = some y) := by
    intro j hj
    obtain ⟨y, h1, h2⟩ := rev_at (bs := bs) (j := j) (by omega)
    obtain ⟨g, o, e, hc⟩ := hb _ _ h2
    exact ⟨g, o, y, e, by rw [hn]; exact hc, h1⟩
  clear hb hn
  go_enter Tryz.func53, Tryz.ntmps53
  go_wp2_with fail
  go_loop [8] (fun u => ∃ j : Nat, j ≤ n ∧ u = .int .i64 j ∧ (∀ z ∈ bs.reverse.take j, z ≠ x)) (fun u => n - (intOf u).toNat)
  case atStart => exact ⟨0, Nat.zero_le _, rfl, by simp⟩
  case round =>
    obtain ⟨j, hj, rfl, hno⟩ := hrel
    have HN := Lib.hid hno
    clear hno
    by_cases hlt : j < n
    · obtain ⟨g, o, y, rfl, hc, hy⟩ := CELL.out j hlt
      have HY := Lib.hid hy
      clear hy
      have w1 : IntKind.i64.wrap ((n : Int) - 1) = (n : Int) - 1 := IntWalk.i64_in _ (by omega)
      have w2 : IntKind.i64.wrap ((n : Int) - 1 - (j : Int)) = ((n - 1 - j : Nat) : Int) := by rw [IntWalk.i64_in _ (by omega)]; omega
      have w3 : ((n : Int) - 1 - (j : Int)) = ((n - 1 - j : Nat) : Int) := by omega
      have hi : n - 1 - j < n := by omega
      by_cases hyx : y = x
      · subst hyx
        have HD := Lib.hid (HITS.out j y HY.out HN.out rfl)
        have CALL : Hid (Calls Tryz.prog 78 #[.int .i64 j] w fun e w' => BndT j w e w') := boundTerm_any j w
        go_wp2_with fail
        refine CALL.out.mono ?_
        rintro e w1 hpost
        obtain ⟨p, rfl, hfin⟩ := name_hit HD.out hpost
        have HF := Lib.hid hfin
        clear hfin hpost
        go_wp2_with fail
        go_ret
        exact HF.out
      · have hne : (y == x) = false := by simpa using hyx
        have HM := Lib.hid (not_more HN.out HY.out hyx)
        clear hyx
        go_wp2_with fail
        go_round
        case rel => exact ⟨j + 1, by omega, by go_num, HM.out⟩
        case measure => simp [intOf]; omega
    · have hjn : j = n := by omega
      subst hjn
      have HD := Lib.hid (MISS.out HN.out)
      have CALL : Hid (Calls Tryz.prog 51 #[.string ⟨#[110, 97, 109, 101]⟩, S x, .slice none 0 0] w fun e w' => NewPost (fun _ => False) hName x .nil w e w') :=
        newTerm_any w (fun _ => False) hName x .nil none 0 (fun _ h => h.elim) (TSl.nil _ _ _) (by simp [Ts.size]) (by simp [Ts.len])
      go_wp2_with fail
      refine CALL.out.mono ?_
      rintro e w1 hpost
      obtain ⟨p, rfl, hfin⟩ := name_miss HD.out hpost
      have HF := Lib.hid hfin
      clear hfin hpost
      go_wp2_with fail
      go_ret
      exact HF.out

theorem info_str : (Tryz.prog.info? 9).map (fun i => (i.zero, i.size, i.bytes)) = some (some (.string ⟨#[]⟩), 1, 16) := by kernel_rfl

theorem own_form {w : World} {B e size n : Nat} {v : Value} {xs : List Value} (h : w.ownsRow B e size v n xs) : ∃ A c, v = .slice A n c := by
  rcases h.2 with ⟨hv, hn⟩ | ⟨g, cap, cur, hv, _⟩
  · exact ⟨none, 0, by rw [hv, hn]⟩
  · exact ⟨_, _, hv⟩

theorem NSl.of_own {w : World} {B n : Nat} {xs : List (List UInt8)} {A : Option Addr} {c : Nat} (ho : w.ownsRow B 9 1 (.slice A n c) n (xs.map S)) (hn : n = xs.length) : NSl w A xs := by
  intro j x hj
  have hl := (List.getElem?_eq_some_iff.1 hj).1
  rcases ho.2 with ⟨_, h0⟩ | ⟨g, cap, cur, hv, _⟩
  · omega
  · injection hv with e1 e2 e3
    refine ⟨g, 0, e1, ?_⟩
    have := ho.cells (g := g) (by rw [e1]; rfl) j (S x) (by rw [List.getElem?_map, hj]; rfl)
    rw [addr_add] at this
    exact this

theorem clone_any (w : World) (A : Option Addr) (bs : List (List UInt8)) (c n : Nat) (hn : n = bs.length) (hb : NSl w A bs) (hl : n ≤ 1000) :
    Calls Tryz.prog 82 #[.slice A n c] w fun e w' => ∃ A' c', e = .returned (.slice A' n c') ∧ w'.ownsRow w.heap.size 9 1 (.slice A' n c') n (bs.map S) ∧ Fr No w w' := by
  subst hn
  match A, bs, hb, hl with
  | none, [], hb, hl =>
    refine (Tryz.slices_Clone_string_nil 0 c w).mono ?_
    rintro e w' ⟨rfl, rfl⟩
    exact ⟨none, 0, rfl, World.ownsRow_nil _ _ _ _, Fr.refl _ _⟩
  | some a, [], hb, hl =>
    refine (Tryz.slices_Clone_string_zero a c w).mono ?_
    rintro e w' ⟨v', rfl, ho, _, hbel⟩
    obtain ⟨A', c', rfl⟩ := own_form ho
    exact ⟨A', c', rfl, ho, Fr.of_below hbel (Nat.le_refl _) _⟩
  | A, b :: bs, hb, hl =>
    obtain ⟨g, o, rfl, h0⟩ := hb 0 b rfl
    refine (Tryz.slices_Clone_string g o (b :: bs).length c ((b :: bs).map fun l => ⟨l.toArray⟩) w (by simp) (by omega) ?_).mono ?_
    · intro j hj
      rw [List.length_map] at hj
      obtain ⟨g', o', e', hc⟩ := hb j _ (List.getElem?_eq_getElem hj)
      injection e' with e'
      injection e' with e1 e2
      subst e1; subst e2
      rw [hc]
      rw [List.getD_eq_getElem?_getD, List.getElem?_map, List.getElem?_eq_getElem hj]
      rfl
    · rintro e w' ⟨v', rfl, ho, _, hbel⟩
      obtain ⟨A', c', rfl⟩ := own_form ho
      refine ⟨A', c', rfl, ?_, Fr.of_below hbel (Nat.le_refl _) _⟩
      have e2 : (((b :: bs).map fun l => (⟨l.toArray⟩ : ByteArray)).take (b :: bs).length).map Value.string = (b :: bs).map S := by
        rw [List.take_of_length_le (by simp), List.map_map]; rfl
      rw [e2] at ho
      exact ho

def InsPost (A0 : Option Addr) (bs : List (List UInt8)) (w : World) (e : Ending) (w' : World) : Prop := ∃ A c, e = .returned (.slice A bs.length c) ∧ Fr No w w' ∧ NSl w' A bs ∧ (A = A0 ∨ ∀ g o, A = some ⟨g, o, none⟩ → w.heap.size ≤ g)

theorem kids_le (h : List UInt8) : kidsOf h ≤ 3 := by
  have : (shapeOf h).length ≤ 3 := by
    unfold shapeOf
    repeat' split
    all_goals simp
  unfold kidsOf
  split <;> omega

theorem kids_binds {h : List UInt8} (hb : bindsB h = true) : 1 ≤ kidsOf h := by
  unfold bindsB at hb
  simp only [Bool.or_eq_true, beq_iff_eq] at hb
  rcases hb with rfl | rfl <;> decide

def bndN (h : List UInt8) (i : Nat) : Nat := if bindsB h = true ∧ i + 1 = kidsOf h then 1 else 0

theorem bndN_le (h : List UInt8) (i : Nat) : bndN h i ≤ 1 := by
  unfold bndN; split <;> omega

set_option maxRecDepth 100000 in
set_option maxHeartbeats 2000000 in
theorem boundIn_any (h : List UInt8) (i : Nat) (n : Int) (hn : (bndN h i : Int) = n) (_hi : i ≤ 1000) (w : World) :
    Calls Tryz.prog 81 #[S h, .int .i64 i] w fun e w' => e = .returned (.int .i64 n) ∧ w = w' := by
  have hk3 := kids_le h
  rcases hbb : bindsB h with _ | _
  · have e1 : n = 0 := by rw [← hn]; simp [bndN, hbb]
    have HB := Lib.hid hbb
    subst e1
    clear hbb hn
    go_enter Tryz.func81, Tryz.ntmps81
    go_wp2_with fail
    refine (binds_any h false HB.out _).mono ?_
    rintro e w' ⟨rfl, rfl⟩
    go_wp2_with fail
    go_ret
    exact ⟨rfl, rfl⟩
  · have hk1 := kids_binds hbb
    obtain ⟨m, hm⟩ : ∃ m, m = kidsOf h := ⟨_, rfl⟩
    have HM := Lib.hid hm.symm
    rw [← hm] at hk1 hk3
    have w1 : IntKind.i64.wrap ((m : Int) - 1) = (m : Int) - 1 := IntWalk.i64_in _ (by omega)
    by_cases hik : i + 1 = m
    · have e1 : n = 1 := by rw [← hn, bndN, if_pos ⟨hbb, by omega⟩]; rfl
      have e2 : ((i : Int) == (m : Int) - 1) = true := beq_iff_eq.2 (by omega)
      have HB := Lib.hid hbb
      subst e1
      clear hbb hm hik hn
      go_enter Tryz.func81, Tryz.ntmps81
      go_wp2_with fail
      refine (binds_any h true HB.out _).mono ?_
      rintro e w' ⟨rfl, rfl⟩
      go_wp2_with fail
      refine (kids_any h m HM.out _).mono ?_
      rintro e w' ⟨rfl, rfl⟩
      go_wp2_with fail
      go_ret
      exact ⟨rfl, rfl⟩
    · have e1 : n = 0 := by rw [← hn, bndN, if_neg (fun h => by omega)]; rfl
      have e2 : ((i : Int) == (m : Int) - 1) = false := beq_eq_false_iff_ne.2 (by omega)
      have HB := Lib.hid hbb
      subst e1
      clear hbb hm hik hn
      go_enter Tryz.func81, Tryz.ntmps81
      go_wp2_with fail
      refine (binds_any h true HB.out _).mono ?_
      rintro e w' ⟨rfl, rfl⟩
      go_wp2_with fail
      refine (kids_any h m HM.out _).mono ?_
      rintro e w' ⟨rfl, rfl⟩
      go_wp2_with fail
      go_ret
      exact ⟨rfl, rfl⟩

set_option maxRecDepth 100000 in
set_option maxHeartbeats 2000000 in
theorem inside_any (w : World) (A : Option Addr) (bs : List (List UInt8)) (c n : Nat) (hn : n = bs.length) (h x : List UInt8) (i : Nat) (hb : NSl w A bs) (hl : n ≤ 900) (_hi : i ≤ 1000) :
    Calls Tryz.prog 57 #[.slice A n c, S h, S x, .int .i64 i] w fun e w' => InsPost A (insB bs h x i) w e w' := by
  by_cases hq : bindsB h = true ∧ i + 1 = kidsOf h
  · have e1 : insB bs h x i = bs ++ [x] := by simp [insB, hq]
    have en : (bndN h i : Int) = 1 := by simp [bndN, hq]
    have HE := Lib.hid e1
    have HB := Lib.hid en
    have CL : Hid (Calls Tryz.prog 82 #[.slice A n c] w fun e w' => ∃ A' c', e = .returned (.slice A' n c') ∧ w'.ownsRow w.heap.size 9 1 (.slice A' n c') n (bs.map S) ∧ Fr No w w') := clone_any w A bs c n hn hb (by omega)
    have HNN := Lib.hid hn
    clear e1 hn hb hq en
    go_enter Tryz.func57, Tryz.ntmps57
    go_wp2_with fail
    refine (boundIn_any h i 1 HB.out _hi _).mono ?_
    rintro e w' ⟨rfl, rfl⟩
    go_wp2_with fail
    refine CL.out.mono ?_
    rintro e w1 ⟨A1, c1, rfl, ho, hf1⟩
    obtain ⟨i0, hi0, hz0, hz1, hz2⟩ := info_parts info_str
    have hsz := hf1.size
    have HOA : Hid (∀ o : Obj, (w1.alloc o).ownsRow w.heap.size 9 1 (.slice A1 n c1) n (bs.map S)) := fun o => ho.alloc o
    have HC1 : Hid (∀ (i : Nat) (u : Value), [S x][i]? = some u → (w1.alloc (.cells #[S x] 9)).cell? ((⟨w1.heap.size, 0, none⟩ : Addr).add i) = some u) := cells_new (w := w1) rfl [S x] 9
    have HC2 : Hid (∀ u ∈ [S x], u.oneCell' = true) := by
      intro u hu
      simp at hu
      rw [hu]; rfl
    have HC5 : Hid (∀ o : Obj, w.heap.size ≤ (w1.alloc o).heap.size) := fun o => by simp; omega
    have bnd : (n + 1) * 16 ≤ 140737488355328 := by omega
    have bnd2 : n + 1 ≤ maxLen := by unfold maxLen; omega
    have FIN : Hid (∀ (o : Obj) (v' : Value) (w2 : World), w2.ownsRow w.heap.size 9 1 v' (n + 1) (bs.map S ++ [S x]) → (w1.alloc o).grownBy w2 (Value.slice A1 n c1).ownBlock → InsPost A (insB bs h x i) w (.returned v') w2) := by
      intro o v' w2 h1 h2
      rw [HE.out]
      obtain ⟨A', c', rfl⟩ := own_form h1
      have e3 : bs.map S ++ [S x] = (bs ++ [x]).map S := by simp
      rw [e3] at h1
      refine ⟨A', c', by rw [HNN.out]; simp, (hf1.alloc o).grown h2 (fun k hk => .inr (ho.lt k hk).1), NSl.of_own h1 (by rw [HNN.out]; simp), .inr (fun g o e => by subst e; exact (h1.lt g rfl).1)⟩
    clear ho hf1
    go_wp2_with (at_builtin; go_must (refine wpList_append_own_at _ rfl _ _ 53 rfl w.heap.size 9 i0 (.string ⟨#[]⟩) 1 16 Tryz.underlying53 hi0 hz0 hz1 hz2 rfl (by decide) _ n (bs.map S) rfl (HOA.out _) ⟨w1.heap.size, 0, none⟩ 1 1 [S x] rfl rfl HC1.out HC2.out bnd2 bnd (HC5.out _) ?_); intro v' w2 hown' hgrow _ _; have HF := Lib.hid (FIN.out _ v' w2 hown' hgrow); clear hown' hgrow)
    go_ret
    exact HF.out
  · have e1 : insB bs h x i = bs := by simp only [insB, if_neg hq]
    have en : (bndN h i : Int) = 0 := by simp only [bndN, if_neg hq]; rfl
    have FIN : Hid (InsPost A (insB bs h x i) w (.returned (.slice A n c)) w) := by
      show InsPost _ _ _ _ _
      rw [e1]
      exact ⟨A, c, by rw [hn], Fr.refl _ _, hb, .inl rfl⟩
    have HB := Lib.hid en
    clear e1 hn hb hq en
    go_enter Tryz.func57, Tryz.ntmps57
    go_wp2_with fail
    refine (boundIn_any h i 0 HB.out _hi _).mono ?_
    rintro e w' ⟨rfl, rfl⟩
    go_wp2_with fail
    go_ret
    exact FIN.out
end Go.Proofs.YtnjgaenhjdjpfaaGreatDoor

/- The parts of a term under construction; sizes. -/
namespace Go.Proofs.YtnjgaenhjdjpfaaGreatDoor
open Go.RowKit Go.ChangeMaps

/-- a term has as many atoms as its tree -/
theorem cv_size : ∀ (f : Fo), f.wf →
    (∀ (bs : List (List UInt8)) (h x : List UInt8) (i c : Nat), isTms (some (List.replicate c true)) f = true → (cv f (.kids bs h x i)).size = f.size) ∧
    (∀ bs : List (List UInt8), isTms none f = true → (if bindsB (hd1 f) then 2 else 1) + (cv f (.parts bs)).size = f.size) ∧
    (∀ (bs : List (List UInt8)) (h : List UInt8) (c : Nat), isTms (some (false :: List.replicate c true)) f = true → 1 + (cv f (.name bs h)).size = f.size) := by
  intro f
  induction f with
  | nil =>
    intro _
    refine ⟨fun bs h x i c _ => rfl, fun bs h => (by cases h), fun bs h c hc => (by simp [isTms] at hc)⟩
  | cons a k r ihk ihr =>
    intro hw
    have hk := ihk hw.2.1
    have hr := ihr hw.2.2
    refine ⟨?_, ?_, ?_⟩
    · intro bs h x i c hc
      cases c with
      | zero => simp [isTms] at hc
      | succ c =>
        rw [List.replicate_succ] at hc
        simp only [isTms, Bool.and_eq_true] at hc
        simp only [cv, Ts.size, Fo.size]
        rw [hr.1 _ _ _ _ c hc.2]
        by_cases ha : a = []
        · subst ha
          simp only [if_true] at hc ⊢
          have := hk.2.1 (insB bs h x i) hc.1
          simp only [ndH, if_true]
          omega
        · simp only [if_neg ha] at hc ⊢
          obtain rfl := hw.1 ha
          have hnb : bindsB (ndH a .nil) = false := by
            unfold ndH
            rw [if_neg ha]
            split <;> decide
          rw [hnb]
          simp [cv, Ts.size]
    · intro bs hc
      simp only [isTms, Bool.and_eq_true] at hc
      have hs : shapeOf a ≠ [] := by intro e; rw [e] at hc; cases hc.1
      have hh := (shape_head hs).1
      rcases shape_cases a with ⟨e, _⟩ | ⟨hb, e, _⟩ | ⟨hb, e, _⟩
      · exact absurd e hs
      · rw [e] at hc
        have := hr.2.2 bs a _ hc.2
        simp only [hd1, hb, if_true, cv, Fo.size, if_neg hh]
        omega
      · rw [e] at hc
        have := hr.1 bs a [] 0 _ hc.2
        simp only [hd1, hb, cv, Fo.size, if_neg hh, Bool.false_eq_true, if_false]
        omega
    · intro bs h c hc
      simp only [isTms, Bool.and_eq_true] at hc
      have hnb := (name_bytes hc.1).1
      have := hr.1 bs h a 0 c hc.2
      simp only [cv, Fo.size, if_neg hnb]
      omega

theorem node_size {a : List UInt8} {k : Fo} (bs : List (List UInt8)) (h : isTm a k = true) (hw : a ≠ [] → k = .nil) (hk : k.wf) : (if bindsB (ndH a k) then 2 else 1) + (cv k (.parts bs)).size = treeSize a k := by
  unfold isTm at h
  unfold treeSize
  by_cases ha : a = []
  · subst ha
    simp only [if_true] at h ⊢
    have := (cv_size k hk).2.1 bs h
    simpa [ndH] using this
  · rw [if_neg ha]
    obtain rfl := hw ha
    have hnb : bindsB (ndH a .nil) = false := by
      unfold ndH
      rw [if_neg ha]
      split <;> decide
    rw [hnb]
    simp [cv, Ts.size]

/-- the parts so far -/
structure KL (w : World) (R : Nat) (f : Ts) (i : Nat) (V : Value) (wr : World) : Prop where
  fr : Fr (One R) w wr
  own : ∃ xs, wr.ownsRow w.heap.size 31 1 V i xs ∧ TEl wr (fun b => w.heap.size ≤ b ∧ b < wr.heap.size ∧ some b ≠ V.ownBlock) f xs
  low : R < w.heap.size

theorem KL.keep {w wr w' : World} {R i : Nat} {f : Ts} {V : Value} (h : KL w R f i V wr) (hf : Fr (One R) wr w') : KL w R f i V w' := by
  obtain ⟨h1, ⟨xs, h2, h3⟩, h4⟩ := h
  refine ⟨h1.trans hf, ⟨xs, own_fr h2 hf (fun b hb e => by unfold One at e; have := (h2.lt b hb).1; omega), h3.mono (fun b hb => ⟨hb.1, Nat.lt_of_lt_of_le hb.2.1 hf.size, hb.2.2⟩) (fun b hb => hf.block b hb.2.1 (fun e => by unfold One at e; omega))⟩, h4⟩

theorem KL.form {w wr : World} {R i : Nat} {f : Ts} {V : Value} (h : KL w R f i V wr) : ∃ A c, V = .slice A i c := by
  obtain ⟨_, ⟨xs, h2, _⟩, _⟩ := h
  exact own_form h2

theorem KL.start (w : World) (R : Nat) (hR : R < w.heap.size) {wr : World} (hf : Fr (One R) w wr) (o : Obj) (ho : o = .cells #[] 31) : KL w R .nil 0 (.slice (some ⟨wr.heap.size, 0, none⟩) 0 0) (wr.alloc o) := by
  subst ho
  refine ⟨hf.alloc _, ⟨[], ⟨rfl, .inr ⟨wr.heap.size, 0, #[], rfl, hf.size, heap_alloc_new wr _, Nat.le_refl _, Nat.zero_le _, rfl, rfl⟩⟩, rfl⟩, hR⟩

/-- one part more -/
theorem KL.more {w wr w1 w2 : World} {R i : Nat} {f : Ts} {V v' : Value} {o : Obj} {p : Nat} {h a : List UInt8} {d : Nat} {k : Ts} (hk : KL w R f i V wr) (hf : Fr (One R) wr w1) (ht : Tm w1 (fun b => wr.heap.size ≤ b ∧ b < w1.heap.size) p h a d k)
    {xs : List Value} (h2 : w1.ownsRow w.heap.size 31 1 V i xs) (h3 : TEl w1 (fun b => w.heap.size ≤ b ∧ b < w1.heap.size ∧ some b ≠ V.ownBlock) f xs) (hown : w2.ownsRow w.heap.size 31 1 v' (i + 1) (xs ++ [Ptr p]))
    (hg : (w1.alloc o).grownBy w2 V.ownBlock) (hloc : v'.ownBlock = V.ownBlock ∨ v'.ownBlock = some (w1.alloc o).heap.size) : KL w R (f.snoc h a d k) (i + 1) v' w2 := by
  have hk1 := hk.keep hf
  obtain ⟨h1, _, h4⟩ := hk1
  have hvo := h2.lt
  have hvr : ∀ b, V.ownBlock = some b → b < wr.heap.size := fun b hb => by
    obtain ⟨_, ⟨ys, g2, _⟩, _⟩ := hk
    exact (g2.lt b hb).2
  have hsz := hg.size
  have hsa : (w1.alloc o).heap.size = w1.heap.size + 1 := by simp
  have hs1 := hf.size
  have hs0 := hk.fr.size
  have keep : ∀ b, b < w1.heap.size → some b ≠ V.ownBlock → w2.heap[b]? = w1.heap[b]? := fun b hb hne => by
    rw [hg.block b (by omega) hne]
    exact Below.heap_alloc _ _ _ hb
  have more : ∀ b, b < w1.heap.size → some b ≠ V.ownBlock → some b ≠ v'.ownBlock := fun b hb hne => by
    rcases hloc with e | e
    · rw [e]; exact hne
    · rw [e]; intro h; injection h with h; omega
  refine ⟨(h1.alloc o).grown hg (fun b hb => .inr (hvo b hb).1), ⟨xs ++ [Ptr p], hown, ?_⟩, h4⟩
  refine TEl.snoc (ht.mono (fun b hb => ?_) (fun b hb => ?_)) (h3.mono (fun b hb => ?_) (fun b hb => ?_))
  · have hne : some b ≠ V.ownBlock := fun e => by have := hvr b e.symm; omega
    exact ⟨by omega, by omega, more b hb.2 hne⟩
  · exact keep b hb.2 (fun e => by have := hvr b e.symm; omega)
  · exact ⟨hb.1, by omega, more b hb.2.1 hb.2.2⟩
  · exact keep b hb.2.1 hb.2.2

theorem KL.done {w wr : World} {R i : Nat} {f : Ts} {A : Option Addr} {c : Nat} (h : KL w R f i (.slice A i c) wr) (hl : f.len = i) : TSl wr (fun b => w.heap.size ≤ b ∧ b < wr.heap.size) A f := by
  obtain ⟨_, ⟨xs, h2, h3⟩, _⟩ := h
  refine ⟨xs, h3.mono (fun b hb => ⟨hb.1, hb.2.1⟩) (fun _ _ => rfl), ?_⟩
  rcases h2.2 with ⟨_, h0⟩ | ⟨g, cap, cur, hv, _⟩
  · left; omega
  · injection hv with e1 e2 e3
    right
    refine ⟨g, 0, e1, h2.lt g (by rw [e1]; rfl), fun j u hj => ?_⟩
    have := h2.cells (g := g) (by rw [e1]; rfl) j u hj
    rw [addr_add] at this
    exact this

theorem info_ptr : (Tryz.prog.info? 31).map (fun i => (i.zero, i.size, i.bytes)) = some (some (.pointer none), 1, 8) := by kernel_rfl
end Go.Proofs.YtnjgaenhjdjpfaaGreatDoor

/- The reader of terms reads as tmRd says. -/
namespace Go.Proofs.YtnjgaenhjdjpfaaGreatDoor
open Go.RowKit Go.ChangeMaps

def NewT (w w' : World) : Nat → Prop := fun b => w.heap.size ≤ b ∧ b < w'.heap.size

def ReadP (w : World) (R : Nat) (bs : List (List UInt8)) (res : TR) (e : Ending) (w' : World) : Prop :=
  Fr (One R) w w' ∧ match res with
  | some (a, k, r, n) => ∃ p, e = .returned (Ptr p) ∧ TRdr w' R r n ∧ Tm w' (NewT w w') p (ndH a k) (ndA bs a k) (ndD bs a) (cv k (.parts bs))
  | none => e = .returned (.pointer none) ∧ ∃ u n, TRdr w' R u n

theorem ReadP.no {w w' : World} {R : Nat} {bs : List (List UInt8)} {res : TR} {u : List UInt8} {n : Nat} (hr : res = none) (hf : Fr (One R) w w') (ht : TRdr w' R u n) : ReadP w R bs res (.returned (.pointer none)) w' := by
  subst hr
  exact ⟨hf, rfl, u, n, ht⟩

theorem ReadP.nil_ {w w' : World} {R : Nat} {bs : List (List UInt8)} {res : TR} {e : Ending} (hr : res = none) (h : ReadP w R bs res e w') : e = .returned (.pointer none) ∧ ∃ u n, TRdr w' R u n := by
  subst hr; exact h.2

theorem ReadP.yes {w w' : World} {R : Nat} {bs : List (List UInt8)} {res : TR} {e : Ending} {a : List UInt8} {k : Fo} {r : List UInt8} {n : Nat} (hr : res = some (a, k, r, n)) (h : ReadP w R bs res e w') :
    ∃ p, e = .returned (Ptr p) ∧ TRdr w' R r n ∧ Tm w' (NewT w w') p (ndH a k) (ndA bs a k) (ndD bs a) (cv k (.parts bs)) := by
  subst hr; exact h.2

def ReadSaid (f : Nat) : Prop := ∀ (w : World) (R : Nat) (bs : List (List UInt8)) (A : Option Addr) (c n : Nat) (u : List UInt8) (k : Nat), n = bs.length → NSl w A bs → (∀ g o, A = some ⟨g, o, none⟩ → g ≠ R) → TRdr w R u k → u.length ≤ 6000 → u.length < f → n ≤ k → k ≤ 300 →
  Calls Tryz.prog 31 #[Ptr R, .slice A n c] w fun e w' => ReadP w R bs (tmRd f u k) e w'

theorem trdr_cut {w : World} {R : Nat} {u : List UInt8} {k : Nat} (h : TRdr w R u k) (u2 : List UInt8) : TRdr (w.setCell ⟨R, 0, none⟩ (S u2)) R u2 k ∧ Fr (One R) w (w.setCell ⟨R, 0, none⟩ (S u2)) :=
  ⟨Blk.set_ h 0 (S u2), (Fr.refl (One R) w).setCell (p := ⟨R, 0, none⟩) (.inl rfl) _⟩

theorem pre_yes (c : UInt8) (u : List UInt8) : Lib.hasPrefix (c :: u) [c] = true ∧ Lib.trimPrefix (c :: u) [c] = u := by
  simp [Lib.hasPrefix, Lib.trimPrefix]

theorem pre_no (c : UInt8) (u : List UInt8) (h : ∀ r, u ≠ c :: r) : Lib.hasPrefix u [c] = false ∧ Lib.trimPrefix u [c] = u := by
  have : Lib.hasPrefix u [c] = false := by
    cases u with
    | nil => rfl
    | cons d u =>
      have hd : c ≠ d := fun e => h u (by rw [e])
      simp [Lib.hasPrefix, List.isPrefixOf, hd]
  exact ⟨this, by simp [Lib.trimPrefix, this]⟩

/-- skipping one sign -/
theorem skip_one (w : World) (R : Nat) (u : List UInt8) (k : Nat) (c : UInt8) (h : TRdr w R u k) :
    Calls Tryz.prog 48 #[Ptr R, S [c]] w fun e w' => Fr (One R) w w' ∧ ((∃ r, u = c :: r ∧ e = .returned (.bool true) ∧ TRdr w' R r k) ∨ ((∀ r, u ≠ c :: r) ∧ e = .returned (.bool false) ∧ TRdr w' R u k)) := by
  by_cases hc : ∃ r, u = c :: r
  · obtain ⟨r, rfl⟩ := hc
    refine (skip_t w R (c :: r) [c] r k true h (pre_yes c r).1 (pre_yes c r).2).mono ?_
    rintro e w' ⟨rfl, rfl⟩
    exact ⟨(trdr_cut h r).2, .inl ⟨r, rfl, rfl, (trdr_cut h r).1⟩⟩
  · have hn := pre_no c u (fun r e => hc ⟨r, e⟩)
    refine (skip_t w R u [c] u k false h hn.1 hn.2).mono ?_
    rintro e w' ⟨rfl, rfl⟩
    exact ⟨(trdr_cut h u).2, .inr ⟨fun r e => hc ⟨r, e⟩, rfl, (trdr_cut h u).1⟩⟩

theorem tmRd_at (f : Nat) (u : List UInt8) (n : Nat) (h : ∀ r, u ≠ 40 :: r) : tmRd (f + 1) u n = if 300 < n + 1 then none else if isAtomTm (wordOf u) then some (wordOf u, .nil, behind u, n + 1) else none := by
  rw [tmRd]
  intro r e
  exact h r e

theorem truth_not_name {a : List UInt8} (h : a = tTrue ∨ a = tFalse) : isName a = false := by rcases h with rfl | rfl <;> decide

theorem Tm.newT {w w1 w' : World} {T : Nat → Prop} {p : Nat} {h a : List UInt8} {d : Nat} {k : Ts} (ht : Tm w' T p h a d k) (hs : w.heap.size ≤ w1.heap.size) (hT : ∀ b, T b → w1.heap.size ≤ b ∧ b < w'.heap.size) : Tm w' (NewT w w') p h a d k :=
  ht.mono (fun b hb => ⟨Nat.le_trans hs (hT b hb).1, (hT b hb).2⟩) (fun _ _ => rfl)

/-- an atom -/
theorem next_atom (f : Nat) (w : World) (R : Nat) (bs : List (List UInt8)) (A : Option Addr) (c n : Nat) (u : List UInt8) (k : Nat) (hn : n = bs.length) (hA : NSl w A bs) (hAR : ∀ g o, A = some ⟨g, o, none⟩ → g ≠ R) (hR : TRdr w R u k) (hu : u.length ≤ 6000)
    (hnk : n ≤ k) (hk : k ≤ 300) (h40 : ∀ r, u ≠ 40 :: r) :
    Calls Tryz.prog 31 #[Ptr R, .slice A n c] w fun e w' => ReadP w R bs (tmRd (f + 1) u k) e w' := by
  rw [tmRd_at f u k h40]
  have hlt := hR.lt
  have SK := Lib.hid (skip_one w R u k 40 hR)
  have H40 := Lib.hid h40
  have HA := Lib.hid hA
  have HAR := Lib.hid hAR
  have HNN := Lib.hid hn
  clear h40 hR hA hAR hn
  obtain ⟨wd, hwd⟩ : ∃ wd, wd = wordOf u := ⟨_, rfl⟩
  have hwl : wd.length ≤ 6000 := by
    have := word_behind u
    have := congrArg List.length this
    simp at this
    rw [hwd]; omega
  have HWD := Lib.hid hwd
  rw [← hwd]
  clear hwd
  obtain ⟨res, hres⟩ : ∃ res : TR, res = (if 300 < k + 1 then none else if isAtomTm wd then some (wd, .nil, behind u, k + 1) else none) := ⟨_, rfl⟩
  rw [← hres]
  have HRES := Lib.hid hres
  clear hres
  go_enter Tryz.func31, Tryz.ntmps31
  go_wp2_with fail
  refine SK.out.mono ?_
  rintro e w1 ⟨hf1, ⟨r, hr, _, _⟩ | ⟨_, rfl, hR1⟩⟩
  · exact absurd hr (H40.out r)
  go_wp2_with fail
  refine (word_any w1 R u k hR1 hu (by omega)).mono ?_
  rintro e w2 ⟨hR2, hf2, rfl⟩
  have hf02 := hf1.trans hf2
  by_cases h300 : 300 < k + 1
  · rw [if_pos h300] at hR2
    rw [if_pos h300]
    have hres := HRES.out.trans (if_pos h300)
    have HRN := Lib.hid hres
    clear hres
    go_wp2_with fail
    refine (nameIs_any [] w2 (by simp)).mono ?_
    rintro e w3 ⟨rfl, hf3⟩
    rw [show isName [] = false from rfl]
    have HR3 := Lib.hid (hR2.fr hf3 (fun h => h))
    have HF3 := Lib.hid (hf02.trans (hf3.mono (fun _ _ h => h.elim)))
    clear hR2 hf3 hf02 hf1 hf2 hR1
    go_wp2_with fail
    go_ret
    exact ReadP.no HRN.out HF3.out HR3.out
  · rw [if_neg h300] at hR2
    rw [if_neg h300, ← HWD.out]
    have HRES2 := Lib.hid (HRES.out.trans (if_neg h300))
    clear HRES
    by_cases htr : wd = tTrue ∨ wd = tFalse
    · have FIN : Hid (∀ e w', NewPost (fun _ => False) hTruth wd .nil w2 e w' → ∃ p, e = .returned (Ptr p) ∧ ReadP w R bs res (.returned (Ptr p)) w') := by
        rintro e w' ⟨p, rfl, hf3, hp, htm⟩
        have ha : isAtomTm wd = true := by rcases htr with rfl | rfl <;> decide
        have hne : wd ≠ [] := by rcases htr with rfl | rfl <;> decide
        have hr := HRES2.out
        rw [ha] at hr
        subst hr
        refine ⟨p, rfl, hf02.trans (hf3.mono (fun _ _ h => h.elim)), ?_⟩
        refine ⟨p, rfl, hR2.fr hf3 (fun h => h), ?_⟩
        have := htm.newT (w := w) hf02.size (fun b hb => hb.elim (fun h => h.elim) (fun h => h))
        simpa [ndH, ndA, ndD, hne, htr, cv] using this
      have CALL : Hid (∀ a, a = wd → Calls Tryz.prog 51 #[.string ⟨#[116, 114, 117, 116, 104]⟩, S a, .slice none 0 0] w2 fun e w' => NewPost (fun _ => False) hTruth wd .nil w2 e w') := fun a ha => by
        subst ha
        exact newTerm_any w2 (fun _ => False) hTruth a .nil none 0 (fun _ h => h.elim) (TSl.nil _ _ _) (by simp [Ts.size]) (by simp [Ts.len])
      clear hR2 hf02 hf1 hf2 hR1 HWD
      rcases htr with rfl | rfl
      · unfold tTrue at FIN CALL ⊢
        go_wp2_with fail
        refine (CALL.out _ rfl).mono ?_
        rintro e w3 hpost
        obtain ⟨p, rfl, hfin⟩ := FIN.out _ _ hpost
        have HF := Lib.hid hfin
        clear hfin hpost
        go_wp2_with fail
        go_ret
        exact HF.out
      · unfold tFalse at FIN CALL ⊢
        go_wp2_with fail
        refine (CALL.out _ rfl).mono ?_
        rintro e w3 hpost
        obtain ⟨p, rfl, hfin⟩ := FIN.out _ _ hpost
        have HF := Lib.hid hfin
        clear hfin hpost
        go_wp2_with fail
        go_ret
        exact HF.out
    · have n1 : (wd == [116, 114, 117, 101]) = false := by simp; exact fun e => htr (.inl e)
      have n2 : (wd == [102, 97, 108, 115, 101]) = false := by simp; exact fun e => htr (.inr e)
      have HT := Lib.hid htr
      clear htr
      have hat : isAtomTm wd = isName wd := by unfold isAtomTm tTrue tFalse; rw [n1, n2]; rfl
      have HRES3 := Lib.hid (HRES2.out.trans (by rw [hat]))
      clear hat HRES2
      go_wp2_with fail
      refine (nameIs_any wd w2 hwl).mono ?_
      rintro e w3 ⟨rfl, hf3⟩
      have hR3 := hR2.fr hf3 (fun h => h)
      have hf03 := hf02.trans (hf3.mono (fun _ _ h => h.elim))
      rcases hnm : isName wd with _ | _
      · have HR3 := Lib.hid hR3
        have HF3 := Lib.hid hf03
        have HRN : Hid (res = none) := by
          show _ = _
          rw [HRES3.out, hnm]; rfl
        clear hR2 hf3 hf02 hf1 hf2 hR1 hR3 hf03 hnm
        go_wp2_with fail
        go_ret
        exact ReadP.no HRN.out HF3.out HR3.out
      · have hne := (name_bytes hnm).1
        have NT : Hid (Calls Tryz.prog 53 #[S wd, .slice A n c] w3 fun e w' => NameT bs wd w3 e w') := nameTerm_any w3 A bs c n HNN.out wd (HA.out.fr hf03 (fun g o e h => HAR.out g o e h)) (by omega)
        have FIN : Hid (∀ e w', NameT bs wd w3 e w' → ∃ p, e = .returned (Ptr p) ∧ ReadP w R bs res (.returned (Ptr p)) w') := by
          rintro e w' ⟨p, rfl, hf4, htm⟩
          have hr : res = some (wd, .nil, behind u, k + 1) := by rw [HRES3.out, hnm]; rfl
          subst hr
          refine ⟨p, rfl, hf03.trans (hf4.mono (fun _ _ h => h.elim)), p, rfl, hR3.fr hf4 (fun h => h), ?_⟩
          have h2 := htm.newT (w := w) hf03.size (fun b hb => hb)
          simpa [ndH, ndA, ndD, hne, HT.out, cv] using h2
        clear hR2 hf3 hf02 hf1 hf2 hR1 hR3 hf03 hnm hne
        go_wp2_with fail
        refine NT.out.mono ?_
        rintro e w4 hpost
        obtain ⟨p, rfl, hfin⟩ := FIN.out _ _ hpost
        have HF := Lib.hid hfin
        clear hfin hpost
        go_wp2_with fail
        go_ret
        exact HF.out
end Go.Proofs.YtnjgaenhjdjpfaaGreatDoor

/- The reader of terms: parts. -/
namespace Go.Proofs.YtnjgaenhjdjpfaaGreatDoor
open Go.RowKit Go.ChangeMaps

section
variable (rd : List UInt8 → Nat → TR) (u : List UInt8) (k : Nat)
theorem rdParts_1 (h : 300 < k + 1) : rdParts rd u k = none := by unfold rdParts; rw [if_pos h]
theorem rdParts_2 (h : ¬ 300 < k + 1) (h0 : kidsOf (wordOf u) = 0) : rdParts rd u k = none := by unfold rdParts; rw [if_neg h, if_pos h0]
theorem rdParts_3 (h : ¬ 300 < k + 1) (h0 : ¬ kidsOf (wordOf u) = 0) (hb : bindsB (wordOf u) = true) (hs : ∀ v, behind u ≠ 32 :: v) : rdParts rd u k = none := by
  unfold rdParts; rw [if_neg h, if_neg h0, if_pos hb]
  split
  · rename_i v hv; exact absurd hv (hs v)
  · rfl
theorem rdParts_4 (h : ¬ 300 < k + 1) (h0 : ¬ kidsOf (wordOf u) = 0) (hb : bindsB (wordOf u) = true) (v : List UInt8) (hs : behind u = 32 :: v) (h2 : 300 < k + 2) : rdParts rd u k = none := by
  unfold rdParts; rw [if_neg h, if_neg h0, if_pos hb, hs]
  simp only [if_pos h2]
theorem rdParts_5 (h : ¬ 300 < k + 1) (h0 : ¬ kidsOf (wordOf u) = 0) (hb : bindsB (wordOf u) = true) (v : List UInt8) (hs : behind u = 32 :: v) (h2 : ¬ 300 < k + 2) (hn : isName (wordOf v) = false) : rdParts rd u k = none := by
  unfold rdParts; rw [if_neg h, if_neg h0, if_pos hb, hs]
  simp only [if_neg h2, hn]
  rfl
theorem rdParts_6 (h : ¬ 300 < k + 1) (h0 : ¬ kidsOf (wordOf u) = 0) (hb : bindsB (wordOf u) = true) (v : List UInt8) (hs : behind u = 32 :: v) (h2 : ¬ 300 < k + 2) (hn : isName (wordOf v) = true) :
    rdParts rd u k = rdClose (rdKids rd (kidsOf (wordOf u)) (behind v) (k + 2) (.cons (wordOf u) .nil (.cons (wordOf v) .nil .nil))) := by
  unfold rdParts; rw [if_neg h, if_neg h0, if_pos hb, hs]
  simp only [if_neg h2, hn, if_true]
theorem rdParts_7 (h : ¬ 300 < k + 1) (h0 : ¬ kidsOf (wordOf u) = 0) (hb : bindsB (wordOf u) = false) :
    rdParts rd u k = rdClose (rdKids rd (kidsOf (wordOf u)) (behind u) (k + 1) (.cons (wordOf u) .nil .nil)) := by
  unfold rdParts; rw [if_neg h, if_neg h0, if_neg (by rw [hb]; decide)]
end

/-- what holds of the parts read so far -/
structure KP (f cnt : Nat) (res : TR) (pre : Fo) (u0 : List UInt8) (n0 : Nat) (g : Fo) (ui : List UInt8) (ni : Nat) : Prop where
  eq : res = rdClose (rdKids (tmRd f) (cnt - g.len) ui ni (pre.app g))
  tms : isTms (some (List.replicate g.len true)) g = true
  wf : g.wf
  num : ni = n0 + g.size
  le : ni ≤ 300
  len : ui.length ≤ u0.length

theorem KP.start {f cnt : Nat} {res : TR} {pre : Fo} {u0 : List UInt8} {n0 : Nat} (h : res = rdClose (rdKids (tmRd f) cnt u0 n0 pre)) (hn : n0 ≤ 300) : KP f cnt res pre u0 n0 .nil u0 n0 :=
  ⟨by rw [Fo.app_nil]; exact h, rfl, trivial, by simp [Fo.size], hn, Nat.le_refl _⟩

theorem KP.nosp {f cnt : Nat} {res : TR} {pre : Fo} {u0 : List UInt8} {n0 : Nat} {g : Fo} {ui : List UInt8} {ni : Nat} (h : KP f cnt res pre u0 n0 g ui ni) (hlt : g.len < cnt) (hs : ∀ v, ui ≠ 32 :: v) : res = none := by
  rw [h.eq]
  obtain ⟨m, hm⟩ : ∃ m, cnt - g.len = m + 1 := ⟨cnt - g.len - 1, by omega⟩
  rw [hm]
  have : rdKids (tmRd f) (m + 1) ui ni (pre.app g) = none := by
    unfold rdKids
    split
    · rename_i v; exact absurd rfl (hs v)
    · rfl
  rw [this]; rfl

theorem KP.kid {f cnt : Nat} {res : TR} {pre : Fo} {u0 : List UInt8} {n0 : Nat} {g : Fo} {v : List UInt8} {ni : Nat} (h : KP f cnt res pre u0 n0 g (32 :: v) ni) (hlt : g.len < cnt) :
    (tmRd f v ni = none → res = none) ∧ ∀ a k r n', tmRd f v ni = some (a, k, r, n') → KP f cnt res pre u0 n0 (g.snoc a k) r n' ∧ r.length ≤ v.length := by
  obtain ⟨m, hm⟩ : ∃ m, cnt - g.len = m + 1 := ⟨cnt - g.len - 1, by omega⟩
  have he := h.eq
  rw [hm] at he
  refine ⟨fun hn => ?_, fun a k r n' hs => ?_⟩
  · rw [he, rdKids]
    simp only [hn]
    rfl
  · obtain ⟨s1, s2, s3, s4, s5, s6, _⟩ := tmRd_sound _ _ _ _ _ _ _ hs
    have hlen : r.length ≤ v.length := by rw [s1]; simp
    refine ⟨⟨?_, ?_, wf_snoc _ _ _ h.wf s5 s6, ?_, s4, ?_⟩, hlen⟩
    · rw [he, rdKids]
      simp only [hs]
      rw [Fo.len_snoc, show cnt - (g.len + 1) = m by omega]
      congr 2
      have : ∀ (p q : Fo), (p.app q).snoc a k = p.app (q.snoc a k) := by
        intro p q
        induction p with
        | nil => rfl
        | cons b j p _ ih => simp [Fo.app, Fo.snoc, ih]
      exact this pre g
    · have : ∀ (q : Fo) (c : Nat), isTms (some (List.replicate c true)) q = true → isTms (some (List.replicate (c + 1) true)) (q.snoc a k) = true := by
        intro q
        induction q with
        | nil =>
          intro c hc
          cases c with
          | zero => simp only [Fo.snoc, List.replicate_succ, List.replicate_zero, isTms, Bool.and_eq_true]; exact ⟨s2, trivial⟩
          | succ c => simp [List.replicate_succ, isTms] at hc
        | cons b j q _ ih =>
          intro c hc
          cases c with
          | zero => simp [isTms] at hc
          | succ c =>
            rw [List.replicate_succ] at hc
            simp only [isTms, Bool.and_eq_true] at hc
            rw [Fo.snoc, List.replicate_succ]
            simp only [isTms, Bool.and_eq_true]
            exact ⟨hc.1, ih c hc.2⟩
      rw [Fo.len_snoc]
      exact this g g.len h.tms
    · have : ∀ q : Fo, (q.snoc a k).size = q.size + treeSize a k := by
        intro q
        induction q with
        | nil => simp [Fo.snoc, Fo.size, treeSize]
        | cons b j q _ ih => simp [Fo.snoc, Fo.size, ih]; omega
      rw [this, s3, h.num]; omega
    · have := h.len
      simp at this
      omega

theorem KP.end_ {f cnt : Nat} {res : TR} {pre : Fo} {u0 : List UInt8} {n0 : Nat} {g : Fo} {ui : List UInt8} {ni : Nat} (h : KP f cnt res pre u0 n0 g ui ni) (hlt : g.len = cnt) :
    ((∀ r, ui ≠ 41 :: r) → res = none) ∧ ∀ r, ui = 41 :: r → res = some ([], pre.app g, r, ni) := by
  have he := h.eq
  rw [hlt, Nat.sub_self, rdKids] at he
  refine ⟨fun hn => ?_, fun r hr => ?_⟩
  · rw [he]
    unfold rdClose
    split
    · rename_i heq
      simp only [Option.some.injEq, Prod.mk.injEq] at heq
      exact absurd heq.2.1 (hn _)
    · rfl
  · rw [he, hr]; rfl

theorem insB_len (bs : List (List UInt8)) (h x : List UInt8) (i : Nat) : (insB bs h x i).length ≤ bs.length + (if bindsB h = true then 1 else 0) := by
  unfold insB
  by_cases hb : bindsB h = true
  · simp only [hb, true_and, if_true]
    split <;> simp
  · simp [hb]

set_option maxRecDepth 100000 in
set_option maxHeartbeats 4000000 in
theorem nextParts_any (f : Nat) (hIH : ReadSaid f) (w : World) (R : Nat) (bs : List (List UInt8)) (A : Option Addr) (c n : Nat) (u : List UInt8) (k : Nat) (hn : n = bs.length) (hA : NSl w A bs) (hAR : ∀ g o, A = some ⟨g, o, none⟩ → g ≠ R) (hR : TRdr w R u k) (hu : u.length ≤ 6000)
    (huf : u.length < f) (hnk : n ≤ k) (hk : k ≤ 300) :
    Calls Tryz.prog 49 #[Ptr R, .slice A n c] w fun e w' => ReadP w R bs (rdParts (tmRd f) u k) e w' := by
  have hlt := hR.lt
  have IH := Lib.hid hIH
  have HA := Lib.hid hA
  have HAR := Lib.hid hAR
  have HNN := Lib.hid hn
  clear hA hAR hn hIH
  obtain ⟨res, hres⟩ : ∃ res : TR, res = rdParts (tmRd f) u k := ⟨_, rfl⟩
  rw [← hres]
  have HRES := Lib.hid hres
  clear hres
  obtain ⟨h, hh⟩ : ∃ h, h = wordOf u := ⟨_, rfl⟩
  have hub := word_behind u
  have hubl : (behind u).length ≤ u.length := by have := congrArg List.length hub; simp at this; omega
  have HH := Lib.hid hh
  clear hub hh
  have HR := Lib.hid hR
  clear hR
  go_enter Tryz.func49, Tryz.ntmps49
  go_wp2_with fail
  refine (word_any w R u k HR.out hu (by omega)).mono ?_
  rintro e w1 ⟨hR1, hf1, rfl⟩
  by_cases h300 : 300 < k + 1
  · rw [if_pos h300] at hR1
    rw [if_pos h300]
    have HN := Lib.hid (HRES.out.trans (rdParts_1 _ _ _ h300))
    have HR1 := Lib.hid hR1
    have HF1 := Lib.hid hf1
    clear hR1 hf1 h300
    go_wp2_with fail
    refine (kids_any [] 0 (by decide) w1).mono ?_
    rintro e w' ⟨rfl, rfl⟩
    go_wp2_with fail
    go_ret
    exact ReadP.no HN.out HF1.out HR1.out
  · rw [if_neg h300] at hR1
    rw [if_neg h300, ← HH.out]
    have HR1 := Lib.hid hR1
    have HF1 := Lib.hid hf1
    have H300 := Lib.hid h300
    clear hR1 hf1 h300
    have hc3 := kids_le h
    obtain ⟨cnt, hcnt⟩ : ∃ cnt, cnt = kidsOf h := ⟨_, rfl⟩
    have HC := Lib.hid hcnt.symm
    rw [← hcnt] at hc3
    have hcz : (cnt : Int) ≤ 3 := by omega
    clear hcnt
    go_wp2_with fail
    refine (kids_any h cnt HC.out w1).mono ?_
    rintro e w' ⟨rfl, rfl⟩
    by_cases h0 : cnt = 0
    · subst h0
      have HN := Lib.hid (HRES.out.trans (rdParts_2 _ _ _ H300.out (by rw [← HH.out]; exact HC.out)))
      go_wp2_with fail
      go_ret
      exact ReadP.no HN.out HF1.out HR1.out
    · have n0 : ((cnt : Int) == 0) = false := beq_eq_false_iff_ne.2 (by omega)
      have hk0 : ¬ kidsOf (wordOf u) = 0 := by rw [← HH.out, HC.out]; exact h0
      have HK0' := Lib.hid hk0
      clear hk0
      have hlt1 := HR1.out.lt
      rcases hbb : bindsB h with _ | _
      · have HBB := Lib.hid hbb
        clear hbb
        have HEQ := Lib.hid (HRES.out.trans (rdParts_7 _ _ _ H300.out HK0'.out (by rw [← HH.out]; exact HBB.out)))
        have HB1 : Hid (bs.length + (if bindsB h = true then 1 else 0) ≤ k + 1) := by
          show _ ≤ _
          rw [HBB.out]; have := HNN.out; simp; omega
        go_wp2_with fail
        refine (binds_any h false HBB.out w1).mono ?_
        rintro e w' ⟨rfl, rfl⟩
        go_wp2_with fail
        have HKS : Hid (KL w R .nil 0 (.slice (some ⟨w1.heap.size, 0, none⟩) 0 0) (w1.alloc (.cells #[] 31))) := KL.start w R hlt HF1.out _ rfl
        have HRS : Hid (TRdr (w1.alloc (.cells #[] 31)) R (behind u) (k + 1)) := HR1.out.alloc _
        generalize w1.alloc (.cells #[] 31) = w5 at HKS HRS ⊢
        obtain ⟨u0, hu0⟩ : ∃ u0, u0 = behind u := ⟨_, rfl⟩
        obtain ⟨n0', hn0⟩ : ∃ n0', n0' = k + 1 := ⟨_, rfl⟩
        have h300' := H300.out
        have HP0 : Hid (KP f cnt res (.cons h .nil .nil) u0 n0' .nil u0 n0') := by
          refine KP.start ?_ (by omega)
          rw [hu0, hn0]
          have := HEQ.out
          rw [← HH.out, HC.out] at this
          exact this
        rw [← hu0, ← hn0] at HRS
        have HR0 := HRS
        have HK0 : Hid (KL w R (cv .nil (.kids bs h [] 0)) Fo.nil.len (.slice (some ⟨w1.heap.size, 0, none⟩) Fo.nil.len 0) w5) := HKS.out
        rw [← hn0] at HB1
        have hnn : n ≤ n0' := by omega
        rw [← hu0] at hubl
        clear HRS HKS HRES HEQ hu0 hn0 h300' n0 hlt1
        go_loopw [8, 31] (fun V u wr => ∃ (g : Fo) (ui : List UInt8) (ni : Nat) (Ai : Option Addr) (ci : Nat), g.len ≤ cnt ∧ u = .int .i64 g.len ∧ V = .slice Ai g.len ci ∧ KL w R (cv g (.kids bs h [] 0)) g.len (.slice Ai g.len ci) wr ∧ TRdr wr R ui ni ∧ KP f cnt res (.cons h .nil .nil) u0 n0' g ui ni) (fun _ u _ => cnt - (intOf u).toNat)
        case atStart => exact ⟨.nil, u0, n0', _, 0, Nat.zero_le _, rfl, rfl, HK0.out, HR0.out, HP0.out⟩
        case round =>
          obtain ⟨g, ui, ni, Ai, ci, hgl, rfl, rfl, hkl, hri, hkp⟩ := hrel
          have HKL := Lib.hid hkl
          have HKP := Lib.hid hkp
          have HRI := Lib.hid hri
          clear hkl hkp hri
          obtain ⟨i, hi⟩ : ∃ i, i = g.len := ⟨_, rfl⟩
          have HI := Lib.hid hi
          rw [← hi] at hgl ⊢
          rw [← hi] at HKL
          have hltR := HRI.out.lt
          clear hi
          have ic : (i : Int) ≤ 3 := by omega
          have SK := Lib.hid (skip_one wr R ui ni 32 HRI.out)
          have SK2 := Lib.hid (skip_one wr R ui ni 41 HRI.out)
          by_cases hlt : i < cnt
          · go_wp2_with fail
            refine SK.out.mono ?_
            rintro e w1 ⟨hf1, ⟨v, hv, rfl, hR1⟩ | ⟨hno, rfl, hR1⟩⟩
            · have HKPv : Hid (KP f cnt res (.cons h .nil .nil) u0 n0' g (32 :: v) ni) := by
                have := HKP.out
                rw [hv] at this
                exact this
              have hvl : v.length < u0.length := by have := HKPv.out.len; simp at this; omega
              have hnile := HKPv.out.le
              have hni : n0' ≤ ni := by have := HKPv.out.num; omega
              have hf01 : Fr (One R) w w1 := HKL.out.fr.trans hf1
              have INS : Hid (Calls Tryz.prog 57 #[.slice A n c, S h, S [], .int .i64 i] w1 fun e w' => InsPost A (insB bs h [] i) w1 e w') := inside_any w1 A bs c n HNN.out h [] i (HA.out.fr hf01 (fun g o e h => HAR.out g o e h)) (by omega) (by omega)
              have HV := Lib.hid hv
              clear hv
              go_wp2_with fail
              refine INS.out.mono ?_
              rintro e w2 ⟨A', c', rfl, hf2, hns, hor⟩
              have hR2 := hR1.fr hf2 (fun h => h)
              have hf12 : Fr (One R) wr w2 := hf1.trans (hf2.mono (fun _ _ h => h.elim))
              have hsz2 := hf12.size
              have hil := insB_len bs h [] i
              have NX : Hid (Calls Tryz.prog 31 #[Ptr R, .slice A' (insB bs h [] i).length c'] w2 fun e w' => ReadP w2 R (insB bs h [] i) (tmRd f v ni) e w') := by
                refine IH.out w2 R (insB bs h [] i) A' c' _ v ni rfl hns ?_ hR2 (by omega) (by omega) (by have := HNN.out; have := HB1.out; omega) hnile
                intro g o e
                rcases hor with h1 | h1
                · exact HAR.out g o (h1 ▸ e)
                · have := h1 g o e; have := hR1.lt; have := hf1.size; have := HKL.out.low; have := HKL.out.fr.size; omega
              obtain ⟨K1, K2⟩ := HKPv.out.kid (by have := HI.out; omega)
              have HK1 := Lib.hid K1
              have HK2 := Lib.hid K2
              obtain ⟨bs', hbs'⟩ : ∃ bs', bs' = insB bs h [] i := ⟨_, rfl⟩
              have HBS := Lib.hid hbs'
              rw [← hbs'] at NX
              clear hns hor hR1 hf1 hf2 hR2 hil K1 K2
              rw [← hbs']
              clear hbs'
              generalize bs'.length = bl at NX ⊢
              go_wp2_with fail
              refine NX.out.mono ?_
              rintro e w3 hpost
              rcases hres3 : tmRd f v ni with _ | ⟨a, kk, r, n'⟩
              · obtain ⟨rfl, u', n', hR3⟩ := hpost.nil_ hres3
                have HN := Lib.hid (HK1.out hres3)
                have HR3 := Lib.hid hR3
                have HF3 := Lib.hid (HKL.out.fr.trans (hf12.trans hpost.1))
                clear hpost hres3 hR3
                go_wp2_with fail
                go_ret
                exact ReadP.no HN.out HF3.out HR3.out
              · obtain ⟨p, rfl, hR3, htm⟩ := hpost.yes hres3
                obtain ⟨hkp', hrl⟩ := HK2.out a kk r n' hres3
                have HF3 := Lib.hid (hf12.trans hpost.1)
                have HKP' := Lib.hid hkp'
                have HR3 := Lib.hid hR3
                have HTM : Hid (Tm w3 (fun b => wr.heap.size ≤ b ∧ b < w3.heap.size) p (ndH a kk) (ndA bs' a kk) (ndD bs' a) (cv kk (.parts bs'))) := htm.mono (fun b hb => ⟨Nat.le_trans hsz2 hb.1, hb.2⟩) (fun _ _ => rfl)
                have HKL3 := Lib.hid (HKL.out.keep HF3.out)
                clear hpost hres3 hR3 htm hkp'
                obtain ⟨xs, hown0, hel0⟩ := HKL3.out.own
                obtain ⟨i0, hi0, hz0, hz1, hz2⟩ := info_parts info_ptr
                have hsz3 := HKL3.out.fr.size
                have HOA : Hid (∀ o : Obj, (w3.alloc o).ownsRow w.heap.size 31 1 (.slice Ai i ci) i xs) := fun o => hown0.alloc o
                have HC1 : Hid (∀ (i : Nat) (u : Value), [Ptr p][i]? = some u → (w3.alloc (.cells #[Ptr p] 31)).cell? ((⟨w3.heap.size, 0, none⟩ : Addr).add i) = some u) := cells_new (w := w3) rfl [Ptr p] 31
                have HC2 : Hid (∀ u ∈ [Ptr p], u.oneCell' = true) := by
                  intro u hu
                  simp at hu
                  rw [hu]; rfl
                have HC5 : Hid (∀ o : Obj, w.heap.size ≤ (w3.alloc o).heap.size) := fun o => by simp; omega
                have bnd : (i + 1) * 8 ≤ 140737488355328 := by omega
                have bnd2 : i + 1 ≤ maxLen := by unfold maxLen; omega
                have HM : Hid (∀ (o : Obj) V' w4, w4.ownsRow w.heap.size 31 1 V' (i + 1) (xs ++ [Ptr p]) → (w3.alloc o).grownBy w4 (Value.slice Ai i ci).ownBlock → (V'.ownBlock = (Value.slice Ai i ci).ownBlock ∨ V'.ownBlock = some (w3.alloc o).heap.size) →
                    ∃ A4 c4, V' = .slice A4 (i + 1) c4 ∧ KL w R (cv (g.snoc a kk) (.kids bs h [] 0)) (i + 1) V' w4 ∧ TRdr w4 R r n') := by
                  intro o V' w4 h1 h2 h3
                  obtain ⟨A4, c4, e4⟩ := own_form h1
                  refine ⟨A4, c4, e4, ?_, ?_⟩
                  · rw [cv_snoc, Nat.zero_add, ← HI.out, ← HBS.out]
                    exact HKL.out.more HF3.out HTM.out hown0 hel0 h1 h2 h3
                  · have := HKL3.out.low
                    have hb := h2.block R (by simp; omega) (fun e => by have := (hown0.lt R e.symm).1; omega)
                    exact Blk.keep (HR3.out.alloc o) hb
                clear hown0 hel0 hrl
                go_wp2_with (at_builtin; go_must (refine wpList_append_own_at _ rfl _ _ 76 rfl w.heap.size 31 i0 (.pointer none) 1 8 Tryz.underlying76 hi0 hz0 hz1 hz2 rfl (by decide) _ i xs rfl (HOA.out _) ⟨w3.heap.size, 0, none⟩ 1 1 [Ptr p] rfl rfl HC1.out HC2.out bnd2 bnd (HC5.out _) ?_); intro v' w4 hown' hgrow _ hloc; obtain ⟨A4, c4, rfl, hkl4, hR4⟩ := HM.out _ v' w4 hown' hgrow hloc; have HKL4 := Lib.hid hkl4; have HR4 := Lib.hid hR4; clear hown' hgrow hloc hkl4 hR4)
                go_roundw
                case rel => exact ⟨g.snoc a kk, r, n', A4, c4, by rw [Fo.len_snoc, ← HI.out]; omega, by rw [Fo.len_snoc, ← HI.out]; go_num, by rw [Fo.len_snoc, ← HI.out], by rw [Fo.len_snoc, ← HI.out]; exact HKL4.out, HR4.out, HKP'.out⟩
                case measure => simp [intOf]; omega
            · have HN := Lib.hid (HKP.out.nosp (by have := HI.out; omega) hno)
              have HR3 := Lib.hid hR1
              have HF3 := Lib.hid (HKL.out.fr.trans hf1)
              clear hno hR1 hf1
              go_wp2_with fail
              go_ret
              exact ReadP.no HN.out HF3.out HR3.out
          · have hic : i = cnt := by omega
            obtain ⟨E1, E2⟩ := HKP.out.end_ (by have := HI.out; omega)
            have HE1 := Lib.hid E1
            have HE2 := Lib.hid E2
            clear E1 E2 hic
            go_wp2_with fail
            refine SK2.out.mono ?_
            rintro e w1 ⟨hf1, ⟨r, hr, rfl, hR1⟩ | ⟨hno, rfl, hR1⟩⟩
            · have HS := Lib.hid (HE2.out r hr)
              have hk1 := HKL.out.keep hf1
              have hcl : (cv g (.kids bs h [] 0)).len = i := by rw [cv_kids_len]; exact HI.out.symm
              have hts := hk1.done hcl
              have hcs := (cv_size g HKP.out.wf).1 bs h [] 0 _ HKP.out.tms
              have hgs : g.size ≤ 300 := by have := HKP.out.num; have := HKP.out.le; omega
              have NT : Hid (Calls Tryz.prog 51 #[S h, S [], .slice Ai i ci] w1 fun e w' => NewPost (fun b => w.heap.size ≤ b ∧ b < w1.heap.size) h [] (cv g (.kids bs h [] 0)) w1 e w') := by
                have := newTerm_any w1 (fun b => w.heap.size ≤ b ∧ b < w1.heap.size) h [] (cv g (.kids bs h [] 0)) Ai ci (fun b hb => hb.2) hts (by omega) (by omega)
                rw [hcl] at this
                exact this
              have FIN : Hid (∀ e w', NewPost (fun b => w.heap.size ≤ b ∧ b < w1.heap.size) h [] (cv g (.kids bs h [] 0)) w1 e w' → ∃ p, e = .returned (Ptr p) ∧ ReadP w R bs res (.returned (Ptr p)) w') := by
                rintro e w' ⟨p, rfl, hf2, hp, htm⟩
                have hs := HS.out
                subst hs
                have hs1 := hk1.fr.size
                refine ⟨p, rfl, hk1.fr.trans (hf2.mono (fun _ _ h => h.elim)), p, rfl, hR1.fr hf2 (fun h => h), ?_⟩
                have h2 : Tm w' (NewT w w') p h [] 0 (cv g (.kids bs h [] 0)) := htm.mono (fun b hb => by
                  rcases hb with hb | hb
                  · exact ⟨hb.1, Nat.lt_of_lt_of_le hb.2 hf2.size⟩
                  · exact ⟨Nat.le_trans hs1 hb.1, hb.2⟩) (fun _ _ => rfl)
                have hbb := HBB.out
                simpa [ndH, ndA, ndD, hd1, hd2, Fo.app, cv, hbb] using h2
              clear hr hR1 hf1 hk1 hcl hts hcs hgs
              go_wp2_with fail
              refine NT.out.mono ?_
              rintro e w2 hpost
              obtain ⟨p, rfl, hfin⟩ := FIN.out _ _ hpost
              have HF := Lib.hid hfin
              clear hfin hpost
              go_wp2_with fail
              go_ret
              exact HF.out
            · have HN := Lib.hid (HE1.out hno)
              have HR3 := Lib.hid hR1
              have HF3 := Lib.hid (HKL.out.fr.trans hf1)
              clear hno hR1 hf1
              go_wp2_with fail
              go_ret
              exact ReadP.no HN.out HF3.out HR3.out
      · have HBB := Lib.hid hbb
        clear hbb
        have SK := Lib.hid (skip_one w1 R (behind u) (k + 1) 32 HR1.out)
        go_wp2_with fail
        refine (binds_any h true HBB.out w1).mono ?_
        rintro e w' ⟨rfl, rfl⟩
        go_wp2_with fail
        refine SK.out.mono ?_
        rintro e w2 ⟨hf2, ⟨v, hv, rfl, hR2⟩ | ⟨hno, rfl, hR2⟩⟩
        · have hvl : v.length < u.length := by rw [hv] at hubl; simp at hubl; omega
          have HV := Lib.hid hv
          have hf02 := HF1.out.trans hf2
          clear hv
          go_wp2_with fail
          refine (word_any w2 R v (k + 1) hR2 (by omega) (by omega)).mono ?_
          rintro e w3 ⟨hR3, hf3, rfl⟩
          have hf03 := hf02.trans hf3
          by_cases h302 : 300 < k + 1 + 1
          · rw [if_pos h302] at hR3
            rw [if_pos h302]
            have HN := Lib.hid (HRES.out.trans (rdParts_4 _ _ _ H300.out HK0'.out (by rw [← HH.out]; exact HBB.out) v HV.out (by omega)))
            go_wp2_with fail
            refine (nameIs_any [] w3 (by simp)).mono ?_
            rintro e w4 ⟨rfl, hf4⟩
            rw [show isName [] = false from rfl]
            have HR4 := Lib.hid (hR3.fr hf4 (fun h => h))
            have HF4 := Lib.hid (hf03.trans (hf4.mono (fun _ _ h => h.elim)))
            clear hR3 hf4 hf03 hf3 hf02 hf2 hR2
            go_wp2_with fail
            go_ret
            exact ReadP.no HN.out HF4.out HR4.out
          · rw [if_neg h302] at hR3
            rw [if_neg h302]
            obtain ⟨x, hx⟩ : ∃ x, x = wordOf v := ⟨_, rfl⟩
            have hvb := congrArg List.length (word_behind v)
            simp only [List.length_append] at hvb
            rw [← hx] at hvb ⊢
            have HX := Lib.hid hx
            clear hx
            go_wp2_with fail
            refine (nameIs_any x w3 (by omega)).mono ?_
            rintro e w4 ⟨rfl, hf4⟩
            have HR4 := Lib.hid (hR3.fr hf4 (fun h => h))
            have HF4 := Lib.hid (hf03.trans (hf4.mono (fun _ _ h => h.elim)))
            have hsz4 := HF4.out.size
            clear hR3 hf4 hf03 hf3 hf02 hf2 hR2
            rcases hnm : isName x with _ | _
            · have HN := Lib.hid (HRES.out.trans (rdParts_5 _ _ _ H300.out HK0'.out (by rw [← HH.out]; exact HBB.out) v HV.out (by omega) (by rw [← HX.out]; exact hnm)))
              clear hnm
              go_wp2_with fail
              go_ret
              exact ReadP.no HN.out HF4.out HR4.out
            · have HEQ := Lib.hid (HRES.out.trans (rdParts_6 _ _ _ H300.out HK0'.out (by rw [← HH.out]; exact HBB.out) v HV.out (by omega) (by rw [← HX.out]; exact hnm)))
              have HB1 : Hid (bs.length + (if bindsB h = true then 1 else 0) ≤ k + 2) := by
                show _ ≤ _
                rw [HBB.out]; have := HNN.out; simp; omega
              clear hnm
              go_wp2_with fail
              have HKS : Hid (KL w R .nil 0 (.slice (some ⟨w4.heap.size, 0, none⟩) 0 0) (w4.alloc (.cells #[] 31))) := KL.start w R hlt HF4.out _ rfl
              have HRS : Hid (TRdr (w4.alloc (.cells #[] 31)) R (behind v) (k + 2)) := HR4.out.alloc _
              generalize w4.alloc (.cells #[] 31) = w5 at HKS HRS ⊢
              obtain ⟨u0, hu0⟩ : ∃ u0, u0 = behind v := ⟨_, rfl⟩
              obtain ⟨n0', hn0⟩ : ∃ n0', n0' = k + 2 := ⟨_, rfl⟩
              have HP0 : Hid (KP f cnt res (.cons h .nil (.cons x .nil .nil)) u0 n0' .nil u0 n0') := by
                refine KP.start ?_ (by omega)
                rw [hu0, hn0]
                have := HEQ.out
                rw [← HH.out, HC.out, ← HX.out] at this
                exact this
              rw [← hu0, ← hn0] at HRS
              have HR0 := HRS
              have HK0 : Hid (KL w R (cv .nil (.kids bs h x 0)) Fo.nil.len (.slice (some ⟨w4.heap.size, 0, none⟩) Fo.nil.len 0) w5) := HKS.out
              rw [← hn0] at HB1
              have hnn : n ≤ n0' := by omega
              rw [← hu0] at hvb
              have hubl : u0.length ≤ u.length := by omega
              clear HRS HKS HRES HEQ hu0 hn0 n0 hlt1 hvb
              go_loopw [8, 31] (fun V u wr => ∃ (g : Fo) (ui : List UInt8) (ni : Nat) (Ai : Option Addr) (ci : Nat), g.len ≤ cnt ∧ u = .int .i64 g.len ∧ V = .slice Ai g.len ci ∧ KL w R (cv g (.kids bs h x 0)) g.len (.slice Ai g.len ci) wr ∧ TRdr wr R ui ni ∧ KP f cnt res (.cons h .nil (.cons x .nil .nil)) u0 n0' g ui ni) (fun _ u _ => cnt - (intOf u).toNat)
              case atStart => exact ⟨.nil, u0, n0', _, 0, Nat.zero_le _, rfl, rfl, HK0.out, HR0.out, HP0.out⟩
              case round =>
                obtain ⟨g, ui, ni, Ai, ci, hgl, rfl, rfl, hkl, hri, hkp⟩ := hrel
                have HKL := Lib.hid hkl
                have HKP := Lib.hid hkp
                have HRI := Lib.hid hri
                clear hkl hkp hri
                obtain ⟨i, hi⟩ : ∃ i, i = g.len := ⟨_, rfl⟩
                have HI := Lib.hid hi
                rw [← hi] at hgl ⊢
                rw [← hi] at HKL
                have hltR := HRI.out.lt
                clear hi
                have ic : (i : Int) ≤ 3 := by omega
                have SK := Lib.hid (skip_one wr R ui ni 32 HRI.out)
                have SK2 := Lib.hid (skip_one wr R ui ni 41 HRI.out)
                by_cases hlt : i < cnt
                · go_wp2_with fail
                  refine SK.out.mono ?_
                  rintro e w1 ⟨hf1, ⟨v, hv, rfl, hR1⟩ | ⟨hno, rfl, hR1⟩⟩
                  · have HKPv : Hid (KP f cnt res (.cons h .nil (.cons x .nil .nil)) u0 n0' g (32 :: v) ni) := by
                      have := HKP.out
                      rw [hv] at this
                      exact this
                    have hvl : v.length < u0.length := by have := HKPv.out.len; simp at this; omega
                    have hnile := HKPv.out.le
                    have hni : n0' ≤ ni := by have := HKPv.out.num; omega
                    have hf01 : Fr (One R) w w1 := HKL.out.fr.trans hf1
                    have INS : Hid (Calls Tryz.prog 57 #[.slice A n c, S h, S x, .int .i64 i] w1 fun e w' => InsPost A (insB bs h x i) w1 e w') := inside_any w1 A bs c n HNN.out h x i (HA.out.fr hf01 (fun g o e h => HAR.out g o e h)) (by omega) (by omega)
                    have HV := Lib.hid hv
                    clear hv
                    go_wp2_with fail
                    refine INS.out.mono ?_
                    rintro e w2 ⟨A', c', rfl, hf2, hns, hor⟩
                    have hR2 := hR1.fr hf2 (fun h => h)
                    have hf12 : Fr (One R) wr w2 := hf1.trans (hf2.mono (fun _ _ h => h.elim))
                    have hsz2 := hf12.size
                    have hil := insB_len bs h x i
                    have NX : Hid (Calls Tryz.prog 31 #[Ptr R, .slice A' (insB bs h x i).length c'] w2 fun e w' => ReadP w2 R (insB bs h x i) (tmRd f v ni) e w') := by
                      refine IH.out w2 R (insB bs h x i) A' c' _ v ni rfl hns ?_ hR2 (by omega) (by omega) (by have := HNN.out; have := HB1.out; omega) hnile
                      intro g o e
                      rcases hor with h1 | h1
                      · exact HAR.out g o (h1 ▸ e)
                      · have := h1 g o e; have := hR1.lt; have := hf1.size; have := HKL.out.low; have := HKL.out.fr.size; omega
                    obtain ⟨K1, K2⟩ := HKPv.out.kid (by have := HI.out; omega)
                    have HK1 := Lib.hid K1
                    have HK2 := Lib.hid K2
                    obtain ⟨bs', hbs'⟩ : ∃ bs', bs' = insB bs h x i := ⟨_, rfl⟩
                    have HBS := Lib.hid hbs'
                    rw [← hbs'] at NX
                    clear hns hor hR1 hf1 hf2 hR2 hil K1 K2
                    rw [← hbs']
                    clear hbs'
                    generalize bs'.length = bl at NX ⊢
                    go_wp2_with fail
                    refine NX.out.mono ?_
                    rintro e w3 hpost
                    rcases hres3 : tmRd f v ni with _ | ⟨a, kk, r, n'⟩
                    · obtain ⟨rfl, u', n', hR3⟩ := hpost.nil_ hres3
                      have HN := Lib.hid (HK1.out hres3)
                      have HR3 := Lib.hid hR3
                      have HF3 := Lib.hid (HKL.out.fr.trans (hf12.trans hpost.1))
                      clear hpost hres3 hR3
                      go_wp2_with fail
                      go_ret
                      exact ReadP.no HN.out HF3.out HR3.out
                    · obtain ⟨p, rfl, hR3, htm⟩ := hpost.yes hres3
                      obtain ⟨hkp', hrl⟩ := HK2.out a kk r n' hres3
                      have HF3 := Lib.hid (hf12.trans hpost.1)
                      have HKP' := Lib.hid hkp'
                      have HR3 := Lib.hid hR3
                      have HTM : Hid (Tm w3 (fun b => wr.heap.size ≤ b ∧ b < w3.heap.size) p (ndH a kk) (ndA bs' a kk) (ndD bs' a) (cv kk (.parts bs'))) := htm.mono (fun b hb => ⟨Nat.le_trans hsz2 hb.1, hb.2⟩) (fun _ _ => rfl)
                      have HKL3 := Lib.hid (HKL.out.keep HF3.out)
                      clear hpost hres3 hR3 htm hkp'
                      obtain ⟨xs, hown0, hel0⟩ := HKL3.out.own
                      obtain ⟨i0, hi0, hz0, hz1, hz2⟩ := info_parts info_ptr
                      have hsz3 := HKL3.out.fr.size
                      have HOA : Hid (∀ o : Obj, (w3.alloc o).ownsRow w.heap.size 31 1 (.slice Ai i ci) i xs) := fun o => hown0.alloc o
                      have HC1 : Hid (∀ (i : Nat) (u : Value), [Ptr p][i]? = some u → (w3.alloc (.cells #[Ptr p] 31)).cell? ((⟨w3.heap.size, 0, none⟩ : Addr).add i) = some u) := cells_new (w := w3) rfl [Ptr p] 31
                      have HC2 : Hid (∀ u ∈ [Ptr p], u.oneCell' = true) := by
                        intro u hu
                        simp at hu
                        rw [hu]; rfl
                      have HC5 : Hid (∀ o : Obj, w.heap.size ≤ (w3.alloc o).heap.size) := fun o => by simp; omega
                      have bnd : (i + 1) * 8 ≤ 140737488355328 := by omega
                      have bnd2 : i + 1 ≤ maxLen := by unfold maxLen; omega
                      have HM : Hid (∀ (o : Obj) V' w4, w4.ownsRow w.heap.size 31 1 V' (i + 1) (xs ++ [Ptr p]) → (w3.alloc o).grownBy w4 (Value.slice Ai i ci).ownBlock → (V'.ownBlock = (Value.slice Ai i ci).ownBlock ∨ V'.ownBlock = some (w3.alloc o).heap.size) →
                          ∃ A4 c4, V' = .slice A4 (i + 1) c4 ∧ KL w R (cv (g.snoc a kk) (.kids bs h x 0)) (i + 1) V' w4 ∧ TRdr w4 R r n') := by
                        intro o V' w4 h1 h2 h3
                        obtain ⟨A4, c4, e4⟩ := own_form h1
                        refine ⟨A4, c4, e4, ?_, ?_⟩
                        · rw [cv_snoc, Nat.zero_add, ← HI.out, ← HBS.out]
                          exact HKL.out.more HF3.out HTM.out hown0 hel0 h1 h2 h3
                        · have := HKL3.out.low
                          have hb := h2.block R (by simp; omega) (fun e => by have := (hown0.lt R e.symm).1; omega)
                          exact Blk.keep (HR3.out.alloc o) hb
                      clear hown0 hel0 hrl
                      go_wp2_with (at_builtin; go_must (refine wpList_append_own_at _ rfl _ _ 76 rfl w.heap.size 31 i0 (.pointer none) 1 8 Tryz.underlying76 hi0 hz0 hz1 hz2 rfl (by decide) _ i xs rfl (HOA.out _) ⟨w3.heap.size, 0, none⟩ 1 1 [Ptr p] rfl rfl HC1.out HC2.out bnd2 bnd (HC5.out _) ?_); intro v' w4 hown' hgrow _ hloc; obtain ⟨A4, c4, rfl, hkl4, hR4⟩ := HM.out _ v' w4 hown' hgrow hloc; have HKL4 := Lib.hid hkl4; have HR4 := Lib.hid hR4; clear hown' hgrow hloc hkl4 hR4)
                      go_roundw
                      case rel => exact ⟨g.snoc a kk, r, n', A4, c4, by rw [Fo.len_snoc, ← HI.out]; omega, by rw [Fo.len_snoc, ← HI.out]; go_num, by rw [Fo.len_snoc, ← HI.out], by rw [Fo.len_snoc, ← HI.out]; exact HKL4.out, HR4.out, HKP'.out⟩
                      case measure => simp [intOf]; omega
                  · have HN := Lib.hid (HKP.out.nosp (by have := HI.out; omega) hno)
                    have HR3 := Lib.hid hR1
                    have HF3 := Lib.hid (HKL.out.fr.trans hf1)
                    clear hno hR1 hf1
                    go_wp2_with fail
                    go_ret
                    exact ReadP.no HN.out HF3.out HR3.out
                · have hic : i = cnt := by omega
                  obtain ⟨E1, E2⟩ := HKP.out.end_ (by have := HI.out; omega)
                  have HE1 := Lib.hid E1
                  have HE2 := Lib.hid E2
                  clear E1 E2 hic
                  go_wp2_with fail
                  refine SK2.out.mono ?_
                  rintro e w1 ⟨hf1, ⟨r, hr, rfl, hR1⟩ | ⟨hno, rfl, hR1⟩⟩
                  · have HS := Lib.hid (HE2.out r hr)
                    have hk1 := HKL.out.keep hf1
                    have hcl : (cv g (.kids bs h x 0)).len = i := by rw [cv_kids_len]; exact HI.out.symm
                    have hts := hk1.done hcl
                    have hcs := (cv_size g HKP.out.wf).1 bs h x 0 _ HKP.out.tms
                    have hgs : g.size ≤ 300 := by have := HKP.out.num; have := HKP.out.le; omega
                    have NT : Hid (Calls Tryz.prog 51 #[S h, S x, .slice Ai i ci] w1 fun e w' => NewPost (fun b => w.heap.size ≤ b ∧ b < w1.heap.size) h x (cv g (.kids bs h x 0)) w1 e w') := by
                      have := newTerm_any w1 (fun b => w.heap.size ≤ b ∧ b < w1.heap.size) h x (cv g (.kids bs h x 0)) Ai ci (fun b hb => hb.2) hts (by omega) (by omega)
                      rw [hcl] at this
                      exact this
                    have FIN : Hid (∀ e w', NewPost (fun b => w.heap.size ≤ b ∧ b < w1.heap.size) h x (cv g (.kids bs h x 0)) w1 e w' → ∃ p, e = .returned (Ptr p) ∧ ReadP w R bs res (.returned (Ptr p)) w') := by
                      rintro e w' ⟨p, rfl, hf2, hp, htm⟩
                      have hs := HS.out
                      subst hs
                      have hs1 := hk1.fr.size
                      refine ⟨p, rfl, hk1.fr.trans (hf2.mono (fun _ _ h => h.elim)), p, rfl, hR1.fr hf2 (fun h => h), ?_⟩
                      have h2 : Tm w' (NewT w w') p h x 0 (cv g (.kids bs h x 0)) := htm.mono (fun b hb => by
                        rcases hb with hb | hb
                        · exact ⟨hb.1, Nat.lt_of_lt_of_le hb.2 hf2.size⟩
                        · exact ⟨Nat.le_trans hs1 hb.1, hb.2⟩) (fun _ _ => rfl)
                      have hbb := HBB.out
                      simpa [ndH, ndA, ndD, hd1, hd2, Fo.app, cv, hbb] using h2
                    clear hr hR1 hf1 hk1 hcl hts hcs hgs
                    go_wp2_with fail
                    refine NT.out.mono ?_
                    rintro e w2 hpost
                    obtain ⟨p, rfl, hfin⟩ := FIN.out _ _ hpost
                    have HF := Lib.hid hfin
                    clear hfin hpost
                    go_wp2_with fail
                    go_ret
                    exact HF.out
                  · have HN := Lib.hid (HE1.out hno)
                    have HR3 := Lib.hid hR1
                    have HF3 := Lib.hid (HKL.out.fr.trans hf1)
                    clear hno hR1 hf1
                    go_wp2_with fail
                    go_ret
                    exact ReadP.no HN.out HF3.out HR3.out
        · have HN := Lib.hid (HRES.out.trans (rdParts_3 _ _ _ H300.out HK0'.out (by rw [← HH.out]; exact HBB.out) hno))
          have HR2 := Lib.hid hR2
          have HF2 := Lib.hid (HF1.out.trans hf2)
          clear hno hR2 hf2
          go_wp2_with fail
          go_ret
          exact ReadP.no HN.out HF2.out HR2.out
end Go.Proofs.YtnjgaenhjdjpfaaGreatDoor

/- Reading a term; TermValid, TermHead, TermSize of the program. -/
namespace Go.Proofs.YtnjgaenhjdjpfaaGreatDoor
open Go.RowKit Go.ChangeMaps

set_option maxHeartbeats 1000000 in
theorem next_open (f : Nat) (hIH : ReadSaid f) (w : World) (R : Nat) (bs : List (List UInt8)) (A : Option Addr) (c n : Nat) (u : List UInt8) (k : Nat) (hn : n = bs.length) (hA : NSl w A bs) (hAR : ∀ g o, A = some ⟨g, o, none⟩ → g ≠ R) (hR : TRdr w R (40 :: u) k) (hu : u.length ≤ 6000)
    (huf : u.length < f) (hnk : n ≤ k) (hk : k ≤ 300) :
    Calls Tryz.prog 31 #[Ptr R, .slice A n c] w fun e w' => ReadP w R bs (rdParts (tmRd f) u k) e w' := by
  have hlt := hR.lt
  have SK := Lib.hid (skip_one w R (40 :: u) k 40 hR)
  have NP : Hid (∀ w1, Fr (One R) w w1 → TRdr w1 R u k → Calls Tryz.prog 49 #[Ptr R, .slice A n c] w1 fun e w' => ReadP w R bs (rdParts (tmRd f) u k) e w' ∧ ∃ v, e = .returned v) := fun w1 hf h1 =>
    (nextParts_any f hIH w1 R bs A c n u k hn (hA.fr hf (fun g o e h => hAR g o e h)) hAR h1 hu huf hnk hk).mono fun e w' h => by
      refine ⟨⟨hf.trans h.1, ?_⟩, ?_⟩
      · rcases hr : rdParts (tmRd f) u k with _ | ⟨a, kk, r, m⟩
        · have := h.nil_ hr; exact this
        · obtain ⟨p, h1, h2, h3⟩ := h.yes hr
          exact ⟨p, h1, h2, h3.newT hf.size (fun b hb => hb)⟩
      · rcases hr : rdParts (tmRd f) u k with _ | ⟨a, kk, r, m⟩
        · exact ⟨_, (h.nil_ hr).1⟩
        · obtain ⟨p, h1, _⟩ := h.yes hr; exact ⟨_, h1⟩
  clear hR hA hAR hn hIH
  generalize rdParts (tmRd f) u k = res at NP ⊢
  go_enter Tryz.func31, Tryz.ntmps31
  go_wp2_with fail
  refine SK.out.mono ?_
  rintro e w1 ⟨hf1, ⟨r, hr, rfl, hR1⟩ | ⟨hno, _, _⟩⟩
  · injection hr with _ hr
    subst hr
    go_wp2_with fail
    refine (NP.out w1 hf1 hR1).mono ?_
    rintro e w2 ⟨hpost, v, rfl⟩
    have HP := Lib.hid hpost
    clear hpost
    go_wp2_with fail
    go_ret
    exact HP.out
  · exact absurd rfl (hno u)

theorem next_all : ∀ f : Nat, ReadSaid f
  | 0 => fun w R bs A c n u k _ _ _ _ _ h => by omega
  | f + 1 => fun w R bs A c n u k hn hA hAR hR hu huf hnk hk => by
    by_cases h40 : ∃ r, u = 40 :: r
    · obtain ⟨r, rfl⟩ := h40
      simp at hu huf
      exact next_open f (next_all f) w R bs A c n r k hn hA hAR hR (by omega) (by omega) hnk hk
    · exact next_atom f w R bs A c n u k hn hA hAR hR hu hnk hk (fun r e => h40 ⟨r, e⟩)

/-- what a text is as a term -/
def TmOk (s a : List UInt8) (k : Fo) : Prop := s.length ≤ 6000 ∧ TmIs s a k

theorem TmOk.unique {s a a' : List UInt8} {k k' : Fo} (h : TmOk s a k) (h' : TmOk s a' k') : a = a' ∧ k = k' := by
  have := h.2.1.symm.trans h'.2.1
  simp only [Option.some.injEq, Prod.mk.injEq, and_true] at this
  exact this

def TermP (s : List UInt8) (w : World) (e : Ending) (w' : World) : Prop :=
  Fr No w w' ∧ ((∃ a k p, TmOk s a k ∧ e = .returned (Ptr p) ∧ Tm w' (NewT w w') p (ndH a k) (ndA [] a k) (ndD [] a) (cv k (.parts []))) ∨ ((∀ a k, ¬ TmOk s a k) ∧ e = .returned (.pointer none)))

set_option maxHeartbeats 1000000 in
theorem readTerm_any (w : World) (s : List UInt8) (hs : s.length ≤ maxLen) :
    Calls Tryz.prog 21 #[S s] w fun e w' => TermP s w e w' := by
  unfold maxLen at hs
  by_cases hl : 6000 < s.length
  · have hb : decide ((6000 : Int) < (s.length : Int)) = true := by simp; omega
    have HB : Hid (∀ a k, ¬ TmOk s a k) := fun a k h => by have := h.1; omega
    go_enter Tryz.func21, Tryz.ntmps21
    go_wp2_with fail
    go_ret
    exact ⟨Fr.refl _ _, .inr ⟨HB.out, rfl⟩⟩
  · have hb : decide ((6000 : Int) < (s.length : Int)) = false := by simp; omega
    have hR0 : TRdr (w.alloc (.cells #[S s, .int .i64 0] 50)) w.heap.size s 0 := Blk.new _ _ _
    have hf0 : Fr No w (w.alloc (.cells #[S s, .int .i64 0] 50)) := (Fr.refl _ _).alloc _
    have NX : Hid (Calls Tryz.prog 31 #[Ptr w.heap.size, .slice none 0 0] (w.alloc (.cells #[S s, .int .i64 0] 50)) fun e w' => ReadP (w.alloc (.cells #[S s, .int .i64 0] 50)) w.heap.size [] (tmRd (s.length + 1) s 0) e w') :=
      next_all (s.length + 1) _ w.heap.size [] none 0 0 s 0 rfl (fun j x h => by simp at h) (fun g o h => by cases h) hR0 (by omega) (Nat.lt_succ_self _) (Nat.le_refl _) (by omega)
    have HS : Hid (s.length ≤ 6000) := by show _ ≤ _; omega
    clear hR0
    go_enter Tryz.func21, Tryz.ntmps21
    go_wp2_with fail
    refine NX.out.mono ?_
    rintro e w1 hpost
    have hf1 : Fr No w w1 := hf0.then_ hpost.1 (fun i hi e => by unfold One at e; omega)
    rcases hres : tmRd (s.length + 1) s 0 with _ | ⟨a, k, r, n⟩
    · obtain ⟨rfl, u, m, hR1⟩ := hpost.nil_ hres
      have HN : Hid (∀ a k, ¬ TmOk s a k) := fun a k h => by
        have := (tm_iff s a k (treeSize a k) (s.length + 1) (Nat.lt_succ_self _)).2 ⟨h.2, rfl⟩
        rw [hres] at this; cases this
      have c0 : w1.cell? ⟨w.heap.size, 0, none⟩ = some (S u) := (hR1.cell 0).trans rfl
      have hlt := hR1.lt
      clear hres hpost hR1
      by_cases hu : u = []
      · subst hu
        go_wp2_with fail
        go_ret
        exact ⟨hf1, .inr ⟨HN.out, rfl⟩⟩
      · have hs1 : u.isEmpty = false := by cases u; exact absurd rfl hu; rfl
        go_wp2_with fail
        go_ret
        exact ⟨hf1, .inr ⟨HN.out, rfl⟩⟩
    · obtain ⟨p, rfl, hR1, htm⟩ := hpost.yes hres
      have c0 : w1.cell? ⟨w.heap.size, 0, none⟩ = some (S r) := (hR1.cell 0).trans rfl
      have hlt := hR1.lt
      have HTM := Lib.hid (htm.newT (w := w) hf0.size (fun b hb => hb))
      have HRES := Lib.hid hres
      clear hres hpost hR1 htm
      by_cases hu : r = []
      · subst hu
        have HT := Lib.hid ((tm_iff s a k n (s.length + 1) (Nat.lt_succ_self _)).1 HRES.out).1
        go_wp2_with fail
        go_ret
        exact ⟨hf1, .inl ⟨a, k, p, ⟨HS.out, HT.out⟩, rfl, HTM.out⟩⟩
      · have hs1 : r.isEmpty = false := by cases r; exact absurd rfl hu; rfl
        have HN : Hid (∀ a k, ¬ TmOk s a k) := fun a' k' h => by
          have := (tm_iff s a' k' (treeSize a' k') (s.length + 1) (Nat.lt_succ_self _)).2 ⟨h.2, rfl⟩
          rw [HRES.out] at this
          simp only [Option.some.injEq, Prod.mk.injEq] at this
          exact hu this.2.2.1
        go_wp2_with fail
        go_ret
        exact ⟨hf1, .inr ⟨HN.out, rfl⟩⟩

def AnsB (P : Prop) (w : World) (e : Ending) (w' : World) : Prop := ∃ b : Bool, e = .returned (.bool b) ∧ (b = true ↔ P) ∧ Fr No w w'

/-- a number that a term has, or -1 -/
def AnsN (F : List UInt8 → Fo → Int) (s : List UInt8) (w : World) (e : Ending) (w' : World) : Prop := ∃ n : Int, e = .returned (.int .i64 n) ∧ ((∃ a k, TmOk s a k ∧ n = F a k) ∨ ((∀ a k, ¬ TmOk s a k) ∧ n = -1)) ∧ Fr No w w'

/-- a text that a term has, or none -/
def AnsH (s : List UInt8) (w : World) (e : Ending) (w' : World) : Prop := ∃ r : List UInt8, e = .returned (S r) ∧ ((∃ a k, TmOk s a k ∧ r = ndH a k) ∨ ((∀ a k, ¬ TmOk s a k) ∧ r = [])) ∧ Fr No w w'

end Go.Proofs.YtnjgaenhjdjpfaaGreatDoor
