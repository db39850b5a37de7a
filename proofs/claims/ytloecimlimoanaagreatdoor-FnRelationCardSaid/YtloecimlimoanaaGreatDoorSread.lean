/- Sread · Sread2 · Sread3 -/
import Derived.Test.YtloecimlimoanaaGreatDoorPre
import Derived.Test.YtloecimlimoanaaGreatDoorTy
import Derived.Maps.AppendAt
/- Sread -/
namespace Go.Proofs.YtloecimlimoanaaGreatDoor
open Go.RowKit Go.ChangeMaps

set_option maxHeartbeats 1000000 in
theorem byte_yes (n : Int) (w : World) (h : (97 ≤ n ∧ n ≤ 122) ∨ (48 ≤ n ∧ n ≤ 57) ∨ n = 42 ∨ n = 62) :
    Calls Tryz.prog 103 #[.int .u8 n] w fun e w' => e = .returned (.bool true) ∧ w = w' := by
  rcases h with ⟨h1, h2⟩ | ⟨h1, h2⟩ | rfl | rfl
  · go_enter Tryz.func103, Tryz.ntmps103
    go_wp2
    go_ret
    exact ⟨rfl, rfl⟩
  · have h3 : n < 97 := by omega
    go_enter Tryz.func103, Tryz.ntmps103
    go_wp2
    go_ret
    exact ⟨rfl, rfl⟩
  · go_enter Tryz.func103, Tryz.ntmps103
    go_wp2
    go_ret
    exact ⟨rfl, rfl⟩
  · go_enter Tryz.func103, Tryz.ntmps103
    go_wp2
    go_ret
    exact ⟨rfl, rfl⟩

set_option maxHeartbeats 1000000 in
theorem byte_no (n : Int) (w : World) (h : n < 42 ∨ (42 < n ∧ n < 48) ∨ (57 < n ∧ n < 62) ∨ (62 < n ∧ n < 97) ∨ 122 < n) :
    Calls Tryz.prog 103 #[.int .u8 n] w fun e w' => e = .returned (.bool false) ∧ w = w' := by
  have e1 : (n == 42) = false := beq_eq_false_iff_ne.2 (by omega)
  have e2 : (n == 62) = false := beq_eq_false_iff_ne.2 (by omega)
  rcases h with h1 | ⟨h1, h2⟩ | ⟨h1, h2⟩ | ⟨h1, h2⟩ | h1
  all_goals
    go_enter Tryz.func103, Tryz.ntmps103
    go_wp2
    go_ret
    first | exact ⟨rfl, rfl⟩ | exact ⟨congrArg (fun b => Ending.returned (Value.bool b)) (by simp; omega), rfl⟩

theorem byte_any (c : UInt8) (w : World) :
    Calls Tryz.prog 103 #[.int .u8 c.toNat] w fun e w' => e = .returned (.bool (isByte c)) ∧ w = w' := by
  have hlt := c.toNat_lt
  by_cases h : isByte c = true
  · rw [h]
    refine byte_yes _ w ?_
    unfold isByte at h
    simp only [Bool.or_eq_true, Bool.and_eq_true, decide_eq_true_eq, beq_iff_eq] at h
    rcases h with ((⟨a, b⟩ | ⟨a, b⟩) | rfl) | rfl
    · exact .inl ⟨by omega, by omega⟩
    · exact .inr (.inl ⟨by omega, by omega⟩)
    · exact .inr (.inr (.inl rfl))
    · exact .inr (.inr (.inr rfl))
  · rw [Bool.eq_false_iff.2 h]
    refine byte_no _ w ?_
    unfold isByte at h
    simp only [Bool.or_eq_true, Bool.and_eq_true, decide_eq_true_eq, beq_iff_eq, not_or] at h
    obtain ⟨⟨⟨h1, h2⟩, h3⟩, h4⟩ := h
    have h3' : c.toNat ≠ 42 := fun e => h3 (UInt8.toNat_inj.1 e)
    have h4' : c.toNat ≠ 62 := fun e => h4 (UInt8.toNat_inj.1 e)
    omega

/-! Trees in memory. -/
def Elems (w : World) (T : Nat → Prop) : Fo → List Value → Prop
  | .nil, xs => xs = []
  | .cons a k r, xs => ∃ A c xs', xs = S a :: .slice A k.len c :: xs' ∧ (k.len = 0 ∨ ∃ b o ys, A = some ⟨b, o, none⟩ ∧ T b ∧ Elems w T k ys ∧ ∀ j u, ys[j]? = some u → w.cell? ⟨b, o + j, none⟩ = some u) ∧ Elems w T r xs'

/-- The slice at A is the list of trees k. -/
def Sl (w : World) (T : Nat → Prop) (A : Option Addr) (k : Fo) : Prop :=
  k.len = 0 ∨ ∃ b o ys, A = some ⟨b, o, none⟩ ∧ T b ∧ Elems w T k ys ∧ ∀ j u, ys[j]? = some u → w.cell? ⟨b, o + j, none⟩ = some u

theorem Elems.mono {w w' : World} {T T' : Nat → Prop} (hT : ∀ b, T b → T' b) (hw : ∀ b, T b → w'.heap[b]? = w.heap[b]?) : ∀ {f : Fo} {xs : List Value}, Elems w T f xs → Elems w' T' f xs := by
  intro f
  induction f with
  | nil => intro xs h; exact h
  | cons a k r ihk ihr =>
    intro xs h
    obtain ⟨A, c, xs', h1, h2, h3⟩ := h
    refine ⟨A, c, xs', h1, ?_, ihr h3⟩
    rcases h2 with h2 | ⟨b, o, ys, g1, g2, g3, g4⟩
    · exact .inl h2
    · exact .inr ⟨b, o, ys, g1, hT b g2, ihk g3, fun j u hj => by rw [← g4 j u hj]; exact World.cell?_of_block (w := w) (hw b g2)⟩

theorem Sl.mono {w w' : World} {T T' : Nat → Prop} {A : Option Addr} {k : Fo} (h : Sl w T A k) (hT : ∀ b, T b → T' b) (hw : ∀ b, T b → w'.heap[b]? = w.heap[b]?) : Sl w' T' A k := by
  rcases h with h2 | ⟨b, o, ys, g1, g2, g3, g4⟩
  · exact .inl h2
  · exact .inr ⟨b, o, ys, g1, hT b g2, g3.mono hT hw, fun j u hj => by rw [← g4 j u hj]; exact World.cell?_of_block (w := w) (hw b g2)⟩

theorem Elems.length {w : World} {T : Nat → Prop} : ∀ {f : Fo} {xs : List Value}, Elems w T f xs → xs.length = f.len * 2 := by
  intro f
  induction f with
  | nil => intro xs h; rw [h]; rfl
  | cons a k r _ ihr =>
    intro xs h
    obtain ⟨A, c, xs', rfl, _, h3⟩ := h
    simp [Fo.len, ihr h3]; omega

theorem Elems.snoc {w : World} {T : Nat → Prop} {a : List UInt8} {k : Fo} {A : Option Addr} {c : Nat} (h : Sl w T A k) : ∀ {f : Fo} {xs : List Value}, Elems w T f xs → Elems w T (f.snoc a k) (xs ++ [S a, .slice A k.len c]) := by
  intro f
  induction f with
  | nil =>
    intro xs h'
    rw [h']
    exact ⟨A, c, [], rfl, h, rfl⟩
  | cons b j r _ ihr =>
    intro xs h'
    obtain ⟨A', c', xs', rfl, h2, h3⟩ := h'
    exact ⟨A', c', xs' ++ [S a, .slice A k.len c], rfl, h2, ihr h3⟩

theorem Elems.one {w : World} {T : Nat → Prop} : ∀ {f : Fo} {xs : List Value}, Elems w T f xs → ∀ u ∈ xs, u.oneCell' = true := by
  intro f
  induction f with
  | nil => intro xs h u hu; rw [h] at hu; cases hu
  | cons b j r _ ihr =>
    intro xs h' u hu
    obtain ⟨A', c', xs', rfl, h2, h3⟩ := h'
    simp only [List.mem_cons] at hu
    rcases hu with rfl | rfl | hu
    · rfl
    · rfl
    · exact ihr h3 u hu
end Go.Proofs.YtloecimlimoanaaGreatDoor

/- Sread2 -/
namespace Go.Proofs.YtloecimlimoanaaGreatDoor
open Go.RowKit Go.ChangeMaps

/-- What reading a tree from place i on hands back. -/
def ReadT (w : World) (s : List UInt8) (n i : Nat) (e : Ending) (w' : World) : Prop :=
  Fr No w w' ∧ (match rdTree n (s.drop i) with
  | some (a, k, r) => ∃ A c, e = .returned (.tuple #[.agg #[S a, .slice A k.len c], .int .i64 ((s.length - r.length : Nat) : Int)]) ∧ Sl w' (fun b => w.heap.size ≤ b ∧ b < w'.heap.size) A k ∧ r = s.drop (s.length - r.length) ∧ r.length ≤ s.length
  | none => ∃ a A m c, e = .returned (.tuple #[.agg #[S a, .slice A m c], .int .i64 (-1)]))

theorem ReadT.no {w w' : World} {s : List UInt8} {n i : Nat} {a : List UInt8} {A : Option Addr} {m c : Nat} (hf : Fr No w w') (h : rdTree n (s.drop i) = none) :
    ReadT w s n i (.returned (.tuple #[.agg #[S a, .slice A m c], .int .i64 (-1)])) w' := by
  refine ⟨hf, ?_⟩
  rw [h]
  exact ⟨a, A, m, c, rfl⟩

theorem ReadT.leaf {w w' : World} {s : List UInt8} {n i j : Nat} {a : List UInt8} {c : Nat} (hf : Fr No w w') (h : rdTree n (s.drop i) = some (a, .nil, s.drop j)) (hj : j ≤ s.length) :
    ReadT w s n i (.returned (.tuple #[.agg #[S a, .slice none 0 c], .int .i64 (j : Int)])) w' := by
  refine ⟨hf, ?_⟩
  rw [h]
  have e : s.length - (s.drop j).length = j := by simp; omega
  exact ⟨none, c, by rw [e]; rfl, .inl rfl, by rw [e], by simp⟩

theorem read_none (s : List UInt8) (n i : Nat) (d : Int) (w : World) (_hi : i ≤ s.length) (_hs : s.length ≤ 6000) (_hd0 : 0 ≤ d) (_hd1 : d ≤ 1000) (h : 300 < d ∨ i = s.length) (hn : 300 < d → n = 0) :
    Calls Tryz.prog 95 #[S s, .int .i64 i, .int .i64 d] w fun e w' => ReadT w s n i e w' := by
  have hnone : rdTree n (s.drop i) = none := by
    rcases h with h | h
    · rw [hn h]; rfl
    · rw [h, List.drop_length]; cases n <;> rfl
  have HN := Lib.hid hnone
  clear hnone hn
  by_cases h3 : 300 < d
  · clear h
    go_enter Tryz.func95, Tryz.ntmps95
    go_wp2_with fail
    exact bodyPost_ret (v := .tuple #[.agg #[S [], .slice none 0 0], .int .i64 (-1)]) (by simp [results, Tryz.results95, go_sem]) rfl (ReadT.no (((Fr.refl _ _).alloc _).alloc _) HN.out)
  · have hlen : i = s.length := by rcases h with h | h; exact absurd h h3; exact h
    have hge : (s.length : Int) ≤ (i : Int) := by omega
    clear h hlen
    go_enter Tryz.func95, Tryz.ntmps95
    go_wp2_with fail
    exact bodyPost_ret (v := .tuple #[.agg #[S [], .slice none 0 0], .int .i64 (-1)]) (by simp [results, Tryz.results95, go_sem]) rfl (ReadT.no (((Fr.refl _ _).alloc _).alloc _) HN.out)

theorem takeWhile_at (p : UInt8 → Bool) : ∀ (l : List UInt8) (m : Nat), m ≤ l.length → (∀ x ∈ l.take m, p x = true) → (m = l.length ∨ ∃ x r, l.drop m = x :: r ∧ p x = false) → l.takeWhile p = l.take m ∧ l.dropWhile p = l.drop m
  | [], m, _, _, _ => by simp
  | c :: l, 0, _, _, h => by
    rcases h with h | ⟨x, r, h, hx⟩
    · simp at h
    · simp at h
      obtain ⟨rfl, rfl⟩ := h
      simp [List.takeWhile, List.dropWhile, hx]
  | c :: l, m + 1, hm, hall, h => by
    have hc : p c = true := hall c (by simp)
    have := takeWhile_at p l m (by simpa using hm) (fun x hx => hall x (by simp [hx])) (by
      rcases h with h | ⟨x, r, h, hx⟩
      · left; simpa using h
      · right; exact ⟨x, r, by simpa using h, hx⟩)
    simp [List.takeWhile, List.dropWhile, hc, this.1, this.2]

theorem ba_get (s : List UInt8) (j : Nat) (h : j < (ByteArray.mk s.toArray).size) (c : UInt8) (hc : s[j]? = some c) : (ByteArray.mk s.toArray)[j]'h = c := by
  obtain ⟨h', e⟩ := List.getElem?_eq_some_iff.1 hc
  rw [← e]; rfl

theorem ba_extract (s : List UInt8) (i j : Nat) : (ByteArray.mk s.toArray).extract i j = ⟨((s.drop i).take (j - i)).toArray⟩ := by
  apply ByteArray.ext
  simp [ByteArray.data_extract]

theorem take_more {s : List UInt8} {i j : Nat} {x : UInt8} (h : ∀ y ∈ (s.drop i).take (j - i), isByte y = true) (hij : i ≤ j) (hx : s[j]? = some x) (hb : isByte x = true) :
    ∀ y ∈ (s.drop i).take (j + 1 - i), isByte y = true := by
  have e : j + 1 - i = (j - i) + 1 := by omega
  rw [e, List.take_add_one]
  intro y hy
  rcases List.mem_append.1 hy with hy | hy
  · exact h y hy
  · rw [List.getElem?_drop, show i + (j - i) = j by omega, hx] at hy
    simp at hy
    rw [hy]; exact hb

/-- where the atom ends -/
theorem atom_cut {s : List UInt8} {n i j : Nat} {c : UInt8} (hij : i ≤ j) (hjs : j ≤ s.length) (hc : Hid (s[i]? = some c)) (h40 : c ≠ 40)
    (hall : ∀ y ∈ (s.drop i).take (j - i), isByte y = true) (hend : j = s.length ∨ ∃ x, s[j]? = some x ∧ isByte x = false) :
    rdTree (n + 1) (s.drop i) = if (s.drop i).take (j - i) = [] then none else some ((s.drop i).take (j - i), .nil, s.drop j) := by
  obtain ⟨h1, h2⟩ := takeWhile_at isByte (s.drop i) (j - i) (by simp; omega) hall (by
    rcases hend with h | ⟨x, hx, hb⟩
    · left; simp [h]
    · right
      obtain ⟨hl, e⟩ := List.getElem?_eq_some_iff.1 hx
      exact ⟨x, s.drop (j + 1), by rw [List.drop_drop, show i + (j - i) = j by omega, List.drop_eq_getElem_cons hl, e], hb⟩)
  obtain ⟨hl, e⟩ := List.getElem?_eq_some_iff.1 hc.out
  rw [List.drop_drop, show i + (j - i) = j by omega] at h2
  rw [← h1, ← h2, List.drop_eq_getElem_cons hl, e]
  rw [rdTree, if_neg h40]

set_option maxHeartbeats 1000000 in
theorem read_atom (s : List UInt8) (n i : Nat) (d : Int) (w : World) (c : UInt8) (hc : s[i]? = some c) (hs : s.length ≤ 6000) (_hd0 : 0 ≤ d) (hd1 : d ≤ 300) (h40 : c ≠ 40) :
    Calls Tryz.prog 95 #[S s, .int .i64 i, .int .i64 d] w fun e w' => ReadT w s (n + 1) i e w' := by
  obtain ⟨hi, e⟩ := List.getElem?_eq_some_iff.1 hc
  have hlt : (i : Int) < (s.length : Int) := by omega
  have b1 : (s.length : Int) ≤ 6000 := by omega
  have hn40 : ((c.toNat : Int) != 40) = true := by
    rw [bne_iff_ne]
    intro h
    exact h40 (UInt8.toNat_inj.1 (by show c.toNat = 40; omega))
  have hg : ∀ h : i < (ByteArray.mk s.toArray).size, (ByteArray.mk s.toArray)[i]'h = c := fun h => ba_get s i h c hc
  have d1 : decide (300 < d) = false := by simpa using hd1
  have d2 : decide (s.length ≤ i) = false := by simpa using hi
  have hc0 := Lib.hid hc
  clear e hc
  go_enter Tryz.func95, Tryz.ntmps95
  go_wp2_with fail
  go_loop [1] (fun v => ∃ j : Nat, i ≤ j ∧ j ≤ s.length ∧ v = .int .i64 j ∧ ∀ x ∈ (s.drop i).take (j - i), isByte x = true) (fun v => s.length - (intOf v).toNat)
  case atStart => exact ⟨i, Nat.le_refl _, Nat.le_of_lt hi, rfl, by simp⟩
  case round =>
    obtain ⟨j, hij, hjs, rfl, hall⟩ := hrel
    have HA := Lib.hid hall
    clear hall hg
    by_cases hj : j < s.length
    · obtain ⟨x, hx⟩ : ∃ x, s[j]? = some x := ⟨_, List.getElem?_eq_getElem hj⟩
      have hgj : ∀ h : j < (ByteArray.mk s.toArray).size, (ByteArray.mk s.toArray)[j]'h = x := fun h => ba_get s j h x hx
      have HX := Lib.hid hx
      clear hx
      by_cases hb : isByte x = true
      · have HB := Lib.hid hb
        clear hb
        go_wp2_with (go_at_call 103; refine (byte_any _ _).mono ?_; rintro e w' ⟨rfl, rfl⟩; rw [HB.out])
        go_round
        case rel => exact ⟨j + 1, by omega, by omega, by go_num, take_more HA.out hij HX.out HB.out⟩
        case measure => simp [intOf]; omega
      · have HB := Lib.hid (Bool.eq_false_iff.2 hb)
        clear hb
        have hcut := atom_cut (s := s) (n := n) hij hjs hc0 h40 HA.out (.inr ⟨x, HX.out, HB.out⟩)
        have hex := ba_extract s i j
        generalize (s.drop i).take (j - i) = a at hcut hex
        have HCUT := Lib.hid hcut
        clear hcut
        by_cases ha : a = []
        · subst ha
          go_wp2_with (go_at_call 103; refine (byte_any _ _).mono ?_; rintro e w' ⟨rfl, rfl⟩; rw [HB.out])
          exact bodyPost_ret (v := .tuple #[.agg #[S [], .slice none 0 0], .int .i64 (-1)]) (by simp [results, Tryz.results95, go_sem]) rfl (ReadT.no (((Fr.refl _ _).alloc _).alloc _) (HCUT.out.trans (if_pos (by trivial))))
        · have hae : a.isEmpty = false := by cases a; exact absurd rfl ha; rfl
          go_wp2_with (go_at_call 103; refine (byte_any _ _).mono ?_; rintro e w' ⟨rfl, rfl⟩; rw [HB.out])
          exact bodyPost_ret (v := .tuple #[.agg #[S a, .slice none 0 0], .int .i64 (j : Int)]) (by simp [results, Tryz.results95, go_sem]) rfl (ReadT.leaf (((Fr.refl _ _).alloc _).alloc _) (by rw [HCUT.out, if_neg ha]) hjs)
    · have hj' : j = s.length := by omega
      have hcut := atom_cut (s := s) (n := n) hij hjs hc0 h40 HA.out (.inl hj')
      have hex := ba_extract s i j
      generalize (s.drop i).take (j - i) = a at hcut hex
      have HCUT := Lib.hid hcut
      clear hcut hj'
      by_cases ha : a = []
      · subst ha
        go_wp2_with fail
        exact bodyPost_ret (v := .tuple #[.agg #[S [], .slice none 0 0], .int .i64 (-1)]) (by simp [results, Tryz.results95, go_sem]) rfl (ReadT.no (((Fr.refl _ _).alloc _).alloc _) (HCUT.out.trans (if_pos (by trivial))))
      · have hae : a.isEmpty = false := by cases a; exact absurd rfl ha; rfl
        go_wp2_with fail
        exact bodyPost_ret (v := .tuple #[.agg #[S a, .slice none 0 0], .int .i64 (j : Int)]) (by simp [results, Tryz.results95, go_sem]) rfl (ReadT.leaf (((Fr.refl _ _).alloc _).alloc _) (by rw [HCUT.out, if_neg ha]) hjs)
end Go.Proofs.YtloecimlimoanaaGreatDoor

/- Sread3 -/
namespace Go.Proofs.YtloecimlimoanaaGreatDoor
open Go.RowKit Go.ChangeMaps

theorem info_tree : (Tryz.prog.info? 46).map (fun i => (i.zero, i.size, i.bytes)) = some (some (.agg #[.string ⟨#[]⟩, .slice none 0 0]), 2, 40) := by kernel_rfl

theorem own_fr {S : Nat → Prop} {w w' : World} {base : Nat} {e : TypeId} {size : Nat} {v : Value} {n : Nat} {xs : List Value} (h : w.ownsRow base e size v n xs) (hf : Fr S w w') (hs : ∀ b, v.ownBlock = some b → ¬ S b) : w'.ownsRow base e size v n xs := by
  refine ⟨h.1, ?_⟩
  rcases h.2 with hn | ⟨g, cap, cur, hv, hb, hgg, rest⟩
  · exact .inl hn
  · have hl : g < w.heap.size := by
      rcases Nat.lt_or_ge g w.heap.size with hl | hl
      · exact hl
      · rw [Array.getElem?_eq_none hl] at hgg; cases hgg
    exact .inr ⟨g, cap, cur, hv, hb, (hf.block g hl (hs g (by rw [hv]; rfl))).trans hgg, rest⟩

/-- The list under construction. -/
structure Lst (w wr : World) (acc : Fo) (vv : Value) : Prop where
  res : Blk wr w.heap.size 46 #[S [], .slice none 0 0]
  out : Blk wr (w.heap.size + 1) 46 #[S [], vv]
  fr : Fr No w wr
  own : ∃ xs, wr.ownsRow (w.heap.size + 2) 46 2 vv acc.len xs ∧ Elems wr (fun b => w.heap.size + 2 ≤ b ∧ b < wr.heap.size ∧ some b ≠ vv.ownBlock) acc xs

theorem Lst.start (w : World) : Lst w ((w.alloc (.cells #[S [], .slice none 0 0] 46)).alloc (.cells #[S [], .slice none 0 0] 46)) .nil (.slice none 0 0) where
  res := (Blk.new w _ _).alloc _
  out := Blk.new_at _ _ _ (by simp)
  fr := ((Fr.refl _ _).alloc _).alloc _
  own := ⟨[], World.ownsRow_nil _ _ _ _, rfl⟩

theorem Lst.keep {w wr w' : World} {acc : Fo} {vv : Value} (h : Lst w wr acc vv) (hf : Fr No wr w') : Lst w w' acc vv := by
  obtain ⟨h1, h2, h3, xs, h4, h5⟩ := h
  refine ⟨h1.fr hf (fun h => h), h2.fr hf (fun h => h), h3.trans hf, xs, own_fr h4 hf (fun _ _ h => h), h5.mono (fun b hb => ⟨hb.1, Nat.lt_of_lt_of_le hb.2.1 hf.size, hb.2.2⟩) (fun b hb => hf.block b hb.2.1 (fun h => h))⟩

theorem Lst.form {w wr : World} {acc : Fo} {vv : Value} (h : Lst w wr acc vv) : ∃ A c, vv = .slice A acc.len c := by
  obtain ⟨_, _, _, xs, h4, _⟩ := h
  rcases h4.2 with ⟨hv, hn⟩ | ⟨g, cap, cur, hv, _⟩
  · exact ⟨none, 0, by rw [hv, hn]⟩
  · exact ⟨_, _, hv⟩

/-- behind the append and the store -/
theorem Lst.more {w w1 wA w2 : World} {acc : Fo} {vv v' : Value} {a : List UInt8} {k : Fo} {A : Option Addr} {c : Nat} {xs : List Value} (h : Lst w w1 acc vv)
    (hA : Fr No w1 wA) (hk : Sl w1 (fun b => w.heap.size + 2 ≤ b ∧ b < w1.heap.size ∧ some b ≠ vv.ownBlock) A k)
    (hxs : Elems w1 (fun b => w.heap.size + 2 ≤ b ∧ b < w1.heap.size ∧ some b ≠ vv.ownBlock) acc xs) (hown0 : w1.ownsRow (w.heap.size + 2) 46 2 vv acc.len xs)
    (hown : w2.ownsRow (w.heap.size + 2) 46 2 v' (acc.len + 1) (xs ++ [S a, .slice A k.len c])) (hg : wA.grownBy w2 vv.ownBlock) (hloc : v'.ownBlock = vv.ownBlock ∨ v'.ownBlock = some wA.heap.size) :
    Lst w (w2.setCell ⟨w.heap.size + 1, 1, none⟩ v') (acc.snoc a k) v' := by
  have hvo : ∀ b, vv.ownBlock = some b → w.heap.size + 2 ≤ b ∧ b < w1.heap.size := hown0.lt
  have hA' := h.keep hA
  have hsz1 := hA.size
  have hsz2 := hg.size
  have hlt1 := hA'.out.lt
  have hlt0 := hA'.res.lt
  have hb2 : ∀ b, b < wA.heap.size → some b ≠ vv.ownBlock → w2.heap[b]? = wA.heap[b]? := fun b hb hne => hg.block b hb hne
  have keepT : ∀ b, (w.heap.size + 2 ≤ b ∧ b < w1.heap.size ∧ some b ≠ vv.ownBlock) → (w2.setCell ⟨w.heap.size + 1, 1, none⟩ v').heap[b]? = w1.heap[b]? := by
    intro b hb
    rw [Below.heap_setCell _ _ _ _ (by show b ≠ w.heap.size + 1; omega), hb2 b (by omega) hb.2.2]
    exact hA.block b hb.2.1 (fun h => h)
  have moreT : ∀ b, (w.heap.size + 2 ≤ b ∧ b < w1.heap.size ∧ some b ≠ vv.ownBlock) → w.heap.size + 2 ≤ b ∧ b < (w2.setCell ⟨w.heap.size + 1, 1, none⟩ v').heap.size ∧ some b ≠ v'.ownBlock := by
    intro b hb
    refine ⟨hb.1, by simp [World.setCell]; omega, ?_⟩
    rcases hloc with e | e
    · rw [e]; exact hb.2.2
    · rw [e]; intro h; injection h with h; omega
  have hne1 : some (w.heap.size + 1) ≠ vv.ownBlock := fun e => by have := hvo _ e.symm; omega
  have hne0 : some (w.heap.size) ≠ vv.ownBlock := fun e => by have := hvo _ e.symm; omega
  refine ⟨?_, ?_, ?_, xs ++ [S a, .slice A k.len c], ?_, ?_⟩
  · exact (hA'.res.keep (hb2 _ hlt0 hne0)).far (by show w.heap.size ≠ w.heap.size + 1; omega) _
  · have := (hA'.out.keep (hb2 _ hlt1 hne1)).set_ 1 v'
    exact this
  · refine Fr.setCell ?_ (.inr (by show w.heap.size ≤ w.heap.size + 1; omega)) _
    exact (hA'.fr).grown hg (fun b hb => .inr (by have := hvo b hb; omega))
  · rw [Fo.len_snoc]
    exact ownsRow_setCell_below hown (by show w.heap.size + 1 < w.heap.size + 2; omega) _
  · exact (hxs.snoc hk).mono moreT keepT

theorem ReadT.list {w wr w' : World} {s : List UInt8} {n i j : Nat} {acc : Fo} {vv : Value} {A : Option Addr} {c : Nat} (hl : Lst w wr acc vv) (hv : vv = .slice A acc.len c) (hf : Fr No w w')
    (hk : ∀ b, w.heap.size + 2 ≤ b → b < wr.heap.size → w'.heap[b]? = wr.heap[b]?) (hsz : wr.heap.size ≤ w'.heap.size)
    (h : rdTree n (s.drop i) = some ([], acc, s.drop j)) (hj : j ≤ s.length) :
    ReadT w s n i (.returned (.tuple #[.agg #[S [], vv], .int .i64 (j : Int)])) w' := by
  refine ⟨hf, ?_⟩
  rw [h]
  have e : s.length - (s.drop j).length = j := by simp; omega
  refine ⟨A, c, by rw [e, hv], ?_, by rw [e], by simp⟩
  obtain ⟨xs, h4, h5⟩ := hl.own
  by_cases h0 : acc.len = 0
  · exact .inl h0
  · rcases h4.2 with ⟨_, hn⟩ | ⟨g, cap, cur, hv2, hb, hg, h6, h7, h8, h9⟩
    · exact absurd hn h0
    · rw [hv] at hv2
      injection hv2 with e1 e2 e3
      have hgl := (h4.lt g (by rw [hv, e1]; rfl))
      refine .inr ⟨g, 0, xs, e1, ⟨by omega, by omega⟩, h5.mono (fun b hb => ⟨by omega, by omega⟩) (fun b hb => hk b hb.1 hb.2.1), fun j u hj => ?_⟩
      have := h4.cells (g := g) (by rw [hv, e1]; rfl) j u hj
      rw [addr_add] at this
      rw [← this, Nat.zero_add]
      exact World.cell?_of_block (w := wr) (hk g hb hgl.2)

theorem done_kept {w wr : World} {v0 v1 : Value} : ∀ b, w.heap.size + 2 ≤ b → b < wr.heap.size → ((wr.setCell ⟨w.heap.size, 0, none⟩ v0).setCell ⟨w.heap.size, 1, none⟩ v1).heap[b]? = wr.heap[b]? := by
  intro b hb _
  rw [Below.heap_setCell _ _ _ _ (by show b ≠ w.heap.size; omega), Below.heap_setCell _ _ _ _ (by show b ≠ w.heap.size; omega)]

theorem cell_set_same {w : World} {b o : Nat} {u : Value} (h : w.cell? ⟨b, o, none⟩ = some u) (v : Value) : (w.setCell ⟨b, o, none⟩ v).cell? ⟨b, o, none⟩ = some v := by
  unfold World.cell? at h ⊢
  simp only [World.setCell, Array.getElem?_modify, if_true]
  rcases hb : w.heap[b]? with _ | ob
  · rw [hb] at h; cases h
  · rw [hb] at h
    cases ob <;> simp at h ⊢
    obtain ⟨hl, _⟩ := Array.getElem?_eq_some_iff.1 h
    simp [hl]

theorem cell_set_next {w : World} {b : Nat} {u : Value} (h : w.cell? ⟨b, 1, none⟩ = some u) (v v' : Value) : ((w.setCell ⟨b, 0, none⟩ v').setCell ⟨b, 1, none⟩ v).cell? ⟨b, 1, none⟩ = some v :=
  cell_set_same (u := u) ((World.cell?_setCell_other w ⟨b, 0, none⟩ ⟨b, 1, none⟩ v' (by simp)).trans h) v

theorem cells_new {w : World} {g : Nat} (hg : g = w.heap.size) (xs : List Value) (t : TypeId) : ∀ (j : Nat) (u : Value), xs[j]? = some u → (w.alloc (.cells xs.toArray t)).cell? ((⟨g, 0, none⟩ : Addr).add j) = some u := by
  intro j u hj
  subst hg
  rw [addr_add]
  have := (Blk.new w t xs.toArray).cell j
  simpa using this.trans (by simpa using hj)

/-- the result's block is written at the end, and a new block may be laid -/
theorem Lst.done {w w1 : World} {acc : Fo} {vv v0 v1 : Value} (h : Lst w w1 acc vv) : Fr No w ((w1.setCell ⟨w.heap.size, 0, none⟩ v0).setCell ⟨w.heap.size, 1, none⟩ v1) :=
  (h.fr.setCell (p := ⟨w.heap.size, 0, none⟩) (.inr (Nat.le_refl _)) _).setCell (p := ⟨w.heap.size, 1, none⟩) (.inr (Nat.le_refl _)) _

/-- one round of the reading -/
theorem loop_step (rd : List UInt8 → Option (List UInt8 × Fo × List UInt8)) (f : Nat) (u : List UInt8) (acc : Fo) :
    rdLoop rd (f + 1) u acc = match rd u with
    | none => none
    | some (_, _, []) => none
    | some (a, k, c :: rest) => if c = 41 then some ([], acc.snoc a k, rest) else if c = 32 then rdLoop rd f rest (acc.snoc a k) else none := rfl

set_option maxRecDepth 100000 in
set_option maxHeartbeats 2000000 in
theorem read_list (s : List UInt8) (n i : Nat) (d : Int) (w : World) (hc : s[i]? = some 40) (hs : s.length ≤ 6000) (hd0 : 0 ≤ d) (hd1 : d ≤ 300)
    (hrec : ∀ (i' : Nat) (x : Int) (w' : World), x = i' → i' ≤ s.length → Calls Tryz.prog 95 #[S s, .int .i64 x, .int .i64 (d + 1)] w' fun e w2 => ReadT w' s n i' e w2) :
    Calls Tryz.prog 95 #[S s, .int .i64 i, .int .i64 d] w fun e w' => ReadT w s (n + 1) i e w' := by
  obtain ⟨hi, e⟩ := List.getElem?_eq_some_iff.1 hc
  have hlt : (i : Int) < (s.length : Int) := by omega
  have b1 : (s.length : Int) ≤ 6000 := by omega
  have hg : ∀ h : i < (ByteArray.mk s.toArray).size, (ByteArray.mk s.toArray)[i]'h = 40 := fun h => ba_get s i h 40 hc
  have d1 : decide (300 < d) = false := by simpa using hd1
  have d2 : decide (s.length ≤ i) = false := by simpa using hi
  have hrd : rdTree (n + 1) (s.drop i) = rdLoop (rdTree n) (s.length - i) (s.drop (i + 1)) .nil := by
    rw [List.drop_eq_getElem_cons hi, e, rdTree, if_pos rfl]
    congr 1
    simp; omega
  have HRD := Lib.hid hrd
  have HREC := Lib.hid hrec
  have hst := Lst.start w
  clear e hc hrd hrec
  go_enter Tryz.func95, Tryz.ntmps95
  go_wp2_with fail
  go_loopw [1] (fun v wr => ∃ (p f : Nat) (acc : Fo) (vv : Value), v = .int .i64 p ∧ i ≤ p ∧ p < s.length ∧ s.length - p ≤ f ∧ acc.len ≤ p ∧ Lst w wr acc vv ∧
      rdTree (n + 1) (s.drop i) = rdLoop (rdTree n) f (s.drop (p + 1)) acc) (fun v _ => s.length - (intOf v).toNat)
  case atStart => exact ⟨i, s.length - i, .nil, _, rfl, Nat.le_refl _, hi, Nat.le_refl _, Nat.zero_le _, hst, HRD.out⟩
  case round =>
    obtain ⟨p, f, acc, vv, rfl, hip, hps, hf, hal, hL, heq⟩ := hrel
    obtain ⟨f, rfl⟩ : ∃ g, f = g + 1 := ⟨f - 1, by omega⟩
    rw [loop_step] at heq
    have HEQ := Lib.hid heq
    clear heq hst hg hlt
    have q1 : (p : Int) < (s.length : Int) := by omega
    go_wp2_with fail
    refine (HREC.out (p + 1) _ _ (by omega) (by omega)).mono ?_
    rintro e w1 ⟨hfr, hres⟩
    have hL1 := hL.keep hfr
    obtain ⟨A0, c0, hvv⟩ := hL.form
    subst hvv
    have o0 : w1.cell? ⟨w.heap.size + 1, 0, none⟩ = some (S []) := (hL1.out.cell 0).trans rfl
    have o1 : w1.cell? ⟨w.heap.size + 1, 1, none⟩ = some (.slice A0 acc.len c0) := (hL1.out.cell 1).trans rfl
    have r0 : w1.cell? ⟨w.heap.size, 0, none⟩ = some (S []) := (hL1.res.cell 0).trans rfl
    have r1 : w1.cell? ⟨w.heap.size, 1, none⟩ = some (.slice none 0 0) := (hL1.res.cell 1).trans rfl
    have fo := hL1.out.frozen 1
    have fr0 := hL1.res.frozen 0
    have fr1 := hL1.res.frozen 1
    have l1 := hL1.out.lt
    have l0 := hL1.res.lt
    have e0 := fun v => cell_set_same r0 v
    have e1 := fun v v' => cell_set_next r1 v v'
    have E0 := Lib.hid e0
    have E1 := Lib.hid e1
    clear e0 e1
    rcases hrt : rdTree n (s.drop (p + 1)) with _ | ⟨a, k, r⟩
    · rw [hrt] at hres
      obtain ⟨a, A, m, c, rfl⟩ := hres
      have hfin : rdTree (n + 1) (s.drop i) = none := by rw [HEQ.out, hrt]
      have HF := Lib.hid hfin
      clear hrt hfin
      go_wp2_with fail
      exact bodyPost_ret (v := .tuple #[.agg #[S [], .slice A0 acc.len c0], .int .i64 (-1)]) (by simp [results, Tryz.results95, go_sem, l0, E0.out, E1.out]) rfl (ReadT.no (hL1.done.alloc _) HF.out)
    · rw [hrt] at hres
      obtain ⟨A, c, rfl, hsl, hr, hrl⟩ := hres
      cases r with
      | nil =>
        have hfin : rdTree (n + 1) (s.drop i) = none := by rw [HEQ.out, hrt]
        have HF := Lib.hid hfin
        clear hrt hfin hr
        go_wp2_with fail
        exact bodyPost_ret (v := .tuple #[.agg #[S [], .slice A0 acc.len c0], .int .i64 (-1)]) (by simp [results, Tryz.results95, go_sem, l0, E0.out, E1.out]) rfl (ReadT.no (hL1.done.alloc _) HF.out)
      | cons x r =>
        have hlen : (s.drop (p + 1)).length = (treeText a k).length + (r.length + 1) := by
          have := congrArg List.length (rd_text _ _ _ _ _ hrt)
          simpa using this
        obtain ⟨q, hq⟩ : ∃ q, q = s.length - (x :: r).length := ⟨_, rfl⟩
        rw [← hq] at hr ⊢
        simp only [List.length_cons, List.length_drop] at hlen hrl hq
        have hpq : p < q := by omega
        have hqs : q < s.length := by omega
        have hxq : s[q]? = some x := by
          have := congrArg (fun l => l[0]?) hr
          simpa [List.getElem?_drop] using this.symm
        have hdr : s.drop (q + 1) = r := by
          have := congrArg List.tail hr
          simpa [List.tail_drop] using this.symm
        have HEQ2 : Hid (rdTree (n + 1) (s.drop i) = if x = 41 then some ([], acc.snoc a k, s.drop (q + 1)) else if x = 32 then rdLoop (rdTree n) f (s.drop (q + 1)) (acc.snoc a k) else none) := by
          show _ = _
          rw [HEQ.out, hrt, hdr]
        have hgq : ∀ h : q < (ByteArray.mk s.toArray).size, (ByteArray.mk s.toArray)[q]'h = x := fun h => ba_get s q h x hxq
        obtain ⟨xs, hown0, hel⟩ := hL1.own
        have HOWN : Hid (∀ o o' : Obj, ((w1.alloc o).alloc o').ownsRow (w.heap.size + 2) 46 2 (.slice A0 acc.len c0) acc.len xs) := fun o o' => (hown0.alloc o).alloc o'
        have HSL : Hid (Sl w1 (fun b => w.heap.size + 2 ≤ b ∧ b < w1.heap.size ∧ some b ≠ (Value.slice A0 acc.len c0).ownBlock) A k) := by
          refine hsl.mono (fun b hb => ⟨Nat.le_trans hL.out.lt hb.1, hb.2, fun e => ?_⟩) (fun _ _ => rfl)
          obtain ⟨ys, hy, _⟩ := hL.own
          have := (hy.lt b e.symm).2
          omega
        have HM : Hid (∀ (o o' : Obj) (v' : Value) (w2 : World), w2.ownsRow (w.heap.size + 2) 46 2 v' (acc.len + 1) (xs ++ [S a, .slice A k.len c]) → ((w1.alloc o).alloc o').grownBy w2 (Value.slice A0 acc.len c0).ownBlock →
            (v'.ownBlock = (Value.slice A0 acc.len c0).ownBlock ∨ v'.ownBlock = some ((w1.alloc o).alloc o').heap.size) → Lst w (w2.setCell ⟨w.heap.size + 1, 1, none⟩ v') (acc.snoc a k) v') :=
          fun o o' v' w2 h1 h2 h3 => hL1.more (((Fr.refl No w1).alloc o).alloc o') HSL.out hel hown0 h1 h2 h3
        have HFO : Hid (∀ (o o' : Obj) (w2 : World), ((w1.alloc o).alloc o').grownBy w2 (Value.slice A0 acc.len c0).ownBlock →
            Blk w2 (w.heap.size + 1) 46 #[S [], .slice A0 acc.len c0] ∧ Blk w2 w.heap.size 46 #[S [], .slice none 0 0]) := by
          intro o o' w2 hg2
          have hb := hg2.block (w.heap.size + 1) (by simp; omega) (fun e => by have := (hown0.lt _ e.symm).1; omega)
          have hb' := hg2.block w.heap.size (by simp; omega) (fun e => by have := (hown0.lt _ e.symm).1; omega)
          exact ⟨((hL1.out.alloc o).alloc o').keep hb, ((hL1.res.alloc o).alloc o').keep hb'⟩
        obtain ⟨i0, hi0, hz0, hz1, hz2⟩ := info_parts info_tree
        have bnd : (acc.len + 1) * 40 ≤ 140737488355328 := by omega
        have bnd2 : acc.len + 1 ≤ maxLen := by unfold maxLen; omega
        have bq : (q : Int) < (s.length : Int) := by omega
        have bw : w.heap.size + 2 ≤ w1.heap.size := by omega
        clear hrt hr hxq hdr hel hown0 hsl hlen hq hfr
        have HC1 : Hid (∀ o : Obj, ∀ (j : Nat) (u : Value), [S a, .slice A k.len c][j]? = some u → ((w1.alloc o).alloc (.cells #[S a, .slice A k.len c] 46)).cell? ((⟨w1.heap.size + 1, 0, none⟩ : Addr).add j) = some u) :=
          fun o => cells_new (w := w1.alloc o) (by simp) [S a, .slice A k.len c] 46
        have HC2 : Hid (∀ u ∈ [S a, Value.slice A k.len c], u.oneCell' = true) := by
          intro u hu
          simp at hu
          rcases hu with rfl | rfl <;> rfl
        have HC5 : Hid (∀ o o' : Obj, w.heap.size + 2 ≤ ((w1.alloc o).alloc o').heap.size) := fun o o' => by simp; omega
        have arm : ∀ (o o' : Obj) (v' : Value) (w2 : World), w2.ownsRow (w.heap.size + 2) 46 2 v' (acc.len + 1) (xs ++ [S a, .slice A k.len c]) → ((w1.alloc o).alloc o').grownBy w2 (Value.slice A0 acc.len c0).ownBlock →
            (v'.ownBlock = (Value.slice A0 acc.len c0).ownBlock ∨ v'.ownBlock = some ((w1.alloc o).alloc o').heap.size) →
            ∃ A' c', v' = .slice A' (acc.len + 1) c' ∧ Hid (Lst w (w2.setCell ⟨w.heap.size + 1, 1, none⟩ v') (acc.snoc a k) v') ∧ w2.cell? ⟨w.heap.size + 1, 0, none⟩ = some (S []) ∧ w2.cell? ⟨w.heap.size + 1, 1, none⟩ = some (.slice A0 acc.len c0) ∧
              w2.frozen? ⟨w.heap.size + 1, 1, none⟩ = false ∧ w2.cell? ⟨w.heap.size, 0, none⟩ = some (S []) ∧ w2.cell? ⟨w.heap.size, 1, none⟩ = some (.slice none 0 0) ∧ w2.frozen? ⟨w.heap.size, 0, none⟩ = false ∧
              w2.frozen? ⟨w.heap.size, 1, none⟩ = false ∧ w.heap.size + 1 < w2.heap.size ∧ Hid ((w2.setCell ⟨w.heap.size + 1, 1, none⟩ v').cell? ⟨w.heap.size + 1, 1, none⟩ = some v') := by
          intro o o' v' w2 h1 h2 h3
          obtain ⟨g1, g2⟩ := HFO.out o o' w2 h2
          have hL3 := HM.out o o' v' w2 h1 h2 h3
          obtain ⟨A', c', e⟩ := hL3.form
          rw [Fo.len_snoc] at e
          exact ⟨A', c', e, hL3, (g1.cell 0).trans rfl, (g1.cell 1).trans rfl, g1.frozen 1, (g2.cell 0).trans rfl, (g2.cell 1).trans rfl, g2.frozen 0, g2.frozen 1, g1.lt, cell_set_same ((g1.cell 1).trans rfl) _⟩
        have ARM := Lib.hid arm
        clear arm
        by_cases x41 : x = 41
        · subst x41
          go_wp2_with (at_builtin; go_must (refine wpList_append_own_at _ rfl _ _ 44 rfl (w.heap.size + 2) 46 i0 (.agg #[.string ⟨#[]⟩, .slice none 0 0]) 2 40 Tryz.underlying44 hi0 hz0 hz1 hz2 rfl (by decide) _ acc.len xs rfl (HOWN.out _ _) ⟨w1.heap.size + 1, 0, none⟩ 1 1 [S a, .slice A k.len c] rfl rfl (HC1.out _) HC2.out bnd2 bnd (HC5.out _ _) ?_); intro v' w2 hown' hgrow _ hloc; obtain ⟨A', c', rfl, HL3, k0, k1, k2, k3, k4, k5, k6, k7, K8⟩ := ARM.out _ _ v' w2 hown' hgrow hloc; have k8 := K8.out)
          have E0' : Hid (∀ v, ((w2.setCell ⟨w.heap.size + 1, 1, none⟩ (.slice A' (acc.len + 1) c')).setCell ⟨w.heap.size, 0, none⟩ v).cell? ⟨w.heap.size, 0, none⟩ = some v) := fun v => cell_set_same ((HL3.out.res.cell 0).trans rfl) v
          have E1' : Hid (∀ v v', (((w2.setCell ⟨w.heap.size + 1, 1, none⟩ (.slice A' (acc.len + 1) c')).setCell ⟨w.heap.size, 0, none⟩ v').setCell ⟨w.heap.size, 1, none⟩ v).cell? ⟨w.heap.size, 1, none⟩ = some v) :=
            fun v v' => cell_set_next ((HL3.out.res.cell 1).trans rfl) v v'
          exact bodyPost_ret (v := .tuple #[.agg #[S [], .slice A' (acc.len + 1) c'], .int .i64 ((q : Int) + 1)]) (by simp [results, Tryz.results95, go_sem, E0'.out, E1'.out]) rfl
            (ReadT.list (j := q + 1) HL3.out (by rw [Fo.len_snoc]) HL3.out.done done_kept (by simp [World.setCell]) (HEQ2.out.trans (if_pos (by trivial))) (by omega))
        · by_cases x32 : x = 32
          · subst x32
            go_wp2_with (at_builtin; go_must (refine wpList_append_own_at _ rfl _ _ 44 rfl (w.heap.size + 2) 46 i0 (.agg #[.string ⟨#[]⟩, .slice none 0 0]) 2 40 Tryz.underlying44 hi0 hz0 hz1 hz2 rfl (by decide) _ acc.len xs rfl (HOWN.out _ _) ⟨w1.heap.size + 1, 0, none⟩ 1 1 [S a, .slice A k.len c] rfl rfl (HC1.out _) HC2.out bnd2 bnd (HC5.out _ _) ?_); intro v' w2 hown' hgrow _ hloc; obtain ⟨A', c', rfl, HL3, k0, k1, k2, k3, k4, k5, k6, k7, K8⟩ := ARM.out _ _ v' w2 hown' hgrow hloc; have k8 := K8.out)
            go_roundw
            case rel => exact ⟨q, f, acc.snoc a k, _, rfl, by omega, hqs, by omega, by rw [Fo.len_snoc]; omega, HL3.out, HEQ2.out.trans ((if_neg (by decide)).trans (if_pos (by trivial)))⟩
            case measure => simp [intOf]; omega
          · have n41 : ((x.toNat : Int) == 41) = false := beq_eq_false_iff_ne.2 fun h => x41 (UInt8.toNat_inj.1 (by show x.toNat = 41; omega))
            have n32 : ((x.toNat : Int) != 32) = true := by
              rw [bne_iff_ne]; exact fun h => x32 (UInt8.toNat_inj.1 (by show x.toNat = 32; omega))
            have HNO : Hid (rdTree (n + 1) (s.drop i) = none) := HEQ2.out.trans ((if_neg x41).trans (if_neg x32))
            go_wp2_with (at_builtin; go_must (refine wpList_append_own_at _ rfl _ _ 44 rfl (w.heap.size + 2) 46 i0 (.agg #[.string ⟨#[]⟩, .slice none 0 0]) 2 40 Tryz.underlying44 hi0 hz0 hz1 hz2 rfl (by decide) _ acc.len xs rfl (HOWN.out _ _) ⟨w1.heap.size + 1, 0, none⟩ 1 1 [S a, .slice A k.len c] rfl rfl (HC1.out _) HC2.out bnd2 bnd (HC5.out _ _) ?_); intro v' w2 hown' hgrow _ hloc; obtain ⟨A', c', rfl, HL3, k0, k1, k2, k3, k4, k5, k6, k7, K8⟩ := ARM.out _ _ v' w2 hown' hgrow hloc; have k8 := K8.out)
            have E0' : Hid (∀ v, ((w2.setCell ⟨w.heap.size + 1, 1, none⟩ (.slice A' (acc.len + 1) c')).setCell ⟨w.heap.size, 0, none⟩ v).cell? ⟨w.heap.size, 0, none⟩ = some v) := fun v => cell_set_same ((HL3.out.res.cell 0).trans rfl) v
            have E1' : Hid (∀ v v', (((w2.setCell ⟨w.heap.size + 1, 1, none⟩ (.slice A' (acc.len + 1) c')).setCell ⟨w.heap.size, 0, none⟩ v').setCell ⟨w.heap.size, 1, none⟩ v).cell? ⟨w.heap.size, 1, none⟩ = some v) :=
              fun v v' => cell_set_next ((HL3.out.res.cell 1).trans rfl) v v'
            exact bodyPost_ret (v := .tuple #[.agg #[S [], .slice A' (acc.len + 1) c'], .int .i64 (-1)]) (by simp [results, Tryz.results95, go_sem, E0'.out, E1'.out]) rfl
              (ReadT.no HL3.out.done HNO.out)

/-- Reading a tree from a place on, nested so deep. -/
theorem read_tree (s : List UInt8) (hs : s.length ≤ 6000) (n : Nat) : ∀ (i : Nat) (x d : Int) (w : World), x = i → i ≤ s.length → d = 301 - (n : Int) → n ≤ 301 →
    Calls Tryz.prog 95 #[S s, .int .i64 x, .int .i64 d] w fun e w' => ReadT w s n i e w' := by
  induction n with
  | zero =>
    intro i x d w hx hi hd _
    subst hx
    exact read_none s 0 i d w hi hs (by omega) (by omega) (.inl (by omega)) (fun _ => rfl)
  | succ n ih =>
    intro i x d w hx hi hd hn
    subst hx
    rcases Nat.lt_or_ge i s.length with hlt | hge
    · by_cases h40 : s[i] = 40
      · exact read_list s n i d w (by rw [List.getElem?_eq_getElem hlt, h40]) hs (by omega) (by omega) (fun i' x w' hx hi' => ih i' x (d + 1) w' hx hi' (by omega) (by omega))
      · exact read_atom s n i d w _ (List.getElem?_eq_getElem hlt) hs (by omega) (by omega) h40
    · exact read_none s (n + 1) i d w hi hs (by omega) (by omega) (.inr (by omega)) (fun h => absurd h (by omega))
end Go.Proofs.YtloecimlimoanaaGreatDoor
