import Derived.Test.YthbidlcfahdfhaaSread
namespace Go.Proofs.Ythbidlcfahdfhaa
open Go.RowKit Go.ChangeMaps

/-- What reading a tree from place i on hands back. -/
def ReadT (w : World) (s : List UInt8) (n i : Nat) (e : Ending) (w' : World) : Prop :=
  Fr No w w' ∧ (match rdTree n (s.drop i) with
  | some (a, k, r) => ∃ A c, e = .returned (.tuple #[.agg #[S a, .slice A k.len c], .int .i64 ((s.length - r.length : Nat) : Int)]) ∧ Sl w' (fun b => w.heap.size ≤ b ∧ b < w'.heap.size) A k ∧ r = s.drop (s.length - r.length) ∧ r.length ≤ s.length
  | none => ∃ a A m c, e = .returned (.tuple #[.agg #[S a, .slice A m c], .int .i64 (-1)]))

theorem ReadT.no {w w' : World} {s : List UInt8} {n i : Nat} {a : List UInt8} {A : Option Addr} {m c : Nat} (hf : Fr No w w') (h : rdTree n (s.drop i) = none) :
    ReadT w s n i (.returned (.tuple #[.agg #[S a, .slice A m c], .int .i64 (-1)])) w' := by
  refine ⟨hf, ?_⟩
  rw [h]
  exact ⟨a, A, m, c, rfl⟩

theorem ReadT.leaf {w w' : World} {s : List UInt8} {n i j : Nat} {a : List UInt8} {c : Nat} (hf : Fr No w w') (h : rdTree n (s.drop i) = some (a, .nil, s.drop j)) (hj : j ≤ s.length) :
    ReadT w s n i (.returned (.tuple #[.agg #[S a, .slice none 0 c], .int .i64 (j : Int)])) w' := by
  refine ⟨hf, ?_⟩
  rw [h]
  have e : s.length - (s.drop j).length = j := by simp; omega
  exact ⟨none, c, by rw [e]; rfl, .inl rfl, by rw [e], by simp⟩

theorem read_none (s : List UInt8) (n i : Nat) (d : Int) (w : World) (_hi : i ≤ s.length) (_hs : s.length ≤ 6000) (_hd0 : 0 ≤ d) (_hd1 : d ≤ 1000) (h : 300 < d ∨ i = s.length) (hn : 300 < d → n = 0) :
    Calls Try.prog 98 #[S s, .int .i64 i, .int .i64 d] w fun e w' => ReadT w s n i e w' := by
  have hnone : rdTree n (s.drop i) = none := by
    rcases h with h | h
    · rw [hn h]; rfl
    · rw [h, List.drop_length]; cases n <;> rfl
  have HN := Lib.hid hnone
  clear hnone hn
  by_cases h3 : 300 < d
  · clear h
    go_enter Try.func98, Try.ntmps98
    go_wp2_with fail
    exact bodyPost_ret (v := .tuple #[.agg #[S [], .slice none 0 0], .int .i64 (-1)]) (by simp [results, Try.results98, go_sem]) rfl (ReadT.no (((Fr.refl _ _).alloc _).alloc _) HN.out)
  · have hlen : i = s.length := by rcases h with h | h; exact absurd h h3; exact h
    have hge : (s.length : Int) ≤ (i : Int) := by omega
    clear h hlen
    go_enter Try.func98, Try.ntmps98
    go_wp2_with fail
    exact bodyPost_ret (v := .tuple #[.agg #[S [], .slice none 0 0], .int .i64 (-1)]) (by simp [results, Try.results98, go_sem]) rfl (ReadT.no (((Fr.refl _ _).alloc _).alloc _) HN.out)

theorem takeWhile_at (p : UInt8 → Bool) : ∀ (l : List UInt8) (m : Nat), m ≤ l.length → (∀ x ∈ l.take m, p x = true) → (m = l.length ∨ ∃ x r, l.drop m = x :: r ∧ p x = false) → l.takeWhile p = l.take m ∧ l.dropWhile p = l.drop m
  | [], m, _, _, _ => by simp
  | c :: l, 0, _, _, h => by
    rcases h with h | ⟨x, r, h, hx⟩
    · simp at h
    · simp at h
      obtain ⟨rfl, rfl⟩ := h
      simp [List.takeWhile, List.dropWhile, hx]
  | c :: l, m + 1, hm, hall, h => by
    have hc : p c = true := hall c (by simp)
    have := takeWhile_at p l m (by simpa using hm) (fun x hx => hall x (by simp [hx])) (by
      rcases h with h | ⟨x, r, h, hx⟩
      · left; simpa using h
      · right; exact ⟨x, r, by simpa using h, hx⟩)
    simp [List.takeWhile, List.dropWhile, hc, this.1, this.2]

theorem ba_get (s : List UInt8) (j : Nat) (h : j < (ByteArray.mk s.toArray).size) (c : UInt8) (hc : s[j]? = some c) : (ByteArray.mk s.toArray)[j]'h = c := by
  obtain ⟨h', e⟩ := List.getElem?_eq_some_iff.1 hc
  rw [← e]; rfl

theorem ba_extract (s : List UInt8) (i j : Nat) : (ByteArray.mk s.toArray).extract i j = ⟨((s.drop i).take (j - i)).toArray⟩ := by
  apply ByteArray.ext
  simp [ByteArray.data_extract]

theorem take_more {s : List UInt8} {i j : Nat} {x : UInt8} (h : ∀ y ∈ (s.drop i).take (j - i), isByte y = true) (hij : i ≤ j) (hx : s[j]? = some x) (hb : isByte x = true) :
    ∀ y ∈ (s.drop i).take (j + 1 - i), isByte y = true := by
  have e : j + 1 - i = (j - i) + 1 := by omega
  rw [e, List.take_add_one]
  intro y hy
  rcases List.mem_append.1 hy with hy | hy
  · exact h y hy
  · rw [List.getElem?_drop, show i + (j - i) = j by omega, hx] at hy
    simp at hy
    rw [hy]; exact hb

/-- where the atom ends -/
theorem atom_cut {s : List UInt8} {n i j : Nat} {c : UInt8} (hij : i ≤ j) (hjs : j ≤ s.length) (hc : Hid (s[i]? = some c)) (h40 : c ≠ 40)
    (hall : ∀ y ∈ (s.drop i).take (j - i), isByte y = true) (hend : j = s.length ∨ ∃ x, s[j]? = some x ∧ isByte x = false) :
    rdTree (n + 1) (s.drop i) = if (s.drop i).take (j - i) = [] then none else some ((s.drop i).take (j - i), .nil, s.drop j) := by
  obtain ⟨h1, h2⟩ := takeWhile_at isByte (s.drop i) (j - i) (by simp; omega) hall (by
    rcases hend with h | ⟨x, hx, hb⟩
    · left; simp [h]
    · right
      obtain ⟨hl, e⟩ := List.getElem?_eq_some_iff.1 hx
      exact ⟨x, s.drop (j + 1), by rw [List.drop_drop, show i + (j - i) = j by omega, List.drop_eq_getElem_cons hl, e], hb⟩)
  obtain ⟨hl, e⟩ := List.getElem?_eq_some_iff.1 hc.out
  rw [List.drop_drop, show i + (j - i) = j by omega] at h2
  rw [← h1, ← h2, List.drop_eq_getElem_cons hl, e]
  rw [rdTree, if_neg h40]

set_option maxHeartbeats 1000000 in
theorem read_atom (s : List UInt8) (n i : Nat) (d : Int) (w : World) (c : UInt8) (hc : s[i]? = some c) (hs : s.length ≤ 6000) (_hd0 : 0 ≤ d) (hd1 : d ≤ 300) (h40 : c ≠ 40) :
    Calls Try.prog 98 #[S s, .int .i64 i, .int .i64 d] w fun e w' => ReadT w s (n + 1) i e w' := by
  obtain ⟨hi, e⟩ := List.getElem?_eq_some_iff.1 hc
  have hlt : (i : Int) < (s.length : Int) := by omega
  have b1 : (s.length : Int) ≤ 6000 := by omega
  have hn40 : ((c.toNat : Int) != 40) = true := by
    rw [bne_iff_ne]
    intro h
    exact h40 (UInt8.toNat_inj.1 (by show c.toNat = 40; omega))
  have hg : ∀ h : i < (ByteArray.mk s.toArray).size, (ByteArray.mk s.toArray)[i]'h = c := fun h => ba_get s i h c hc
  have d1 : decide (300 < d) = false := by simpa using hd1
  have d2 : decide (s.length ≤ i) = false := by simpa using hi
  have hc0 := Lib.hid hc
  clear e hc
  go_enter Try.func98, Try.ntmps98
  go_wp2_with fail
  go_loop [1] (fun v => ∃ j : Nat, i ≤ j ∧ j ≤ s.length ∧ v = .int .i64 j ∧ ∀ x ∈ (s.drop i).take (j - i), isByte x = true) (fun v => s.length - (intOf v).toNat)
  case atStart => exact ⟨i, Nat.le_refl _, Nat.le_of_lt hi, rfl, by simp⟩
  case round =>
    obtain ⟨j, hij, hjs, rfl, hall⟩ := hrel
    have HA := Lib.hid hall
    clear hall hg
    by_cases hj : j < s.length
    · obtain ⟨x, hx⟩ : ∃ x, s[j]? = some x := ⟨_, List.getElem?_eq_getElem hj⟩
      have hgj : ∀ h : j < (ByteArray.mk s.toArray).size, (ByteArray.mk s.toArray)[j]'h = x := fun h => ba_get s j h x hx
      have HX := Lib.hid hx
      clear hx
      by_cases hb : isByte x = true
      · have HB := Lib.hid hb
        clear hb
        go_wp2_with (go_at_call 107; refine (byte_any _ _).mono ?_; rintro e w' ⟨rfl, rfl⟩; rw [HB.out])
        go_round
        case rel => exact ⟨j + 1, by omega, by omega, by go_num, take_more HA.out hij HX.out HB.out⟩
        case measure => simp [intOf]; omega
      · have HB := Lib.hid (Bool.eq_false_iff.2 hb)
        clear hb
        have hcut := atom_cut (s := s) (n := n) hij hjs hc0 h40 HA.out (.inr ⟨x, HX.out, HB.out⟩)
        have hex := ba_extract s i j
        generalize (s.drop i).take (j - i) = a at hcut hex
        have HCUT := Lib.hid hcut
        clear hcut
        by_cases ha : a = []
        · subst ha
          go_wp2_with (go_at_call 107; refine (byte_any _ _).mono ?_; rintro e w' ⟨rfl, rfl⟩; rw [HB.out])
          exact bodyPost_ret (v := .tuple #[.agg #[S [], .slice none 0 0], .int .i64 (-1)]) (by simp [results, Try.results98, go_sem]) rfl (ReadT.no (((Fr.refl _ _).alloc _).alloc _) (HCUT.out.trans (if_pos (by trivial))))
        · have hae : a.isEmpty = false := by cases a; exact absurd rfl ha; rfl
          go_wp2_with (go_at_call 107; refine (byte_any _ _).mono ?_; rintro e w' ⟨rfl, rfl⟩; rw [HB.out])
          exact bodyPost_ret (v := .tuple #[.agg #[S a, .slice none 0 0], .int .i64 (j : Int)]) (by simp [results, Try.results98, go_sem]) rfl (ReadT.leaf (((Fr.refl _ _).alloc _).alloc _) (by rw [HCUT.out, if_neg ha]) hjs)
    · have hj' : j = s.length := by omega
      have hcut := atom_cut (s := s) (n := n) hij hjs hc0 h40 HA.out (.inl hj')
      have hex := ba_extract s i j
      generalize (s.drop i).take (j - i) = a at hcut hex
      have HCUT := Lib.hid hcut
      clear hcut hj'
      by_cases ha : a = []
      · subst ha
        go_wp2_with fail
        exact bodyPost_ret (v := .tuple #[.agg #[S [], .slice none 0 0], .int .i64 (-1)]) (by simp [results, Try.results98, go_sem]) rfl (ReadT.no (((Fr.refl _ _).alloc _).alloc _) (HCUT.out.trans (if_pos (by trivial))))
      · have hae : a.isEmpty = false := by cases a; exact absurd rfl ha; rfl
        go_wp2_with fail
        exact bodyPost_ret (v := .tuple #[.agg #[S a, .slice none 0 0], .int .i64 (j : Int)]) (by simp [results, Try.results98, go_sem]) rfl (ReadT.leaf (((Fr.refl _ _).alloc _).alloc _) (by rw [HCUT.out, if_neg ha]) hjs)
end Go.Proofs.Ythbidlcfahdfhaa
