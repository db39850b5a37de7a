import Derived.Test.YtjkkjdmfhdoojaaScan
namespace Go.Proofs.Ytjkkjdmfhdoojaa
open Go.RowKit Go.ChangeMaps

def CanIs (s a : List UInt8) (ok : Bool) : Prop := (∃ t, Ty.Is s t ∧ a = t.canon.text ∧ ok = true) ∨ ((∀ t, ¬ Ty.Is s t) ∧ a = [] ∧ ok = false)

theorem CanIs.one {s a a' : List UInt8} {b b' : Bool} (h : CanIs s a b) (h' : CanIs s a' b') : a' = a ∧ b' = b := by
  rcases h with ⟨t, i1, rfl, rfl⟩ | ⟨n1, rfl, rfl⟩ <;> rcases h' with ⟨t', i2, rfl, rfl⟩ | ⟨n2, rfl, rfl⟩
  · have := i1.unique i2
    subst this
    exact ⟨rfl, rfl⟩
  · exact absurd i1 (n2 t)
  · exact absurd i2 (n1 t')
  · exact ⟨rfl, rfl⟩

def AnsCanon (s : List UInt8) (w : World) (e : Ending) (w' : World) : Prop := ∃ a ok, e = .returned (.tuple #[S a, .bool ok]) ∧ CanIs s a ok ∧ Fr No w w'

set_option maxRecDepth 100000 in
set_option maxHeartbeats 1000000 in
theorem implCanon (w : World) (s : List UInt8) (hs : s.length ≤ maxLen) :
    Calls Try.prog 26 #[S s] w fun e w' => AnsCanon s w e w' := by
  go_enter Try.func26, Try.ntmps26
  go_wp2_with fail
  refine (newPool_any _).mono ?_
  rintro e w1 ⟨rfl, rfl⟩
  have hP := pool_start w
  have hf0 : Fr No w ((w.alloc (.map #[] 0)).alloc (.cells #[.map (some w.heap.size)] 86)) := ((Fr.refl _ _).alloc _).alloc _
  generalize (w.alloc (.map #[] 0)).alloc (.cells #[.map (some w.heap.size)] 86) = w1 at hP hf0 ⊢
  go_wp2_with fail
  refine (read_any w1 _ _ [] [] s 0 hP (by omega) hs).mono ?_
  rintro e w2 ⟨ps, D, hP2, hg, hf, hor⟩
  have hfr : Fr No w w2 := hf0.then_ hf (fun i hi e => by unfold One at e; omega)
  rcases hor with ⟨t, p, hi, hh, he⟩ | ⟨hno, he⟩
  · obtain rfl := he
    rw [Ty.shift_zero] at hh
    have hsz := hi.2.2
    have hlets := hi.2.1
    go_wp2_with fail
    refine (canon_any w2 _ _ ps D t p hP2 hh (by omega)).mono ?_
    rintro e w3 ⟨ps3, D3, p3, hm⟩
    obtain rfl := hm.ret
    have hfr3 : Fr No w w3 := hfr.then_ hm.fr (fun i hi e => by unfold One at e; omega)
    go_wp2_with fail
    refine (text_any _ _ ps3 D3 t.canon (Ty.canon_lets hlets) (by rw [Ty.canon_size]; omega) w3 p3 hm.pool hm.has).mono ?_
    rintro e w4 ⟨rfl, n, rfl⟩
    go_wp2_with fail
    refine bodyPost_ret (v := .tuple #[S t.canon.text, .bool true]) (by simp [results, Try.results26, go_sem]) rfl ?_
    exact ⟨_, _, rfl, .inl ⟨t, hi, rfl, rfl⟩, hfr3.drewN n⟩
  · obtain rfl := he
    go_wp2_with fail
    refine bodyPost_ret (v := .tuple #[S [], .bool false]) (by simp [results, Try.results26, go_sem]) rfl ?_
    exact ⟨_, _, rfl, .inr ⟨hno, rfl, rfl⟩, hfr⟩

set_option maxRecDepth 100000 in
set_option maxHeartbeats 1000000 in
theorem specCanon (w : World) (s : List UInt8) (hs : s.length ≤ maxLen) :
    Calls Try.prog 27 #[S s] w fun e w' => AnsCanon s w e w' := by
  go_enter Try.func27, Try.ntmps27
  go_wp2_with fail
  refine (type_any s _ hs).mono ?_
  rintro e w1 ⟨hf, ⟨t, A, c, hi, rfl, hsl⟩ | ⟨a, A, m, c, hno, rfl⟩⟩
  · have hsz := hi.2.2
    have hlets := hi.2.1
    have CALL : Hid (Calls Try.prog 58 #[.agg #[S t.atom, .slice A t.kids.len c]] (w1.alloc (.cells #[S t.atom, .slice A t.kids.len c] 54)) fun e w' => CanonR t w1 e w') := by
      refine (scanon_any _ (New w w1) A c t hlets (by omega) (fun b hb => by have := hb.2; simp; omega) (hsl.keepT (fun b hb => hb.2) ((Fr.refl _ _).alloc _))).mono ?_
      rintro e w' ⟨A', c', rfl, g1, g2⟩
      exact ⟨A', c', rfl, ((Fr.refl _ w1).alloc _).trans g1, g2⟩
    clear hsl
    go_wp2_with fail
    refine CALL.out.mono ?_
    rintro e w2 ⟨A', c', rfl, hf2, hsl2⟩
    go_wp2_with fail
    refine (spec_part t.canon (Ty.canon_lets hlets) (by rw [Ty.canon_size]; omega) A' c' w2 (Old w2) (fun _ hb => hb) hsl2).mono ?_
    rintro e w3 ⟨rfl, hf3⟩
    go_wp2_with fail
    refine bodyPost_ret (v := .tuple #[S t.canon.text, .bool true]) (by simp [results, Try.results27, go_sem]) rfl ?_
    exact ⟨_, _, rfl, .inl ⟨t, hi, rfl, rfl⟩, (hf.trans hf2).trans hf3⟩
  · have HN : Hid (∀ t, ¬ Ty.Is s t) := fun t h => hno _ h
    clear hno
    go_wp2_with fail
    refine bodyPost_ret (v := .tuple #[S [], .bool false]) (by simp [results, Try.results27, go_sem]) rfl ?_
    exact ⟨_, _, rfl, .inr ⟨HN.out, rfl, rfl⟩, hf.alloc _⟩

/-- two texts that are types which are alike -/
def Alike (a b : List UInt8) : Prop := ∃ t u, Ty.Is a t ∧ Ty.Is b u ∧ t.canon = u.canon

theorem Alike.no1 {a b : List UInt8} (h : ∀ t, ¬ Ty.Is a t) : ¬ Alike a b := fun ⟨t, _, i, _⟩ => h t i
theorem Alike.no2 {a b : List UInt8} (h : ∀ t, ¬ Ty.Is b t) : ¬ Alike a b := fun ⟨_, u, _, i, _⟩ => h u i
theorem Alike.iff {a b : List UInt8} {t u : Ty} (h1 : Ty.Is a t) (h2 : Ty.Is b u) : Alike a b ↔ t.canon = u.canon :=
  ⟨fun ⟨t', u', i1, i2, e⟩ => by rw [h1.unique i1, h2.unique i2]; exact e, fun e => ⟨t, u, h1, h2, e⟩⟩

set_option maxRecDepth 100000 in
set_option maxHeartbeats 1000000 in
theorem specAlike (w : World) (a b : List UInt8) (ha : a.length ≤ maxLen) (hb : b.length ≤ maxLen) :
    Calls Try.prog 31 #[S a, S b] w fun e w' => AnsB (Alike a b) w e w' := by
  go_enter Try.func31, Try.ntmps31
  go_wp2_with fail
  refine (specCanon _ a ha).mono ?_
  rintro e w1 ⟨x, p, rfl, h1, hf1⟩
  have H1 := Lib.hid h1
  clear h1
  go_wp2_with fail
  refine (specCanon _ b hb).mono ?_
  rintro e w2 ⟨y, q, rfl, h2, hf2⟩
  rcases H1.out with ⟨t, i1, e1, rfl⟩ | ⟨n1, e1, rfl⟩
  · rcases h2 with ⟨u, i2, e2, rfl⟩ | ⟨n2, e2, rfl⟩
    · have hiff : x = y ↔ Alike a b := by rw [Alike.iff i1 i2, e1, e2]; exact canon_text i1.2.1 i2.2.1
      have HI := Lib.hid hiff
      clear e1 e2 hiff
      by_cases hxy : x = y
      · subst hxy
        go_wp2
        go_ret
        exact ⟨true, rfl, ⟨fun _ => HI.out.1 (by trivial), fun _ => rfl⟩, hf1.trans hf2⟩
      · have hne : (x == y) = false := by simpa using hxy
        have HX := Lib.hid hxy
        clear hxy
        go_wp2
        go_ret
        exact ⟨false, by simp, ⟨fun h => (by cases h), fun h => (HX.out (HI.out.2 h)).elim⟩, hf1.trans hf2⟩
    · have HN := Lib.hid n2
      clear e1 e2 n2
      go_wp2
      go_ret
      exact ⟨false, rfl, ⟨fun h => (by cases h), fun h => (Alike.no2 HN.out h).elim⟩, hf1.trans hf2⟩
  · have HN := Lib.hid n1
    clear e1 h2
    go_wp2
    go_ret
    exact ⟨false, rfl, ⟨fun h => (by cases h), fun h => (Alike.no1 HN.out h).elim⟩, hf1.trans hf2⟩

set_option maxRecDepth 100000 in
set_option maxHeartbeats 1000000 in
theorem implAlike (w : World) (a b : List UInt8) (ha : a.length ≤ maxLen) (hb : b.length ≤ maxLen) :
    Calls Try.prog 28 #[S a, S b] w fun e w' => AnsB (Alike a b) w e w' := by
  go_enter Try.func28, Try.ntmps28
  go_wp2_with fail
  refine (newPool_any _).mono ?_
  rintro e w1 ⟨rfl, rfl⟩
  have hP := pool_start w
  have hf0 : Fr No w ((w.alloc (.map #[] 0)).alloc (.cells #[.map (some w.heap.size)] 86)) := ((Fr.refl _ _).alloc _).alloc _
  generalize (w.alloc (.map #[] 0)).alloc (.cells #[.map (some w.heap.size)] 86) = w1 at hP hf0 ⊢
  go_wp2_with fail
  refine (read_any w1 _ _ [] [] a 0 hP (by omega) ha).mono ?_
  rintro e w2 ⟨ps, D, hP2, hg, hf, hor⟩
  have hfr : Fr No w w2 := hf0.then_ hf (fun i hi e => by unfold One at e; omega)
  clear hg hf hf0 hP
  rcases hor with ⟨t, p, hi, hh, he⟩ | ⟨hno, he⟩
  · obtain rfl := he
    rw [Ty.shift_zero] at hh
    go_wp2_with fail
    refine (read_any w2 _ _ ps D b 0 hP2 (by omega) hb).mono ?_
    rintro e w3 ⟨ps3, D3, hP3, hg3, hf3, hor⟩
    have hfr3 : Fr No w w3 := hfr.then_ hf3 (fun i hi e => by unfold One at e; omega)
    have hh3 := hh.grew hg3
    clear hg3 hf3 hh hP2 hfr
    rcases hor with ⟨u, p', hi', hh', he⟩ | ⟨hno, he⟩
    · obtain rfl := he
      rw [Ty.shift_zero] at hh'
      have hsz := hi.2.2
      have hsz' := hi'.2.2
      go_wp2_with fail
      refine (canon_any w3 _ _ ps3 D3 t p hP3 hh3 (by omega)).mono ?_
      rintro e w4 ⟨ps4, D4, p4, hm⟩
      obtain rfl := hm.ret
      have hfr4 : Fr No w w4 := hfr3.then_ hm.fr (fun i hi e => by unfold One at e; omega)
      go_wp2_with fail
      refine (canon_any w4 _ _ ps4 D4 u p' hm.pool (hh'.grew hm.grew) (by omega)).mono ?_
      rintro e w5 ⟨ps5, D5, p5, hm5⟩
      obtain rfl := hm5.ret
      have hfr5 : Fr No w w5 := hfr4.then_ hm5.fr (fun i hi e => by unfold One at e; omega)
      have h1 := hm.has.grew hm5.grew
      obtain ⟨x, y, i, hb1, _⟩ := h1.blk hm5.pool
      obtain ⟨x', y', i', hb2, _⟩ := hm5.has.blk hm5.pool
      have hrun := run_eql_node hb1 hb2
      have hiff : (p4 == p5) = true ↔ Alike a b := by rw [beq_iff_eq, Has.inj hm5.pool h1 hm5.has, Alike.iff hi hi']
      have HI := Lib.hid hiff
      clear hiff hb1 hb2 h1 hm hm5
      go_wp2
      go_ret
      exact ⟨_, rfl, HI.out, hfr5⟩
    · obtain rfl := he
      have HN := Lib.hid hno
      clear hno
      go_wp2
      go_ret
      exact ⟨false, rfl, ⟨fun h => (by cases h), fun h => (Alike.no2 HN.out h).elim⟩, hfr3⟩
  · obtain rfl := he
    have HN := Lib.hid hno
    clear hno
    go_wp2_with fail
    refine (read_any w2 _ _ ps D b 0 hP2 (by omega) hb).mono ?_
    rintro e w3 ⟨ps3, D3, hP3, hg3, hf3, hor⟩
    have hfr3 : Fr No w w3 := hfr.then_ hf3 (fun i hi e => by unfold One at e; omega)
    have hret : ∃ v : Option Addr, e = .returned (.pointer v) := by rcases hor with ⟨u, p', _, _, he⟩ | ⟨_, he⟩ <;> exact ⟨_, he⟩
    obtain ⟨v, rfl⟩ := hret
    clear hor hg3 hf3
    go_wp2
    go_ret
    exact ⟨false, rfl, ⟨fun h => (by cases h), fun h => (Alike.no1 HN.out h).elim⟩, hfr3⟩

end Go.Proofs.Ytjkkjdmfhdoojaa
