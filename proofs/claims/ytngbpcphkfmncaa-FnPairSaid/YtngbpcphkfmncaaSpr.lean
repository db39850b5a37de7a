/- SetPair of the model. -/
import Derived.Test.YtngbpcphkfmncaaStp2
namespace Go.Proofs.Ytngbpcphkfmncaa
open Go.RowKit Go.ChangeMaps

theorem ElIs.sf {s : List UInt8} {f : Bool} {ns : List (List UInt8)} {zs : List Int} {k : Int} {l r : Ty} {ms : List (Nat × Nat)} {d : Nat} (h : ElIs s f ns zs k l r ms d) : ∃ a b, SfIs s f ns zs l r ms a b d := by
  obtain ⟨h1, h2, h3, h4, h5⟩ := h
  obtain ⟨a, b, ha, hb, hd, hle⟩ := Ty.cnt_n h3
  have hab := l.cnt_bounds h2.sz a ha
  have hbb := r.cnt_bounds h2.sz b hb
  exact ⟨a, b, h1, h2, ha, hb, h3, hd, hab.1, hab.2, hbb.1, hbb.2, hle⟩

theorem SfIs.el {s : List UInt8} {f : Bool} {ns : List (List UInt8)} {zs : List Int} {k : Int} {l r : Ty} {ms : List (Nat × Nat)} {a b d : Nat} (h : SfIs s f ns zs l r ms a b d) (h0 : 0 ≤ k) (h1 : k < (d : Int)) : ElIs s f ns zs k l r ms d := ⟨h.1, h.2.1, h.2.2.2.2.1, h0, h1⟩

/-- the parts of a tree in a box, where they are asked -/
theorem parts_at {W : World} {X : Option Addr} {f : Bool} {l r : Ty} (h : Sl W (fun b => b < W.heap.size) X (Ty.n f l r).kids) :
    ∃ g o A1 c1 A2 c2, X = some ⟨g, o, none⟩ ∧ ∀ w', Fr No W w' → w'.cell? ⟨g, o + 2, none⟩ = some (S l.atom) ∧ w'.cell? ⟨g, o + 3, none⟩ = some (.slice A1 l.kids.len c1) ∧ w'.cell? ⟨g, o + 4, none⟩ = some (S r.atom) ∧ w'.cell? ⟨g, o + 5, none⟩ = some (.slice A2 r.kids.len c2) ∧ g < w'.heap.size ∧
      Sl w' (fun b => b < w'.heap.size) A1 l.kids ∧ Sl w' (fun b => b < w'.heap.size) A2 r.kids := by
  rw [Ty.kids_n] at h
  obtain ⟨g, o, A0, c0, A1, c1, A2, c2, rfl, hg, q0, q1, q2, q3, q4, q5, s0, s1, s2, hl⟩ := h.three
  refine ⟨g, o, A1, c1, A2, c2, rfl, fun w' hf => ⟨(hf.cell (p := ⟨g, o + 2, none⟩) hl (fun h => h)).trans q2, (hf.cell (p := ⟨g, o + 3, none⟩) hl (fun h => h)).trans q3, (hf.cell (p := ⟨g, o + 4, none⟩) hl (fun h => h)).trans q4, (hf.cell (p := ⟨g, o + 5, none⟩) hl (fun h => h)).trans q5, Nat.lt_of_lt_of_le hl hf.size, ?_, ?_⟩⟩
  · exact (s1.fr (fun b hb => hb) hf).mono (fun b hb => Nat.lt_of_lt_of_le hb hf.size) (fun _ _ => rfl)
  · exact (s2.fr (fun b hb => hb) hf).mono (fun b hb => Nat.lt_of_lt_of_le hb hf.size) (fun _ _ => rfl)

set_option maxRecDepth 100000 in
set_option maxHeartbeats 1000000 in
theorem specPair (w : World) (s : List UInt8) (A A' : Option Addr) (ns : List (List UInt8)) (zs : List Int) (c c' : Nat) (k : Int) (hc : ns.length ≤ c) (hss : s.length ≤ maxLen) (hN : SSl w A ns) (hZ : ISl w A' zs) (hl : ns.length ≤ 1048576) (hl' : zs.length ≤ 1048576) (hs : ∀ x ∈ ns, x.length ≤ maxLen) :
    Calls Try.prog 23 #[S s, .slice A ns.length c, .slice A' zs.length c', .int .i64 k] w fun e w' => AnsPair s ns zs k w e w' := by
  have CALL := Lib.hid (el_any w s false A A' ns zs c c' k hc hss hN hZ hl hl' hs)
  have HN := Lib.hid hN
  have HZ := Lib.hid hZ
  clear hN hZ hs
  go_enter Try.func23, Try.ntmps23
  go_wp2_with fail
  refine CALL.out.mono ?_
  rintro e w1 ⟨hf, ⟨l, r, ms, d, X, xc, hel, rfl, hsl⟩ | ⟨a0, X, m, xc, hno, rfl⟩⟩
  · obtain ⟨g, o, A1, c1, A2, c2, rfl, hparts⟩ := parts_at hsl
    have HP := Lib.hid hparts
    obtain ⟨a, b, hsf⟩ := hel.sf
    have HSF := Lib.hid hsf
    have HEL := Lib.hid hel
    have hk0 := hel.2.2.2.1
    have hkd := hel.2.2.2.2
    have hfa : Fr No w1 (w1.alloc (.cells #[S [], .slice (some ⟨g, o, none⟩) 3 xc] 68)) := (Fr.refl _ _).alloc _
    have HFA := Lib.hid (hf.trans hfa)
    have HB : Hid (Blk (w1.alloc (.cells #[S [], .slice (some ⟨g, o, none⟩) 3 xc] 68)) w1.heap.size 68 #[S [], .slice (some ⟨g, o, none⟩) 3 xc]) := Blk.new _ _ _
    have HFW := Lib.hid hfa
    clear hsl hparts hel hsf hfa
    obtain ⟨_, _, y4, y5, y6, _, sl2⟩ := HP.out _ HFW.out
    have x1 : (w1.alloc (.cells #[S [], .slice (some ⟨g, o, none⟩) 3 xc] 68)).cell? ⟨w1.heap.size, 1, none⟩ = some (.slice (some ⟨g, o, none⟩) 3 xc) := (HB.out.cell 1).trans rfl
    have CT : Hid (Calls Try.prog 49 #[.agg #[S r.atom, .slice A2 r.kids.len c2], .slice A ns.length c, .slice A' zs.length c'] (w1.alloc (.cells #[S [], .slice (some ⟨g, o, none⟩) 3 xc] 68)) fun e w2 => e = .returned (.int .i64 b) ∧ Fr No (w1.alloc (.cells #[S [], .slice (some ⟨g, o, none⟩) 3 xc] 68)) w2) := by
      have := ct_any ns zs ms HSF.out.2.1 r HSF.out.1.2.1.2 _ _ A2 c2 A A' c c' (fun b hb => hb) sl2 (HN.out.keep HFA.out (fun _ h => h.elim)) (HZ.out.keep HFA.out (fun _ h => h.elim))
      rw [cntI_some HSF.out.2.2.2.1] at this
      exact this
    have hb1 : (1 : Int) ≤ (b : Int) := by have := HSF.out.2.2.2.2.2.2.2.2.1; omega
    have hb0 : ((b : Int) == 0) = false := beq_eq_false_iff_ne.2 (by omega)
    have hd4 := HSF.out.2.2.2.2.2.2.2.2.2.2
    have hk4 : k ≤ 4096 := by omega
    have hbn : ¬ b = 0 := by omega
    have hq0 : 0 ≤ k / (b : Int) := Int.ediv_nonneg hk0 (by omega)
    have hq1 : k / (b : Int) ≤ k := Int.ediv_le_self _ hk0
    have hr0 : 0 ≤ k % (b : Int) := Int.emod_nonneg _ (by omega)
    have hr1 : k % (b : Int) < (b : Int) := Int.emod_lt_of_pos _ (by omega)
    have hbb := HSF.out.2.2.2.2.2.2.2.2.2.1
    have hw1 : IntKind.i64.wrap (k.tdiv (b : Int)) = k / (b : Int) := by rw [Int.tdiv_eq_ediv_of_nonneg hk0]; exact IntWalk.i64_in _ (by omega)
    have hw2 : IntKind.i64.wrap (k.tmod (b : Int)) = k % (b : Int) := by rw [Int.tmod_eq_emod_of_nonneg hk0]; exact IntWalk.i64_in _ (by omega)
    clear sl2 hkd hd4 hq0 hq1 hr0 hr1
    generalize r.kids.len = rl at *
    generalize r.atom = ra at *
    go_wp2_with fail
    generalize w1.alloc (.cells #[S [], .slice (some ⟨g, o, none⟩) 3 xc] 68) = W at *
    refine CT.out.mono ?_
    rintro e w2 ⟨rfl, hf2⟩
    have HF2 := Lib.hid (HFA.out.trans hf2)
    clear hf2
    go_wp2_with fail
    refine wp_region_still_lit (by kernel_rfl) (by kernel_rfl) ?_
    change wpStill _ _ (World.drew _) (fun a' => _) _ _
    repeat still_step
    refine wpStill_nil ?_
    go_wp2_with fail
    go_ret3
    exact ⟨_, _, _, rfl, .inl ⟨l, r, ms, a, b, d, HSF.out, HEL.out.2.2.2.1, HEL.out.2.2.2.2, (by first | rfl | exact Int.tdiv_eq_ediv_of_nonneg hk0), (by first | rfl | exact Int.tmod_eq_emod_of_nonneg hk0), rfl⟩, HF2.out.drew⟩
  · have HNO : Hid (∀ l r ms a b d, SfIs s false ns zs l r ms a b d → ¬ (0 ≤ k ∧ k < (d : Int))) := fun l r ms a b d h ⟨h1, h2⟩ => hno _ _ _ _ (h.el h1 h2)
    have HFA := Lib.hid (hf.alloc (.cells #[S a0, .slice X m xc] 68))
    clear hno
    go_wp2_with fail
    go_ret3
    exact ⟨_, _, _, rfl, .inr ⟨HNO.out, rfl, rfl, rfl⟩, HFA.out⟩

/-! SetAt. -/
def AtR (s : List UInt8) (ns : List (List UInt8)) (zs : List Int) (k q x : Int) (ok : Bool) : Prop :=
  (∃ l r ms a b d, ∃ kn qn : Nat, SfIs s true ns zs l r ms a b d ∧ k = kn ∧ q = qn ∧ kn < d ∧ qn < a ∧ x = ((kn / b ^ qn % b : Nat) : Int) ∧ ok = true) ∨ ((∀ l r ms a b d, SfIs s true ns zs l r ms a b d → ¬ ((0 ≤ k ∧ k < (d : Int)) ∧ 0 ≤ q ∧ q < (a : Int))) ∧ x = 0 ∧ ok = false)

theorem AtR.one {s : List UInt8} {ns : List (List UInt8)} {zs : List Int} {k q x x' : Int} {b b' : Bool} (h : AtR s ns zs k q x b) (h' : AtR s ns zs k q x' b') : x' = x ∧ b' = b := by
  rcases h with ⟨l, r, ms, a, c, d, kn, qn, h1, rfl, rfl, k1, q1, rfl, rfl⟩ | ⟨n1, rfl, rfl⟩ <;> rcases h' with ⟨l', r', ms', a', c', d', kn', qn', h2, e1, e2, k2, q2, rfl, rfl⟩ | ⟨n2, rfl, rfl⟩
  · obtain ⟨_, e, _⟩ := h1.unique h2
    subst e
    have : kn = kn' := by omega
    subst this
    have : qn = qn' := by omega
    subst this
    exact ⟨rfl, rfl⟩
  · exact absurd ⟨⟨by omega, by omega⟩, by omega, by omega⟩ (n2 _ _ _ _ _ _ h1)
  · exact absurd ⟨⟨by omega, by omega⟩, by omega, by omega⟩ (n1 _ _ _ _ _ _ h2)
  · exact ⟨rfl, rfl⟩

def AnsAt (s : List UInt8) (ns : List (List UInt8)) (zs : List Int) (k q : Int) (w : World) (e : Ending) (w' : World) : Prop := ∃ x ok, e = .returned (.tuple #[.int .i64 x, .bool ok]) ∧ AtR s ns zs k q x ok ∧ Fr No w w'

theorem digL_at {b k m q : Nat} (h : q ≤ m) (hlt : k < b ^ (m + 1)) : (digL b k m)[q]? = some ((k / b ^ q % b : Nat) : Int) := by
  unfold digL
  by_cases hq : q < m
  · rw [List.getElem?_append_left (by simp [hq]), List.getElem?_map, List.getElem?_range hq]
    rfl
  · have : q = m := by omega
    subst this
    rw [List.getElem?_append_right (by simp)]
    have := dig_last hlt
    unfold dig at this
    rw [List.length_map, List.length_range, Nat.sub_self]
    exact congrArg (fun n : Nat => some (n : Int)) this

set_option maxRecDepth 100000 in
set_option maxHeartbeats 1000000 in
theorem implAt (w : World) (s : List UInt8) (A A' : Option Addr) (ns : List (List UInt8)) (zs : List Int) (c c' : Nat) (k q : Int) (hss : s.length ≤ maxLen) (hN : SSl w A ns) (hZ : ISl w A' zs) (hl : ns.length ≤ 2000000) (hl' : zs.length ≤ 2000000) (hs : ∀ x ∈ ns, x.length ≤ maxLen) :
    Calls Try.prog 25 #[S s, .slice A ns.length c, .slice A' zs.length c', .int .i64 k, .int .i64 q] w fun e w' => AnsAt s ns zs k q w e w' := by
  have CALL := Lib.hid (readSetOf_any w true s A A' ns zs c c' hss hN hZ hl hl' hs)
  clear hN hZ hs
  go_enter Try.func25, Try.ntmps25
  go_wp2_with fail
  refine CALL.out.mono ?_
  rintro e w1 ⟨hf, ⟨l, r, ms, a, b, d, g, hi, rfl, hfs⟩ | ⟨hno, rfl⟩⟩
  · have HI := Lib.hid hi
    obtain ⟨gl, hpl, hpr⟩ : ∃ gl, w1.cell? ⟨g, 3, none⟩ = some (Ptr gl) ∧ (∀ d', Calls Try.prog 54 #[Ptr gl, .int .i64 d'] w1 fun e w' => e = .returned (.bool (decide (0 ≤ d' ∧ d' < (a : Int)))) ∧ w1 = w') := by
      obtain ⟨gl, gr, sz, s1, z1, p1, q1, s2, z2, p2, q2, h1, h2, _⟩ := hfs
      exact ⟨gl, (h1.cell 3).trans rfl, fun d' => has_set w1 gl _ _ _ _ a d' h2⟩
    have HAS : Hid (Calls Try.prog 54 #[Ptr g, .int .i64 k] w1 fun e w' => e = .returned (.bool (decide (0 ≤ k ∧ k < (d : Int)))) ∧ w1 = w') := by
      obtain ⟨gl, gr, sz, s1, z1, p1, q1, s2, z2, p2, q2, h1, _⟩ := hfs
      exact has_set w1 g _ _ _ _ d k h1
    have HASL := Lib.hid (hpr q)
    have HFS := Lib.hid hfs
    have c3 := hpl
    have g3 := block_lt hpl
    clear hi hfs hpr hpl
    by_cases hk : 0 ≤ k ∧ k < (d : Int)
    · rw [decide_eq_true hk] at HAS
      by_cases hq : 0 ≤ q ∧ q < (a : Int)
      · rw [decide_eq_true hq] at HASL
        obtain ⟨kn, rfl⟩ : ∃ kn : Nat, k = (kn : Int) := ⟨k.toNat, by omega⟩
        obtain ⟨qn, rfl⟩ : ∃ qn : Nat, q = (qn : Int) := ⟨q.toNat, by omega⟩
        have hbnd := HI.out.2.2.2.2.2
        obtain ⟨a', rfl⟩ : ∃ a', a = a' + 1 := ⟨a - 1, by omega⟩
        have DG : Hid (Calls Try.prog 55 #[Ptr g, .int .i64 kn] w1 fun e w' => DigP b kn a' w1 e w') := digits_fun w1 g a' b d kn hbnd.2.2.2.1 hbnd.2.2.2.2.1 (by omega) (by omega) HFS.out
        have hd : kn < b ^ (a' + 1) := by have := hbnd.1; simp only [if_true] at this; omega
        have HD := Lib.hid hd
        have HK := Lib.hid hk
        have HQ := Lib.hid hq
        have hqa : (qn : Int) < (a' : Int) + 1 := by omega
        clear hk hq hbnd hd
        go_wp2_with fail
        refine HAS.out.mono ?_
        rintro e w2 ⟨rfl, rfl⟩
        go_wp2_with fail
        refine HASL.out.mono ?_
        rintro e w2 ⟨rfl, rfl⟩
        go_wp2_with fail
        refine DG.out.mono ?_
        rintro e w3 ⟨G, rfl, hf3, hsl⟩
        obtain ⟨g1, o1, e1, d0⟩ := hsl qn _ (digL_at (by omega) HD.out)
        simp only [Option.some.injEq, Addr.mk.injEq, and_true] at e1
        obtain ⟨rfl, rfl⟩ := e1
        simp only [Nat.zero_add] at d0
        have hlg := block_lt d0
        have HF := Lib.hid (hf.trans hf3)
        clear hsl c3 g3
        generalize hx : kn / b ^ qn % b = x1 at *
        have HX := Lib.hid hx
        clear hx
        go_wp2_with fail
        go_ret2
        exact ⟨_, _, rfl, .inl ⟨l, r, ms, a' + 1, b, d, kn, qn, HI.out, rfl, rfl, by have := HK.out; omega, by have := HQ.out; omega, by rw [HX.out], rfl⟩, HF.out⟩
      · have HNO : Hid (∀ l r ms a b d, SfIs s true ns zs l r ms a b d → ¬ ((0 ≤ k ∧ k < (d : Int)) ∧ 0 ≤ q ∧ q < (a : Int))) := fun l r ms a' b' d' h => by rw [(h.unique HI.out).1]; exact fun h => hq h.2
        rw [decide_eq_false hq] at HASL
        clear hk hq
        go_wp2_with fail
        refine HAS.out.mono ?_
        rintro e w2 ⟨rfl, rfl⟩
        go_wp2_with fail
        refine HASL.out.mono ?_
        rintro e w2 ⟨rfl, rfl⟩
        go_wp2_with fail
        go_ret2
        exact ⟨_, _, rfl, .inr ⟨HNO.out, rfl, rfl⟩, hf⟩
    · have HNO : Hid (∀ l r ms a b d, SfIs s true ns zs l r ms a b d → ¬ ((0 ≤ k ∧ k < (d : Int)) ∧ 0 ≤ q ∧ q < (a : Int))) := fun l r ms a' b' d' h => by rw [(h.unique HI.out).2.2]; exact fun h => hk h.1
      rw [decide_eq_false hk] at HAS
      clear hk
      go_wp2_with fail
      refine HAS.out.mono ?_
      rintro e w2 ⟨rfl, rfl⟩
      go_wp2_with fail
      go_ret2
      exact ⟨_, _, rfl, .inr ⟨HNO.out, rfl, rfl⟩, hf⟩
  · have HNO := Lib.hid hno
    clear hno
    go_wp2_with fail
    go_ret2
    exact ⟨_, _, rfl, .inr ⟨fun l r ms a b d h => (HNO.out l r ms a b d h).elim, rfl, rfl⟩, hf⟩
end Go.Proofs.Ytngbpcphkfmncaa
