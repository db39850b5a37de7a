import Derived.Test.YtmpadnnpmbgdcaaReader
namespace Go.Proofs.Ytmpadnnpmbgdcaa
open Go.RowKit Go.ChangeMaps

/-- What is left of the pool and the reader behind a part of the reading. -/
structure Left (w : World) (R q m : Nat) (ps : List Nat) (D : List Ty) (u : List UInt8) (sh : Nat) (w' : World) (ps' : List Nat) (D' : List Ty) (u' : List UInt8) (k' : Nat) : Prop where
  pool : Pool w' q m ps' D'
  grew : Grew w.heap.size ps D ps' D'
  rdr : Rdr w' R q u' sh k'
  fr : Fr (Two m R) w w'
  len : u'.length ≤ u.length

def NextPost (w : World) (R q m : Nat) (ps : List Nat) (D : List Ty) (u : List UInt8) (sh k : Nat) (e : Ending) (w' : World) : Prop :=
  ∃ ps' D' u' k', Left w R q m ps D u sh w' ps' D' u' k' ∧
    ((∃ t p, Ty.Rd u k t u' ∧ k' = k + t.size ∧ Has ps' D' (t.shift sh) p ∧ e = .returned (Ptr p)) ∨ ((∀ t r, ¬ Ty.Rd u k t r) ∧ e = .returned (.pointer none)))

def NextSaid (k : Nat) : Prop := ∀ w R q m ps D u sh, Pool w q m ps D → Rdr w R q u sh k → u.length ≤ 6000 → sh ≤ 100 →
  Calls Try.prog 63 #[Ptr R] w fun e w' => NextPost w R q m ps D u sh k e w'

/-- Both parts, the space between and the bracket behind. -/
def Rd2 (u : List UInt8) (k : Nat) (l r : Ty) (rest : List UInt8) : Prop := u = l.text ++ 32 :: (r.text ++ 41 :: rest) ∧ l.lets ∧ r.lets ∧ k + l.size + r.size ≤ 40

def PartsPost (w : World) (R q m : Nat) (ps : List Nat) (D : List Ty) (u : List UInt8) (f : Bool) (sh k : Nat) (e : Ending) (w' : World) : Prop :=
  ∃ ps' D' u' k', Left w R q m ps D u sh w' ps' D' u' k' ∧
    ((∃ l r p, Rd2 u k l r u' ∧ k' = k + l.size + r.size ∧ Has ps' D' ((Ty.n f l r).shift sh) p ∧ e = .returned (Ptr p)) ∨ ((∀ l r rest, ¬ Rd2 u k l r rest) ∧ e = .returned (.pointer none)))

theorem Left.trans {w w1 w2 : World} {R q m : Nat} {ps ps1 ps2 : List Nat} {D D1 D2 : List Ty} {u u1 u2 : List UInt8} {sh k1 k2 : Nat}
    (h : Left w R q m ps D u sh w1 ps1 D1 u1 k1) (h' : Left w1 R q m ps1 D1 u1 sh w2 ps2 D2 u2 k2) : Left w R q m ps D u sh w2 ps2 D2 u2 k2 :=
  ⟨h'.pool, h.grew.trans h'.grew h.fr.size, h'.rdr, h.fr.trans h'.fr, Nat.le_trans h'.len h.len⟩

/-- the reader's text is cut -/
theorem Left.cut {w w1 : World} {R q m : Nat} {ps ps1 : List Nat} {D D1 : List Ty} {u u1 u2 : List UInt8} {sh k1 : Nat}
    (h : Left w R q m ps D u sh w1 ps1 D1 u1 k1) (hl : u2.length ≤ u1.length) : Left w R q m ps D u sh (w1.setCell ⟨R, 0, none⟩ (S u2)) ps1 D1 u2 k1 :=
  ⟨h.pool.setR h.rdr 0 _, h.grew, by have := Blk.set_ h.rdr 0 (S u2); exact this, h.fr.setCell (.inl (.inr rfl)) _, Nat.le_trans hl h.len⟩

theorem Left.made {w w1 w2 : World} {R q m : Nat} {ps ps1 ps2 : List Nat} {D D1 D2 : List Ty} {u u1 : List UInt8} {sh k1 p : Nat} {t : Ty} {e : Ending}
    (h : Left w R q m ps D u sh w1 ps1 D1 u1 k1) (h' : Made w1 q m ps1 D1 t e w2 ps2 D2 p) : Left w R q m ps D u sh w2 ps2 D2 u1 k1 :=
  ⟨h'.pool, h.grew.trans h'.grew h.fr.size, Blk.fr h.rdr h'.fr (fun e => (h.rdr.apart h.pool).2.1 e), h.fr.trans (h'.fr.mono (fun _ _ e => .inl e)), h.len⟩

theorem hasPrefix_cons (c : UInt8) (u : List UInt8) : Lib.hasPrefix (c :: u) [c] = true ∧ Lib.trimPrefix (c :: u) [c] = u := by
  simp [Lib.hasPrefix, Lib.trimPrefix]

theorem hasPrefix_not (c : UInt8) (u : List UInt8) (h : ∀ r, u ≠ c :: r) : Lib.hasPrefix u [c] = false ∧ Lib.trimPrefix u [c] = u := by
  have : Lib.hasPrefix u [c] = false := by
    cases u with
    | nil => rfl
    | cons d u =>
      have hd : c ≠ d := fun e => h u (by rw [e])
      simp [Lib.hasPrefix, List.isPrefixOf, hd]
  exact ⟨this, by simp [Lib.trimPrefix, this]⟩

set_option maxHeartbeats 1000000 in
theorem nextParts_any (k : Nat) (hk : k ≤ 1000) (hN : ∀ k', k ≤ k' → k' ≤ 1000 → NextSaid k') (w : World) (R q m : Nat) (ps : List Nat) (D : List Ty) (u : List UInt8) (f : Bool) (sh : Nat)
    (hP : Pool w q m ps D) (hR : Rdr w R q u sh k) (hu : u.length ≤ 6000) (hsh : sh ≤ 100) :
    Calls Try.prog 82 #[Ptr R, S [Ty.sign f]] w fun e w' => PartsPost w R q m ps D u f sh k e w' := by
  have HN := Lib.hid hN
  clear hN
  go_enter Try.func82, Try.ntmps82
  go_wp2_with fail
  refine (HN.out k (Nat.le_refl _) hk _ R q m ps D u sh hP hR hu hsh).mono ?_
  rintro e w1 ⟨ps1, D1, u1, k1, hL1, hor⟩
  rcases hor with ⟨l, pl, hrd, hk1, hhas, he⟩ | ⟨hno, he⟩
  · obtain rfl := he
    by_cases hsp : ∃ u2, u1 = 32 :: u2
    · obtain ⟨u2, hu2⟩ := hsp
      obtain ⟨a1, a2⟩ := hasPrefix_cons 32 u2
      rw [← hu2] at a1 a2
      have HA := Lib.hid a1
      have HB := Lib.hid a2
      have HU := Lib.hid hu2
      have HK := Lib.hid hk1
      clear a1 a2 hu2 hk1
      go_wp2_with fail
      refine (skip_any w1 R q u1 [32] u2 sh k1 true hL1.rdr HA.out HB.out).mono ?_
      rintro e w2 ⟨rfl, rfl⟩
      have hL2 := hL1.cut (u2 := u2) (by rw [HU.out]; simp)
      go_wp2_with fail
      refine (HN.out k1 (by rw [HK.out]; omega) (by rw [HK.out]; have := hrd.2.2; omega) _ R q m ps1 D1 u2 sh hL2.pool hL2.rdr (Nat.le_trans hL2.len hu) hsh).mono ?_
      rintro e w3 ⟨ps3, D3, u3, k3, hL3, hor⟩
      have hL4 := hL2.trans hL3
      rcases hor with ⟨r, pr, hrd', hk3, hhas', he⟩ | ⟨hno, he⟩
      · obtain rfl := he
        by_cases hcl : ∃ u4, u3 = 41 :: u4
        · obtain ⟨u4, hu4⟩ := hcl
          obtain ⟨a1, a2⟩ := hasPrefix_cons 41 u4
          rw [← hu4] at a1 a2
          have HA' := Lib.hid a1
          have HB' := Lib.hid a2
          have HU' := Lib.hid hu4
          have HK' := Lib.hid hk3
          clear a1 a2 hu4 hk3
          go_wp2_with fail
          refine (skip_any w3 R q u3 [41] u4 sh k3 true hL4.rdr HA'.out HB'.out).mono ?_
          rintro e w4 ⟨rfl, rfl⟩
          have hL5 := hL4.cut (u2 := u4) (by rw [HU'.out]; simp)
          have c0 : (w3.setCell ⟨R, 0, none⟩ (S u4)).cell? ⟨R, 2, none⟩ = some (Ptr q) := (hL5.rdr.cell 2).trans rfl
          generalize w3.setCell ⟨R, 0, none⟩ (S u4) = w4 at hL5 c0 ⊢
          go_wp2_with fail
          refine (parts_any w4 q m ps3 D3 f (l.shift sh) (r.shift sh) pl pr hL5.pool (hhas.grew hL3.grew) hhas' ?_).mono ?_
          · rw [Ty.size_shift, Ty.size_shift]
            have h1 := hrd.2.2
            have h2 := hrd'.2.2
            omega
          rintro e w5 ⟨ps5, D5, p, hm⟩
          obtain rfl := hm.ret
          have hL6 := hL5.made hm
          go_wp2
          go_ret
          refine ⟨ps5, D5, u4, k3, hL6, .inl ⟨l, r, p, ⟨?_, hrd.2.1, hrd'.2.1, ?_⟩, ?_, hm.has, rfl⟩⟩
          · rw [hrd.1, HU.out, hrd'.1, HU'.out]
          · have h2 := hrd'.2.2
            rw [HK.out] at h2
            omega
          · rw [HK'.out, HK.out]
        · have hn := hasPrefix_not 41 u3 (fun r e => hcl ⟨r, e⟩)
          have HA' := Lib.hid hn.1
          have HB' := Lib.hid hn.2
          have HK' := Lib.hid hk3
          clear hn hk3
          go_wp2_with fail
          refine (skip_any w3 R q u3 [41] u3 sh k3 false hL4.rdr HA'.out HB'.out).mono ?_
          rintro e w4 ⟨rfl, rfl⟩
          have hL5 := hL4.cut (u2 := u3) (Nat.le_refl _)
          go_wp2
          go_ret
          refine ⟨ps3, D3, u3, k3, hL5, .inr ⟨fun l' r' rest h => hcl ?_, rfl⟩⟩
          obtain ⟨rfl, e1⟩ := hrd.unique (t' := l') (r' := 32 :: (r'.text ++ 41 :: rest)) ⟨h.1, h.2.1, by have := h.2.2.2; omega⟩
          rw [HU.out] at e1
          injection e1 with _ e1
          obtain ⟨rfl, e2⟩ := hrd'.unique (t' := r') (r' := 41 :: rest) ⟨e1, h.2.2.1, by rw [HK.out]; exact h.2.2.2⟩
          exact ⟨rest, e2⟩
      · obtain rfl := he
        go_wp2
        go_ret
        refine ⟨ps3, D3, u3, k3, hL4, .inr ⟨fun l' r' rest h => ?_, rfl⟩⟩
        obtain ⟨rfl, e1⟩ := hrd.unique (t' := l') (r' := 32 :: (r'.text ++ 41 :: rest)) ⟨h.1, h.2.1, by have := h.2.2.2; omega⟩
        rw [HU.out] at e1
        injection e1 with _ e1
        exact hno r' (41 :: rest) ⟨e1, h.2.2.1, by rw [HK.out]; exact h.2.2.2⟩
    · have hn := hasPrefix_not 32 u1 (fun r e => hsp ⟨r, e⟩)
      have HA := Lib.hid hn.1
      have HB := Lib.hid hn.2
      have HK := Lib.hid hk1
      clear hn hk1
      go_wp2_with fail
      refine (skip_any w1 R q u1 [32] u1 sh k1 false hL1.rdr HA.out HB.out).mono ?_
      rintro e w2 ⟨rfl, rfl⟩
      have hL2 := hL1.cut (u2 := u1) (Nat.le_refl _)
      go_wp2
      go_ret
      refine ⟨ps1, D1, u1, k1, hL2, .inr ⟨fun l' r' rest h => hsp ?_, rfl⟩⟩
      obtain ⟨rfl, e1⟩ := hrd.unique (t' := l') (r' := 32 :: (r'.text ++ 41 :: rest)) ⟨h.1, h.2.1, by have := h.2.2.2; omega⟩
      exact ⟨_, e1⟩
  · obtain rfl := he
    go_wp2_with fail
    go_ret
    exact ⟨ps1, D1, u1, k1, hL1, .inr ⟨fun l r rest h => hno l (32 :: (r.text ++ 41 :: rest)) ⟨h.1, h.2.1, by have := h.2.2.2; omega⟩, rfl⟩⟩
end Go.Proofs.Ytmpadnnpmbgdcaa
