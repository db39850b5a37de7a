/- Modules, as the model finds them: counts, what is asked of both, one relation. · Modules of the model: one relation, the least one, the greatest one. · ModuleBest of the model. -/
import Derived.Test.YtloecimlimoanaaGreatDoorLawPp
/- Modules, as the model finds them: counts, what is asked of both, one relation. -/
namespace Go.Proofs.YtloecimlimoanaaGreatDoor
open Go.RowKit Go.ChangeMaps Go.Shelf

/-- two modules of an interface, for both sizes -/
structure Mod (s : List UInt8) (m n x y : Int) (t : Ty) (mN nN a b xN yN : Nat) : Prop where
  is : Ty.Is s t
  only : OnlyA t
  em : m = mN
  en : n = nN
  in3 : In3 m n
  ca : t.cnt (sz1 mN) = some a
  cb : t.cnt (sz1 nN) = some b
  ex : x = xN
  ey : y = yN
  lx : xN < a
  ly : yN < b

theorem Mod.sizes {s : List UInt8} {m n x y : Int} {t : Ty} {mN nN a b xN yN : Nat} (h : Mod s m n x y t mN nN a b xN yN) : 1 ≤ mN ∧ mN ≤ 3 ∧ 1 ≤ nN ∧ nN ≤ 3 := by
  have h1 := h.em
  have h2 := h.en
  obtain ⟨a1, a2, a3, a4⟩ := h.in3
  omega

theorem Mod.unique {s : List UInt8} {m n x y : Int} {t t' : Ty} {mN nN a b xN yN mN' nN' a' b' xN' yN' : Nat} (h : Mod s m n x y t mN nN a b xN yN) (h' : Mod s m n x y t' mN' nN' a' b' xN' yN') : t' = t ∧ mN' = mN ∧ nN' = nN ∧ xN' = xN ∧ yN' = yN := by
  have h1 := h.em
  have h2 := h.en
  have h3 := h.ex
  have h4 := h.ey
  have g1 := h'.em
  have g2 := h'.en
  have g3 := h'.ex
  have g4 := h'.ey
  exact ⟨h'.is.unique h.is, by omega, by omega, by omega, by omega⟩

/-- whether the relation with a number relates two elements -/
def rbit (t : Ty) (m n x y k : Nat) : Bool := relT (sz1 m) (sz1 n) (numR m n k) t x y

set_option maxRecDepth 100000 in
set_option maxHeartbeats 1000000 in
/-- the count for one size -/
theorem c8_any (W : World) (t : Ty) (hl : t.lets) (A : Option Addr) (c m : Nat) (h1 : 1 ≤ m) (h3 : m ≤ 3) (hA : Sl W (fun b => b < W.heap.size) A t.kids) :
    Calls Tryz.prog 40 #[.agg #[S t.atom, .slice A t.kids.len c], .int .i64 m] W fun e w2 => e = .returned (.int .i64 (cntI (sz1 m) t)) ∧ Fr No W w2 := by
  have hf0 : Fr No W (W.alloc (.cells #[S t.atom, .slice A t.kids.len c] 46)) := (Fr.refl _ _).alloc _
  have C := Lib.hid (ct1_any (W.alloc (.cells #[S t.atom, .slice A t.kids.len c] 46)) t hl A c m h1 h3 ((hA.fr (fun b hb => hb) hf0).mono (fun b hb => Nat.lt_of_lt_of_le hb hf0.size) (fun _ _ => rfl)))
  have hb0 := Blk.new W 46 #[S t.atom, .slice A t.kids.len c]
  have x0 := hb0.cell 0
  have x1 := hb0.cell 1
  have x2 := hb0.lt
  have HF0 := Lib.hid hf0
  clear hA hb0 hf0
  obtain ⟨W1, hW1⟩ : ∃ W1, W1 = W.alloc (.cells #[S t.atom, .slice A t.kids.len c] 46) := ⟨_, rfl⟩
  rw [← hW1] at C HF0 x0 x1 x2
  have x0 : W1.cell? ⟨W.heap.size, 0, none⟩ = some (S t.atom) := x0.trans rfl
  have x1 : W1.cell? ⟨W.heap.size, 1, none⟩ = some (.slice A t.kids.len c) := x1.trans rfl
  have HW1 := Lib.hid hW1
  clear hW1
  go_enter Tryz.func40, Tryz.ntmps40
  go_wp2_with fail
  rw [← HW1.out]
  have hz : W1.heap.size = W.heap.size + 1 := by rw [HW1.out]; simp
  rw [hz] at C
  refine C.out.mono ?_
  rintro e w2 ⟨rfl, hf2⟩
  have HF2 := Lib.hid (HF0.out.trans hf2)
  clear hf2 x0 x1 x2 C
  go_wp2_with fail
  go_ret
  exact ⟨rfl, HF2.out⟩

/-- what is found of both modules -/
def SzP (s : List UInt8) (m n x y : Int) (w : World) (e : Ending) (w' : World) : Prop :=
  Fr No w w' ∧ ((∃ (t : Ty) (mN nN a b xN yN : Nat) (A : Option Addr) (c : Nat), Mod s m n x y t mN nN a b xN yN ∧ e = .returned (.tuple #[.agg #[S t.atom, .slice A t.kids.len c], .bool true]) ∧ Sl w' (fun b => b < w'.heap.size) A t.kids) ∨
    (∃ (a0 : List UInt8) (A : Option Addr) (mt ct : Nat), (∀ (t : Ty) (mN nN a b xN yN : Nat), ¬ Mod s m n x y t mN nN a b xN yN) ∧ e = .returned (.tuple #[.agg #[S a0, .slice A mt ct], .bool false])))

set_option maxRecDepth 100000 in
set_option maxHeartbeats 4000000 in
theorem sizes_any (w : World) (s : List UInt8) (m n x y : Int) (hs : s.length ≤ maxLen) :
    Calls Tryz.prog 20 #[S s, .int .i64 m, .int .i64 n, .int .i64 x, .int .i64 y] w fun e w' => SzP s m n x y w e w' := by
  have IN : Hid (∀ (w' : World) (a b c : Int), Calls Tryz.prog 39 #[.int .i64 a, .int .i64 b, .int .i64 c] w' fun e w2 => e = .returned (.bool (decide (b ≤ a ∧ a ≤ c))) ∧ w' = w2) := in_any
  have hr0 := Blk.new w 46 #[S [], .slice none 0 0]
  have hf0 : Fr No w (w.alloc (.cells #[S [], .slice none 0 0] 46)) := (Fr.refl _ _).alloc _
  go_enter Tryz.func20, Tryz.ntmps20
  go_wp2_with fail
  generalize hW0 : w.alloc (.cells #[S [], .slice none 0 0] 46) = W0 at hr0 hf0 ⊢
  have hz0 : w.heap.size < W0.heap.size := hr0.lt
  refine (type7_any W0 s hs).mono ?_
  rintro e w1 ⟨hf1, ⟨t, A, c, hi, ho, rfl, hsl⟩ | ⟨a0, A, mt, ct, hno, rfl⟩⟩
  · have HI := Lib.hid hi
    have HO := Lib.hid ho
    have HF01 := Lib.hid (hf0.trans hf1)
    have HSL := Lib.hid hsl
    have hfa : Fr No w1 (w1.alloc (.cells #[S t.atom, .slice A t.kids.len c] 46)) := (Fr.refl _ _).alloc _
    have HFA := Lib.hid hfa
    have HR1 := Lib.hid ((hr0.fr hf1 (fun h => h)).fr hfa (fun h => h))
    have hb0 := Blk.new w1 46 #[S t.atom, .slice A t.kids.len c]
    have HSS : Hid (∀ w', Fr No (w1.alloc (.cells #[S t.atom, .slice A t.kids.len c] 46)) w' → (w'.cell? ⟨w1.heap.size, 0, none⟩ = some (S t.atom) ∧ w'.cell? ⟨w1.heap.size, 1, none⟩ = some (.slice A t.kids.len c) ∧ w1.heap.size < w'.heap.size) ∧ w'.cell? ⟨w.heap.size, 0, none⟩ = some (S []) ∧ w'.cell? ⟨w.heap.size, 1, none⟩ = some (.slice none 0 0) ∧ w'.frozen? ⟨w.heap.size, 0, none⟩ = false ∧ w'.frozen? ⟨w.heap.size, 1, none⟩ = false ∧ w.heap.size < w'.heap.size) := fun w' hf => by
      have h1 := hb0.fr hf (fun h => h)
      have h2 := HR1.out.fr hf (fun h => h)
      exact ⟨⟨(h1.cell 0).trans rfl, (h1.cell 1).trans rfl, h1.lt⟩, (h2.cell 0).trans rfl, (h2.cell 1).trans rfl, h2.frozen 0, h2.frozen 1, h2.lt⟩
    have HSW : Hid (∀ w', Fr No (w1.alloc (.cells #[S t.atom, .slice A t.kids.len c] 46)) w' → Sl w' (fun b => b < w'.heap.size) A t.kids) := fun w' hf => ((HSL.out).fr (fun b hb => hb.2) (HFA.out.trans hf)).mono (fun b hb => Nat.lt_of_lt_of_le hb.2 (HFA.out.trans hf).size) (fun _ _ => rfl)
    have KS : Hid (∀ (V : World) (v0 v1 : Value), Fr No (w1.alloc (.cells #[S t.atom, .slice A t.kids.len c] 46)) V → ((V.setCell ⟨w.heap.size, 0, none⟩ v0).setCell ⟨w.heap.size, 1, none⟩ v1).cell? ⟨w1.heap.size, 0, none⟩ = some (S t.atom) ∧ ((V.setCell ⟨w.heap.size, 0, none⟩ v0).setCell ⟨w.heap.size, 1, none⟩ v1).cell? ⟨w1.heap.size, 1, none⟩ = some (.slice A t.kids.len c)) := by
      intro V v0 v1 hf
      have hfs : Fr (One w.heap.size) V ((V.setCell ⟨w.heap.size, 0, none⟩ v0).setCell ⟨w.heap.size, 1, none⟩ v1) := ((Fr.refl (One w.heap.size) V).setCell (p := ⟨w.heap.size, 0, none⟩) (.inl rfl) _).setCell (p := ⟨w.heap.size, 1, none⟩) (.inl rfl) _
      have h1 := (hb0.fr hf (fun h => h)).fr hfs (fun h => by have h : w1.heap.size = w.heap.size := h; have := hf1.size; omega)
      exact ⟨(h1.cell 0).trans rfl, (h1.cell 1).trans rfl⟩
    have hlt1 : w.heap.size < w1.heap.size := Nat.lt_of_lt_of_le hz0 hf1.size
    -- the result is stored
    have FIN : Hid (∀ (V : World) (b : Bool), Fr No (w1.alloc (.cells #[S t.atom, .slice A t.kids.len c] 46)) V → (b = true → ∃ (mN nN a bb xN yN : Nat), Mod s m n x y t mN nN a bb xN yN) → (b = false → ∀ (t : Ty) (mN nN a bb xN yN : Nat), ¬ Mod s m n x y t mN nN a bb xN yN) →
        ((V.setCell ⟨w.heap.size, 0, none⟩ (S t.atom)).setCell ⟨w.heap.size, 1, none⟩ (.slice A t.kids.len c)).cell? ⟨w.heap.size, 0, none⟩ = some (S t.atom) ∧ ((V.setCell ⟨w.heap.size, 0, none⟩ (S t.atom)).setCell ⟨w.heap.size, 1, none⟩ (.slice A t.kids.len c)).cell? ⟨w.heap.size, 1, none⟩ = some (.slice A t.kids.len c) ∧
        Hid (SzP s m n x y w (.returned (.tuple #[.agg #[S t.atom, .slice A t.kids.len c], .bool b])) ((V.setCell ⟨w.heap.size, 0, none⟩ (S t.atom)).setCell ⟨w.heap.size, 1, none⟩ (.slice A t.kids.len c)))) := by
      intro V b hf hyes hno
      have hb := (HR1.out.fr hf (fun h => h)).set_ 0 (S t.atom) |>.set_ 1 (.slice A t.kids.len c)
      have hfs : Fr (One w.heap.size) V ((V.setCell ⟨w.heap.size, 0, none⟩ (S t.atom)).setCell ⟨w.heap.size, 1, none⟩ (.slice A t.kids.len c)) := ((Fr.refl (One w.heap.size) V).setCell (p := ⟨w.heap.size, 0, none⟩) (.inl rfl) _).setCell (p := ⟨w.heap.size, 1, none⟩) (.inl rfl) _
      refine ⟨(hb.cell 0).trans rfl, (hb.cell 1).trans rfl, ?_⟩
      refine ⟨((HF01.out.trans HFA.out).trans hf).then_ hfs (fun i hi h => by have h : i = w.heap.size := h; omega), ?_⟩
      cases b with
      | true =>
        obtain ⟨mN, nN, a, bb, xN, yN, hm⟩ := hyes rfl
        refine .inl ⟨t, mN, nN, a, bb, xN, yN, A, c, hm, rfl, ?_⟩
        have h1 : Fr (One w.heap.size) w1 ((V.setCell ⟨w.heap.size, 0, none⟩ (S t.atom)).setCell ⟨w.heap.size, 1, none⟩ (.slice A t.kids.len c)) := ((HFA.out.trans hf).mono (fun _ _ h => h.elim)).trans hfs
        exact HSL.out.mono (fun b hb => Nat.lt_of_lt_of_le hb.2 h1.size) (fun b hb => h1.block b hb.2 (fun h => by have h : b = w.heap.size := h; have := hb.1; omega))
      | false => exact .inr ⟨t.atom, A, _, c, hno rfl, rfl⟩
    clear hi ho hsl hfa hb0 hf0 hr0 hf1 hW0
    have HW : ∃ W, W = w1.alloc (.cells #[S t.atom, .slice A t.kids.len c] 46) := ⟨_, rfl⟩
    obtain ⟨W, hW⟩ := HW
    rw [← hW] at HFA HR1 HSS HSW FIN KS
    have HWW := Lib.hid hW
    clear hW
    obtain ⟨⟨x0, x1, x2⟩, y0, y1, y2, y3, y4⟩ := HSS.out _ (Fr.refl _ _)
    go_wp2_with fail
    rw [← HWW.out]
    clear HWW
    by_cases h1 : 1 ≤ m ∧ m ≤ 3
    · by_cases h2 : 1 ≤ n ∧ n ≤ 3
      · have d1 : Hid (decide (1 ≤ m ∧ m ≤ 3) = true) := decide_eq_true h1
        have d2 : Hid (decide (1 ≤ n ∧ n ≤ 3) = true) := decide_eq_true h2
        obtain ⟨mN, rfl⟩ : ∃ mN : Nat, m = mN := ⟨m.toNat, by omega⟩
        obtain ⟨nN, rfl⟩ : ∃ nN : Nat, n = nN := ⟨n.toNat, by omega⟩
        have H3 : Hid (In3 mN nN) := ⟨h1.1, h1.2, h2.1, h2.2⟩
        obtain ⟨m1, m3, n1, n3⟩ : 1 ≤ mN ∧ mN ≤ 3 ∧ 1 ≤ nN ∧ nN ≤ 3 := by omega
        have hca : -1 ≤ cntI (sz1 mN) t ∧ cntI (sz1 mN) t ≤ 4096 := by
          rcases hc : t.cnt (sz1 mN) with _ | d
          · rw [cntI_none hc]; omega
          · have := t.cnt_bounds (sz1_sizes m1 m3) d hc
            rw [cntI_some hc]; omega
        have hcb : -1 ≤ cntI (sz1 nN) t ∧ cntI (sz1 nN) t ≤ 4096 := by
          rcases hc : t.cnt (sz1 nN) with _ | d
          · rw [cntI_none hc]; omega
          · have := t.cnt_bounds (sz1_sizes n1 n3) d hc
            rw [cntI_some hc]; omega
        obtain ⟨ca, eca⟩ : ∃ z, z = cntI (sz1 mN) t := ⟨_, rfl⟩
        obtain ⟨cb, ecb⟩ : ∃ z, z = cntI (sz1 nN) t := ⟨_, rfl⟩
        have C1 : Hid (∀ V, Fr No W V → Calls Tryz.prog 40 #[.agg #[S t.atom, .slice A t.kids.len c], .int .i64 mN] V fun e w2 => e = .returned (.int .i64 ca) ∧ Hid (Fr No W w2)) := fun V hf => (c8_any V t HI.out.2.1 A c mN m1 m3 (HSW.out V hf)).mono (fun e w2 h => ⟨by rw [eca]; exact h.1, hf.trans h.2⟩)
        have C2 : Hid (∀ V, Fr No W V → Calls Tryz.prog 40 #[.agg #[S t.atom, .slice A t.kids.len c], .int .i64 nN] V fun e w2 => e = .returned (.int .i64 cb) ∧ Hid (Fr No W w2)) := fun V hf => (c8_any V t HI.out.2.1 A c nN n1 n3 (HSW.out V hf)).mono (fun e w2 h => ⟨by rw [ecb]; exact h.1, hf.trans h.2⟩)
        rw [← eca] at hca
        rw [← ecb] at hcb
        obtain ⟨hca1, hca2⟩ := hca
        obtain ⟨hcb1, hcb2⟩ := hcb
        have hwa : IntKind.i64.wrap (ca - 1) = ca - 1 := by rw [IntKind.wrap_i64]; omega
        have hwb : IntKind.i64.wrap (cb - 1) = cb - 1 := by rw [IntKind.wrap_i64]; omega
        have ECA : Hid (∀ a, t.cnt (sz1 mN) = some a → ca = a) := fun a h => by rw [eca, cntI_some h]
        have ECB : Hid (∀ a, t.cnt (sz1 nN) = some a → cb = a) := fun a h => by rw [ecb, cntI_some h]
        have ECA0 : Hid (t.cnt (sz1 mN) = none → ca = -1) := fun h => by rw [eca, cntI_none h]
        have ECB0 : Hid (t.cnt (sz1 nN) = none → cb = -1) := fun h => by rw [ecb, cntI_none h]
        have hd0 : Fr No W W.drew := (Fr.refl No W).drew
        clear eca ecb h1 h2
        refine (IN.out _ _ _ _).mono ?_
        rintro e w2 ⟨rfl, rfl⟩
        rw [d1.out]
        go_wp2_with fail
        refine (IN.out _ _ _ _).mono ?_
        rintro e w2 ⟨rfl, rfl⟩
        rw [d2.out]
        by_cases hx : 0 ≤ x ∧ x ≤ ca - 1
        · have d3 : Hid (decide (0 ≤ x ∧ x ≤ ca - 1) = true) := decide_eq_true hx
          by_cases hy : 0 ≤ y ∧ y ≤ cb - 1
          · have d4 : Hid (decide (0 ≤ y ∧ y ≤ cb - 1) = true) := decide_eq_true hy
            have YES : Hid (∃ (mN' nN' a bb xN yN : Nat), Mod s mN nN x y t mN' nN' a bb xN yN) := by
              obtain ⟨a, ha⟩ : ∃ a, t.cnt (sz1 mN) = some a := by
                rcases hc : t.cnt (sz1 mN) with _ | d
                · have := ECA0.out hc; omega
                · exact ⟨d, rfl⟩
              obtain ⟨b, hb⟩ : ∃ a, t.cnt (sz1 nN) = some a := by
                rcases hc : t.cnt (sz1 nN) with _ | d
                · have := ECB0.out hc; omega
                · exact ⟨d, rfl⟩
              have ea := ECA.out a ha
              have eb := ECB.out b hb
              exact ⟨mN, nN, a, b, x.toNat, y.toNat, HI.out, HO.out, rfl, rfl, H3.out, ha, hb, by omega, by omega, by omega, by omega⟩
            have INX : Hid (∀ V, Calls Tryz.prog 39 #[.int .i64 x, .int .i64 0, .int .i64 (ca - 1)] V fun e w2 => e = .returned (.bool true) ∧ V = w2) := fun V => by have h := IN.out V x 0 (ca - 1); rwa [d3.out] at h
            have INY : Hid (∀ V, Calls Tryz.prog 39 #[.int .i64 y, .int .i64 0, .int .i64 (cb - 1)] V fun e w2 => e = .returned (.bool true) ∧ V = w2) := fun V => by have h := IN.out V y 0 (cb - 1); rwa [d4.out] at h
            go_wp2_with fail
            go_region_held3 (fun w' => w'.cell? ⟨w1.heap.size, 0, none⟩ = some (S t.atom) ∧ w'.cell? ⟨w1.heap.size, 1, none⟩ = some (.slice A t.kids.len c)) (first | go_keep | exact KS.out _ _ _ H3'.out)
              (first
                | (go_at_call 40; ((with_reducible refine (C1.out W.drew hd0).mono ?_); rintro e w2 ⟨rfl, H2⟩; obtain ⟨⟨a0, a1, a2⟩, a3, a4, a5, a6, a7⟩ := HSS.out w2 H2.out))
                | (go_at_call 40; ((with_reducible refine (C2.out w2 H2.out).mono ?_); rintro e w3 ⟨rfl, H3'⟩; obtain ⟨⟨b0, b1, b2⟩, b3, b4, b5, b6, b7⟩ := HSS.out w3 H3'.out))
                | (go_at_call 39; ((with_reducible refine (INX.out _).mono ?_); rintro e w9 ⟨rfl, rfl⟩))
                | (go_at_call 39; ((with_reducible refine (INY.out _).mono ?_); rintro e w9 ⟨rfl, rfl⟩)))
            obtain ⟨q0, q1, HE⟩ := FIN.out w3 true H3'.out (fun _ => YES.out) (fun h => by cases h)
            clear FIN KS HSS HSW
            go_wp2_with fail
            refine bodyPost_ret (v := .tuple #[.agg #[S t.atom, .slice A t.kids.len c], .bool true]) (by simp [results, Tryz.results20, go_sem, q0, q1]) rfl ?_
            exact HE.out
          · have d4 : Hid (decide (0 ≤ y ∧ y ≤ cb - 1) = false) := decide_eq_false hy
            have NO : Hid (∀ (t : Ty) (mN' nN' a bb xN yN : Nat), ¬ Mod s mN nN x y t mN' nN' a bb xN yN) := fun t' mN' nN' a bb xN yN h => by
              have e := h.is.unique HI.out
              have e1 := h.em
              have e2 := h.en
              have e3 := h.ex
              have e4 := h.ey
              have e5 : mN' = mN := by omega
              have e6 : nN' = nN := by omega
              subst e e5 e6
              have := ECA.out a h.ca
              have := ECB.out bb h.cb
              have := h.lx
              have := h.ly
              omega
            have INX : Hid (∀ V, Calls Tryz.prog 39 #[.int .i64 x, .int .i64 0, .int .i64 (ca - 1)] V fun e w2 => e = .returned (.bool true) ∧ V = w2) := fun V => by have h := IN.out V x 0 (ca - 1); rwa [d3.out] at h
            have INY : Hid (∀ V, Calls Tryz.prog 39 #[.int .i64 y, .int .i64 0, .int .i64 (cb - 1)] V fun e w2 => e = .returned (.bool false) ∧ V = w2) := fun V => by have h := IN.out V y 0 (cb - 1); rwa [d4.out] at h
            go_wp2_with fail
            go_region_held3 (fun w' => w'.cell? ⟨w1.heap.size, 0, none⟩ = some (S t.atom) ∧ w'.cell? ⟨w1.heap.size, 1, none⟩ = some (.slice A t.kids.len c)) (first | go_keep | exact KS.out _ _ _ H3'.out)
              (first
                | (go_at_call 40; ((with_reducible refine (C1.out W.drew hd0).mono ?_); rintro e w2 ⟨rfl, H2⟩; obtain ⟨⟨a0, a1, a2⟩, a3, a4, a5, a6, a7⟩ := HSS.out w2 H2.out))
                | (go_at_call 40; ((with_reducible refine (C2.out w2 H2.out).mono ?_); rintro e w3 ⟨rfl, H3'⟩; obtain ⟨⟨b0, b1, b2⟩, b3, b4, b5, b6, b7⟩ := HSS.out w3 H3'.out))
                | (go_at_call 39; ((with_reducible refine (INX.out _).mono ?_); rintro e w9 ⟨rfl, rfl⟩))
                | (go_at_call 39; ((with_reducible refine (INY.out _).mono ?_); rintro e w9 ⟨rfl, rfl⟩)))
            obtain ⟨q0, q1, HE⟩ := FIN.out w3 false H3'.out (fun h => by cases h) (fun _ => NO.out)
            clear FIN KS HSS HSW
            go_wp2_with fail
            refine bodyPost_ret (v := .tuple #[.agg #[S t.atom, .slice A t.kids.len c], .bool false]) (by simp [results, Tryz.results20, go_sem, q0, q1]) rfl ?_
            exact HE.out
        · have d3 : Hid (decide (0 ≤ x ∧ x ≤ ca - 1) = false) := decide_eq_false hx
          have NO : Hid (∀ (t : Ty) (mN' nN' a bb xN yN : Nat), ¬ Mod s mN nN x y t mN' nN' a bb xN yN) := fun t' mN' nN' a bb xN yN h => by
            have e := h.is.unique HI.out
            have e1 := h.em
            have e2 := h.en
            have e3 := h.ex
            have e4 := h.ey
            have e5 : mN' = mN := by omega
            have e6 : nN' = nN := by omega
            subst e e5 e6
            have := ECA.out a h.ca
            have := ECB.out bb h.cb
            have := h.lx
            have := h.ly
            omega
          have INX : Hid (∀ V, Calls Tryz.prog 39 #[.int .i64 x, .int .i64 0, .int .i64 (ca - 1)] V fun e w2 => e = .returned (.bool false) ∧ V = w2) := fun V => by have h := IN.out V x 0 (ca - 1); rwa [d3.out] at h
          go_wp2_with fail
          refine wp_region_held_drew (S := (fun w' => w'.cell? ⟨w1.heap.size, 0, none⟩ = some (S t.atom) ∧ w'.cell? ⟨w1.heap.size, 1, none⟩ = some (.slice A t.kids.len c))) (by kernel_rfl) ?hSQ (fun hHeldQ => ?_)
          case hSQ => (first | exact ⟨x0, x1⟩ | (dsimp only; exact ⟨x0, x1⟩))
          refine wpAnyH_take (i := 0) (v := ?vQ0) (by simp only [List.getElem?_toArray, List.getElem?_cons_zero]; rfl) (by kernel_rfl) (by kernel_rfl) (by kernel_rfl) (by exact fun _ _ _ h => h) (Or.inl ⟨by rfl, ?hyQ0⟩) (by assumption) ?restQ0
          case hyQ0 => (intro w hSw; (try dsimp only at hSw); go_simp; try with_reducible rfl)
          try simp only [Act.put, List.setIfInBounds_toArray, List.set_cons_zero, List.set_cons_succ]
          refine wpAnyH_take (i := 1) (v := ?vQ1) (by simp only [List.getElem?_toArray, List.getElem?_cons_succ, List.getElem?_cons_zero]; rfl) (by kernel_rfl) (by kernel_rfl) (by kernel_rfl) (by exact fun _ _ _ h => h) (Or.inl ⟨by rfl, ?hyQ1⟩) (by assumption) ?restQ1
          case hyQ1 => (intro w hSw; (try dsimp only at hSw); go_simp; try with_reducible rfl)
          try simp only [Act.put, List.setIfInBounds_toArray, List.set_cons_zero, List.set_cons_succ]
          refine wpAnyH_take (i := 2) (v := ?vQ2) (by simp only [List.getElem?_toArray, List.getElem?_cons_succ, List.getElem?_cons_zero]; rfl) (by kernel_rfl) (by kernel_rfl) (by kernel_rfl) (by exact fun _ _ _ h => h) (Or.inl ⟨by rfl, ?hyQ2⟩) (by assumption) ?restQ2
          case hyQ2 => (intro w hSw; (try dsimp only at hSw); go_simp; try with_reducible rfl)
          try simp only [Act.put, List.setIfInBounds_toArray, List.set_cons_zero, List.set_cons_succ]
          refine wpAnyH_take (i := 3) (v := ?vQ3) (by simp only [List.getElem?_toArray, List.getElem?_cons_succ, List.getElem?_cons_zero]; rfl) (by kernel_rfl) (by kernel_rfl) (by kernel_rfl) (by exact fun _ _ _ h => h) (Or.inl ⟨by rfl, ?hyQ3⟩) (by assumption) ?restQ3
          case hyQ3 => (intro w hSw; (try dsimp only at hSw); go_simp; try with_reducible rfl)
          try simp only [Act.put, List.setIfInBounds_toArray, List.set_cons_zero, List.set_cons_succ]
          refine wpAnyH_ready (rs := [4]) (by kernel_rfl) (by simp) ?_
          refine AllReadyH.cons rfl (fun K hK => ?_) AllReadyH.nil
          go_simp
          (with_reducible refine (C1.out W.drew hd0).mono ?_); rintro e w2 ⟨rfl, H2⟩; obtain ⟨⟨a0, a1, a2⟩, a3, a4, a5, a6, a7⟩ := HSS.out w2 H2.out
          refine hK.out _ _ ?hSQ_1 (fun hHeldQ_1 => ?_)
          case hSQ_1 => exact ⟨a0, a1⟩
          clear hK K hHeldQ
          try simp only [Act.put, List.setIfInBounds_toArray, List.set_cons_zero, List.set_cons_succ]
          refine wpAnyH_take (i := 5) (v := ?vQ5) (by simp only [List.getElem?_toArray, List.getElem?_cons_succ, List.getElem?_cons_zero]; rfl) (by kernel_rfl) (by kernel_rfl) (by kernel_rfl) (by exact fun _ _ _ h => h) (Or.inl ⟨by rfl, ?hyQ5⟩) (by assumption) ?restQ5
          case hyQ5 => (intro w hSw; (try dsimp only at hSw); go_simp; try with_reducible rfl)
          try simp only [Act.put, List.setIfInBounds_toArray, List.set_cons_zero, List.set_cons_succ]
          refine wpAnyH_ready (rs := [6]) (by kernel_rfl) (by simp) ?_
          refine AllReadyH.cons rfl (fun K hK => ?_) AllReadyH.nil
          go_simp
          (with_reducible refine (INX.out _).mono ?_); rintro e w9 ⟨rfl, rfl⟩
          refine hK.out _ _ ?hSQ_2 (fun hHeldQ_2 => ?_)
          case hSQ_2 => exact ⟨a0, a1⟩
          clear hK K hHeldQ_1
          try simp only [Act.put, List.setIfInBounds_toArray, List.set_cons_zero, List.set_cons_succ]
          refine wpAnyH_take (i := 7) (v := ?vQ7) (by simp only [List.getElem?_toArray, List.getElem?_cons_succ, List.getElem?_cons_zero]; rfl) (by kernel_rfl) (by kernel_rfl) (by kernel_rfl) (by exact fun _ _ _ h => h) (Or.inl ⟨by rfl, ?hyQ7⟩) (by assumption) ?restQ7
          case hyQ7 => (intro w hSw; (try dsimp only at hSw); go_simp; try with_reducible rfl)
          try simp only [Act.put, List.setIfInBounds_toArray, List.set_cons_zero, List.set_cons_succ]
          refine wpAnyH_take (i := 8) (v := undef) (by simp only [List.getElem?_toArray, List.getElem?_cons_succ, List.getElem?_cons_zero]; rfl) (by kernel_rfl) (by kernel_rfl) (by kernel_rfl) (by exact fun _ _ _ h => h) (Or.inr ⟨by rfl, rfl⟩) (by assumption) ?_
          try simp only [Act.put, List.setIfInBounds_toArray, List.set_cons_zero, List.set_cons_succ]
          refine wpAnyH_take (i := 9) (v := undef) (by simp only [List.getElem?_toArray, List.getElem?_cons_succ, List.getElem?_cons_zero]; rfl) (by kernel_rfl) (by kernel_rfl) (by kernel_rfl) (by exact fun _ _ _ h => h) (Or.inr ⟨by rfl, rfl⟩) (by assumption) ?_
          try simp only [Act.put, List.setIfInBounds_toArray, List.set_cons_zero, List.set_cons_succ]
          refine wpAnyH_take (i := 10) (v := undef) (by simp only [List.getElem?_toArray, List.getElem?_cons_succ, List.getElem?_cons_zero]; rfl) (by kernel_rfl) (by kernel_rfl) (by kernel_rfl) (by exact fun _ _ _ h => h) (Or.inr ⟨by rfl, rfl⟩) (by assumption) ?_
          try simp only [Act.put, List.setIfInBounds_toArray, List.set_cons_zero, List.set_cons_succ]
          refine wpAnyH_take (i := 11) (v := undef) (by simp only [List.getElem?_toArray, List.getElem?_cons_succ, List.getElem?_cons_zero]; rfl) (by kernel_rfl) (by kernel_rfl) (by kernel_rfl) (by exact fun _ _ _ h => h) (Or.inr ⟨by rfl, rfl⟩) (by assumption) ?_
          try simp only [Act.put, List.setIfInBounds_toArray, List.set_cons_zero, List.set_cons_succ]
          refine wpAnyH_take (i := 12) (v := undef) (by simp only [List.getElem?_toArray, List.getElem?_cons_succ, List.getElem?_cons_zero]; rfl) (by kernel_rfl) (by kernel_rfl) (by kernel_rfl) (by exact fun _ _ _ h => h) (Or.inr ⟨by rfl, rfl⟩) (by assumption) ?_
          try simp only [Act.put, List.setIfInBounds_toArray, List.set_cons_zero, List.set_cons_succ]
          refine wpAnyH_take (i := 13) (v := undef) (by simp only [List.getElem?_toArray, List.getElem?_cons_succ, List.getElem?_cons_zero]; rfl) (by kernel_rfl) (by kernel_rfl) (by kernel_rfl) (by exact fun _ _ _ h => h) (Or.inr ⟨by rfl, rfl⟩) (by assumption) ?_
          try simp only [Act.put, List.setIfInBounds_toArray, List.set_cons_zero, List.set_cons_succ]
          refine wpAnyH_take (i := 14) (v := ?vQ14) (by simp only [List.getElem?_toArray, List.getElem?_cons_succ, List.getElem?_cons_zero]; rfl) (by kernel_rfl) (by kernel_rfl) (by kernel_rfl) (by exact fun _ _ _ h => h) (Or.inl ⟨by rfl, ?hyQ14⟩) (by assumption) ?restQ14
          case hyQ14 => (intro w hSw; (try dsimp only at hSw); go_simp; try with_reducible rfl)
          try simp only [Act.put, List.setIfInBounds_toArray, List.set_cons_zero, List.set_cons_succ]
          refine wpAnyH_ready (rs := [15]) (by kernel_rfl) (by simp) ?_
          refine AllReadyH.cons rfl (fun K hK => ?_) AllReadyH.nil
          go_simp
          refine hK.out _ _ ?hSZQ (fun hHeldZQ => ?_)
          case hSZQ => exact KS.out _ _ _ H2.out
          clear hK K
          try simp only [Act.put, List.setIfInBounds_toArray, List.set_cons_zero, List.set_cons_succ]
          refine wpAnyH_take (i := 16) (v := ?vQ16) (by simp only [List.getElem?_toArray, List.getElem?_cons_succ, List.getElem?_cons_zero]; rfl) (by kernel_rfl) (by kernel_rfl) (by kernel_rfl) (by exact fun _ _ _ h => h) (Or.inl ⟨by rfl, ?hyQ16⟩) (by assumption) ?restQ16
          case hyQ16 => (intro w hSw; (try dsimp only at hSw); go_simp; try with_reducible rfl)
          try simp only [Act.put, List.setIfInBounds_toArray, List.set_cons_zero, List.set_cons_succ]
          refine wpAnyH_done (by kernel_rfl) ?_ _
          obtain ⟨q0, q1, HE⟩ := FIN.out w2 false H2.out (fun h => by cases h) (fun _ => NO.out)
          clear FIN KS HSS HSW
          go_wp2_with fail
          refine bodyPost_ret (v := .tuple #[.agg #[S t.atom, .slice A t.kids.len c], .bool false]) (by simp [results, Tryz.results20, go_sem, q0, q1]) rfl ?_
          exact HE.out
      · have d1 : Hid (decide (1 ≤ m ∧ m ≤ 3) = true) := decide_eq_true h1
        have d2 : Hid (decide (1 ≤ n ∧ n ≤ 3) = false) := decide_eq_false h2
        have NO : Hid (∀ (t : Ty) (mN' nN' a bb xN yN : Nat), ¬ Mod s m n x y t mN' nN' a bb xN yN) := fun t' mN' nN' a bb xN yN h => h2 ⟨h.in3.2.2.1, h.in3.2.2.2⟩
        obtain ⟨q0, q1, HE⟩ := FIN.out W false (Fr.refl _ _) (fun h => by cases h) (fun _ => NO.out)
        clear FIN KS HSS HSW h1 h2
        refine (IN.out _ _ _ _).mono ?_
        rintro e w2 ⟨rfl, rfl⟩
        rw [d1.out]
        go_wp2_with fail
        refine (IN.out _ _ _ _).mono ?_
        rintro e w2 ⟨rfl, rfl⟩
        rw [d2.out]
        go_wp2_with fail
        refine bodyPost_ret (v := .tuple #[.agg #[S t.atom, .slice A t.kids.len c], .bool false]) (by simp [results, Tryz.results20, go_sem, q0, q1]) rfl ?_
        exact HE.out
    · have d1 : Hid (decide (1 ≤ m ∧ m ≤ 3) = false) := decide_eq_false h1
      have NO : Hid (∀ (t : Ty) (mN' nN' a bb xN yN : Nat), ¬ Mod s m n x y t mN' nN' a bb xN yN) := fun t' mN' nN' a bb xN yN h => h1 ⟨h.in3.1, h.in3.2.1⟩
      obtain ⟨q0, q1, HE⟩ := FIN.out W false (Fr.refl _ _) (fun h => by cases h) (fun _ => NO.out)
      clear FIN KS HSS HSW h1
      refine (IN.out _ _ _ _).mono ?_
      rintro e w2 ⟨rfl, rfl⟩
      rw [d1.out]
      go_wp2_with fail
      refine bodyPost_ret (v := .tuple #[.agg #[S t.atom, .slice A t.kids.len c], .bool false]) (by simp [results, Tryz.results20, go_sem, q0, q1]) rfl ?_
      exact HE.out
  · have hfa : Fr No w1 (w1.alloc (.cells #[S a0, .slice A mt ct] 46)) := (Fr.refl _ _).alloc _
    have hb1 := (hr0.fr hf1 (fun h => h)).fr hfa (fun h => h)
    have y0 : (w1.alloc (.cells #[S a0, .slice A mt ct] 46)).cell? ⟨w.heap.size, 0, none⟩ = some (S []) := (hb1.cell 0).trans rfl
    have y1 : (w1.alloc (.cells #[S a0, .slice A mt ct] 46)).cell? ⟨w.heap.size, 1, none⟩ = some (.slice none 0 0) := (hb1.cell 1).trans rfl
    have HE : Hid (SzP s m n x y w (.returned (.tuple #[.agg #[S a0, .slice A mt ct], .bool false])) (((w1.alloc (.cells #[S a0, .slice A mt ct] 46)).setCell ⟨w.heap.size, 0, none⟩ (S a0)).setCell ⟨w.heap.size, 1, none⟩ (.slice A mt ct))) := by
      have hfs : Fr (One w.heap.size) (w1.alloc (.cells #[S a0, .slice A mt ct] 46)) (((w1.alloc (.cells #[S a0, .slice A mt ct] 46)).setCell ⟨w.heap.size, 0, none⟩ (S a0)).setCell ⟨w.heap.size, 1, none⟩ (.slice A mt ct)) := ((Fr.refl (One w.heap.size) _).setCell (p := ⟨w.heap.size, 0, none⟩) (.inl rfl) _).setCell (p := ⟨w.heap.size, 1, none⟩) (.inl rfl) _
      exact ⟨(hf0.trans (hf1.trans hfa)).then_ hfs (fun i hi h => by have h : i = w.heap.size := h; omega), .inr ⟨a0, A, mt, ct, fun t mN nN a b xN yN h => hno t h.is h.only, rfl⟩⟩
    have hbs := (hb1.set_ 0 (S a0)).set_ 1 (.slice A mt ct)
    have q0 : (((w1.alloc (.cells #[S a0, .slice A mt ct] 46)).setCell ⟨w.heap.size, 0, none⟩ (S a0)).setCell ⟨w.heap.size, 1, none⟩ (.slice A mt ct)).cell? ⟨w.heap.size, 0, none⟩ = some (S a0) := (hbs.cell 0).trans rfl
    have q1 : (((w1.alloc (.cells #[S a0, .slice A mt ct] 46)).setCell ⟨w.heap.size, 0, none⟩ (S a0)).setCell ⟨w.heap.size, 1, none⟩ (.slice A mt ct)).cell? ⟨w.heap.size, 1, none⟩ = some (.slice A mt ct) := (hbs.cell 1).trans rfl
    have f0 := hb1.frozen 0
    have f1 := hb1.frozen 1
    have l1 := hb1.lt
    clear hbs hno hf1 hf0 hr0 hW0 hfa hb1
    go_wp2_with fail
    refine bodyPost_ret (v := .tuple #[.agg #[S a0, .slice A mt ct], .bool false]) (by simp [results, Tryz.results20, go_sem, q0, q1]) rfl ?_
    exact HE.out
end Go.Proofs.YtloecimlimoanaaGreatDoor

/- Modules of the model: one relation, the least one, the greatest one. -/
namespace Go.Proofs.YtloecimlimoanaaGreatDoor
open Go.RowKit Go.ChangeMaps Go.Shelf

def RlP (b : Bool) (w : World) (e : Ending) (w' : World) : Prop := e = .returned (.bool b) ∧ Fr No w w'

set_option maxRecDepth 100000 in
set_option maxHeartbeats 4000000 in
/-- whether the relation with a number relates both -/
theorem relates_any (w : World) (t : Ty) (A : Option Addr) (c m n x y a b k : Nat) (hlets : t.lets) (hm1 : 1 ≤ m) (hm3 : m ≤ 3) (hn1 : 1 ≤ n) (hn3 : n ≤ 3) (hA : Sl w (fun b => b < w.heap.size) A t.kids) (ha : t.cnt (sz1 m) = some a) (hb : t.cnt (sz1 n) = some b) (hx : x < a) (hy : y < b) (hk : k < 2 ^ (m * n)) :
    Calls Tryz.prog 21 #[.agg #[S t.atom, .slice A t.kids.len c], .int .i64 m, .int .i64 n, .int .i64 x, .int .i64 y, .int .i64 k] w fun e w' => RlP (rbit t m n x y k) w e w' := by
  have hmn : m * n ≤ 3 * 3 := Nat.mul_le_mul hm3 hn3
  have h512 : 2 ^ (m * n) ≤ 2 ^ 9 := Nat.pow_le_pow_right (by omega) hmn
  have REL : Hid (∀ (w' : World) (Q : Nat) (N R L Z : Option Addr) (nc rc lc zc : Nat), Fr No w w' → SpAt (spD m n k N R L Z nc rc lc zc) w' Q → Calls Tryz.prog 41 #[Ptr Q, .agg #[S t.atom, .slice A t.kids.len c], .int .i64 x, .int .i64 y] w' fun e w2 => e = .returned (.bool (rbit t m n x y k)) ∧ Fr No w' w2) := by
    intro w' Q N R L Z nc rc lc zc hf hsp
    exact re_any _ _ (spD_rho m n k N R L Z nc rc lc zc) t hlets w' Q A c x y a b hsp ((hA.fr (fun b hb => hb) hf).mono (fun b hb => Nat.lt_of_lt_of_le hb hf.size) (fun _ _ => rfl)) ha hb hx hy
  have NUM : Hid (∀ (w' : World), Calls Tryz.prog 22 #[.int .i64 m, .int .i64 n, .int .i64 k] w' fun e w2 => ∃ A q c, e = .returned (RV m n A q c) ∧ q = (numP m n k).length ∧ Fr No w' w2 ∧ ISl w2 A (numP m n k)) := by
    intro w'
    have e1 : (m : Int) * (n : Int) = ((m * n : Nat) : Int) := by simp
    refine (number_any w' m n k (by omega) (by omega) (by rw [e1]; omega) (by omega)).mono ?_
    rintro e w2 ⟨A', q, c', h1, h2, h3⟩
    have e2 : ((m : Int) * (n : Int)).toNat = m * n := by rw [e1]; rfl
    rw [e2] at h3
    exact ⟨A', q, c', h1, h3.1, h2, h3.isl⟩
  have b0 := Blk.new w 46 #[S t.atom, .slice A t.kids.len c]
  have hf0 : Fr No w (w.alloc (.cells #[S t.atom, .slice A t.kids.len c] 46)) := (Fr.refl _ _).alloc _
  have HB : Hid (∀ w', Fr No (w.alloc (.cells #[S t.atom, .slice A t.kids.len c] 46)) w' → w'.cell? ⟨w.heap.size, 0, none⟩ = some (S t.atom) ∧ w'.cell? ⟨w.heap.size, 1, none⟩ = some (.slice A t.kids.len c) ∧ w.heap.size < w'.heap.size) := fun w' hf => ⟨((b0.fr hf (fun h => h)).cell 0).trans rfl, ((b0.fr hf (fun h => h)).cell 1).trans rfl, (b0.fr hf (fun h => h)).lt⟩
  have HM1 := Lib.hid (And.intro (And.intro hm1 hm3) (And.intro hn1 hn3))
  clear hmn h512 b0 hA ha hb hx hy hlets hm1 hm3 hn1 hn3 hk
  obtain ⟨wr, hW1⟩ : ∃ W1, W1 = w.alloc (.cells #[S t.atom, .slice A t.kids.len c] 46) := ⟨_, rfl⟩
  rw [← hW1] at HB hf0
  have HF0 := Lib.hid hf0
  have HW1 := Lib.hid hW1
  clear hW1 hf0
  obtain ⟨x0, x1, x2⟩ := HB.out wr (Fr.refl _ _)
  have HFA : Hid (Fr No wr (wr.alloc (.cells #[S [97]] 9))) := (Fr.refl _ _).alloc _
  go_enter Tryz.func21, Tryz.ntmps21
  go_wp2_with fail
  rw [← HW1.out]
  refine (NUM.out _).mono ?_
  rintro e w2 ⟨A', q, c', rfl, rfl, hf2, hi2⟩
  have hz : wr.heap.size = w.heap.size + 1 := by rw [HW1.out]; simp
  have HF2 := Lib.hid hf2
  have HI2 := Lib.hid hi2
  clear hf2 hi2 x0 x1 x2
  obtain ⟨W6, hW6⟩ : ∃ z, z = ((((w2.alloc (.cells #[.int .i64 (m : Int), .int .i64 (n : Int), .slice A' (numP m n k).length c'] 27)).alloc (.cells #[.int .i64 (m : Int)] 3)).alloc (.cells #[.int .i64 (n : Int)] 3)).alloc (.cells #[.slice (some ⟨w.heap.size + 1, 0, none⟩) 1 1, .slice (some ⟨w2.heap.size, 0, none⟩) 1 1, .slice (some ⟨w2.heap.size + 1, 0, none⟩) 1 1, .slice (some ⟨w2.heap.size + 1 + 1, 0, none⟩) 1 1] 87)) := ⟨_, rfl⟩
  have hf6 : Fr No w2 W6 := by rw [hW6]; exact ((((Fr.refl No w2).alloc _).alloc _).alloc _).alloc _
  have k0 : Blk W6 w2.heap.size 27 #[.int .i64 (m : Int), .int .i64 (n : Int), .slice A' (numP m n k).length c'] := by rw [hW6]; exact (((Blk.new w2 _ _).alloc _).alloc _).alloc _
  have k1 : Blk W6 (w2.heap.size + 1) 3 #[.int .i64 (m : Int)] := by rw [hW6]; exact ((Blk.new_at _ _ _ (by simp)).alloc _).alloc _
  have k2 : Blk W6 (w2.heap.size + 1 + 1) 3 #[.int .i64 (n : Int)] := by rw [hW6]; exact (Blk.new_at _ _ _ (by simp)).alloc _
  have k3 : Blk W6 (w2.heap.size + 1 + 1 + 1) 87 #[.slice (some ⟨w.heap.size + 1, 0, none⟩) 1 1, .slice (some ⟨w2.heap.size, 0, none⟩) 1 1, .slice (some ⟨w2.heap.size + 1, 0, none⟩) 1 1, .slice (some ⟨w2.heap.size + 1 + 1, 0, none⟩) 1 1] := by rw [hW6]; exact Blk.new_at _ _ _ (by simp)
  have k4 : Blk W6 (w.heap.size + 1) 9 #[S [97]] := by rw [← hz]; exact (Blk.new wr _ _).fr (HF2.out.trans hf6) (fun h => h)
  have SP := spD_at (k := k) HM1.out.1.1 HM1.out.1.2 HM1.out.2.1 HM1.out.2.2 k3 ((k4.cell 0).trans rfl) ((k0.cell 0).trans rfl) ((k0.cell 1).trans rfl) ((k0.cell 2).trans rfl) ((k1.cell 0).trans rfl) ((k2.cell 0).trans rfl) (HI2.out.keep hf6 (fun _ h => h.elim))
  have HF6 := Lib.hid ((HFA.out.trans HF2.out).trans hf6)
  have RE := Lib.hid (REL.out W6 _ _ _ _ _ _ _ _ _ (HF0.out.trans HF6.out) SP)
  obtain ⟨z0, z1, z2⟩ := HB.out W6 HF6.out
  have HW6 : Hid (Fr No w W6) := HF0.out.trans HF6.out
  clear hf6 k0 k1 k2 k3 k4 SP NUM REL HB hz
  subst hW6
  go_wp2_with fail
  refine RE.out.mono ?_
  rintro e w3 ⟨rfl, hf3⟩
  have HF3 := Lib.hid (HW6.out.trans hf3)
  clear hf3 z0 z1 z2
  go_wp2_with fail
  go_ret
  exact ⟨rfl, HF3.out⟩

/-- the least relation that relates both -/
def mrO (t : Ty) (m n x y : Nat) : Option (Int × Int × List Int) := ((List.range (2 ^ (m * n))).find? (rbit t m n x y)).map fun k => ((m : Int), (n : Int), numP m n k)

/-- what is asked of a function of two modules: g tells it of them -/
def ModR {α : Type} (g : Ty → Nat → Nat → Nat → Nat → α) (d : α) (s : List UInt8) (m n x y : Int) (o : α) : Prop :=
  (∃ (t : Ty) (mN nN a b xN yN : Nat), Mod s m n x y t mN nN a b xN yN ∧ o = g t mN nN xN yN) ∨ ((∀ (t : Ty) (mN nN a b xN yN : Nat), ¬ Mod s m n x y t mN nN a b xN yN) ∧ o = d)

theorem ModR.ex {α : Type} (g : Ty → Nat → Nat → Nat → Nat → α) (d : α) (s : List UInt8) (m n x y : Int) : ∃ o, ModR g d s m n x y o := by
  by_cases h : ∃ (t : Ty) (mN nN a b xN yN : Nat), Mod s m n x y t mN nN a b xN yN
  · obtain ⟨t, mN, nN, a, b, xN, yN, h⟩ := h
    exact ⟨_, .inl ⟨t, mN, nN, a, b, xN, yN, h, rfl⟩⟩
  · exact ⟨d, .inr ⟨fun t mN nN a b xN yN h' => h ⟨t, mN, nN, a, b, xN, yN, h'⟩, rfl⟩⟩

theorem ModR.yes {α : Type} {g : Ty → Nat → Nat → Nat → Nat → α} {d : α} {s : List UInt8} {m n x y : Int} {o : α} {t : Ty} {mN nN a b xN yN : Nat} (h : ModR g d s m n x y o) (hm : Mod s m n x y t mN nN a b xN yN) : o = g t mN nN xN yN := by
  rcases h with ⟨t', mN', nN', a', b', xN', yN', h1, h2⟩ | ⟨h1, _⟩
  · obtain ⟨rfl, rfl, rfl, rfl, rfl⟩ := hm.unique h1
    exact h2
  · exact (h1 _ _ _ _ _ _ _ hm).elim

theorem ModR.no {α : Type} {g : Ty → Nat → Nat → Nat → Nat → α} {d : α} {s : List UInt8} {m n x y : Int} {o : α} (h : ModR g d s m n x y o) (hm : ∀ (t : Ty) (mN nN a b xN yN : Nat), ¬ Mod s m n x y t mN nN a b xN yN) : o = d := by
  rcases h with ⟨t', mN', nN', a', b', xN', yN', h1, h2⟩ | ⟨_, h2⟩
  · exact (hm _ _ _ _ _ _ _ h1).elim
  · exact h2

theorem ret_facts9 {w w3 : World} (hb : Blk w3 w.heap.size 27 #[.int .i64 0, .int .i64 0, .slice none 0 0]) :
    (w3.cell? ⟨w.heap.size, 0, none⟩ = some (.int .i64 0) ∧ w3.cell? ⟨w.heap.size, 1, none⟩ = some (.int .i64 0) ∧ w3.cell? ⟨w.heap.size, 2, none⟩ = some (.slice none 0 0)) ∧ (w3.frozen? ⟨w.heap.size, 0, none⟩ = false ∧ w3.frozen? ⟨w.heap.size, 1, none⟩ = false ∧ w3.frozen? ⟨w.heap.size, 2, none⟩ = false) :=
  ⟨⟨(hb.cell 0).trans rfl, (hb.cell 1).trans rfl, (hb.cell 2).trans rfl⟩, hb.frozen 0, hb.frozen 1, hb.frozen 2⟩

theorem find_first {p : Nat → Bool} {N k : Nat} (hk : k < N) (hp : p k = true) (h : ∀ k', k' < k → p k' = false) : (List.range N).find? p = some k := by
  rw [List.find?_range_eq_some]
  exact ⟨hp, List.mem_range.2 hk, fun j hj => by rw [h j hj]; rfl⟩

theorem find_not {p : Nat → Bool} {N : Nat} (h : ∀ k', k' < N → p k' = false) : (List.range N).find? p = none := by
  rw [List.find?_range_eq_none]
  exact fun i hi => by rw [h i hi]; rfl

theorem pow_facts {m n : Nat} (hm : m ≤ 3) (hn : n ≤ 3) : 2 ^ (m * n) ≤ 512 ∧ wrap64 ((2 : Int) ^ (m * n)) = ((2 ^ (m * n) : Nat) : Int) := by
  have hmn : m * n ≤ 3 * 3 := Nat.mul_le_mul hm hn
  have h512 : 2 ^ (m * n) ≤ 2 ^ 9 := Nat.pow_le_pow_right (by omega) hmn
  refine ⟨by omega, ?_⟩
  obtain ⟨T, hT⟩ : ∃ T, T = 2 ^ (m * n) := ⟨_, rfl⟩
  have e : (2 : Int) ^ (m * n) = (T : Int) := by rw [hT]; simp
  rw [e, ← hT]
  rw [← hT] at h512
  exact IntWalk.wrap64_in _ ⟨by omega, by omega⟩

set_option maxRecDepth 100000 in
set_option maxHeartbeats 4000000 in
theorem specModRel (w : World) (s : List UInt8) (m n x y : Int) (hs : s.length ≤ maxLen) (o : Option (Int × Int × List Int)) (ho : ModR mrO none s m n x y o) :
    Calls Tryz.prog 7 #[S s, .int .i64 m, .int .i64 n, .int .i64 x, .int .i64 y] w fun e w' => AnsR o w e w' := by
  have hr0 := Blk.new w 27 #[.int .i64 0, .int .i64 0, .slice none 0 0]
  have hf0 : Fr No w (w.alloc (.cells #[.int .i64 0, .int .i64 0, .slice none 0 0] 27)) := (Fr.refl _ _).alloc _
  have HO := Lib.hid ho
  clear ho
  go_enter Tryz.func7, Tryz.ntmps7
  go_wp2_with fail
  generalize hW0 : w.alloc (.cells #[.int .i64 0, .int .i64 0, .slice none 0 0] 27) = W0 at hr0 hf0 ⊢
  refine (sizes_any W0 s m n x y hs).mono ?_
  rintro e w1 ⟨hf1, ⟨t, mN, nN, a, b, xN, yN, A, c, hmod, rfl, hsl⟩ | ⟨a0, A, mt, ct, hno, rfl⟩⟩
  · obtain ⟨m1, m3, n1, n3⟩ := hmod.sizes
    obtain rfl := HO.out.yes hmod
    obtain rfl := hmod.em
    obtain rfl := hmod.en
    obtain rfl := hmod.ex
    obtain rfl := hmod.ey
    have hlets : t.lets := hmod.is.2.1
    have HF1 := Lib.hid (hf0.trans hf1)
    obtain ⟨h512, hw⟩ := pow_facts m3 n3
    have hf2 : Fr No w1 (w1.alloc (.cells #[S t.atom, .slice A t.kids.len c] 46)) := (Fr.refl _ _).alloc _
    have hb2 := Blk.new w1 46 #[S t.atom, .slice A t.kids.len c]
    have hr2 := (hr0.fr hf1 (fun h => h)).fr hf2 (fun h => h)
    have RL : Hid (∀ (V : World) (k : Nat), Fr No (w1.alloc (.cells #[S t.atom, .slice A t.kids.len c] 46)) V → k < 2 ^ (mN * nN) → Calls Tryz.prog 21 #[.agg #[S t.atom, .slice A t.kids.len c], .int .i64 mN, .int .i64 nN, .int .i64 xN, .int .i64 yN, .int .i64 k] V fun e w' => RlP (rbit t mN nN xN yN k) V e w') := fun V k hf hk =>
      relates_any V t A c mN nN xN yN a b k hlets m1 m3 n1 n3 ((hsl.fr (fun b hb => hb) (hf2.trans hf)).mono (fun b hb => Nat.lt_of_lt_of_le hb (hf2.trans hf).size) (fun _ _ => rfl)) hmod.ca hmod.cb hmod.lx hmod.ly hk
    have NUM : Hid (∀ (w' : World) (k : Nat), k < 2 ^ (mN * nN) → Calls Tryz.prog 22 #[.int .i64 mN, .int .i64 nN, .int .i64 k] w' fun e w2 => ∃ A q c, e = .returned (RV mN nN A q c) ∧ Fr No w' w2 ∧ OR w2 w'.heap.size A q c (numP mN nN k)) := by
      intro w' k hk
      have hmn : mN * nN ≤ 3 * 3 := Nat.mul_le_mul m3 n3
      have e1 : (mN : Int) * (nN : Int) = ((mN * nN : Nat) : Int) := by simp
      refine (number_any w' mN nN k (by omega) (by omega) (by rw [e1]; omega) (by omega)).mono ?_
      rintro e w2 ⟨A', q, c', h1, h2, h3⟩
      have e2 : ((mN : Int) * (nN : Int)).toNat = mN * nN := by rw [e1]; rfl
      rw [e2] at h3
      exact ⟨A', q, c', h1, h2, h3⟩
    obtain ⟨W, hW⟩ : ∃ W, W = w1.alloc (.cells #[S t.atom, .slice A t.kids.len c] 46) := ⟨_, rfl⟩
    rw [← hW] at hf2 hb2 hr2 RL
    have HB2 := Lib.hid hb2
    have HR2 := Lib.hid hr2
    have HFW := Lib.hid (HF1.out.trans hf2)
    have HW := Lib.hid hW
    have HWW := Lib.hid hw
    clear hmod hf1 hsl hf2 hb2 hr2 hr0 hf0 hW0 hW hlets hw HO
    obtain ⟨N, hN⟩ : ∃ N, N = 2 ^ (mN * nN) := ⟨_, rfl⟩
    rw [← hN] at RL NUM h512 HWW
    have HN := Lib.hid hN
    clear hN
    have hNI : (N : Int) ≤ 512 := by omega
    have hmI : (mN : Int) ≤ 3 := by omega
    have hnI : (nN : Int) ≤ 3 := by omega
    have hmnI : (mN : Int) * (nN : Int) ≤ 9 := by
      have : ((mN * nN : Nat) : Int) = (mN : Int) * (nN : Int) := by simp
      have hmn : mN * nN ≤ 3 * 3 := Nat.mul_le_mul m3 n3
      omega
    have hmn0 : 0 ≤ (mN : Int) * (nN : Int) := by
      have : ((mN * nN : Nat) : Int) = (mN : Int) * (nN : Int) := by simp
      omega
    go_wp2_with fail
    rw [← HW.out]
    clear HW
    go_loopw [14] (fun u wr => ∃ k : Nat, k ≤ N ∧ u = .int .i64 k ∧ Fr No W wr ∧ ∀ k', k' < k → rbit t mN nN xN yN k' = false) (fun u _ => N - (intOf u).toNat)
    case atStart => exact ⟨0, Nat.zero_le _, rfl, Fr.refl _ _, fun k' h => by omega⟩
    case round =>
      obtain ⟨k, hk, rfl, hfr, hall⟩ := hrel
      have HF := Lib.hid hfr
      have HALL := Lib.hid hall
      have hb := HB2.out.fr hfr (fun h => h)
      have x0 : wr.cell? ⟨w1.heap.size, 0, none⟩ = some (S t.atom) := (hb.cell 0).trans rfl
      have x1 : wr.cell? ⟨w1.heap.size, 1, none⟩ = some (.slice A t.kids.len c) := (hb.cell 1).trans rfl
      have x2 := hb.lt
      have hr := HR2.out.fr hfr (fun h => h)
      obtain ⟨⟨r0, r1, r2⟩, q0, q1, q2⟩ := ret_facts9 hr
      have r3 := hr.lt
      clear hfr hall hb hr
      by_cases hlt : k < N
      · have hkw : (k : Int) < wrap64 (2 ^ (mN * nN)) := by rw [HWW.out]; omega
        have HC := Lib.hid (RL.out wr k HF.out hlt)
        cases hv : rbit t mN nN xN yN k with
        | true =>
          have HV : Hid (mrO t mN nN xN yN = some ((mN : Int), (nN : Int), numP mN nN k)) := by
            show _ = _
            unfold mrO
            rw [← HN.out, find_first hlt hv HALL.out]
            rfl
          rw [hv] at HC
          clear hv
          go_wp2_with fail
          refine HC.out.mono ?_
          rintro e w3 ⟨rfl, hf3⟩
          have HF3 := Lib.hid (HF.out.trans hf3)
          clear hf3 x0 x1 x2 r0 r1 r2 q0 q1 q2 r3 HC
          go_wp2_with fail
          refine (NUM.out w3 k hlt).mono ?_
          rintro e w4 ⟨A4, q4, c4, rfl, hf4, hor4⟩
          have hf04 := HFW.out.trans (HF3.out.trans hf4)
          have hr := HR2.out.fr (HF3.out.trans hf4) (fun h => h)
          obtain ⟨⟨r0, r1, r2⟩, q0, q1, q2⟩ := ret_facts9 hr
          have r3 := hr.lt
          obtain ⟨j1, j2⟩ := ans_store (Nat.le_refl _) hf04 hr hor4 (HFW.out.trans HF3.out).size (.int .i64 mN) (.int .i64 nN) (.slice A4 q4 c4)
          have hbs := ((hr.set_ 0 (.int .i64 mN)).set_ 1 (.int .i64 nN)).set_ 2 (.slice A4 q4 c4)
          have HE : Hid (AnsR (mrO t mN nN xN yN) w (.returned (.tuple #[RV mN nN A4 q4 c4, .bool true])) (((w4.setCell ⟨w.heap.size, 0, none⟩ (.int .i64 mN)).setCell ⟨w.heap.size, 1, none⟩ (.int .i64 nN)).setCell ⟨w.heap.size, 2, none⟩ (.slice A4 q4 c4))) := by
            show AnsR _ _ _ _
            rw [HV.out]
            exact ⟨A4, q4, c4, rfl, j1, j2⟩
          have a0 : (((w4.setCell ⟨w.heap.size, 0, none⟩ (.int .i64 mN)).setCell ⟨w.heap.size, 1, none⟩ (.int .i64 nN)).setCell ⟨w.heap.size, 2, none⟩ (.slice A4 q4 c4)).cell? ⟨w.heap.size, 0, none⟩ = some (.int .i64 mN) := (hbs.cell 0).trans rfl
          have a1 : (((w4.setCell ⟨w.heap.size, 0, none⟩ (.int .i64 mN)).setCell ⟨w.heap.size, 1, none⟩ (.int .i64 nN)).setCell ⟨w.heap.size, 2, none⟩ (.slice A4 q4 c4)).cell? ⟨w.heap.size, 1, none⟩ = some (.int .i64 nN) := (hbs.cell 1).trans rfl
          have a2 : (((w4.setCell ⟨w.heap.size, 0, none⟩ (.int .i64 mN)).setCell ⟨w.heap.size, 1, none⟩ (.int .i64 nN)).setCell ⟨w.heap.size, 2, none⟩ (.slice A4 q4 c4)).cell? ⟨w.heap.size, 2, none⟩ = some (.slice A4 q4 c4) := (hbs.cell 2).trans rfl
          clear hf4 hor4 hf04 hr j1 j2 hbs HV
          go_wp2_with fail
          refine bodyPost_ret (v := .tuple #[RV mN nN A4 q4 c4, .bool true]) (by simp [results, Tryz.results7, go_sem, a0, a1, a2]) rfl ?_
          exact HE.out
        | false =>
          have HALJ : Hid (∀ k', k' < k + 1 → rbit t mN nN xN yN k' = false) := by
            intro k' hk'
            by_cases e : k' = k
            · rw [e]; exact hv
            · exact HALL.out k' (by omega)
          rw [hv] at HC
          clear hv
          go_wp2_with fail
          refine HC.out.mono ?_
          rintro e w3 ⟨rfl, hf3⟩
          have HF3 := Lib.hid (HF.out.trans hf3)
          clear hf3 x0 x1 x2 r0 r1 r2 q0 q1 q2 r3 HC
          go_wp2_with fail
          go_roundw
          case rel => exact ⟨k + 1, by omega, by go_num, HF3.out, HALJ.out⟩
          case measure => simp [intOf]; omega
      · have hkw : ¬ (k : Int) < wrap64 (2 ^ (mN * nN)) := by rw [HWW.out]; omega
        have hkT : k = N := by omega
        have HV : Hid (mrO t mN nN xN yN = none) := by
          show _ = _
          unfold mrO
          rw [← HN.out, find_not (fun k' hk' => HALL.out k' (by omega))]
          rfl
        have hr := HR2.out.fr HF.out (fun h => h)
        have hf04 := HFW.out.trans HF.out
        have hbs := ((hr.set_ 0 (.int .i64 0)).set_ 1 (.int .i64 0)).set_ 2 (.slice none 0 0)
        have HE : Hid (AnsR (mrO t mN nN xN yN) w (.returned (.tuple #[RV 0 0 none 0 0, .bool false])) (((wr.setCell ⟨w.heap.size, 0, none⟩ (.int .i64 0)).setCell ⟨w.heap.size, 1, none⟩ (.int .i64 0)).setCell ⟨w.heap.size, 2, none⟩ (.slice none 0 0))) := by
          show AnsR _ _ _ _
          rw [HV.out]
          exact AnsR.none_ (((hf04.setCell (p := ⟨w.heap.size, 0, none⟩) (.inr (Nat.le_refl _)) _).setCell (p := ⟨w.heap.size, 1, none⟩) (.inr (Nat.le_refl _)) _).setCell (p := ⟨w.heap.size, 2, none⟩) (.inr (Nat.le_refl _)) _)
        have a0 : (((wr.setCell ⟨w.heap.size, 0, none⟩ (.int .i64 0)).setCell ⟨w.heap.size, 1, none⟩ (.int .i64 0)).setCell ⟨w.heap.size, 2, none⟩ (.slice none 0 0)).cell? ⟨w.heap.size, 0, none⟩ = some (.int .i64 0) := (hbs.cell 0).trans rfl
        have a1 : (((wr.setCell ⟨w.heap.size, 0, none⟩ (.int .i64 0)).setCell ⟨w.heap.size, 1, none⟩ (.int .i64 0)).setCell ⟨w.heap.size, 2, none⟩ (.slice none 0 0)).cell? ⟨w.heap.size, 1, none⟩ = some (.int .i64 0) := (hbs.cell 1).trans rfl
        have a2 : (((wr.setCell ⟨w.heap.size, 0, none⟩ (.int .i64 0)).setCell ⟨w.heap.size, 1, none⟩ (.int .i64 0)).setCell ⟨w.heap.size, 2, none⟩ (.slice none 0 0)).cell? ⟨w.heap.size, 2, none⟩ = some (.slice none 0 0) := (hbs.cell 2).trans rfl
        clear hr hf04 hbs HV hkT
        go_wp2_with fail
        refine bodyPost_ret (v := .tuple #[RV 0 0 none 0 0, .bool false]) (by simp [results, Tryz.results7, go_sem, a0, a1, a2]) rfl ?_
        exact HE.out
  · obtain rfl := HO.out.no hno
    have hfa : Fr No w1 (w1.alloc (.cells #[S a0, .slice A mt ct] 46)) := (Fr.refl _ _).alloc _
    have hr2 := (hr0.fr hf1 (fun h => h)).fr hfa (fun h => h)
    obtain ⟨W, hW⟩ : ∃ W, W = w1.alloc (.cells #[S a0, .slice A mt ct] 46) := ⟨_, rfl⟩
    rw [← hW] at hfa hr2
    have hf04 := hf0.trans (hf1.trans hfa)
    have HF := Lib.hid hf04
    have HR2 := Lib.hid hr2
    have HW := Lib.hid hW
    clear hno hf1 hf0 hr0 hW0 hfa hr2 hf04 hW
    go_wp2_with fail
    rw [← HW.out]
    clear HW
    go_loopw [14] (fun u wr => u = .int .i64 0 ∧ wr = W) (fun _ _ => 0)
    case atStart => exact ⟨rfl, rfl⟩
    case round =>
      obtain ⟨rfl, rfl⟩ := hrel
      have hr := HR2.out
      obtain ⟨⟨r0, r1, r2⟩, q0, q1, q2⟩ := ret_facts9 hr
      have r3 := hr.lt
      have hbs := ((hr.set_ 0 (.int .i64 0)).set_ 1 (.int .i64 0)).set_ 2 (.slice none 0 0)
      have HE : Hid (AnsR none w (.returned (.tuple #[RV 0 0 none 0 0, .bool false])) (((wr.setCell ⟨w.heap.size, 0, none⟩ (.int .i64 0)).setCell ⟨w.heap.size, 1, none⟩ (.int .i64 0)).setCell ⟨w.heap.size, 2, none⟩ (.slice none 0 0))) :=
        AnsR.none_ (((HF.out.setCell (p := ⟨w.heap.size, 0, none⟩) (.inr (Nat.le_refl _)) _).setCell (p := ⟨w.heap.size, 1, none⟩) (.inr (Nat.le_refl _)) _).setCell (p := ⟨w.heap.size, 2, none⟩) (.inr (Nat.le_refl _)) _)
      have a0 : (((wr.setCell ⟨w.heap.size, 0, none⟩ (.int .i64 0)).setCell ⟨w.heap.size, 1, none⟩ (.int .i64 0)).setCell ⟨w.heap.size, 2, none⟩ (.slice none 0 0)).cell? ⟨w.heap.size, 0, none⟩ = some (.int .i64 0) := (hbs.cell 0).trans rfl
      have a1 : (((wr.setCell ⟨w.heap.size, 0, none⟩ (.int .i64 0)).setCell ⟨w.heap.size, 1, none⟩ (.int .i64 0)).setCell ⟨w.heap.size, 2, none⟩ (.slice none 0 0)).cell? ⟨w.heap.size, 1, none⟩ = some (.int .i64 0) := (hbs.cell 1).trans rfl
      have a2 : (((wr.setCell ⟨w.heap.size, 0, none⟩ (.int .i64 0)).setCell ⟨w.heap.size, 1, none⟩ (.int .i64 0)).setCell ⟨w.heap.size, 2, none⟩ (.slice none 0 0)).cell? ⟨w.heap.size, 2, none⟩ = some (.slice none 0 0) := (hbs.cell 2).trans rfl
      clear hr hbs
      go_wp2_with fail
      refine bodyPost_ret (v := .tuple #[RV 0 0 none 0 0, .bool false]) (by simp [results, Tryz.results7, go_sem, a0, a1, a2]) rfl ?_
      exact HE.out
end Go.Proofs.YtloecimlimoanaaGreatDoor

/- ModuleBest of the model. -/
namespace Go.Proofs.YtloecimlimoanaaGreatDoor
open Go.RowKit Go.ChangeMaps Go.Shelf

theorem i64_or_nat (a b : Nat) (ha : a < 1000000) (hb : b < 1000000) : bits .or .i64 (a : Int) (b : Int) = ((a ||| b : Nat) : Int) := by
  have hx : a ||| b < 2 ^ 30 := Nat.or_lt_two_pow (by omega) (by omega)
  have e : ∀ x : Nat, x < 1000000 → (BitVec.ofInt 64 (x : Int)).toNat = x := fun x hx => by simp; omega
  show IntKind.i64.wrap ((BitVec.ofInt 64 (a : Int) ||| BitVec.ofInt 64 (b : Int)).toNat : Int) = _
  rw [BitVec.toNat_or, e a (by omega), e b (by omega), IntKind.wrap_i64]
  omega

/-- the numbers of all relations that hold, put together -/
def bst (p : Nat → Bool) (k : Nat) : Nat := (List.range k).foldl (fun b k => if p k then b ||| k else b) 0
def fnd (p : Nat → Bool) (k : Nat) : Bool := (List.range k).any p

theorem bst_next (p : Nat → Bool) (k : Nat) : bst p (k + 1) = if p k then bst p k ||| k else bst p k := by
  unfold bst
  rw [List.range_succ, List.foldl_append]
  rfl

theorem fnd_next (p : Nat → Bool) (k : Nat) : fnd p (k + 1) = (fnd p k || p k) := by
  unfold fnd
  rw [List.range_succ, List.any_append]
  simp

theorem bst_lt (p : Nat → Bool) {e : Nat} : ∀ {k : Nat}, k ≤ 2 ^ e → bst p k < 2 ^ e := by
  intro k
  induction k with
  | zero => intro _; exact Nat.two_pow_pos e
  | succ k ih =>
    intro hk
    rw [bst_next]
    split
    · exact Nat.or_lt_two_pow (ih (by omega)) (by omega)
    · exact ih (by omega)

/-- the relation of all numbers that are related by some relation that relates both -/
def mbO (t : Ty) (m n x y : Nat) : Option (Int × Int × List Int) := if fnd (rbit t m n x y) (2 ^ (m * n)) then some ((m : Int), (n : Int), numP m n (bst (rbit t m n x y) (2 ^ (m * n)))) else none

set_option maxRecDepth 100000 in
set_option maxHeartbeats 4000000 in
theorem specModBest (w : World) (s : List UInt8) (m n x y : Int) (hs : s.length ≤ maxLen) (o : Option (Int × Int × List Int)) (ho : ModR mbO none s m n x y o) :
    Calls Tryz.prog 14 #[S s, .int .i64 m, .int .i64 n, .int .i64 x, .int .i64 y] w fun e w' => AnsR o w e w' := by
  have hr0 := Blk.new w 27 #[.int .i64 0, .int .i64 0, .slice none 0 0]
  have hf0 : Fr No w (w.alloc (.cells #[.int .i64 0, .int .i64 0, .slice none 0 0] 27)) := (Fr.refl _ _).alloc _
  have HO := Lib.hid ho
  clear ho
  go_enter Tryz.func14, Tryz.ntmps14
  go_wp2_with fail
  generalize hW0 : w.alloc (.cells #[.int .i64 0, .int .i64 0, .slice none 0 0] 27) = W0 at hr0 hf0 ⊢
  refine (sizes_any W0 s m n x y hs).mono ?_
  rintro e w1 ⟨hf1, ⟨t, mN, nN, a, b, xN, yN, A, c, hmod, rfl, hsl⟩ | ⟨a0, A, mt, ct, hno, rfl⟩⟩
  · obtain ⟨m1, m3, n1, n3⟩ := hmod.sizes
    obtain rfl := HO.out.yes hmod
    obtain rfl := hmod.em
    obtain rfl := hmod.en
    obtain rfl := hmod.ex
    obtain rfl := hmod.ey
    have hlets : t.lets := hmod.is.2.1
    have HF1 := Lib.hid (hf0.trans hf1)
    obtain ⟨h512, hw⟩ := pow_facts m3 n3
    have hf2 : Fr No w1 (w1.alloc (.cells #[S t.atom, .slice A t.kids.len c] 46)) := (Fr.refl _ _).alloc _
    have hb2 := Blk.new w1 46 #[S t.atom, .slice A t.kids.len c]
    have hr2 := (hr0.fr hf1 (fun h => h)).fr hf2 (fun h => h)
    have RL : Hid (∀ (V : World) (k : Nat), Fr No (w1.alloc (.cells #[S t.atom, .slice A t.kids.len c] 46)) V → k < 2 ^ (mN * nN) → Calls Tryz.prog 21 #[.agg #[S t.atom, .slice A t.kids.len c], .int .i64 mN, .int .i64 nN, .int .i64 xN, .int .i64 yN, .int .i64 k] V fun e w' => RlP (rbit t mN nN xN yN k) V e w') := fun V k hf hk =>
      relates_any V t A c mN nN xN yN a b k hlets m1 m3 n1 n3 ((hsl.fr (fun b hb => hb) (hf2.trans hf)).mono (fun b hb => Nat.lt_of_lt_of_le hb (hf2.trans hf).size) (fun _ _ => rfl)) hmod.ca hmod.cb hmod.lx hmod.ly hk
    have NUM : Hid (∀ (w' : World) (k : Nat), k < 2 ^ (mN * nN) → Calls Tryz.prog 22 #[.int .i64 mN, .int .i64 nN, .int .i64 k] w' fun e w2 => ∃ A q c, e = .returned (RV mN nN A q c) ∧ Fr No w' w2 ∧ OR w2 w'.heap.size A q c (numP mN nN k)) := by
      intro w' k hk
      have hmn : mN * nN ≤ 3 * 3 := Nat.mul_le_mul m3 n3
      have e1 : (mN : Int) * (nN : Int) = ((mN * nN : Nat) : Int) := by simp
      refine (number_any w' mN nN k (by omega) (by omega) (by rw [e1]; omega) (by omega)).mono ?_
      rintro e w2 ⟨A', q, c', h1, h2, h3⟩
      have e2 : ((mN : Int) * (nN : Int)).toNat = mN * nN := by rw [e1]; rfl
      rw [e2] at h3
      exact ⟨A', q, c', h1, h2, h3⟩
    obtain ⟨W, hW⟩ : ∃ W, W = w1.alloc (.cells #[S t.atom, .slice A t.kids.len c] 46) := ⟨_, rfl⟩
    rw [← hW] at hf2 hb2 hr2 RL
    have HB2 := Lib.hid hb2
    have HR2 := Lib.hid hr2
    have HFW := Lib.hid (HF1.out.trans hf2)
    have HW := Lib.hid hW
    have HWW := Lib.hid hw
    clear hmod hf1 hsl hf2 hb2 hr2 hr0 hf0 hW0 hW hlets hw HO
    obtain ⟨N, hN⟩ : ∃ N, N = 2 ^ (mN * nN) := ⟨_, rfl⟩
    rw [← hN] at RL NUM h512 HWW
    have HN := Lib.hid hN
    clear hN
    have hNI : (N : Int) ≤ 512 := by omega
    have hmI : (mN : Int) ≤ 3 := by omega
    have hnI : (nN : Int) ≤ 3 := by omega
    have hmnI : (mN : Int) * (nN : Int) ≤ 9 := by
      have : ((mN * nN : Nat) : Int) = (mN : Int) * (nN : Int) := by simp
      have hmn : mN * nN ≤ 3 * 3 := Nat.mul_le_mul m3 n3
      omega
    have hmn0 : 0 ≤ (mN : Int) * (nN : Int) := by
      have : ((mN * nN : Nat) : Int) = (mN : Int) * (nN : Int) := by simp
      omega
    go_wp2_with fail
    rw [← HW.out]
    clear HW
    go_loopw [14, 15, 16] (fun a14 a15 u wr => ∃ k : Nat, k ≤ N ∧ u = .int .i64 k ∧ Fr No W wr ∧ a14 = .int .i64 (bst (rbit t mN nN xN yN) k) ∧ a15 = .bool (fnd (rbit t mN nN xN yN) k)) (fun _ _ u _ => N - (intOf u).toNat)
    case atStart => exact ⟨0, Nat.zero_le _, rfl, Fr.refl _ _, rfl, rfl⟩
    case round =>
      obtain ⟨k, hk, rfl, hfr, rfl, rfl⟩ := hrel
      have HF := Lib.hid hfr
      obtain ⟨bb, hbb⟩ : ∃ bb, bb = bst (rbit t mN nN xN yN) k := ⟨_, rfl⟩
      obtain ⟨ff, hff⟩ : ∃ ff, ff = fnd (rbit t mN nN xN yN) k := ⟨_, rfl⟩
      rw [← hbb, ← hff]
      have HBB := Lib.hid hbb
      have HFF := Lib.hid hff
      have hlo : bb < N := by rw [hbb, HN.out]; exact bst_lt _ (by rw [← HN.out]; exact hk)
      have hb := HB2.out.fr hfr (fun h => h)
      have x0 : wr.cell? ⟨w1.heap.size, 0, none⟩ = some (S t.atom) := (hb.cell 0).trans rfl
      have x1 : wr.cell? ⟨w1.heap.size, 1, none⟩ = some (.slice A t.kids.len c) := (hb.cell 1).trans rfl
      have x2 := hb.lt
      have hr := HR2.out.fr hfr (fun h => h)
      obtain ⟨⟨r0, r1, r2⟩, q0, q1, q2⟩ := ret_facts9 hr
      have r3 := hr.lt
      clear hfr hbb hff hb hr
      by_cases hlt : k < N
      · have hkw : (k : Int) < wrap64 (2 ^ (mN * nN)) := by rw [HWW.out]; omega
        have HC := Lib.hid (RL.out wr k HF.out hlt)
        cases hv : rbit t mN nN xN yN k with
        | true =>
          have hor : bits .or .i64 (bb : Int) (k : Int) = ((bb ||| k : Nat) : Int) := i64_or_nat bb k (by omega) (by omega)
          have HNX : Hid (((bb ||| k : Nat) : Int) = ((bst (rbit t mN nN xN yN) (k + 1) : Nat) : Int) ∧ true = fnd (rbit t mN nN xN yN) (k + 1)) := by
            show _ ∧ _
            rw [bst_next, fnd_next, hv, ← HBB.out]
            simp
          rw [hv] at HC
          clear hv
          go_wp2_with fail
          refine HC.out.mono ?_
          rintro e w3 ⟨rfl, hf3⟩
          have HF3 := Lib.hid (HF.out.trans hf3)
          clear hf3 x0 x1 x2 r0 r1 r2 q0 q1 q2 r3 HC
          go_wp2_with fail
          go_roundw
          case rel => exact ⟨k + 1, by omega, by go_num, HF3.out, congrArg _ HNX.out.1, congrArg _ HNX.out.2⟩
          case measure => simp [intOf]; omega
        | false =>
          have HNX : Hid (((bb : Nat) : Int) = ((bst (rbit t mN nN xN yN) (k + 1) : Nat) : Int) ∧ ff = fnd (rbit t mN nN xN yN) (k + 1)) := by
            show _ ∧ _
            rw [bst_next, fnd_next, hv, ← HBB.out, ← HFF.out]
            simp
          rw [hv] at HC
          clear hv
          go_wp2_with fail
          refine HC.out.mono ?_
          rintro e w3 ⟨rfl, hf3⟩
          have HF3 := Lib.hid (HF.out.trans hf3)
          clear hf3 x0 x1 x2 r0 r1 r2 q0 q1 q2 r3 HC
          go_wp2_with fail
          go_roundw
          case rel => exact ⟨k + 1, by omega, by go_num, HF3.out, congrArg _ HNX.out.1, congrArg _ HNX.out.2⟩
          case measure => simp [intOf]; omega
      · have hkw : ¬ (k : Int) < wrap64 (2 ^ (mN * nN)) := by rw [HWW.out]; omega
        have hkT : k = N := by omega
        cases ff with
        | true =>
          have HV : Hid (mbO t mN nN xN yN = some ((mN : Int), (nN : Int), numP mN nN bb)) := by
            show _ = _
            unfold mbO
            rw [← HN.out, ← hkT, ← HFF.out, ← HBB.out]
            rfl
          clear x0 x1 x2 r0 r1 r2 q0 q1 q2 r3 hkT
          go_wp2_with fail
          refine (NUM.out wr bb hlo).mono ?_
          rintro e w4 ⟨A4, q4, c4, rfl, hf4, hor4⟩
          have hf04 := HFW.out.trans (HF.out.trans hf4)
          have hr := HR2.out.fr (HF.out.trans hf4) (fun h => h)
          obtain ⟨⟨r0, r1, r2⟩, q0, q1, q2⟩ := ret_facts9 hr
          have r3 := hr.lt
          obtain ⟨j1, j2⟩ := ans_store (Nat.le_refl _) hf04 hr hor4 (HFW.out.trans HF.out).size (.int .i64 mN) (.int .i64 nN) (.slice A4 q4 c4)
          have hbs := ((hr.set_ 0 (.int .i64 mN)).set_ 1 (.int .i64 nN)).set_ 2 (.slice A4 q4 c4)
          have HE : Hid (AnsR (mbO t mN nN xN yN) w (.returned (.tuple #[RV mN nN A4 q4 c4, .bool true])) (((w4.setCell ⟨w.heap.size, 0, none⟩ (.int .i64 mN)).setCell ⟨w.heap.size, 1, none⟩ (.int .i64 nN)).setCell ⟨w.heap.size, 2, none⟩ (.slice A4 q4 c4))) := by
            show AnsR _ _ _ _
            rw [HV.out]
            exact ⟨A4, q4, c4, rfl, j1, j2⟩
          have a0 : (((w4.setCell ⟨w.heap.size, 0, none⟩ (.int .i64 mN)).setCell ⟨w.heap.size, 1, none⟩ (.int .i64 nN)).setCell ⟨w.heap.size, 2, none⟩ (.slice A4 q4 c4)).cell? ⟨w.heap.size, 0, none⟩ = some (.int .i64 mN) := (hbs.cell 0).trans rfl
          have a1 : (((w4.setCell ⟨w.heap.size, 0, none⟩ (.int .i64 mN)).setCell ⟨w.heap.size, 1, none⟩ (.int .i64 nN)).setCell ⟨w.heap.size, 2, none⟩ (.slice A4 q4 c4)).cell? ⟨w.heap.size, 1, none⟩ = some (.int .i64 nN) := (hbs.cell 1).trans rfl
          have a2 : (((w4.setCell ⟨w.heap.size, 0, none⟩ (.int .i64 mN)).setCell ⟨w.heap.size, 1, none⟩ (.int .i64 nN)).setCell ⟨w.heap.size, 2, none⟩ (.slice A4 q4 c4)).cell? ⟨w.heap.size, 2, none⟩ = some (.slice A4 q4 c4) := (hbs.cell 2).trans rfl
          clear hf4 hor4 hf04 hr j1 j2 hbs HV
          go_wp2_with fail
          refine bodyPost_ret (v := .tuple #[RV mN nN A4 q4 c4, .bool true]) (by simp [results, Tryz.results14, go_sem, a0, a1, a2]) rfl ?_
          exact HE.out
        | false =>
          have HV : Hid (mbO t mN nN xN yN = none) := by
            show _ = _
            unfold mbO
            rw [← HN.out, ← hkT, ← HFF.out]
            rfl
          have hr := HR2.out.fr HF.out (fun h => h)
          have hf04 := HFW.out.trans HF.out
          have hbs := ((hr.set_ 0 (.int .i64 0)).set_ 1 (.int .i64 0)).set_ 2 (.slice none 0 0)
          have HE : Hid (AnsR (mbO t mN nN xN yN) w (.returned (.tuple #[RV 0 0 none 0 0, .bool false])) (((wr.setCell ⟨w.heap.size, 0, none⟩ (.int .i64 0)).setCell ⟨w.heap.size, 1, none⟩ (.int .i64 0)).setCell ⟨w.heap.size, 2, none⟩ (.slice none 0 0))) := by
            show AnsR _ _ _ _
            rw [HV.out]
            exact AnsR.none_ (((hf04.setCell (p := ⟨w.heap.size, 0, none⟩) (.inr (Nat.le_refl _)) _).setCell (p := ⟨w.heap.size, 1, none⟩) (.inr (Nat.le_refl _)) _).setCell (p := ⟨w.heap.size, 2, none⟩) (.inr (Nat.le_refl _)) _)
          have a0 : (((wr.setCell ⟨w.heap.size, 0, none⟩ (.int .i64 0)).setCell ⟨w.heap.size, 1, none⟩ (.int .i64 0)).setCell ⟨w.heap.size, 2, none⟩ (.slice none 0 0)).cell? ⟨w.heap.size, 0, none⟩ = some (.int .i64 0) := (hbs.cell 0).trans rfl
          have a1 : (((wr.setCell ⟨w.heap.size, 0, none⟩ (.int .i64 0)).setCell ⟨w.heap.size, 1, none⟩ (.int .i64 0)).setCell ⟨w.heap.size, 2, none⟩ (.slice none 0 0)).cell? ⟨w.heap.size, 1, none⟩ = some (.int .i64 0) := (hbs.cell 1).trans rfl
          have a2 : (((wr.setCell ⟨w.heap.size, 0, none⟩ (.int .i64 0)).setCell ⟨w.heap.size, 1, none⟩ (.int .i64 0)).setCell ⟨w.heap.size, 2, none⟩ (.slice none 0 0)).cell? ⟨w.heap.size, 2, none⟩ = some (.slice none 0 0) := (hbs.cell 2).trans rfl
          clear hr hf04 hbs HV hkT
          go_wp2_with fail
          refine bodyPost_ret (v := .tuple #[RV 0 0 none 0 0, .bool false]) (by simp [results, Tryz.results14, go_sem, a0, a1, a2]) rfl ?_
          exact HE.out
  · obtain rfl := HO.out.no hno
    have hfa : Fr No w1 (w1.alloc (.cells #[S a0, .slice A mt ct] 46)) := (Fr.refl _ _).alloc _
    have hr2 := (hr0.fr hf1 (fun h => h)).fr hfa (fun h => h)
    obtain ⟨W, hW⟩ : ∃ W, W = w1.alloc (.cells #[S a0, .slice A mt ct] 46) := ⟨_, rfl⟩
    rw [← hW] at hfa hr2
    have hf04 := hf0.trans (hf1.trans hfa)
    have HF := Lib.hid hf04
    have HR2 := Lib.hid hr2
    have HW := Lib.hid hW
    clear hno hf1 hf0 hr0 hW0 hfa hr2 hf04 hW
    go_wp2_with fail
    rw [← HW.out]
    clear HW
    go_loopw [14, 15, 16] (fun a14 a15 u wr => u = .int .i64 0 ∧ a14 = .int .i64 0 ∧ a15 = .bool false ∧ wr = W) (fun _ _ _ _ => 0)
    case atStart => exact ⟨rfl, rfl, rfl, rfl⟩
    case round =>
      obtain ⟨rfl, rfl, rfl, rfl⟩ := hrel
      have hr := HR2.out
      obtain ⟨⟨r0, r1, r2⟩, q0, q1, q2⟩ := ret_facts9 hr
      have r3 := hr.lt
      have hbs := ((hr.set_ 0 (.int .i64 0)).set_ 1 (.int .i64 0)).set_ 2 (.slice none 0 0)
      have HE : Hid (AnsR none w (.returned (.tuple #[RV 0 0 none 0 0, .bool false])) (((wr.setCell ⟨w.heap.size, 0, none⟩ (.int .i64 0)).setCell ⟨w.heap.size, 1, none⟩ (.int .i64 0)).setCell ⟨w.heap.size, 2, none⟩ (.slice none 0 0))) :=
        AnsR.none_ (((HF.out.setCell (p := ⟨w.heap.size, 0, none⟩) (.inr (Nat.le_refl _)) _).setCell (p := ⟨w.heap.size, 1, none⟩) (.inr (Nat.le_refl _)) _).setCell (p := ⟨w.heap.size, 2, none⟩) (.inr (Nat.le_refl _)) _)
      have a0 : (((wr.setCell ⟨w.heap.size, 0, none⟩ (.int .i64 0)).setCell ⟨w.heap.size, 1, none⟩ (.int .i64 0)).setCell ⟨w.heap.size, 2, none⟩ (.slice none 0 0)).cell? ⟨w.heap.size, 0, none⟩ = some (.int .i64 0) := (hbs.cell 0).trans rfl
      have a1 : (((wr.setCell ⟨w.heap.size, 0, none⟩ (.int .i64 0)).setCell ⟨w.heap.size, 1, none⟩ (.int .i64 0)).setCell ⟨w.heap.size, 2, none⟩ (.slice none 0 0)).cell? ⟨w.heap.size, 1, none⟩ = some (.int .i64 0) := (hbs.cell 1).trans rfl
      have a2 : (((wr.setCell ⟨w.heap.size, 0, none⟩ (.int .i64 0)).setCell ⟨w.heap.size, 1, none⟩ (.int .i64 0)).setCell ⟨w.heap.size, 2, none⟩ (.slice none 0 0)).cell? ⟨w.heap.size, 2, none⟩ = some (.slice none 0 0) := (hbs.cell 2).trans rfl
      clear hr hbs
      go_wp2_with fail
      refine bodyPost_ret (v := .tuple #[RV 0 0 none 0 0, .bool false]) (by simp [results, Tryz.results14, go_sem, a0, a1, a2]) rfl ?_
      exact HE.out
end Go.Proofs.YtloecimlimoanaaGreatDoor
