/- A type with a size on both sides. · Types with sizes on both sides: what keeps them; how many relations are asked. -/
import Derived.Test.YtjgbihcnfhbalaaDoorRdpm
import Derived.Test.YtjgbihcnfhbalaaDoorLof
/- A type with a size on both sides. -/
namespace Go.Proofs.YtjgbihcnfhbalaaDoor
open Go.RowKit Go.ChangeMaps

def sz1 (m : Nat) : Nat → Option Nat := szs [(0, m)]

theorem sz1_sizes {m : Nat} (h1 : 1 ≤ m) (h3 : m ≤ 3) : Sizes (sz1 m) := by
  intro n c h
  unfold sz1 szs at h
  by_cases e : 0 = n
  · simp only [e, if_true] at h
    injection h with h
    omega
  · simp only [e, if_false, szs] at h
    cases h

theorem sz_made (w : World) (m : Nat) : ∃ w', (Instr.mapUpdate 136 (.map (some w.heap.size)) (.int .i64 0) (.int .i64 m)).run Tryd.prog (w.alloc (.map #[] 0)) = .ok () w' ∧ SzAt w' w.heap.size (sz1 m) ∧ Fr No w w' := by
  have h0 : SzAt (w.alloc (.map #[] 0)) w.heap.size (fun _ => none) := ⟨0, fun _ => none, MapAt.made w encI, fun _ => rfl⟩
  obtain ⟨w', h1, h2, h3⟩ := h0.store 0 m
  refine ⟨w', h1, ?_, ((Fr.refl No w).alloc _).then_ h3 (fun i hi h => by have h : i = w.heap.size := h; omega)⟩
  have e : sz1 m = fun i => if i = 0 then some m else none := by
    funext i
    unfold sz1 szs szs
    by_cases e : i = 0
    · subst e; simp
    · have : ¬ 0 = i := fun h => e h.symm
      simp [e, this]
  rw [e]
  exact h2

/-- a counter with nothing in it -/
theorem cs_made {w w' : World} {u ml mz : Nat} {L : Nat → Ty → Prop} {Q : World → Prop} {μ : Nat → Option Nat} (hz : SzAt w mz μ) (hq : Q w') (h : (w.alloc (.map #[] 0)).alloc (.cells #[Ptr u, .map (some mz), .map (some w.heap.size)] 182) = w') : CsAt u ml mz w.heap.size (w.heap.size + 1) L Q μ w' ∧ Fr No w w' := by
  have hf : Fr No w w' := by subst h; exact ((Fr.refl No w).alloc _).alloc _
  refine ⟨⟨hq, by subst h; exact Blk.new_at _ _ _ (by simp), hz.fr hf (fun h => h), 0, fun _ => none, ?_, fun p v h => by cases h⟩, hf⟩
  subst h
  exact (MapAt.made w _).keep (Below.heap_alloc _ _ _ (by simp))

theorem Fresh.no {q m : Nat} {ps : List Nat} {D : List Ty} {u ml ms : Nat} {w w' : World} (h : Fresh q m ps D u ml ms w) (hf : Fr No w w') : Fresh q m ps D u ml ms w' :=
  ⟨h.pool.fr hf (fun h => h) (fun h => h) (fun _ _ h => h), h.blk.fr hf (fun h => h), h.map.keep (hf.block ml h.map.lt (fun h => h))⟩

theorem CsAt.cellG {u ml mz mk c : Nat} {own : Nat → Prop} {L : Nat → Ty → Prop} {Q : World → Prop} {μ : Nat → Option Nat} {w w' : World} (hL : Lead u ml own L Q) (h : CsAt u ml mz mk c L Q μ w) {P : Nat} {ty0 : TypeId} {cs : Array Value} (hb : Blk w P ty0 cs) (h1 : ty0 ≠ 182) (h2 : ty0 ≠ 87) (hown : ¬ own P) (hf : Fr (One P) w w') : CsAt u ml mz mk c L Q μ w' := by
  have nt : ∀ g ty cs', Blk w g ty cs' → ty ≠ ty0 → ¬ One P g := fun g ty cs' hg ht e => by
    have e : g = P := e
    subst e
    exact ht (hg.eq hb).1
  obtain ⟨k, f, k1, k2⟩ := h.kn
  have hk : KeepS w w' := fun g cs' hg => hg.fr hf (nt _ _ _ hg (fun e => h2 e.symm))
  refine ⟨hL.keep w w' _ h.q hf (fun b e => by have e : b = P := e; rw [e]; exact hown), h.blk.fr hf (nt _ _ _ h.blk (fun e => h1 e.symm)), h.sz.fr hf ?_, k, f, k1.keep (hf.block mk k1.lt ?_), fun p v hp => ?_⟩
  · intro e
    have e : mz = P := e
    obtain ⟨_, _, ⟨es, clk, hm, _⟩, _⟩ := h.sz
    exact hb.ne_map hm e.symm
  · intro e
    have e : mk = P := e
    obtain ⟨es, clk, hm, _⟩ := k1
    exact hb.ne_map hm e.symm
  · obtain ⟨t, g1, g2⟩ := k2 p v hp
    exact ⟨t, g1, g2.keep hk⟩

theorem SetV.ptr {w : World} {μ : Nat → Option Nat} {t : Ty} {v : Value} (h : SetV w μ t v) : ∃ a : Option Addr, v = .pointer a := by
  rcases hk : t.kn μ with _ | c
  · exact ⟨none, h.none_ hk⟩
  · obtain ⟨g, x, y, e, _⟩ := h.some_ hk
    exact ⟨_, e⟩

/-- the other counter -/
theorem CsAt.other {u ml mz mk c mk1 : Nat} {own : Nat → Prop} {L : Nat → Ty → Prop} {Q : World → Prop} {μ : Nat → Option Nat} {w w' : World} (h : CsAt u ml mz mk c L Q μ w) (hO : CsOk ml mz mk own μ) (hm : ∀ b, Two ml mk1 b → ∃ es clk, w.heap[b]? = some (.map es clk)) (hq : Q w') (h1 : mk1 ≠ mz) (h2 : mk1 ≠ mk) (hf : Fr (Two ml mk1) w w') : CsAt u ml mz mk c L Q μ w' :=
  h.fr hf hq fun b hb => ⟨.inl (hm b hb), by
    rcases hb with e | e
    · rw [e]; exact fun e => hO.zl e.symm
    · rw [e]; exact h1, by
    rcases hb with e | e
    · rw [e]; exact fun e => hO.kl e.symm
    · rw [e]; exact h2⟩

/-- sizes in range -/
def In3 (m n : Int) : Prop := 1 ≤ m ∧ m ≤ 3 ∧ 1 ≤ n ∧ n ≤ 3

/-- where the parts of a type with sizes lie -/
structure PtD where
  q : Nat
  mm : Nat
  u : Nat
  ml : Nat
  ms : Nat
  c1 : Nat
  mz1 : Nat
  mk1 : Nat
  c2 : Nat
  mz2 : Nat
  mk2 : Nat
  kind : Nat
  gl : Nat
  gr : Nat
  ps : List Nat
  D : List Ty

def PtD.own (d : PtD) : Nat → Prop := fun b => b = d.q ∨ b = d.mm ∨ b ∈ d.ps ∨ b = d.u ∨ b = d.ml
def PtD.L (d : PtD) : Nat → Ty → Prop := fun p t => Has d.ps d.D t p
def PtD.Q (d : PtD) : World → Prop := Fresh d.q d.mm d.ps d.D d.u d.ml d.ms

structure PtIs (d : PtD) (w : World) (T : Nat) (t : Ty) (m n c c' lo hi : Nat) : Prop where
  blk : Blk w T 76 #[Ptr d.kind, .int .i64 0, .int .i64 m, .int .i64 n, Ptr d.c1, Ptr d.c2, Ptr d.gl, Ptr d.gr]
  has : Has d.ps d.D t d.kind
  cs1 : CsAt d.u d.ml d.mz1 d.mk1 d.c1 d.L d.Q (sz1 m) w
  cs2 : CsAt d.u d.ml d.mz2 d.mk2 d.c2 d.L d.Q (sz1 n) w
  ok1 : CsOk d.ml d.mz1 d.mk1 d.own (sz1 m)
  ok2 : CsOk d.ml d.mz2 d.mk2 d.own (sz1 n)
  kk : d.mk1 ≠ d.mk2
  z1 : d.mz1 ≠ d.mk2
  z2 : d.mz2 ≠ d.mk1
  sl : SetI w d.gl c
  sr : SetI w d.gr c'
  low : lo ≤ d.ml ∧ lo ≤ d.mk1 ∧ lo ≤ d.mk2
  high : (∀ b, d.own b → b < hi) ∧ d.mz1 < hi ∧ d.mz2 < hi ∧ d.mk1 < hi ∧ d.mk2 < hi

/-- what readParamType answers -/
def PtP (s : List UInt8) (m n : Int) (w : World) (e : Ending) (w' : World) : Prop :=
  Fr No w w' ∧ ((∃ (t : Ty) (T mN nN c c' : Nat) (d : PtD), Ty.Is s t ∧ OnlyA t ∧ m = mN ∧ n = nN ∧ In3 m n ∧ t.kn (sz1 mN) = some c ∧ t.kn (sz1 nN) = some c' ∧ e = .returned (Ptr T) ∧ PtIs d w' T t mN nN c c' w.heap.size w'.heap.size) ∨
    ((∀ (t : Ty) (mN nN c c' : Nat), Ty.Is s t → OnlyA t → m = mN → n = nN → In3 m n → t.kn (sz1 mN) = some c → t.kn (sz1 nN) = some c' → False) ∧ e = .returned (.pointer none)))

set_option maxRecDepth 100000 in
set_option maxHeartbeats 4000000 in
theorem readParamType_any (w : World) (s : List UInt8) (m n : Int) (hs : s.length ≤ maxLen) :
    Calls Tryd.prog 58 #[S s, .int .i64 m, .int .i64 n, .int .i64 3] w fun e w' => PtP s m n w e w' := by
  have hmm := @run_makeMap Tryd.prog
  have HMM := Lib.hid hmm
  clear hmm
  go_enter Tryd.func58, Tryd.ntmps58
  go_wp2_with fail
  refine (newPool_any _).mono ?_
  rintro e w1 ⟨rfl, rfl⟩
  have hP := pool_start w
  have hf0 : Fr No w ((w.alloc (.map #[] 0)).alloc (.cells #[.map (some w.heap.size)] 163)) := ((Fr.refl _ _).alloc _).alloc _
  generalize (w.alloc (.map #[] 0)).alloc (.cells #[.map (some w.heap.size)] 163) = w1 at hP hf0 ⊢
  go_wp2_with fail
  refine (readParam_any w1 _ _ [] [] s hP hs).mono ?_
  rintro e w2 ⟨ps, D, hP2, hg, hf, hor⟩
  have hfr : Fr No w w2 := hf0.then_ hf (fun i hi e => by unfold One at e; omega)
  clear hf hf0 hP hg
  rcases hor with ⟨t, p, hi, ha, hh, he⟩ | ⟨hno, he⟩
  · obtain rfl := he
    have HI := Lib.hid hi
    have HA := Lib.hid ha
    by_cases h3 : In3 m n
    · obtain ⟨m1, m2, n1, n2⟩ := h3
      obtain ⟨mN, rfl⟩ : ∃ mN : Nat, m = mN := ⟨m.toNat, by omega⟩
      obtain ⟨nN, rfl⟩ : ∃ nN : Nat, n = nN := ⟨n.toNat, by omega⟩
      have H3 : Hid (In3 (mN : Int) (nN : Int)) := ⟨m1, m2, n1, n2⟩
      have g1 : ¬ min (mN : Int) (nN : Int) < 1 := by omega
      have g2 : ¬ 3 < max (mN : Int) (nN : Int) := by omega
      have HF2 := Lib.hid hfr
      obtain ⟨u, hu⟩ : ∃ u, u = w2.heap.size + 2 := ⟨_, rfl⟩
      have hlow := hP2.low
      clear hi ha hfr
      go_wp2_with fail
      refine (newUnion_any _ _).mono ?_
      rintro e w3 ⟨rfl, hw3⟩
      have hf23 : Fr No w2 w3 := by subst hw3; exact (((Fr.refl No w2).alloc _).alloc _).alloc _
      have hFr3 : Fresh (w.heap.size + 1) w.heap.size ps D u w2.heap.size (w2.heap.size + 1) w3 := by
        refine ⟨hP2.fr hf23 (fun h => h) (fun h => h) (fun _ _ h => h), ?_, ?_⟩
        · subst hw3 hu; exact Blk.new_at _ _ _ (by simp)
        · subst hw3
          exact (MapAt.made w2 encI).keep ((Below.heap_alloc _ _ _ (by simp; omega)).trans (Below.heap_alloc _ _ _ (by simp)))
      rw [← hu]
      have HU : Hid (u = w2.heap.size + 2 ∧ w.heap.size < w2.heap.size ∧ w.heap.size + 1 < w2.heap.size) := ⟨hu, hlow.2.1, hlow.1⟩
      have HF3 := Lib.hid (HF2.out.trans hf23)
      have HFR3 := Lib.hid hFr3
      clear hw3 hP2 hu hlow hf23 hFr3 HF2
      go_wp2_with fail
      refine (readVar_any w3 _ _ ps D [97] HFR3.out.pool (by decide)).mono ?_
      rintro e w4 ⟨ps2, D2, hP4, hg4, hf4, hor2⟩
      obtain ⟨pa, hpa, rfl⟩ : ∃ pa, Has ps2 D2 (.v 0) pa ∧ e = .returned (Ptr pa) := by
        rcases hor2 with ⟨i, pa, hi25, hle, hpa, he⟩ | ⟨hno, _⟩
        · injection hle with hle
          have : i = 0 := (Ty.letter_inj (by decide) hi25 (show Ty.letter 0 = Ty.letter i from hle)).symm
          subst this
          exact ⟨pa, hpa, he⟩
        · exact absurd rfl (hno 0 (by decide))
      have hFr4 : Fresh (w.heap.size + 1) w.heap.size ps2 D2 u w2.heap.size (w2.heap.size + 1) w4 := ⟨hP4, HFR3.out.blk.fr hf4 (fun h => by have h : u = w.heap.size := h; have := HU.out; omega), HFR3.out.map.keep (hf4.block _ HFR3.out.map.lt (fun h => by have h : w2.heap.size = w.heap.size := h; have := HU.out; omega))⟩
      have hhp := hh.grew hg4
      have HF4 : Hid (Fr No w w4) := HF3.out.then_ hf4 (fun i hi h => by have h : i = w.heap.size := h; omega)
      obtain ⟨ya, yb, yc, hba, _⟩ := hpa.blk hP4
      have cpa : w4.cell? ⟨pa, 1, none⟩ = some (.int .i64 0) := (hba.cell 1).trans rfl
      have lpa := hba.lt
      have HFR4 := Lib.hid hFr4
      have HHP := Lib.hid hhp
      have HUL : Hid (w2.heap.size < w4.heap.size ∧ u < w4.heap.size) := ⟨hFr4.map.lt, hFr4.blk.lt⟩
      clear hP4 hg4 hf4 hor2 hpa hFr4 hhp hh hba HFR3 HF3
      have hfa : Fr No w4 (w4.alloc (.cells #[Ptr p, .int .i64 0, .int .i64 mN, .int .i64 nN, .pointer none, .pointer none, .pointer none, .pointer none] 76)) := (Fr.refl No w4).alloc _
      have hT5 : Blk (w4.alloc (.cells #[Ptr p, .int .i64 0, .int .i64 mN, .int .i64 nN, .pointer none, .pointer none, .pointer none, .pointer none] 76)) w4.heap.size 76 #[Ptr p, .int .i64 0, .int .i64 mN, .int .i64 nN, .pointer none, .pointer none, .pointer none, .pointer none] := Blk.new _ _ _
      have hz5 : (w4.alloc (.cells #[Ptr p, .int .i64 0, .int .i64 mN, .int .i64 nN, .pointer none, .pointer none, .pointer none, .pointer none] 76)).heap.size = w4.heap.size + 1 := by simp
      obtain ⟨w6, hrun1, hsz1, hf6⟩ := sz_made (w4.alloc (.cells #[Ptr p, .int .i64 0, .int .i64 mN, .int .i64 nN, .pointer none, .pointer none, .pointer none, .pointer none] 76)) mN
      rw [hz5] at hrun1 hsz1
      have hT6 := hT5.fr hf6 (fun h => h)
      have HF6 := Lib.hid (HF4.out.trans (hfa.trans hf6))
      have HFR6 := Lib.hid (HFR4.out.no (hfa.trans hf6))
      have HS6 := Lib.hid hsz1
      have HT6 := Lib.hid hT6
      have HZ6 : Hid (w4.heap.size + 1 < w6.heap.size) := by obtain ⟨k, f, h, _⟩ := hsz1; exact h.lt
      have hmm := HMM.out
      clear hfa hT5 hT6 hsz1 hf6 hz5
      go_wp2_with fail
      clear hrun1 hmm
      refine (newCounter_any _ _ _).mono ?_
      rintro e w7 ⟨rfl, hw7⟩
      obtain ⟨hcs1, hf7⟩ := cs_made (L := fun p t => Has ps2 D2 t p) (Q := Fresh (w.heap.size + 1) w.heap.size ps2 D2 u w2.heap.size (w2.heap.size + 1)) HS6.out (HFR6.out.no (by subst hw7; exact ((Fr.refl No w6).alloc _).alloc _)) hw7
      have hT7 := HT6.out.fr hf7 (fun h => h)
      have hown : ¬ (w4.heap.size = w.heap.size + 1 ∨ w4.heap.size = w.heap.size ∨ w4.heap.size ∈ ps2 ∨ w4.heap.size = u ∨ w4.heap.size = w2.heap.size) := by
        have h1 := HUL.out
        have h2 := HU.out
        have h3 := HFR4.out.pool.low
        rintro (h | h | h | h | h)
        · omega
        · omega
        · have := h3.2.2 _ h; omega
        · omega
        · omega
      have HOWN := Lib.hid hown
      have hf78 : Fr (One w4.heap.size) w7 (w7.setCell ⟨w4.heap.size, 4, none⟩ (Ptr (w6.heap.size + 1))) := (Fr.refl (One w4.heap.size) w7).setCell (p := ⟨w4.heap.size, 4, none⟩) (.inl rfl) _
      have hcs8 := hcs1.cellG (lead_fresh (w.heap.size + 1) w.heap.size ps2 D2 u w2.heap.size (w2.heap.size + 1)) hT7 (by decide) (by decide) hown hf78
      have hT8 := hT7.set_ 4 (Ptr (w6.heap.size + 1))
      have hz8 : (w7.setCell ⟨w4.heap.size, 4, none⟩ (Ptr (w6.heap.size + 1))).heap.size = w7.heap.size := by simp [World.setCell]
      have HZ7 : Hid (w6.heap.size + 1 < w7.heap.size) := hcs1.blk.lt
      have hf08 : Fr No w4 w7 → Fr No w4 (w7.setCell ⟨w4.heap.size, 4, none⟩ (Ptr (w6.heap.size + 1))) := fun h => h.setCell (p := ⟨w4.heap.size, 4, none⟩) (.inr (Nat.le_refl _)) _
      have HF8 : Hid (Fr No w (w7.setCell ⟨w4.heap.size, 4, none⟩ (Ptr (w6.heap.size + 1)))) := (HF6.out.trans hf7).setCell (p := ⟨w4.heap.size, 4, none⟩) (.inr HF4.out.size) _
      obtain ⟨w9, hrun2, hsz2, hf9⟩ := sz_made (w7.setCell ⟨w4.heap.size, 4, none⟩ (Ptr (w6.heap.size + 1))) nN
      rw [hz8] at hrun2 hsz2
      have hT9 := hT8.fr hf9 (fun h => h)
      have HC9 := Lib.hid (hcs8.no (lead_fresh (w.heap.size + 1) w.heap.size ps2 D2 u w2.heap.size (w2.heap.size + 1)) hf9)
      have HT9 := Lib.hid hT9
      have HF9 := Lib.hid (HF8.out.trans hf9)
      have HS9 := Lib.hid hsz2
      have HZ9 : Hid (w7.heap.size < w9.heap.size) := by obtain ⟨k, f, h, _⟩ := hsz2; exact h.lt
      have c0 : w7.cell? ⟨w4.heap.size, 4, none⟩ = some (.pointer none) := (hT7.cell 4).trans rfl
      have c1 : w7.cell? ⟨w4.heap.size, 1, none⟩ = some (.int .i64 0) := (hT7.cell 1).trans rfl
      have f0 := hT7.frozen 4
      have l0 := hT7.lt
      have hmm := HMM.out
      clear hcs1 hf7 hT7 hf78 hcs8 hT8 hz8 hf08 hsz2 hf9 hT9 hown hw7 lpa cpa
      go_wp2_with fail
      clear hrun2 hmm
      refine (newCounter_any _ _ _).mono ?_
      rintro e w10 ⟨rfl, hw10⟩
      obtain ⟨hcs2, hf10⟩ := cs_made (L := fun p t => Has ps2 D2 t p) (Q := Fresh (w.heap.size + 1) w.heap.size ps2 D2 u w2.heap.size (w2.heap.size + 1)) HS9.out (HC9.out.q.no (by subst hw10; exact ((Fr.refl No w9).alloc _).alloc _)) hw10
      have hcs1 := HC9.out.no (lead_fresh (w.heap.size + 1) w.heap.size ps2 D2 u w2.heap.size (w2.heap.size + 1)) hf10
      have hT10 := HT9.out.fr hf10 (fun h => h)
      have hf1011 : Fr (One w4.heap.size) w10 (w10.setCell ⟨w4.heap.size, 5, none⟩ (Ptr (w9.heap.size + 1))) := (Fr.refl (One w4.heap.size) w10).setCell (p := ⟨w4.heap.size, 5, none⟩) (.inl rfl) _
      have h1C := hcs1.cellG (lead_fresh (w.heap.size + 1) w.heap.size ps2 D2 u w2.heap.size (w2.heap.size + 1)) hT10 (by decide) (by decide) HOWN.out hf1011
      have h2C := hcs2.cellG (lead_fresh (w.heap.size + 1) w.heap.size ps2 D2 u w2.heap.size (w2.heap.size + 1)) hT10 (by decide) (by decide) HOWN.out hf1011
      have hT11 : Blk (w10.setCell ⟨w4.heap.size, 5, none⟩ (Ptr (w9.heap.size + 1))) w4.heap.size 76 #[Ptr p, .int .i64 0, .int .i64 mN, .int .i64 nN, Ptr (w6.heap.size + 1), Ptr (w9.heap.size + 1), .pointer none, .pointer none] := hT10.set_ 5 (Ptr (w9.heap.size + 1))
      have HF11 : Hid (Fr No w (w10.setCell ⟨w4.heap.size, 5, none⟩ (Ptr (w9.heap.size + 1)))) := (HF9.out.trans hf10).setCell (p := ⟨w4.heap.size, 5, none⟩) (.inr HF4.out.size) _
      have HORD : Hid (w.heap.size + 1 < w2.heap.size ∧ w2.heap.size < w4.heap.size ∧ u < w4.heap.size ∧ w4.heap.size + 1 < w6.heap.size ∧ w6.heap.size + 1 < w7.heap.size ∧ w7.heap.size < w9.heap.size ∧ w.heap.size ≤ w4.heap.size) := ⟨HU.out.2.2, HUL.out.1, HUL.out.2, HZ6.out, HZ7.out, HZ9.out, HF4.out.size⟩
      have hord := HORD.out
      have hpl := HFR4.out.pool.low
      have ownlt : ∀ b, ((fun b => b = w.heap.size + 1 ∨ b = w.heap.size ∨ b ∈ ps2 ∨ b = u ∨ b = w2.heap.size) b) → b < w4.heap.size := by
        rintro b (h | h | h | h | h)
        · omega
        · omega
        · exact hpl.2.2 _ h
        · omega
        · omega
      have O1 : CsOk w2.heap.size (w4.heap.size + 1) w6.heap.size (fun b => b = w.heap.size + 1 ∨ b = w.heap.size ∨ b ∈ ps2 ∨ b = u ∨ b = w2.heap.size) (sz1 mN) := ⟨by omega, by omega, by omega, fun h => by have := ownlt _ h; omega, sz1_sizes (by omega) (by omega)⟩
      have O2 : CsOk w2.heap.size w7.heap.size w9.heap.size (fun b => b = w.heap.size + 1 ∨ b = w.heap.size ∨ b ∈ ps2 ∨ b = u ∨ b = w2.heap.size) (sz1 nN) := ⟨by omega, by omega, by omega, fun h => by have := ownlt _ h; omega, sz1_sizes (by omega) (by omega)⟩
      have c0 : w10.cell? ⟨w4.heap.size, 5, none⟩ = some (.pointer none) := (hT10.cell 5).trans rfl
      have f0 := hT10.frozen 5
      have l0 := hT10.lt
      have SS : Hid (∀ w' t' cs, Blk w' w4.heap.size t' cs → t' = 76 → cs = #[Ptr p, .int .i64 0, .int .i64 mN, .int .i64 nN, Ptr (w6.heap.size + 1), Ptr (w9.heap.size + 1), .pointer none, .pointer none] → w'.cell? ⟨w4.heap.size, 4, none⟩ = some (Ptr (w6.heap.size + 1)) ∧ w'.cell? ⟨w4.heap.size, 5, none⟩ = some (Ptr (w9.heap.size + 1)) ∧ w'.cell? ⟨w4.heap.size, 6, none⟩ = some (.pointer none) ∧ w'.cell? ⟨w4.heap.size, 7, none⟩ = some (.pointer none) ∧ w'.frozen? ⟨w4.heap.size, 6, none⟩ = false ∧ w'.frozen? ⟨w4.heap.size, 7, none⟩ = false ∧ w4.heap.size < w'.heap.size) := fun w' t' cs h e1 e2 => by
        subst e1 e2
        exact ⟨(h.cell 4).trans rfl, (h.cell 5).trans rfl, (h.cell 6).trans rfl, (h.cell 7).trans rfl, h.frozen 6, h.frozen 7, h.lt⟩
      have A1 : Hid (Calls Tryd.prog 97 #[Ptr (w6.heap.size + 1), Ptr p] (w10.setCell ⟨w4.heap.size, 5, none⟩ (Ptr (w9.heap.size + 1))).drew fun e w' => ∃ a : Option Addr, e = .returned (.pointer a) ∧ Hid (SetV w' (sz1 mN) t (.pointer a) ∧ (CsAt u w2.heap.size (w4.heap.size + 1) w6.heap.size (w6.heap.size + 1) (fun p t => Has ps2 D2 t p) (Fresh (w.heap.size + 1) w.heap.size ps2 D2 u w2.heap.size (w2.heap.size + 1)) (sz1 mN)) w' ∧ (CsAt u w2.heap.size w7.heap.size w9.heap.size (w9.heap.size + 1) (fun p t => Has ps2 D2 t p) (Fresh (w.heap.size + 1) w.heap.size ps2 D2 u w2.heap.size (w2.heap.size + 1)) (sz1 nN)) w' ∧ Blk w' w4.heap.size 76 #[Ptr p, .int .i64 0, .int .i64 mN, .int .i64 nN, Ptr (w6.heap.size + 1), Ptr (w9.heap.size + 1), .pointer none, .pointer none] ∧ Fr No w w')) := by
        have hd := (Fr.refl No (w10.setCell ⟨w4.heap.size, 5, none⟩ (Ptr (w9.heap.size + 1)))).drew
        have h1D := h1C.no (lead_fresh (w.heap.size + 1) w.heap.size ps2 D2 u w2.heap.size (w2.heap.size + 1)) hd
        have h2D := h2C.no (lead_fresh (w.heap.size + 1) w.heap.size ps2 D2 u w2.heap.size (w2.heap.size + 1)) hd
        refine (ofs_any (lead_fresh (w.heap.size + 1) w.heap.size ps2 D2 u w2.heap.size (w2.heap.size + 1)) O1 t _ p h1D HHP.out).mono ?_
        rintro e w' ⟨v, rfl, hv, hc, hf⟩
        obtain ⟨a, rfl⟩ := hv.ptr
        have hm := h1D.maps (lead_fresh (w.heap.size + 1) w.heap.size ps2 D2 u w2.heap.size (w2.heap.size + 1))
        refine ⟨a, rfl, hv, hc, h2D.other O2 hm hc.q (by omega) (by omega) hf, (hT11.fr hd (fun h => h)).fr hf (fun h => by obtain ⟨es, clk, e⟩ := hm _ h; exact (hT11.fr hd (fun h => h)).ne_map e rfl), (HF11.out.trans hd).then_ hf (fun i hi h => ?_)⟩
        rcases h with h | h
        · omega
        · omega
      have B1 : Hid (∀ w12 a, (SetV w12 (sz1 mN) t (.pointer a) ∧ (CsAt u w2.heap.size (w4.heap.size + 1) w6.heap.size (w6.heap.size + 1) (fun p t => Has ps2 D2 t p) (Fresh (w.heap.size + 1) w.heap.size ps2 D2 u w2.heap.size (w2.heap.size + 1)) (sz1 mN)) w12 ∧ (CsAt u w2.heap.size w7.heap.size w9.heap.size (w9.heap.size + 1) (fun p t => Has ps2 D2 t p) (Fresh (w.heap.size + 1) w.heap.size ps2 D2 u w2.heap.size (w2.heap.size + 1)) (sz1 nN)) w12 ∧ Blk w12 w4.heap.size 76 #[Ptr p, .int .i64 0, .int .i64 mN, .int .i64 nN, Ptr (w6.heap.size + 1), Ptr (w9.heap.size + 1), .pointer none, .pointer none] ∧ Fr No w w12) → Calls Tryd.prog 97 #[Ptr (w9.heap.size + 1), Ptr p] w12 fun e w' => ∃ a' : Option Addr, e = .returned (.pointer a') ∧ Hid (SetV w' (sz1 mN) t (.pointer a) ∧ SetV w' (sz1 nN) t (.pointer a') ∧ (CsAt u w2.heap.size (w4.heap.size + 1) w6.heap.size (w6.heap.size + 1) (fun p t => Has ps2 D2 t p) (Fresh (w.heap.size + 1) w.heap.size ps2 D2 u w2.heap.size (w2.heap.size + 1)) (sz1 mN)) w' ∧ (CsAt u w2.heap.size w7.heap.size w9.heap.size (w9.heap.size + 1) (fun p t => Has ps2 D2 t p) (Fresh (w.heap.size + 1) w.heap.size ps2 D2 u w2.heap.size (w2.heap.size + 1)) (sz1 nN)) w' ∧ Blk w' w4.heap.size 76 #[Ptr p, .int .i64 0, .int .i64 mN, .int .i64 nN, Ptr (w6.heap.size + 1), Ptr (w9.heap.size + 1), .pointer none, .pointer none] ∧ Fr No w w')) := by
        rintro w12 a ⟨hv1, h1D, h2D, hT12, hf12⟩
        refine (ofs_any (lead_fresh (w.heap.size + 1) w.heap.size ps2 D2 u w2.heap.size (w2.heap.size + 1)) O2 t _ p h2D HHP.out).mono ?_
        rintro e w' ⟨v, rfl, hv, hc, hf⟩
        obtain ⟨a', rfl⟩ := hv.ptr
        have hm := h2D.maps (lead_fresh (w.heap.size + 1) w.heap.size ps2 D2 u w2.heap.size (w2.heap.size + 1))
        refine ⟨a', rfl, hv1.keep (KeepS.fr hf fun b hb => .inl (hm b hb)), hv, h1D.other O1 hm hc.q (by omega) (by omega) hf, hc, hT12.fr hf (fun h => by obtain ⟨es, clk, e⟩ := hm _ h; exact hT12.ne_map e rfl), hf12.then_ hf (fun i hi h => ?_)⟩
        rcases h with h | h
        · omega
        · omega
      have FIN : Hid (∀ (w13 w14 : World) (a a' : Option Addr), (SetV w13 (sz1 mN) t (.pointer a) ∧ SetV w13 (sz1 nN) t (.pointer a') ∧ (CsAt u w2.heap.size (w4.heap.size + 1) w6.heap.size (w6.heap.size + 1) (fun p t => Has ps2 D2 t p) (Fresh (w.heap.size + 1) w.heap.size ps2 D2 u w2.heap.size (w2.heap.size + 1)) (sz1 mN)) w13 ∧ (CsAt u w2.heap.size w7.heap.size w9.heap.size (w9.heap.size + 1) (fun p t => Has ps2 D2 t p) (Fresh (w.heap.size + 1) w.heap.size ps2 D2 u w2.heap.size (w2.heap.size + 1)) (sz1 nN)) w13 ∧ Blk w13 w4.heap.size 76 #[Ptr p, .int .i64 0, .int .i64 mN, .int .i64 nN, Ptr (w6.heap.size + 1), Ptr (w9.heap.size + 1), .pointer none, .pointer none] ∧ Fr No w w13) → w14 = (w13.setCell ⟨w4.heap.size, 6, none⟩ (.pointer a)).setCell ⟨w4.heap.size, 7, none⟩ (.pointer a') →
          (t.kn (sz1 mN) = none ∨ t.kn (sz1 nN) = none → PtP s mN nN w (.returned (.pointer none)) w14) ∧ (∀ c c', t.kn (sz1 mN) = some c → t.kn (sz1 nN) = some c' → PtP s mN nN w (.returned (Ptr w4.heap.size)) w14)) := by
        rintro w13 w14 a a' ⟨hv1, hv2, h1D, h2D, hT13, hf13⟩ e14
        have hfs : Fr (One w4.heap.size) w13 w14 := by rw [e14]; exact ((Fr.refl (One w4.heap.size) w13).setCell (p := ⟨w4.heap.size, 6, none⟩) (.inl rfl) _).setCell (p := ⟨w4.heap.size, 7, none⟩) (.inl rfl) _
        have hf14 : Fr No w w14 := hf13.then_ hfs (fun i hi h => by have h : i = w4.heap.size := h; omega)
        refine ⟨fun hn => ⟨hf14, .inr ⟨fun t' mN' nN' c c' h1 h2 h3 h4 _ h5 h6 => ?_, rfl⟩⟩, fun c c' hk1 hk2 => ?_⟩
        · have := h1.unique HI.out
          subst this
          have e1 : mN' = mN := by omega
          have e2 : nN' = nN := by omega
          subst e1 e2
          rcases hn with hn | hn
          · rw [hn] at h5; cases h5
          · rw [hn] at h6; cases h6
        · obtain ⟨gl, x, y, ea, hgl⟩ := hv1.some_ hk1
          obtain ⟨gr, x', y', ea', hgr⟩ := hv2.some_ hk2
          have nt : ∀ g ty cs', Blk w13 g ty cs' → ty ≠ 76 → ¬ One w4.heap.size g := fun g ty cs' hg ht e => by
            have e : g = w4.heap.size := e
            subst e
            exact ht (hg.eq hT13).1
          have hT14 : Blk w14 w4.heap.size 76 #[Ptr p, .int .i64 0, .int .i64 mN, .int .i64 nN, Ptr (w6.heap.size + 1), Ptr (w9.heap.size + 1), Ptr gl, Ptr gr] := by
            rw [e14, ea, ea']
            exact (hT13.set_ 6 (Ptr gl)).set_ 7 (Ptr gr)
          have h14 : w9.heap.size < w14.heap.size ∧ w4.heap.size < w14.heap.size := by
            obtain ⟨k, f, hk, _⟩ := h2D.kn
            have := hk.lt
            have := hfs.size
            exact ⟨by omega, by omega⟩
          exact ⟨hf14, .inl ⟨t, w4.heap.size, mN, nN, c, c', ⟨w.heap.size + 1, w.heap.size, u, w2.heap.size, w2.heap.size + 1, w6.heap.size + 1, w4.heap.size + 1, w6.heap.size, w9.heap.size + 1, w7.heap.size, w9.heap.size, p, gl, gr, ps2, D2⟩, HI.out, HA.out, rfl, rfl, H3.out, hk1, hk2, rfl, ⟨hT14, HHP.out, h1D.cellG (lead_fresh (w.heap.size + 1) w.heap.size ps2 D2 u w2.heap.size (w2.heap.size + 1)) hT13 (by decide) (by decide) HOWN.out hfs, h2D.cellG (lead_fresh (w.heap.size + 1) w.heap.size ps2 D2 u w2.heap.size (w2.heap.size + 1)) hT13 (by decide) (by decide) HOWN.out hfs, O1, O2, by show w6.heap.size ≠ w9.heap.size; omega, by show w4.heap.size + 1 ≠ w9.heap.size; omega, by show w7.heap.size ≠ w6.heap.size; omega, ⟨_, _, _, _, hgl.fr hfs (nt _ _ _ hgl (by decide))⟩, ⟨_, _, _, _, hgr.fr hfs (nt _ _ _ hgr (by decide))⟩, ⟨by show w.heap.size ≤ w2.heap.size; omega, by show w.heap.size ≤ w6.heap.size; omega, by show w.heap.size ≤ w9.heap.size; omega⟩, fun b hb => by have := ownlt b hb; omega, by show w4.heap.size + 1 < _; omega, by show w7.heap.size < _; omega, by show w6.heap.size < _; omega, by show w9.heap.size < _; omega⟩⟩⟩
      have KS : Hid (∀ (w' : World) (v v2 : Value), Blk w' w4.heap.size 76 #[Ptr p, .int .i64 0, .int .i64 mN, .int .i64 nN, Ptr (w6.heap.size + 1), Ptr (w9.heap.size + 1), .pointer none, .pointer none] → ((w'.setCell ⟨w4.heap.size, 6, none⟩ v).cell? ⟨w4.heap.size, 4, none⟩ = some (Ptr (w6.heap.size + 1)) ∧ (w'.setCell ⟨w4.heap.size, 6, none⟩ v).cell? ⟨w4.heap.size, 5, none⟩ = some (Ptr (w9.heap.size + 1))) ∧
          (((w'.setCell ⟨w4.heap.size, 6, none⟩ v).setCell ⟨w4.heap.size, 7, none⟩ v2).cell? ⟨w4.heap.size, 4, none⟩ = some (Ptr (w6.heap.size + 1)) ∧ ((w'.setCell ⟨w4.heap.size, 6, none⟩ v).setCell ⟨w4.heap.size, 7, none⟩ v2).cell? ⟨w4.heap.size, 5, none⟩ = some (Ptr (w9.heap.size + 1)))) := fun w' v v2 h => by
        have h6 := h.set_ 6 v
        have h7 := h6.set_ 7 v2
        exact ⟨⟨(h6.cell 4).trans rfl, (h6.cell 5).trans rfl⟩, (h7.cell 4).trans rfl, (h7.cell 5).trans rfl⟩
      obtain ⟨s4, s5, _, _, _, _, _⟩ := SS.out _ _ _ hT11 rfl rfl
      clear hcs2 hf10 hcs1 hT10 hf1011 h1C h2C hT11 hord hpl ownlt O1 O2 hw10
      go_wp2_with fail
      go_region_held3 (fun w' => w'.cell? ⟨w4.heap.size, 4, none⟩ = some (Ptr (w6.heap.size + 1)) ∧ w'.cell? ⟨w4.heap.size, 5, none⟩ = some (Ptr (w9.heap.size + 1))) (first | (exact (KS.out w13 _ (.pointer none) HA2.out.2.2.2.2.1).1) | (exact (KS.out w13 _ _ HA2.out.2.2.2.2.1).2) | go_keep)
        (first | (go_at_call 97; ((with_reducible refine A1.out.mono ?_); rintro e w12 ⟨a1, rfl, HA1⟩; obtain ⟨t4, t5, _, _, _, _, _⟩ := SS.out _ _ _ HA1.out.2.2.2.1 rfl rfl)) | (go_at_call 97; ((with_reducible refine (B1.out w12 a1 HA1.out).mono ?_); rintro e w13 ⟨a2, rfl, HA2⟩; obtain ⟨r4, r5, r6, r7, r8, r9, r10⟩ := SS.out _ _ _ HA2.out.2.2.2.2.1 rfl rfl)))
      have hT14 : Blk ((w13.setCell ⟨w4.heap.size, 6, none⟩ (.pointer a1)).setCell ⟨w4.heap.size, 7, none⟩ (.pointer a2)) w4.heap.size 76 #[Ptr p, .int .i64 0, .int .i64 mN, .int .i64 nN, Ptr (w6.heap.size + 1), Ptr (w9.heap.size + 1), .pointer a1, .pointer a2] := (HA2.out.2.2.2.2.1.set_ 6 (.pointer a1)).set_ 7 (.pointer a2)
      have HFIN := Lib.hid (FIN.out w13 _ a1 a2 HA2.out rfl)
      have HV := Lib.hid (And.intro HA2.out.1 HA2.out.2.1)
      clear A1 B1 FIN KS SS r4 r5 r6 r7 r8 r9 r10 t4 t5 s4 s5 HA1 HA2 HMM HFR4 HU HUL HF4 HFR6 HS6 HT6 HC9 HT9 HS9 HF6 HF8 HF9 HF11 HHP HOWN
      generalize ((w13.setCell ⟨w4.heap.size, 6, none⟩ (.pointer a1)).setCell ⟨w4.heap.size, 7, none⟩ (.pointer a2)) = w14 at hT14 HFIN ⊢
      have e6 : w14.cell? ⟨w4.heap.size, 6, none⟩ = some (.pointer a1) := (hT14.cell 6).trans rfl
      have e7 : w14.cell? ⟨w4.heap.size, 7, none⟩ = some (.pointer a2) := (hT14.cell 7).trans rfl
      clear hT14
      rcases hk1 : t.kn (sz1 mN) with _ | c
      · have e := HV.out.1.none_ hk1
        injection e with e
        subst e
        have HE := Lib.hid (HFIN.out.1 (.inl hk1))
        clear HFIN HV hk1
        go_wp2_with fail
        go_ret
        exact HE.out
      · obtain ⟨gl, x, y, e, _⟩ := HV.out.1.some_ hk1
        injection e with e
        subst e
        rcases hk2 : t.kn (sz1 nN) with _ | c'
        · have e := HV.out.2.none_ hk2
          injection e with e
          subst e
          have HE := Lib.hid (HFIN.out.1 (.inr hk2))
          clear HFIN HV hk1 hk2
          go_wp2_with fail
          go_ret
          exact HE.out
        · obtain ⟨gr, x', y', e, _⟩ := HV.out.2.some_ hk2
          injection e with e
          subst e
          have HE := Lib.hid (HFIN.out.2 c c' hk1 hk2)
          clear HFIN HV hk1 hk2
          go_wp2_with fail
          go_ret
          exact HE.out
    · have HE : Hid (PtP s m n w (.returned (.pointer none)) w2) := ⟨hfr, .inr ⟨fun t mN nN c c' h1 h2 _ _ h5 _ _ => h3 h5, rfl⟩⟩
      clear hfr hP2 hi ha hh HI HA
      by_cases g1 : min m n < 1
      · go_wp2_with fail
        go_ret
        exact HE.out
      · have g2 : 3 < max m n := by unfold In3 at h3; omega
        clear h3
        go_wp2_with fail
        go_ret
        exact HE.out
  · obtain rfl := he
    have HE : Hid (PtP s m n w (.returned (.pointer none)) w2) := ⟨hfr, .inr ⟨fun t mN nN c c' h1 h2 _ _ _ _ _ => hno t h1 h2, rfl⟩⟩
    clear hfr hP2 hno
    go_wp2_with fail
    go_ret
    exact HE.out
end Go.Proofs.YtjgbihcnfhbalaaDoor

/- Types with sizes on both sides: what keeps them; how many relations are asked. -/
namespace Go.Proofs.YtjgbihcnfhbalaaDoor
open Go.RowKit Go.ChangeMaps

/-- a counter is kept by what leaves its blocks and all sets alone -/
theorem CsAt.any {u ml mz mk c : Nat} {own : Nat → Prop} {L : Nat → Ty → Prop} {Q : World → Prop} {μ : Nat → Option Nat} {w w' : World} {T : Nat → Prop} (hL : Lead u ml own L Q) (h : CsAt u ml mz mk c L Q μ w) (hf : Fr T w w') (hB : ∀ g ty cs, Blk w g ty cs → ty = 182 ∨ ty = 87 → ¬ T g) (hown : ∀ b, T b → ¬ own b) (hz : ¬ T mz) (hk : ¬ T mk) : CsAt u ml mz mk c L Q μ w' := by
  obtain ⟨k, f, k1, k2⟩ := h.kn
  have hk' : KeepS w w' := fun g cs' hg => hg.fr hf (hB _ _ _ hg (.inr rfl))
  refine ⟨hL.keep w w' _ h.q hf hown, h.blk.fr hf (hB _ _ _ h.blk (.inl rfl)), h.sz.fr hf hz, k, f, k1.keep (hf.block mk k1.lt hk), fun p v hp => ?_⟩
  obtain ⟨t, g1, g2⟩ := k2 p v hp
  exact ⟨t, g1, g2.keep hk'⟩

theorem PtD.lead (d : PtD) : Lead d.u d.ml d.own d.L d.Q := lead_fresh d.q d.mm d.ps d.D d.u d.ml d.ms

/-- kept by what leaves old blocks alone but those of bit sets and a loop's record -/
theorem PtIs.fr {d : PtD} {w w' : World} {T t m n c c' lo hi} {X : Nat → Prop} (h : PtIs d w T t m n c c' lo hi) (hf : Fr X w w') (hX : ∀ b, X b → hi ≤ b) (hB : ∀ g ty cs, Blk w g ty cs → ty = 182 ∨ ty = 87 ∨ ty = 76 → ¬ X g) : PtIs d w' T t m n c c' lo hi := by
  obtain ⟨s, z, x, y, hl⟩ := h.sl
  obtain ⟨s', z', x', y', hr⟩ := h.sr
  obtain ⟨h1, h2, h3, h4, h5⟩ := h.high
  have nx : ∀ b, b < hi → ¬ X b := fun b hb hx => by have := hX b hx; omega
  exact ⟨h.blk.fr hf (hB _ _ _ h.blk (.inr (.inr rfl))), h.has, h.cs1.any d.lead hf (fun g ty cs hb ht => hB g ty cs hb (ht.elim .inl (fun h => .inr (.inl h)))) (fun b hb ho => nx b (h1 b ho) hb) (nx _ h2) (nx _ h4),
    h.cs2.any d.lead hf (fun g ty cs hb ht => hB g ty cs hb (ht.elim .inl (fun h => .inr (.inl h)))) (fun b hb ho => nx b (h1 b ho) hb) (nx _ h3) (nx _ h5), h.ok1, h.ok2, h.kk, h.z1, h.z2,
    ⟨s, z, x, y, hl.fr hf (hB _ _ _ hl (.inr (.inl rfl)))⟩, ⟨s', z', x', y', hr.fr hf (hB _ _ _ hr (.inr (.inl rfl)))⟩, h.low, h.high⟩

theorem PtIs.no {d : PtD} {w w' : World} {T t m n c c' lo hi} (h : PtIs d w T t m n c c' lo hi) (hf : Fr No w w') : PtIs d w' T t m n c c' lo hi := h.fr hf (fun _ h => h.elim) (fun _ _ _ _ _ h => h)

/-- a type with no variable asks no relation -/
theorem relT_free {μ ν : Nat → Option Nat} {ρ ρ' : Nat → Nat → Nat → Bool} : ∀ {t : Ty}, (∀ n, ¬ t.has n) → ∀ x y, relT μ ν ρ t x y = relT μ ν ρ' t x y
  | .v i, h, _, _ => (h i rfl).elim
  | .o, _, _, _ => rfl
  | .n false l r, h, x, y => by
    have hl := relT_free (μ := μ) (ν := ν) (ρ := ρ) (ρ' := ρ') (t := l) (fun n hn => h n (.inl hn))
    have hr := relT_free (μ := μ) (ν := ν) (ρ := ρ) (ρ' := ρ') (t := r) (fun n hn => h n (.inr hn))
    simp only [relT, hl, hr]
  | .n true l r, h, x, y => by
    have hl := relT_free (μ := μ) (ν := ν) (ρ := ρ) (ρ' := ρ') (t := l) (fun n hn => h n (.inl hn))
    have hr := relT_free (μ := μ) (ν := ν) (ρ := ρ) (ρ' := ρ') (t := r) (fun n hn => h n (.inr hn))
    simp only [relT, hl, hr]

/-- how many relations are asked -/
def nrel (_ : Ty) (m n : Nat) : Nat := 2 ^ (m * n)
end Go.Proofs.YtjgbihcnfhbalaaDoor
